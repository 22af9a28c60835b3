/- The program's ledger, as it lies in memory: its marks, and the kind of its first span; what it says of itself. No condition but that it is one. -/
import Derived.Test.YtdlkdagmaeapdaaLgRefDo
namespace Go.Proofs.Ytdlkdagmaeapdaa
open Go.RowKit
set_option linter.unusedVariables false
set_option linter.unusedSimpArgs false
set_option maxRecDepth 100000

/-- Where it begins, and where each span ends. -/
def marks (M : LgM) : List Int := M.b :: M.L.map (·.2.1)
theorem marks_len (M : LgM) : (marks M).length = M.L.length + 1 := by simp [marks]
/-- Kinds take turns. -/
def turns (f : Bool) (l : List Pc) : Prop := ∀ (i : Nat) (x : Pc), l[i]? = some x → x.2.2 = (f == decide (i % 2 = 0))
theorem chn_turns : ∀ {l : List Pc} {a : Int} {k : Option Bool} {f : Bool}, chn a k l → (∀ x, l[0]? = some x → x.2.2 = f) → turns f l
  | [], _, _, _, _, _ => fun i x h => by simp at h
  | y :: l, a, k, f, ⟨h1, h2, h3, h4⟩, hf => by
    have hy : y.2.2 = f := hf y rfl
    have ih := chn_turns (l := l) (f := !f) h4 (fun x hx => by
      cases l with
      | nil => cases hx
      | cons z l =>
        obtain rfl : z = x := by simpa using hx
        obtain ⟨_, _, g, _⟩ := h4
        rw [hy] at g
        cases hz : z.2.2 <;> cases f <;> simp_all)
    intro i x hx
    cases i with
    | zero =>
      obtain rfl : y = x := by simpa using hx
      rw [hy]; cases f <;> rfl
    | succ i =>
      rw [ih i x (by simpa using hx)]
      rcases Nat.mod_two_eq_zero_or_one i with h | h
      · have : (i + 1) % 2 = 1 := by omega
        rw [h, this]; cases f <;> rfl
      · have : (i + 1) % 2 = 0 := by omega
        rw [h, this]; cases f <;> rfl
theorem chn_marks : ∀ {l : List Pc} {a : Int} {k : Option Bool} {i : Nat} {x : Pc}, chn a k l → l[i]? = some x → (a :: l.map (·.2.1))[i]? = some x.1 ∧ (a :: l.map (·.2.1))[i + 1]? = some x.2.1
  | [], _, _, i, x, _, h => by simp at h
  | y :: l, a, k, i, x, ⟨h1, h2, h3, h4⟩, h => by
    cases i with
    | zero =>
      obtain rfl : y = x := by simpa using h
      exact ⟨by simp [h1], rfl⟩
    | succ i => exact chn_marks (l := l) h4 (by simpa using h)
theorem marks_at {M : LgM} (h : M.Ok) {i : Nat} {x : Pc} (hx : M.L[i]? = some x) : (marks M)[i]? = some x.1 ∧ (marks M)[i + 1]? = some x.2.1 := chn_marks h.ch hx
theorem endF_last : ∀ (l : List Pc) (a : Int), (a :: l.map (·.2.1))[l.length]? = some (endF a l)
  | [], a => rfl
  | y :: l, a => endF_last l y.2.1
theorem marks_fin (M : LgM) : (marks M)[M.L.length]? = some M.fin := endF_last M.L M.b

abbrev lgX (q : Nat) (a : Option Addr) (c N : Nat) (f : Bool) (M : LgM) : Thing := (blkT q [.slice a N c, .bool f] 87).sep (ownT 3 1 a N c (ints (marks M)))
/-- The program's ledger. -/
def lgT (q : Nat) (M : LgM) : Thing where
  at_ w W := ∃ a c f, (lgX q a c (M.L.length + 1) f M).at_ w W ∧ ∀ x, M.L[0]? = some x → x.2.2 = f
  lt := by rintro w W ⟨a, c, f, h, _⟩; exact Thing.lt _ h
  keep := by rintro w w' W S ⟨a, c, f, h, hf⟩ ht hs; exact ⟨a, c, f, Thing.keep _ h ht hs, hf⟩

structure LgRd (q : Nat) (a : Option Addr) (c N : Nat) (f : Bool) (M : LgM) (w : World) : Prop where
  c0 : w.cell? ⟨q, 0, none⟩ = some (.slice a N c)
  c1 : w.cell? ⟨q, 1, none⟩ = some (.bool f)
  row : ∀ (i : Nat) (x : Int), (marks M)[i]? = some x → ∃ g, a = some ⟨g, 0, none⟩ ∧ w.cell? ⟨g, i, none⟩ = some (.int .i64 x)
section
variable {q : Nat} {a : Option Addr} {c N n : Nat} {f : Bool} {M : LgM} {w w' : World} {W : Nat → Prop}
theorem LgRd.still (h : LgRd q a c N f M w) (ht : Still w w') : LgRd q a c N f M w' :=
  ⟨still_cell ht h.c0 rfl, still_cell ht h.c1 rfl, fun i x hx => by
    obtain ⟨g, e1, h1⟩ := h.row i x hx
    exact ⟨g, e1, still_cell ht h1 rfl⟩⟩
theorem lgX_rd (hN : N = M.L.length + 1) (h : (lgX q a c N f M).at_ w W) : LgRd q a c N f M w := by
  obtain ⟨W1, W2, ⟨h1, _⟩, ⟨h2, _⟩, _⟩ := h
  refine ⟨h1.cell rfl, h1.cell rfl, fun i x hx => ?_⟩
  obtain ⟨g, rfl⟩ := owm_addr h2 (by omega)
  exact ⟨g, rfl, (owm_cell h2 (ints_get hx)).1⟩
theorem lgT_rd (h : (lgT q M).at_ w W) : ∃ a c f, LgRd q a c (M.L.length + 1) f M w ∧ ∀ x, M.L[0]? = some x → x.2.2 = f := by
  obtain ⟨a, c, f, h, hf⟩ := h
  exact ⟨a, c, f, lgX_rd rfl h, hf⟩

theorem lgmade_any (c0 : w.cell? ⟨q, 0, none⟩ = some (.slice a N c)) (h0 : 0 < N) : Calls Try.prog 52 #[.pointer (some ⟨q, 0, none⟩)] w fun e w' => e = .returned (.bool true) ∧ w = w' := by
  go_enter Try.func52, Try.ntmps52
  go_wp2_with fail
  go_ret
  exact ⟨by first | rfl | simp | (simp; omega), rfl⟩
theorem lgcount_any (c0 : w.cell? ⟨q, 0, none⟩ = some (.slice a N c)) (hN : N = n + 1) (h1 : n ≤ 256) : Calls Try.prog 75 #[.pointer (some ⟨q, 0, none⟩)] w fun e w' => e = .returned (.int .i64 (n : Int)) ∧ w = w' := by
  subst hN
  go_enter Try.func75, Try.ntmps75
  go_wp2_with fail
  go_ret
  exact ⟨ret_int (by first | omega | (simp [IntKind.wrap, IntKind.signed, IntKind.bits]; done) | (simp [IntKind.wrap, IntKind.signed, IntKind.bits]; omega)), rfl⟩
theorem lgkind_any (c1 : w.cell? ⟨q, 1, none⟩ = some (.bool f)) (i : Nat) (hi : i ≤ 256) : Calls Try.prog 76 #[.pointer (some ⟨q, 0, none⟩), .int .i64 (i : Int)] w fun e w' => e = .returned (.bool (f == decide (i % 2 = 0))) ∧ w = w' := by
  go_enter Try.func76, Try.ntmps76
  go_wp2_with fail
  go_ret
  refine ⟨?_, rfl⟩
  have hp : ((i : Int) % 2 == 0) = decide (i % 2 = 0) := by rw [Bool.eq_iff_iff]; simp; omega
  simp
  rw [hp]
end
end Go.Proofs.Ytdlkdagmaeapdaa
