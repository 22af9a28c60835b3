/- What the helpers of package postriderbase do: Among gives a number below its bound; SameInts tells whether two lists of numbers are the same. No condition but that lists are no longer than memory allows. -/
import Derived.Test.YtdlkdagmaeapdaaRows
import Derived.Test.YtdlkdagmaeapdaaKit
import Derived.BigQuiet
namespace Go.Proofs.Ytdlkdagmaeapdaa
open Go.RowKit
set_option linter.unusedVariables false
set_option maxRecDepth 100000

def am (x : Int) (n : Nat) : Nat := ((IntKind.u64.wrap x) % (n : Int)).toNat
theorem u64_nonneg (x : Int) : 0 ≤ IntKind.u64.wrap x := by
  simp [IntKind.wrap, IntKind.signed, IntKind.bits]; omega
theorem am_lt (x : Int) {n : Nat} (h : 0 < n) : am x n < n := by
  unfold am
  have := Int.emod_lt_of_pos (IntKind.u64.wrap x) (show (0 : Int) < n by omega)
  have := Int.emod_nonneg (IntKind.u64.wrap x) (show (n : Int) ≠ 0 by omega)
  omega
theorem am_int (x : Int) {n : Nat} (h : 0 < n) : ((am x n : Nat) : Int) = (IntKind.u64.wrap x) % (n : Int) := by
  unfold am
  have := Int.emod_nonneg (IntKind.u64.wrap x) (show (n : Int) ≠ 0 by omega)
  omega

theorem among_any (x : Int) (n : Nat) (h0 : 0 < n) (h1 : n ≤ 4611686018427387904) (w : World) :
    Calls Try.prog 12 #[.int .i64 x, .int .i64 n] w fun e w' => e = .returned (.int .i64 (am x n : Nat)) ∧ w = w' := by
  have hb := u64_nonneg x
  have hlt : ((IntKind.u64.wrap x) % (n : Int)) < n := Int.emod_lt_of_pos _ (by omega)
  have hge : 0 ≤ ((IntKind.u64.wrap x) % (n : Int)) := Int.emod_nonneg _ (by omega)
  have HI := Lib.hid (am_int x h0)
  go_enter Try.func12, Try.ntmps12
  go_wp2
  go_ret
  refine ⟨ret_int ?_, rfl⟩
  rw [HI.out]
  try rw [Int.tmod_eq_emod_of_nonneg hb]
  try rw [IntWalk.wrap64_in _ (by omega)]

theorem among_lit (x m : Int) (n t : Nat) (hm : m = n) (ht : t = am x n) (h0 : 0 < n) (h1 : n ≤ 4611686018427387904) (w : World) :
    Calls Try.prog 12 #[.int .i64 x, .int .i64 m] w fun e w' => e = .returned (.int .i64 t) ∧ w = w' := by
  subst hm; subst ht; exact among_any x n h0 h1 w

/-- The list of numbers that a slice's cells hold. -/
def NumsAt (w : World) (ao : Option Addr) (l : List Int) : Prop := ∀ i x, l[i]? = some x → ∃ b o, ao = some ⟨b, o, none⟩ ∧ w.cell? ⟨b, o + i, none⟩ = some (.int .i64 x)

theorem NumsAt.nil (w : World) (ao : Option Addr) : NumsAt w ao [] := fun i x h => by simp at h
theorem NumsAt.of_blk {w : World} {b : Nat} {l : List Int} {e : TypeId} (h : Blk w b (ints l) e) : NumsAt w (some ⟨b, 0, none⟩) l :=
  fun i x hx => ⟨b, 0, rfl, by rw [Nat.zero_add]; exact h.cell (ints_get hx)⟩
theorem NumsAt.drewN {w : World} {ao : Option Addr} {l : List Int} (h : NumsAt w ao l) (n : Nat) : NumsAt (w.drewN n) ao l := h

theorem NumsAt.turned {S : Nat → Prop} {w w' : World} {ao : Option Addr} {l : List Int} (h : NumsAt w ao l) (ht : Turned S w w') (hs : ∀ a, ao = some a → ¬ S a.block) : NumsAt w' ao l := fun i x hx => by
  obtain ⟨b, o, rfl, hc⟩ := h i x hx
  exact ⟨b, o, rfl, by rw [ht.cell (p := ⟨b, o + i, none⟩) (cell_lt hc) (hs ⟨b, o, none⟩ rfl)]; exact hc⟩
theorem NumsAt.still {w w' : World} {ao : Option Addr} {l : List Int} (h : NumsAt w ao l) (ht : Still w w') : NumsAt w' ao l := h.turned ht (fun _ _ hs => hs)
theorem NumsAt.take {w : World} {ao : Option Addr} {l : List Int} (h : NumsAt w ao l) (n : Nat) : NumsAt w ao (l.take n) := fun i x hx => by
  rw [List.getElem?_take] at hx
  split at hx
  · exact h i x hx
  · cases hx

/-- A slice of numbers that came in, as the statement's frame tells it. -/
theorem nums_of {w : World} {a : Option Addr} {len cap : Nat} {zs : List Int}
    (h : (a = none ∧ len = 0 ∧ cap = 0 ∧ zs = []) ∨
      ∃ x, a = some x ∧ len ≤ cap ∧ cap ≤ maxLen ∧ zs.length = cap ∧ (∀ i, i < zs.length → w.cell? (x.add i) = some (.int .i64 (zs.getD i 0))) ∧ ∀ n ∈ zs, (Lit.int .i64 n).wf = true) :
    ∃ A : List Int, A.length = len ∧ NumsAt w a A ∧ len ≤ cap ∧ cap ≤ maxLen ∧ (a = none → len = 0 ∧ cap = 0) := by
  rcases h with ⟨rfl, rfl, rfl, rfl⟩ | ⟨x, rfl, h1, h2, h3, h4, _⟩
  · exact ⟨[], rfl, NumsAt.nil _ _, Nat.le_refl _, Nat.zero_le _, fun _ => ⟨rfl, rfl⟩⟩
  · refine ⟨zs.take len, by rw [List.length_take]; omega, fun i y hy => ?_, h1, h2, fun e => by cases e⟩
    rw [List.getElem?_take] at hy
    split at hy
    · have hi : i < zs.length := (List.getElem?_eq_some_iff.1 hy).1
      have hc := h4 i hi
      have hg : zs.getD i 0 = y := by simp [List.getD, hy]
      rw [hg] at hc
      obtain ⟨b, o, sp⟩ := x
      cases sp with
      | none => exact ⟨b, o, rfl, by rw [Addr.add_lit] at hc; exact hc⟩
      | some sp =>
        exfalso
        have h0 := h4 0 (by omega)
        rw [show (⟨b, o, some sp⟩ : Addr).add 0 = ⟨b, o, some sp⟩ from rfl, World.cell?] at h0
        split at h0 <;> simp at h0
    · cases hy

theorem take_step {A : List Int} {k : Nat} {x : Int} (h : A[k]? = some x) : A.take (k + 1) = A.take k ++ [x] := by
  rw [List.take_add_one, h]; rfl

end Go.Proofs.Ytdlkdagmaeapdaa
