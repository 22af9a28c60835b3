import Derived.Test.YtdlkdagmaeapdaaBdIter
import Derived.Test.YtdlkdagmaeapdaaBdLgR
import Derived.RangeFuncNested
import Derived.RangeFuncBound
import Derived.RangeFuncCalls
import Derived.RangeFuncLeaves
import Derived.RangeFuncBox
import Derived.Maps.AppendAt
import Derived.Shelf.Abstract
import Derived.Shelf.RegionOpen
import Derived.OwnWalkIn
import Derived.TacticsInMore
import Derived.LoopNIn
import Derived.LoopIn
import Derived.Stop.RegionWithIn
import Derived.BigRegionIn
import Derived.Maps.OwnIn
import Derived.Test.YtdlkdagmaeapdaaLgMath
import Derived.Scope
import Derived.WalkMore
import Derived.Test.YtdlkdagmaeapdaaIntsCopy
import Derived.Lib.SliceRun

/- A region that draws its order, of whose first operations each reads, or calls and leaves the world as it was, or is not wanted, and of which one that comes behind all of them calls: it may be walked in the order of the text, in a fence of whatever kind. No condition but that none of its operations is a defer statement. -/
namespace Go.Proofs.Ytdlkdagmaeapdaa
open Go.RowKit
set_option linter.unusedVariables false

section
variable {F : Fence} {n : Nat} {P : Program} {md : Region.Mode} {ops : Array Oper} {Q : Exit → Act → World → Prop} {k : Nat} {w : World}

/-- In this state, in this world, the operation yields this value, by a call or without one, or is not wanted; the world stays. -/
structure QuietAt (F : Fence) (n : Nat) (P : Program) (ops : Array Oper) (w : World) (o : Oper) (v : Value) (a : Act) : Prop where
  about : ∀ w f, o.about P w a.eval = some f → F.fn f
  how : (Region.wanted o (yielded ops a.tmps) = true ∧ ((execOp a.eval o).run P w = .ok (.value v) w ∨
      ∃ f args, (execOp a.eval o).run P w = .ok (.enter f args) w ∧ (F.depth.isSome = true → 1 ≤ n) ∧ CallsIn F (n - 1) P f args w fun e w' => e = .returned v ∧ w' = w)) ∨
    (Region.wanted o (yielded ops a.tmps) = false ∧ v = undef)
theorem QuietAt.of_same {o : Oper} {v : Value} {a a' : Act} (hy : QuietAt F n P ops w o v a) (he : execOp a'.eval o = execOp a.eval o)
    (hw : Region.wanted o (yielded ops a'.tmps) = Region.wanted o (yielded ops a.tmps)) (hb : ∀ w, o.about P w a'.eval = o.about P w a.eval) : QuietAt F n P ops w o v a' :=
  ⟨fun w f h => hy.about w f (by rw [← hb w]; exact h), by rw [he, hw]; exact hy.how⟩

theorem wpOpIn_quiet {i : Nat} {o : Oper} {v : Value} {a : Act} (hnd : noDefer ops = true) (hi : ops[i]? = some o) (hy : QuietAt F n P ops w o v a) {K : Act → World → Prop} (h : K (a.put o.dst v) w) : wpOpIn F n P ops Q i K a w := by
  have hd := noDefer_spec hnd i o hi
  unfold wpOpIn
  simp only [hi]
  rcases hy.how with ⟨hw, hv | ⟨f, args, hc, hn, hcall⟩⟩ | ⟨hw, rfl⟩
  · rw [if_pos hw]
    unfold Oper.wpIn
    refine ⟨hy.about w, ?_⟩
    rw [Oper.semAt_eq _ _ _ hd, hv]
    exact h
  · rw [if_pos hw]
    unfold Oper.wpIn
    refine ⟨hy.about w, ?_⟩
    rw [Oper.semAt_eq _ _ _ hd, hc]
    refine ⟨hn, CallsIn.mono hcall fun e w' he => ?_⟩
    obtain ⟨rfl, rfl⟩ := he
    exact h
  · rw [if_neg (by rw [hw]; simp)]
    exact ⟨hy.about w, h⟩

theorem wpOpIn_readQ {j : Nat} {oi oj : Oper} {v : Value} {w1 : World} (hnd : noDefer ops = true) (hj : ops[j]? = some oj) (hap : oi.apart ops oj = true)
    (hsi : ∀ cs b, oi.op ≠ .select cs b) (hsj : ∀ cs b, oj.op ≠ .select cs b)
    (hQ : ∀ c a w, Q (.panic c) (a.put oi.dst v) w → Q (.panic c) a w) {K : Act → World → Prop} {a : Act}
    (hy : QuietAt F n P ops w1 oi v a) (h : wpOpIn F n P ops Q j K (a.put oi.dst v) w) :
    wpOpIn F n P ops Q j (fun a' w' => QuietAt F n P ops w1 oi v a' ∧ K (a'.put oi.dst v) w') a w := by
  obtain ⟨h1, h2, h3⟩ := Oper.apart_spec hap
  have hd := noDefer_spec hnd j oj hj
  have keep' : ∀ (a : Act), QuietAt F n P ops w1 oi v a → ∀ u, QuietAt F n P ops w1 oi v (a.put oj.dst u) := fun a hy u => hy.of_same (execOp_put oi hsi a oj.dst u h3) (wanted_put oi a oj.dst u h3) (fun w => about_put oi w a oj.dst u h3)
  have keep := keep' a hy
  unfold wpOpIn at *
  simp only [hj] at *
  rw [wanted_put oj a oi.dst v h1, about_put oj w a oi.dst v h1] at h
  split
  · rename_i hw
    simp only [hw, if_true] at h
    unfold Oper.wpIn at *
    rw [about_put oj w a oi.dst v h1, Oper.semAt_eq _ _ _ hd, execOp_put oj hsj a oi.dst v h1] at h
    rw [Oper.semAt_eq _ _ _ hd]
    refine ⟨h.1, ?_⟩
    have h := h.2
    have put : ∀ u w', K ((a.put oi.dst v).put oj.dst u) w' → QuietAt F n P ops w1 oi v (a.put oj.dst u) ∧ K ((a.put oj.dst u).put oi.dst v) w' := fun u w' hk => ⟨keep u, by rw [← Act.put_comm a v u h2]; exact hk⟩
    cases hr : (execOp a.eval oj).run P w with
    | ok x w' =>
      rw [hr] at h
      cases x <;> simp only [Oper.uponIn] at h ⊢
      case value u => exact put _ _ h
      case skip => exact put _ _ h
      case defer d =>
        refine ⟨keep' ({ tmps := a.tmps, defers := d :: a.defers } : Act) (QuietAt.of_same hy rfl rfl (fun _ => rfl)) undef, ?_⟩
        rw [Act.put_defers, Act.put_comm _ v undef h2] at h
        exact h
      case enter f args =>
        refine ⟨h.1, CallsIn.mono h.2 fun e w'' he => ?_⟩
        cases e with
        | returned u => exact put _ _ he
        | panicked c => exact hQ _ _ _ he
        | outgrown => exact he
      case row row args => exact ⟨h.1, RowsIn.mono h.2 fun u w'' he => put _ _ he⟩
      case round l f tmps assign body =>
        refine ⟨h.1, RoundIn.mono h.2 fun e w'' he => ?_⟩
        cases e with
        | returned u => exact put _ _ he
        | panicked c => exact hQ _ _ _ he
        | outgrown => exact he
    | halt x w' =>
      rw [hr] at h
      cases x <;> simp only [Oper.uponIn] at h ⊢
      case panic u => exact hQ _ _ _ h
  · rename_i hw
    simp only [hw] at h
    exact ⟨h.1, keep _, by rw [← Act.put_comm a v undef h2]; exact h.2⟩

theorem readS_firstQ {i : Nat} {oi : Oper} {v : Value} (hnd : noDefer ops = true) (hl : leads md ops k = true) (hik : i < k) (hi : ops[i]? = some oi) (hsel : ∀ (j : Nat) (o : Oper) cs b, ops[j]? = some o → o.op ≠ .select cs b)
    (hQ : ∀ c a w, Q (.panic c) (a.put oi.dst v) w → Q (.panic c) a w) :
    ∀ (fuel : Nat) (L : Array Bool) (a : Act), closedL md ops L →
      (∀ j oj, ops[j]? = some oj → j ≠ i → L.getD j true = false → (∀ e ∈ oj.after, Region.binds md e = true → e.on ≠ i) → oi.apart ops oj = true) →
      i ∈ Region.ready md ops L → QuietAt F n P ops w oi v a →
      readS F n P md ops Q k w fuel (L.setIfInBounds i true) (a.put oi.dst v) → readS F n P md ops Q k w (fuel + 1) L a := by
  intro fuel
  induction fuel with
  | zero =>
    intro L a hc _ hr hy H
    refine ⟨fun h => (by rw [h] at hr; cases hr), fun j hj => ?_⟩
    by_cases hji : j = i
    · subst hji; exact wpOpIn_quiet hnd hi hy (by rw [if_pos hik]; exact ⟨rfl, H⟩)
    · have := ready_mono hj hji
      rw [H.1] at this
      cases this
  | succ fuel ih =>
    intro L a hc hfree hr hy H
    refine ⟨fun h => (by rw [h] at hr; cases hr), fun j hj => ?_⟩
    by_cases hji : j = i
    · subst hji; exact wpOpIn_quiet hnd hi hy (by rw [if_pos hik]; exact ⟨rfl, H⟩)
    · have h1 := H.2 j (ready_mono hj hji)
      have h0 := (mem_ready.1 hr).1
      have hjk := late_no hc hl hik h0 j hj
      obtain ⟨hjun, oj, hoj, hall⟩ := mem_ready.1 hj
      have hnot : ∀ e ∈ oj.after, Region.binds md e = true → e.on ≠ i := fun e he hb heq => unlisted h0 (heq ▸ hall e he hb)
      have h2 := wpOpIn_readQ hnd hoj (hfree j oj hoj hji hjun hnot) (fun cs b => hsel i oi cs b hi) (fun cs b => hsel j oj cs b hoj) hQ hy h1
      have hfree' : ∀ m om, ops[m]? = some om → m ≠ i → (L.setIfInBounds j true).getD m true = false →
          (∀ e ∈ om.after, Region.binds md e = true → e.on ≠ i) → oi.apart ops om = true := fun m om hm hmi hun hno => by
        refine hfree m om hm hmi ?_ hno
        by_cases hjm : j = m
        · subst hjm; exact hjun
        · rw [getD_set_ne true hjm] at hun; exact hun
      refine wpOpIn_mono (fun a' w' h3 => ?_) h2
      obtain ⟨h3, h4⟩ := h3
      rw [if_pos hjk] at h4 ⊢
      obtain ⟨rfl, h4⟩ := h4
      refine ⟨rfl, ih (L.setIfInBounds j true) a' (closedL_step hc hj) hfree' (ready_mono hr (Ne.symm hji)) h3 ?_⟩
      rw [Array.setIfInBounds_comm _ _ hji]
      exact h4

/-- One of the first comes up: it reads, .. -/
theorem readsQ_take {i : Nat} {oi : Oper} {v : Value} {fuel : Nat} {L : Array Bool} {a : Act} (hi : ops[i]? = some oi) (hnd : noDefer ops = true) (hl : leads md ops k = true) (hs : Region.noSelect ops = true) (hik : decide (i < k) = true)
    (hf : Region.free md ops L i = true) (hr : (Region.ready md ops L).contains i = true) (hQ : ∀ c a w, Q (.panic c) (a.put oi.dst v) w → Q (.panic c) a w)
    (hy : QuietAt F n P ops w oi v a)
    (h : readC F n P md ops Q k w fuel (L.setIfInBounds i true) (a.put oi.dst v)) : readC F n P md ops Q k w (fuel + 1) L a := fun hc =>
  have hr' : i ∈ Region.ready md ops L := by simpa using hr
  readS_firstQ hnd hl (by simpa using hik) hi (Region.noSelect_spec hs) hQ fuel L a hc (Region.free_spec hi hf) hr' hy (h (closedL_step hc hr'))
/-- .. or is not wanted, .. -/
theorem readsQ_skip {i : Nat} {oi : Oper} {fuel : Nat} {L : Array Bool} {a : Act} (hi : ops[i]? = some oi) (hnd : noDefer ops = true) (hl : leads md ops k = true) (hs : Region.noSelect ops = true) (hik : decide (i < k) = true)
    (hf : Region.free md ops L i = true) (hr : (Region.ready md ops L).contains i = true) (hQ : ∀ c a w, Q (.panic c) (a.put oi.dst undef) w → Q (.panic c) a w)
    (hw : Region.wanted oi (yielded ops a.tmps) = false) (hab : ∀ w, oi.about P w a.eval = none)
    (h : readC F n P md ops Q k w fuel (L.setIfInBounds i true) (a.put oi.dst undef)) : readC F n P md ops Q k w (fuel + 1) L a :=
  readsQ_take hi hnd hl hs hik hf hr hQ ⟨fun w f e => (by rw [hab w] at e; cases e), .inr ⟨hw, rfl⟩⟩ h
/-- .. or calls. -/
theorem readsQ_call {i : Nat} {oi : Oper} {v : Value} {fuel : Nat} {L : Array Bool} {a : Act} {f : Nat} {args : Array Value} (hi : ops[i]? = some oi) (hnd : noDefer ops = true) (hl : leads md ops k = true) (hs : Region.noSelect ops = true) (hik : decide (i < k) = true)
    (hf : Region.free md ops L i = true) (hr : (Region.ready md ops L).contains i = true) (hQ : ∀ c a w, Q (.panic c) (a.put oi.dst v) w → Q (.panic c) a w)
    (hw : Region.wanted oi (yielded ops a.tmps) = true) (hab : ∀ w f, oi.about P w a.eval = some f → F.fn f) (hy : (execOp a.eval oi).run P w = .ok (.enter f args) w)
    (hn : F.depth.isSome = true → 1 ≤ n) (hc : CallsIn F (n - 1) P f args w fun e w' => e = .returned v ∧ w' = w)
    (h : readC F n P md ops Q k w fuel (L.setIfInBounds i true) (a.put oi.dst v)) : readC F n P md ops Q k w (fuel + 1) L a :=
  readsQ_take hi hnd hl hs hik hf hr hQ ⟨hab, .inl ⟨hw, .inr ⟨f, args, hy, hn, hc⟩⟩⟩ h
end
end Go.Proofs.Ytdlkdagmaeapdaa

/- The program's ledger, as it lies in memory: its marks, and the kind of its first span; what it says of itself. No condition but that it is one. -/
namespace Go.Proofs.Ytdlkdagmaeapdaa
open Go.RowKit
set_option linter.unusedVariables false
set_option linter.unusedSimpArgs false
set_option maxRecDepth 100000

/-- Where it begins, and where each span ends. -/
def marks (M : LgM) : List Int := M.b :: M.L.map (·.2.1)
theorem marks_len (M : LgM) : (marks M).length = M.L.length + 1 := by simp [marks]
/-- Kinds take turns. -/
def turns (f : Bool) (l : List Pc) : Prop := ∀ (i : Nat) (x : Pc), l[i]? = some x → x.2.2 = (f == decide (i % 2 = 0))
theorem chn_turns : ∀ {l : List Pc} {a : Int} {k : Option Bool} {f : Bool}, chn a k l → (∀ x, l[0]? = some x → x.2.2 = f) → turns f l
  | [], _, _, _, _, _ => fun i x h => by simp at h
  | y :: l, a, k, f, ⟨h1, h2, h3, h4⟩, hf => by
    have hy : y.2.2 = f := hf y rfl
    have ih := chn_turns (l := l) (f := !f) h4 (fun x hx => by
      cases l with
      | nil => cases hx
      | cons z l =>
        obtain rfl : z = x := by simpa using hx
        obtain ⟨_, _, g, _⟩ := h4
        rw [hy] at g
        cases hz : z.2.2 <;> cases f <;> simp_all)
    intro i x hx
    cases i with
    | zero =>
      obtain rfl : y = x := by simpa using hx
      rw [hy]; cases f <;> rfl
    | succ i =>
      rw [ih i x (by simpa using hx)]
      rcases Nat.mod_two_eq_zero_or_one i with h | h
      · have : (i + 1) % 2 = 1 := by omega
        rw [h, this]; cases f <;> rfl
      · have : (i + 1) % 2 = 0 := by omega
        rw [h, this]; cases f <;> rfl
theorem chn_marks : ∀ {l : List Pc} {a : Int} {k : Option Bool} {i : Nat} {x : Pc}, chn a k l → l[i]? = some x → (a :: l.map (·.2.1))[i]? = some x.1 ∧ (a :: l.map (·.2.1))[i + 1]? = some x.2.1
  | [], _, _, i, x, _, h => by simp at h
  | y :: l, a, k, i, x, ⟨h1, h2, h3, h4⟩, h => by
    cases i with
    | zero =>
      obtain rfl : y = x := by simpa using h
      exact ⟨by simp [h1], rfl⟩
    | succ i => exact chn_marks (l := l) h4 (by simpa using h)
theorem marks_at {M : LgM} (h : M.Ok) {i : Nat} {x : Pc} (hx : M.L[i]? = some x) : (marks M)[i]? = some x.1 ∧ (marks M)[i + 1]? = some x.2.1 := chn_marks h.ch hx
theorem endF_last : ∀ (l : List Pc) (a : Int), (a :: l.map (·.2.1))[l.length]? = some (endF a l)
  | [], a => rfl
  | y :: l, a => endF_last l y.2.1
theorem marks_fin (M : LgM) : (marks M)[M.L.length]? = some M.fin := endF_last M.L M.b

abbrev lgX (q : Nat) (a : Option Addr) (c N : Nat) (f : Bool) (M : LgM) : Thing := (blkT q [.slice a N c, .bool f] 87).sep (ownT 3 1 a N c (ints (marks M)))
/-- The program's ledger. -/
def lgT (q : Nat) (M : LgM) : Thing where
  at_ w W := ∃ a c f, (lgX q a c (M.L.length + 1) f M).at_ w W ∧ ∀ x, M.L[0]? = some x → x.2.2 = f
  lt := by rintro w W ⟨a, c, f, h, _⟩; exact Thing.lt _ h
  keep := by rintro w w' W S ⟨a, c, f, h, hf⟩ ht hs; exact ⟨a, c, f, Thing.keep _ h ht hs, hf⟩

structure LgRd (q : Nat) (a : Option Addr) (c N : Nat) (f : Bool) (M : LgM) (w : World) : Prop where
  c0 : w.cell? ⟨q, 0, none⟩ = some (.slice a N c)
  c1 : w.cell? ⟨q, 1, none⟩ = some (.bool f)
  row : ∀ (i : Nat) (x : Int), (marks M)[i]? = some x → ∃ g, a = some ⟨g, 0, none⟩ ∧ w.cell? ⟨g, i, none⟩ = some (.int .i64 x)
section
variable {q : Nat} {a : Option Addr} {c N n : Nat} {f : Bool} {M : LgM} {w w' : World} {W : Nat → Prop}
theorem LgRd.still (h : LgRd q a c N f M w) (ht : Still w w') : LgRd q a c N f M w' :=
  ⟨still_cell ht h.c0 rfl, still_cell ht h.c1 rfl, fun i x hx => by
    obtain ⟨g, e1, h1⟩ := h.row i x hx
    exact ⟨g, e1, still_cell ht h1 rfl⟩⟩
theorem lgX_rd (hN : N = M.L.length + 1) (h : (lgX q a c N f M).at_ w W) : LgRd q a c N f M w := by
  obtain ⟨W1, W2, ⟨h1, _⟩, ⟨h2, _⟩, _⟩ := h
  refine ⟨h1.cell rfl, h1.cell rfl, fun i x hx => ?_⟩
  obtain ⟨g, rfl⟩ := owm_addr h2 (by omega)
  exact ⟨g, rfl, (owm_cell h2 (ints_get hx)).1⟩
theorem lgT_rd (h : (lgT q M).at_ w W) : ∃ a c f, LgRd q a c (M.L.length + 1) f M w ∧ ∀ x, M.L[0]? = some x → x.2.2 = f := by
  obtain ⟨a, c, f, h, hf⟩ := h
  exact ⟨a, c, f, lgX_rd rfl h, hf⟩

theorem lgmade_any (c0 : w.cell? ⟨q, 0, none⟩ = some (.slice a N c)) (h0 : 0 < N) : Calls Try.prog 52 #[.pointer (some ⟨q, 0, none⟩)] w fun e w' => e = .returned (.bool true) ∧ w = w' := by
  go_enter Try.func52, Try.ntmps52
  go_wp2_with fail
  go_ret
  exact ⟨by first | rfl | simp | (simp; omega), rfl⟩
theorem lgcount_any (c0 : w.cell? ⟨q, 0, none⟩ = some (.slice a N c)) (hN : N = n + 1) (h1 : n ≤ 256) : Calls Try.prog 75 #[.pointer (some ⟨q, 0, none⟩)] w fun e w' => e = .returned (.int .i64 (n : Int)) ∧ w = w' := by
  subst hN
  go_enter Try.func75, Try.ntmps75
  go_wp2_with fail
  go_ret
  exact ⟨ret_int (by first | omega | (simp [IntKind.wrap, IntKind.signed, IntKind.bits]; done) | (simp [IntKind.wrap, IntKind.signed, IntKind.bits]; omega)), rfl⟩
theorem lgkind_any (c1 : w.cell? ⟨q, 1, none⟩ = some (.bool f)) (i : Nat) (hi : i ≤ 256) : Calls Try.prog 76 #[.pointer (some ⟨q, 0, none⟩), .int .i64 (i : Int)] w fun e w' => e = .returned (.bool (f == decide (i % 2 = 0))) ∧ w = w' := by
  go_enter Try.func76, Try.ntmps76
  go_wp2_with fail
  go_ret
  refine ⟨?_, rfl⟩
  have hp : ((i : Int) % 2 == 0) = decide (i % 2 = 0) := by rw [Bool.eq_iff_iff]; simp; omega
  simp
  rw [hp]
end
end Go.Proofs.Ytdlkdagmaeapdaa

/- The iterator of the program's ledger goes through the spans of a kind. No condition but that the ledger is one. -/
namespace Go.Proofs.Ytdlkdagmaeapdaa
open Go.RowKit Go.Shelf
attribute [local go_sem] Oper.semAt_some
set_option linter.unusedVariables false
set_option linter.unusedSimpArgs false
set_option maxRecDepth 100000

abbrev encSpA (x : Int × Int) : Array Value := #[.agg #[.int .i64 x.1, .int .i64 x.2]]
theorem lgspans_any (q : Nat) (kd : Bool) (w : World) : Calls Try.prog 54 #[.pointer (some ⟨q, 0, none⟩), .bool kd] w fun e w' => e = .returned (.func (.func 74) #[] #[.pointer (some ⟨w.heap.size, 0, none⟩), .pointer (some ⟨w.heap.size + 1, 0, none⟩)]) ∧
    w' = (w.alloc (.cells #[.pointer (some ⟨q, 0, none⟩)] 46)).alloc (.cells #[.bool kd] 4) := by
  go_enter Try.func54, Try.ntmps54
  go_wp2
  go_ret
  exact ⟨by first | rfl | simp, rfl⟩

/-- What the iterator reads: the ledger, and the two boxes. -/
def evLg (B1 B2 q : Nat) (a : Option Addr) (c N : Nat) (f kd : Bool) (M : LgM) : Thing := (blkT B1 [.pointer (some ⟨q, 0, none⟩)] 46).sep ((blkT B2 [.bool kd] 4).sep (lgX q a c N f M))
section
variable {q : Nat} {a : Option Addr} {c N n : Nat} {f : Bool} {M : LgM} {w w' : World} {W : Nat → Prop}
theorem evLg_new (kd : Bool) (h : (lgX q a c N f M).at_ w W) : (evLg w.heap.size (w.heap.size + 1) q a c N f kd M).at_ ((w.alloc (.cells #[.pointer (some ⟨q, 0, none⟩)] 46)).alloc (.cells #[.bool kd] 4)) (fun k => k = w.heap.size ∨ k = w.heap.size + 1 ∨ W k) := by
  have hs : (w.alloc (.cells #[.pointer (some ⟨q, 0, none⟩)] 46)).heap.size = w.heap.size + 1 := by simp
  have hlt := (lgX q a c N f M).lt h
  refine ⟨(· = w.heap.size), fun k => k = w.heap.size + 1 ∨ W k, ⟨(Blk.new w [.pointer (some ⟨q, 0, none⟩)] 46).alloc _, fun _ => Iff.rfl⟩,
    ⟨(· = w.heap.size + 1), W, ⟨by have := Blk.new (w.alloc (.cells #[.pointer (some ⟨q, 0, none⟩)] 46)) [.bool kd] 4; rw [hs] at this; exact this, fun _ => Iff.rfl⟩,
      (lgX q a c N f M).keep h (((Turned.refl _ _).alloc _).alloc _) (fun _ _ h => h), fun k e hk => by have := hlt k hk; omega, fun _ => Iff.rfl⟩, fun k e hk => ?_, fun _ => Iff.rfl⟩
  rcases hk with hk | hk
  · omega
  · have := hlt k hk; omega

theorem sp_count {l : List Pc} {k : Nat} {x : Pc} {kd : Bool} (h : l[k]? = some x) : (x.2.2 = kd → (spOf l kd)[(spOf (l.take k) kd).length]? = some (x.1, x.2.1) ∧ (spOf (l.take (k + 1)) kd).length = (spOf (l.take k) kd).length + 1) ∧
    (x.2.2 ≠ kd → (spOf (l.take (k + 1)) kd).length = (spOf (l.take k) kd).length) := by
  have h1 := spOf_snoc kd h
  constructor
  · intro hk
    rw [if_pos hk] at h1
    refine ⟨?_, by rw [h1]; simp⟩
    have h2 : l = l.take (k + 1) ++ l.drop (k + 1) := (List.take_append_drop _ _).symm
    have h3 : spOf l kd = spOf (l.take (k + 1)) kd ++ spOf (l.drop (k + 1)) kd := by
      conv => lhs; rw [h2]
      unfold spOf; rw [List.filter_append, List.map_append]
    rw [h3, h1]; simp
  · intro hk
    rw [if_neg hk] at h1
    rw [h1]

set_option maxHeartbeats 4000000 in
theorem lgspans_it (hN : N = n + 1) (hn : n = M.L.length) (hM : M.Ok) (hf : ∀ x, M.L[0]? = some x → x.2.2 = f) (kd : Bool) (B1 B2 : Nat) :
    IterS 74 #[.pointer (some ⟨B1, 0, none⟩), .pointer (some ⟨B2, 0, none⟩)] encSpA (spOf M.L kd) (evLg B1 B2 q a c N f kd M) := by
  intro l J Jx W Q S hR h0 hd hY
  have HX := Lib.hid (fun V (h : ∃ Q', Since Q W Q' V) => show V.cell? ⟨B1, 0, none⟩ = some (.pointer (some ⟨q, 0, none⟩)) ∧ V.cell? ⟨B2, 0, none⟩ = some (.bool kd) ∧ LgRd q a c N f M V from by
    obtain ⟨Q', hs⟩ := h
    obtain ⟨U1, U2, ⟨u1, _⟩, ⟨U3, U4, ⟨u3, _⟩, u4, _⟩, _⟩ := (hs.stays (A := evLg B1 B2 q a c N f kd M) hR hd).1
    exact ⟨u1.cell rfl, u3.cell rfl, lgX_rd (by omega) u4⟩)
  have HY := Lib.hid (fun k z W1 Q1 (hz : (spOf M.L kd)[k]? = some z) (h1 : (J k).at_ W1 Q1) (h2 : Since Q W Q1 W1) => YieldAt.any 8 (hY k z W1 Q1 hz h1 h2))
  have HT := Lib.hid (chn_turns hM.ch hf)
  have HMk := Lib.hid (fun (i : Nat) (x : Pc) (hx : M.L[i]? = some x) => marks_at hM hx)
  have hn256 : n ≤ 256 := by have := hM.len; omega
  obtain ⟨e1, e2, hx1⟩ := HX.out W ⟨Q, Since.refl _ _⟩
  have HMd := Lib.hid (lgmade_any hx1.c0 (by omega))
  have HCt := Lib.hid (lgcount_any (n := n) hx1.c0 hN hn256)
  have HKd := Lib.hid (fun V (h : ∃ Q', Since Q W Q' V) i (hi : i ≤ 256) => lgkind_any (HX.out V h).2.2.c1 i hi)
  have H0 := Lib.hid h0
  have HNn := Lib.hid hn
  have HAll := Lib.hid (show M.L.take n = M.L from by rw [hn, List.take_length])
  have hNc : N ≤ c ∧ n < N := ⟨by
    obtain ⟨_, _, _, ⟨_, _, _, ⟨_, _, _, ⟨u, _⟩, _⟩, _⟩, _⟩ := hR
    exact (ow_le u).1, by omega⟩
  obtain ⟨hNc, hnN⟩ := hNc
  have HLt := Lib.hid (fun (k : Nat) (x : Pc) (hx : M.L[k]? = some x) => sp_count (kd := kd) hx)
  have HN := Lib.hid hN
  have hro : Fence.wide.round = none := rfl
  have hf1 : Fence.wide.fn 52 := trivial
  have hf2 : Fence.wide.fn 75 := trivial
  have hf3 : Fence.wide.fn 76 := trivial
  clear hR h0 hd hY hx1 hM hf hn hN
  refine (callsIn_wide (n := 9)).1 (callsIn_of_wp Try.func74 rfl trivial ?_ rfl)
  simp only [Try.ntmps74, List.size_toArray, List.length_cons, List.length_nil, Nat.reduceAdd, Nat.reduceSub, Array.replicate_succ, Array.replicate_zero, List.push_toArray, List.append_toArray, List.nil_append, List.cons_append]
  gi_wp2_with (first
    | (gi_at_call 52; ((with_reducible refine (callsIn_wide.2 HMd.out).mono ?_)); rintro e w4 ⟨rfl, rfl⟩)
    | (gi_at_call 75; ((with_reducible refine (callsIn_wide.2 HCt.out).mono ?_)); rintro e w5 ⟨rfl, rfl⟩))
  gi_loopw [10] (fun i wr => ∃ (k : Nat) (Q' : Nat → Prop), k ≤ n ∧ i = .int .i64 k ∧ (J (spOf (M.L.take k) kd).length).at_ wr Q' ∧ Since Q W Q' wr) (fun i _ => n - (intOf i).toNat)
  case atStart => exact ⟨0, Q, Nat.zero_le _, rfl, H0.out, Since.refl _ _⟩
  case round =>
    clear e1 e2
    obtain ⟨k, Q', hk, rfl, hJk, hsi⟩ := hrel
    by_cases hlt : k < n
    · obtain ⟨x, hx⟩ := get_some (l := M.L) (i := k) (by rw [← HNn.out]; exact hlt)
      have hdr : Since Q' wr Q' wr.drew := ⟨(Turned.refl _ _).drew, fun _ h => .inl h⟩
      obtain ⟨e1, e2, hrd⟩ := HX.out wr.drew ⟨Q', hsi.trans hdr⟩
      have c0 := hrd.c0
      obtain ⟨m1, m2⟩ := HMk.out k x hx
      obtain ⟨g, rfl, y1⟩ := hrd.row k _ m1
      obtain ⟨_, eg, y2⟩ := hrd.row (k + 1) _ m2
      cases eg
      have HKk := Lib.hid (show Calls Try.prog 76 #[.pointer (some ⟨q, 0, none⟩), .int .i64 (k : Int)] wr.drew fun e w' => e = .returned (.bool x.2.2) ∧ w' = wr.drew from by
        rw [HT.out k x hx]
        exact (HKd.out wr.drew ⟨Q', hsi.trans hdr⟩ k (by omega)).mono fun e w' ⟨he, hw⟩ => ⟨he, hw.symm⟩)
      obtain ⟨s1, s2⟩ := HLt.out k x hx
      have HJd := Lib.hid (show (J (spOf (M.L.take k) kd).length).at_ wr.drew Q' from (J _).keep hJk ((Turned.refl _ _).drew) (fun _ _ h => h))
      have HSi := Lib.hid (hsi.trans hdr)
      have HJ := Lib.hid hJk
      have HSo := Lib.hid hsi
      have hki : (k : Int) < (n : Int) := by omega
      have hkN : (k : Int) < (N : Int) := by omega
      have hkN1 : (k : Int) + 1 < (N : Int) := by have := HN.out; omega
      have hk0 : (0 : Int) ≤ (k : Int) + 1 := by omega
      have hkw : IntKind.i64.wrap ((k : Int) + 1) = ((k + 1 : Nat) : Int) := by simp [IntKind.wrap, IntKind.signed, IntKind.bits]; omega
      obtain ⟨xf, xt, xk⟩ := x
      dsimp only at m1 m2 y1 y2 HKk s1 s2
      by_cases hkd : xk = kd
      · obtain ⟨s3, s4⟩ := s1 hkd
        obtain ⟨fn, tmps, assign, body, hy, hR⟩ := HY.out _ _ wr.drew Q' s3 HJd.out HSi.out
        have HLen := Lib.hid (show (spOf (M.L.take k) kd).length < (spOf M.L kd).length from (List.getElem?_eq_some_iff.1 s3).1)
        have HS4 := Lib.hid s4
        have hR2 : RoundIn Fence.wide 8 Try.prog l fn tmps assign body wr.drew fun e W' => ∃ b, e = .returned (.bool b) ∧ ((b = true ∧ Goes (J ((spOf (M.L.take k) kd).length + 1)) Q' wr.drew W') ∨ (b = false ∧ Goes (Jx (spOf (M.L.take k) kd).length) Q' wr.drew W')) := by
          refine hR.mono ?_
          rintro e W3 (⟨rfl, h1⟩ | ⟨rfl, h1⟩)
          · exact ⟨true, rfl, .inl ⟨rfl, h1⟩⟩
          · exact ⟨false, rfl, .inr ⟨rfl, h1⟩⟩
        dsimp only [encSpA] at hy
        clear hR s1 s2 s3 s4 hJk hsi hdr hrd hx m1 m2 HLt HY HX HMk HKd HT
        obtain ⟨d, hd⟩ : ∃ d, d = (spOf (M.L.take k) kd).length := ⟨_, rfl⟩
        rw [← hd] at hR2
        have HD := Lib.hid hd
        clear hd
        gi_wp2
        subst hkd
        cases xk
        all_goals (
          refine region_reads 23 (by kernel_rfl) ?_
          refine reads_take (i := 0) (v := ?_) rfl (by kernel_rfl) (by kernel_rfl) (by kernel_rfl) (by decide) (by kernel_rfl) (by kernel_rfl) (fun _ _ _ h => h) (by rfl) (fun _ => by rfl) ?_ ?_
          rotate_left
          · go_simp
            try with_reducible rfl
          try simp only [Act.put, List.setIfInBounds_toArray, List.set_cons_zero, List.set_cons_succ]
          refine reads_take (i := 1) (v := ?_) rfl (by kernel_rfl) (by kernel_rfl) (by kernel_rfl) (by decide) (by kernel_rfl) (by kernel_rfl) (fun _ _ _ h => h) (by rfl) (fun _ => by rfl) ?_ ?_
          rotate_left
          · go_simp
            try with_reducible rfl
          try simp only [Act.put, List.setIfInBounds_toArray, List.set_cons_zero, List.set_cons_succ]
          refine readsQ_call (i := 2) (v := _) (f := 76) (args := #[.pointer (some ⟨q, 0, none⟩), .int .i64 (k : Int)]) rfl (by kernel_rfl) (by kernel_rfl) (by kernel_rfl) (by decide) (by kernel_rfl) (by kernel_rfl) (fun _ _ _ h => h) (by rfl) (fun _ _ _ => trivial) ?_ (fun h => by cases h) (callsIn_wide.2 HKk.out) ?_
          · go_simp
          try simp only [Act.put, List.setIfInBounds_toArray, List.set_cons_zero, List.set_cons_succ]
          refine reads_take (i := 3) (v := ?_) rfl (by kernel_rfl) (by kernel_rfl) (by kernel_rfl) (by decide) (by kernel_rfl) (by kernel_rfl) (fun _ _ _ h => h) (by rfl) (fun _ => by rfl) ?_ ?_
          rotate_left
          · go_simp
            try with_reducible rfl
          try simp only [Act.put, List.setIfInBounds_toArray, List.set_cons_zero, List.set_cons_succ]
          refine reads_take (i := 4) (v := ?_) rfl (by kernel_rfl) (by kernel_rfl) (by kernel_rfl) (by decide) (by kernel_rfl) (by kernel_rfl) (fun _ _ _ h => h) (by rfl) (fun _ => by rfl) ?_ ?_
          rotate_left
          · go_simp
            try with_reducible rfl
          try simp only [Act.put, List.setIfInBounds_toArray, List.set_cons_zero, List.set_cons_succ]
          refine reads_take (i := 5) (v := ?_) rfl (by kernel_rfl) (by kernel_rfl) (by kernel_rfl) (by decide) (by kernel_rfl) (by kernel_rfl) (fun _ _ _ h => h) (by rfl) (fun _ => by rfl) ?_ ?_
          rotate_left
          · go_simp
            try with_reducible rfl
          try simp only [Act.put, List.setIfInBounds_toArray, List.set_cons_zero, List.set_cons_succ]
          refine reads_take (i := 6) (v := ?_) rfl (by kernel_rfl) (by kernel_rfl) (by kernel_rfl) (by decide) (by kernel_rfl) (by kernel_rfl) (fun _ _ _ h => h) (by kernel_rfl) (fun _ => by rfl) ?_ ?_
          rotate_left
          · go_simp
            try with_reducible rfl
          try simp only [Act.put, List.setIfInBounds_toArray, List.set_cons_zero, List.set_cons_succ]
          refine reads_take (i := 7) (v := ?_) rfl (by kernel_rfl) (by kernel_rfl) (by kernel_rfl) (by decide) (by kernel_rfl) (by kernel_rfl) (fun _ _ _ h => h) (by kernel_rfl) (fun _ => by rfl) ?_ ?_
          rotate_left
          · go_simp
            try with_reducible rfl
          try simp only [Act.put, List.setIfInBounds_toArray, List.set_cons_zero, List.set_cons_succ]
          refine reads_take (i := 8) (v := ?_) rfl (by kernel_rfl) (by kernel_rfl) (by kernel_rfl) (by decide) (by kernel_rfl) (by kernel_rfl) (fun _ _ _ h => h) (by kernel_rfl) (fun _ => by rfl) ?_ ?_
          rotate_left
          · go_simp
            try with_reducible rfl
          try simp only [Act.put, List.setIfInBounds_toArray, List.set_cons_zero, List.set_cons_succ]
          refine reads_take (i := 9) (v := ?_) rfl (by kernel_rfl) (by kernel_rfl) (by kernel_rfl) (by decide) (by kernel_rfl) (by kernel_rfl) (fun _ _ _ h => h) (by kernel_rfl) (fun _ => by rfl) ?_ ?_
          rotate_left
          · go_simp
            try with_reducible rfl
          try simp only [Act.put, List.setIfInBounds_toArray, List.set_cons_zero, List.set_cons_succ]
          refine reads_take (i := 10) (v := ?_) rfl (by kernel_rfl) (by kernel_rfl) (by kernel_rfl) (by decide) (by kernel_rfl) (by kernel_rfl) (fun _ _ _ h => h) (by kernel_rfl) (fun _ => by rfl) ?_ ?_
          rotate_left
          · go_simp
            try with_reducible rfl
          try simp only [Act.put, List.setIfInBounds_toArray, List.set_cons_zero, List.set_cons_succ]
          refine reads_take (i := 11) (v := ?_) rfl (by kernel_rfl) (by kernel_rfl) (by kernel_rfl) (by decide) (by kernel_rfl) (by kernel_rfl) (fun _ _ _ h => h) (by kernel_rfl) (fun _ => by rfl) ?_ ?_
          rotate_left
          · go_simp
            try with_reducible rfl
          try simp only [Act.put, List.setIfInBounds_toArray, List.set_cons_zero, List.set_cons_succ]
          refine reads_take (i := 12) (v := ?_) rfl (by kernel_rfl) (by kernel_rfl) (by kernel_rfl) (by decide) (by kernel_rfl) (by kernel_rfl) (fun _ _ _ h => h) (by kernel_rfl) (fun _ => by rfl) ?_ ?_
          rotate_left
          · go_simp
            try with_reducible rfl
          try simp only [Act.put, List.setIfInBounds_toArray, List.set_cons_zero, List.set_cons_succ]
          refine reads_take (i := 13) (v := ?_) rfl (by kernel_rfl) (by kernel_rfl) (by kernel_rfl) (by decide) (by kernel_rfl) (by kernel_rfl) (fun _ _ _ h => h) (by kernel_rfl) (fun _ => by rfl) ?_ ?_
          rotate_left
          · go_simp
            try with_reducible rfl
          try simp only [Act.put, List.setIfInBounds_toArray, List.set_cons_zero, List.set_cons_succ]
          refine reads_take (i := 14) (v := ?_) rfl (by kernel_rfl) (by kernel_rfl) (by kernel_rfl) (by decide) (by kernel_rfl) (by kernel_rfl) (fun _ _ _ h => h) (by kernel_rfl) (fun _ => by rfl) ?_ ?_
          rotate_left
          · go_simp
            try with_reducible rfl
          try simp only [Act.put, List.setIfInBounds_toArray, List.set_cons_zero, List.set_cons_succ]
          refine reads_take (i := 15) (v := ?_) rfl (by kernel_rfl) (by kernel_rfl) (by kernel_rfl) (by decide) (by kernel_rfl) (by kernel_rfl) (fun _ _ _ h => h) (by kernel_rfl) (fun _ => by rfl) ?_ ?_
          rotate_left
          · go_simp
            try with_reducible rfl
          try simp only [Act.put, List.setIfInBounds_toArray, List.set_cons_zero, List.set_cons_succ]
          refine reads_take (i := 16) (v := ?_) rfl (by kernel_rfl) (by kernel_rfl) (by kernel_rfl) (by decide) (by kernel_rfl) (by kernel_rfl) (fun _ _ _ h => h) (by kernel_rfl) (fun _ => by rfl) ?_ ?_
          rotate_left
          · go_simp
            try with_reducible rfl
          try simp only [Act.put, List.setIfInBounds_toArray, List.set_cons_zero, List.set_cons_succ]
          refine reads_take (i := 17) (v := ?_) rfl (by kernel_rfl) (by kernel_rfl) (by kernel_rfl) (by decide) (by kernel_rfl) (by kernel_rfl) (fun _ _ _ h => h) (by kernel_rfl) (fun _ => by rfl) ?_ ?_
          rotate_left
          · go_simp
            try with_reducible rfl
          try simp only [Act.put, List.setIfInBounds_toArray, List.set_cons_zero, List.set_cons_succ]
          refine reads_take (i := 18) (v := ?_) rfl (by kernel_rfl) (by kernel_rfl) (by kernel_rfl) (by decide) (by kernel_rfl) (by kernel_rfl) (fun _ _ _ h => h) (by kernel_rfl) (fun _ => by rfl) ?_ ?_
          rotate_left
          · go_simp
            try with_reducible rfl
          try simp only [Act.put, List.setIfInBounds_toArray, List.set_cons_zero, List.set_cons_succ]
          refine reads_take (i := 19) (v := ?_) rfl (by kernel_rfl) (by kernel_rfl) (by kernel_rfl) (by decide) (by kernel_rfl) (by kernel_rfl) (fun _ _ _ h => h) (by kernel_rfl) (fun _ => by rfl) ?_ ?_
          rotate_left
          · go_simp
            try with_reducible rfl
          try simp only [Act.put, List.setIfInBounds_toArray, List.set_cons_zero, List.set_cons_succ]
          refine reads_take (i := 20) (v := ?_) rfl (by kernel_rfl) (by kernel_rfl) (by kernel_rfl) (by decide) (by kernel_rfl) (by kernel_rfl) (fun _ _ _ h => h) (by kernel_rfl) (fun _ => by rfl) ?_ ?_
          rotate_left
          · go_simp
            try with_reducible rfl
          try simp only [Act.put, List.setIfInBounds_toArray, List.set_cons_zero, List.set_cons_succ]
          refine reads_take (i := 21) (v := ?_) rfl (by kernel_rfl) (by kernel_rfl) (by kernel_rfl) (by decide) (by kernel_rfl) (by kernel_rfl) (fun _ _ _ h => h) (by kernel_rfl) (fun _ => by rfl) ?_ ?_
          rotate_left
          · go_simp
            try with_reducible rfl
          try simp only [Act.put, List.setIfInBounds_toArray, List.set_cons_zero, List.set_cons_succ]
          refine reads_take (i := 22) (v := ?_) rfl (by kernel_rfl) (by kernel_rfl) (by kernel_rfl) (by decide) (by kernel_rfl) (by kernel_rfl) (fun _ _ _ h => h) (by kernel_rfl) (fun _ => by rfl) ?_ ?_
          rotate_left
          · go_simp
            try with_reducible rfl
          try simp only [Act.put, List.setIfInBounds_toArray, List.set_cons_zero, List.set_cons_succ]
          refine reads_call (i := 23) (by kernel_rfl) (by decide) rfl (fun K hK => ?_)
          go_simp
          gi_wp2_with (refine hR2.mono ?_; rintro e W3 ⟨b, rfl, hX⟩)
          try simp only [Act.put, List.setIfInBounds_toArray, List.set_cons_zero, List.set_cons_succ]
          refine wpAnyIn_ready (rs := [24]) (by kernel_rfl) (by simp) ?_
          refine AllReadyIn.cons rfl (fun K hK => ?_) AllReadyIn.nil
          go_simp
          refine hK _ _ ?_
          clear hK K
          try simp only [Act.put, List.setIfInBounds_toArray, List.set_cons_zero, List.set_cons_succ]
          refine wpAnyIn_ready (rs := [25]) (by kernel_rfl) (by simp) ?_
          refine AllReadyIn.cons rfl (fun K hK => ?_) AllReadyIn.nil
          go_simp
          refine hK _ _ ?_
          clear hK K
          try simp only [Act.put, List.setIfInBounds_toArray, List.set_cons_zero, List.set_cons_succ]
          refine wpAnyIn_done (by kernel_rfl) ?_ _
          clear hy hR2
          rcases hX with ⟨rfl, hJ3⟩ | ⟨rfl, hJx3⟩
          · simp only [Bool.not_true]
            gi_wp2
            go_roundw
            case rel =>
              obtain ⟨Q3, hJ4, hs4⟩ := hJ3.since
              exact ⟨k + 1, Q3, by omega, by go_num, by rw [HS4.out, ← HD.out]; exact hJ4, HSi.out.trans hs4⟩
            case measure => simp [intOf]; omega
          · have HEnd := Lib.hid (show ∃ k', k' < (spOf M.L _).length ∧ Goes (Jx k') Q W W3 from by
              obtain ⟨Q3, hJ4, hs4⟩ := hJx3.since
              exact ⟨d, by rw [HD.out]; exact HLen.out, (HSi.out.trans hs4).goes hJ4⟩)
            clear hJx3
            simp only [Bool.not_false]
            gi_wp2
            refine bodyPost_ret (results_none rfl _ _ _) rfl ?_
            exact ⟨⟨_, rfl⟩, .inr HEnd.out⟩)
      · have HS2 := Lib.hid (s2 hkd)
        obtain rfl : kd = !xk := by cases kd <;> cases xk <;> simp_all
        clear s1 s2 hJk hsi hdr hrd hx m1 m2 HLt HY HX HMk HKd HT hkd
        gi_wp2
        cases xk
        all_goals (
          refine region_reads 23 (by kernel_rfl) ?_
          refine reads_take (i := 0) (v := ?_) rfl (by kernel_rfl) (by kernel_rfl) (by kernel_rfl) (by decide) (by kernel_rfl) (by kernel_rfl) (fun _ _ _ h => h) (by rfl) (fun _ => by rfl) ?_ ?_
          rotate_left
          · go_simp
            try with_reducible rfl
          try simp only [Act.put, List.setIfInBounds_toArray, List.set_cons_zero, List.set_cons_succ]
          refine reads_take (i := 1) (v := ?_) rfl (by kernel_rfl) (by kernel_rfl) (by kernel_rfl) (by decide) (by kernel_rfl) (by kernel_rfl) (fun _ _ _ h => h) (by rfl) (fun _ => by rfl) ?_ ?_
          rotate_left
          · go_simp
            try with_reducible rfl
          try simp only [Act.put, List.setIfInBounds_toArray, List.set_cons_zero, List.set_cons_succ]
          refine readsQ_call (i := 2) (v := _) (f := 76) (args := #[.pointer (some ⟨q, 0, none⟩), .int .i64 (k : Int)]) rfl (by kernel_rfl) (by kernel_rfl) (by kernel_rfl) (by decide) (by kernel_rfl) (by kernel_rfl) (fun _ _ _ h => h) (by rfl) (fun _ _ _ => trivial) ?_ (fun h => by cases h) (callsIn_wide.2 HKk.out) ?_
          · go_simp
          try simp only [Act.put, List.setIfInBounds_toArray, List.set_cons_zero, List.set_cons_succ]
          refine reads_take (i := 3) (v := ?_) rfl (by kernel_rfl) (by kernel_rfl) (by kernel_rfl) (by decide) (by kernel_rfl) (by kernel_rfl) (fun _ _ _ h => h) (by rfl) (fun _ => by rfl) ?_ ?_
          rotate_left
          · go_simp
            try with_reducible rfl
          try simp only [Act.put, List.setIfInBounds_toArray, List.set_cons_zero, List.set_cons_succ]
          refine reads_take (i := 4) (v := ?_) rfl (by kernel_rfl) (by kernel_rfl) (by kernel_rfl) (by decide) (by kernel_rfl) (by kernel_rfl) (fun _ _ _ h => h) (by rfl) (fun _ => by rfl) ?_ ?_
          rotate_left
          · go_simp
            try with_reducible rfl
          try simp only [Act.put, List.setIfInBounds_toArray, List.set_cons_zero, List.set_cons_succ]
          refine reads_take (i := 5) (v := ?_) rfl (by kernel_rfl) (by kernel_rfl) (by kernel_rfl) (by decide) (by kernel_rfl) (by kernel_rfl) (fun _ _ _ h => h) (by rfl) (fun _ => by rfl) ?_ ?_
          rotate_left
          · go_simp
            try with_reducible rfl
          try simp only [Act.put, List.setIfInBounds_toArray, List.set_cons_zero, List.set_cons_succ]
          refine readsQ_skip (i := 6) rfl (by kernel_rfl) (by kernel_rfl) (by kernel_rfl) (by decide) (by kernel_rfl) (by kernel_rfl) (fun _ _ _ h => h) (by kernel_rfl) (fun _ => by rfl) ?_
          try simp only [Act.put, List.setIfInBounds_toArray, List.set_cons_zero, List.set_cons_succ]
          refine readsQ_skip (i := 7) rfl (by kernel_rfl) (by kernel_rfl) (by kernel_rfl) (by decide) (by kernel_rfl) (by kernel_rfl) (fun _ _ _ h => h) (by kernel_rfl) (fun _ => by rfl) ?_
          try simp only [Act.put, List.setIfInBounds_toArray, List.set_cons_zero, List.set_cons_succ]
          refine readsQ_skip (i := 8) rfl (by kernel_rfl) (by kernel_rfl) (by kernel_rfl) (by decide) (by kernel_rfl) (by kernel_rfl) (fun _ _ _ h => h) (by kernel_rfl) (fun _ => by rfl) ?_
          try simp only [Act.put, List.setIfInBounds_toArray, List.set_cons_zero, List.set_cons_succ]
          refine readsQ_skip (i := 9) rfl (by kernel_rfl) (by kernel_rfl) (by kernel_rfl) (by decide) (by kernel_rfl) (by kernel_rfl) (fun _ _ _ h => h) (by kernel_rfl) (fun _ => by rfl) ?_
          try simp only [Act.put, List.setIfInBounds_toArray, List.set_cons_zero, List.set_cons_succ]
          refine readsQ_skip (i := 10) rfl (by kernel_rfl) (by kernel_rfl) (by kernel_rfl) (by decide) (by kernel_rfl) (by kernel_rfl) (fun _ _ _ h => h) (by kernel_rfl) (fun _ => by rfl) ?_
          try simp only [Act.put, List.setIfInBounds_toArray, List.set_cons_zero, List.set_cons_succ]
          refine readsQ_skip (i := 11) rfl (by kernel_rfl) (by kernel_rfl) (by kernel_rfl) (by decide) (by kernel_rfl) (by kernel_rfl) (fun _ _ _ h => h) (by kernel_rfl) (fun _ => by rfl) ?_
          try simp only [Act.put, List.setIfInBounds_toArray, List.set_cons_zero, List.set_cons_succ]
          refine readsQ_skip (i := 12) rfl (by kernel_rfl) (by kernel_rfl) (by kernel_rfl) (by decide) (by kernel_rfl) (by kernel_rfl) (fun _ _ _ h => h) (by kernel_rfl) (fun _ => by rfl) ?_
          try simp only [Act.put, List.setIfInBounds_toArray, List.set_cons_zero, List.set_cons_succ]
          refine readsQ_skip (i := 13) rfl (by kernel_rfl) (by kernel_rfl) (by kernel_rfl) (by decide) (by kernel_rfl) (by kernel_rfl) (fun _ _ _ h => h) (by kernel_rfl) (fun _ => by rfl) ?_
          try simp only [Act.put, List.setIfInBounds_toArray, List.set_cons_zero, List.set_cons_succ]
          refine readsQ_skip (i := 14) rfl (by kernel_rfl) (by kernel_rfl) (by kernel_rfl) (by decide) (by kernel_rfl) (by kernel_rfl) (fun _ _ _ h => h) (by kernel_rfl) (fun _ => by rfl) ?_
          try simp only [Act.put, List.setIfInBounds_toArray, List.set_cons_zero, List.set_cons_succ]
          refine readsQ_skip (i := 15) rfl (by kernel_rfl) (by kernel_rfl) (by kernel_rfl) (by decide) (by kernel_rfl) (by kernel_rfl) (fun _ _ _ h => h) (by kernel_rfl) (fun _ => by rfl) ?_
          try simp only [Act.put, List.setIfInBounds_toArray, List.set_cons_zero, List.set_cons_succ]
          refine readsQ_skip (i := 16) rfl (by kernel_rfl) (by kernel_rfl) (by kernel_rfl) (by decide) (by kernel_rfl) (by kernel_rfl) (fun _ _ _ h => h) (by kernel_rfl) (fun _ => by rfl) ?_
          try simp only [Act.put, List.setIfInBounds_toArray, List.set_cons_zero, List.set_cons_succ]
          refine readsQ_skip (i := 17) rfl (by kernel_rfl) (by kernel_rfl) (by kernel_rfl) (by decide) (by kernel_rfl) (by kernel_rfl) (fun _ _ _ h => h) (by kernel_rfl) (fun _ => by rfl) ?_
          try simp only [Act.put, List.setIfInBounds_toArray, List.set_cons_zero, List.set_cons_succ]
          refine readsQ_skip (i := 18) rfl (by kernel_rfl) (by kernel_rfl) (by kernel_rfl) (by decide) (by kernel_rfl) (by kernel_rfl) (fun _ _ _ h => h) (by kernel_rfl) (fun _ => by rfl) ?_
          try simp only [Act.put, List.setIfInBounds_toArray, List.set_cons_zero, List.set_cons_succ]
          refine readsQ_skip (i := 19) rfl (by kernel_rfl) (by kernel_rfl) (by kernel_rfl) (by decide) (by kernel_rfl) (by kernel_rfl) (fun _ _ _ h => h) (by kernel_rfl) (fun _ => by rfl) ?_
          try simp only [Act.put, List.setIfInBounds_toArray, List.set_cons_zero, List.set_cons_succ]
          refine readsQ_skip (i := 20) rfl (by kernel_rfl) (by kernel_rfl) (by kernel_rfl) (by decide) (by kernel_rfl) (by kernel_rfl) (fun _ _ _ h => h) (by kernel_rfl) (fun _ => by rfl) ?_
          try simp only [Act.put, List.setIfInBounds_toArray, List.set_cons_zero, List.set_cons_succ]
          refine readsQ_skip (i := 21) rfl (by kernel_rfl) (by kernel_rfl) (by kernel_rfl) (by decide) (by kernel_rfl) (by kernel_rfl) (fun _ _ _ h => h) (by kernel_rfl) (fun _ => by rfl) ?_
          try simp only [Act.put, List.setIfInBounds_toArray, List.set_cons_zero, List.set_cons_succ]
          refine readsQ_skip (i := 22) rfl (by kernel_rfl) (by kernel_rfl) (by kernel_rfl) (by decide) (by kernel_rfl) (by kernel_rfl) (fun _ _ _ h => h) (by kernel_rfl) (fun _ => by rfl) ?_
          try simp only [Act.put, List.setIfInBounds_toArray, List.set_cons_zero, List.set_cons_succ]
          refine reads_call (i := 23) (by kernel_rfl) (by decide) rfl (fun K hK => ?_)
          go_simp
          refine ⟨fun _ _ => trivial, hK _ _ ?_⟩
          clear hK K
          try simp only [Act.put, List.setIfInBounds_toArray, List.set_cons_zero, List.set_cons_succ]
          refine wpAnyIn_ready (rs := [24]) (by kernel_rfl) (by simp) ?_
          refine AllReadyIn.cons rfl (fun K hK => ?_) AllReadyIn.nil
          go_simp
          refine hK _ _ ?_
          clear hK K
          try simp only [Act.put, List.setIfInBounds_toArray, List.set_cons_zero, List.set_cons_succ]
          refine wpAnyIn_ready (rs := [25]) (by kernel_rfl) (by simp) ?_
          refine AllReadyIn.cons rfl (fun K hK => ?_) AllReadyIn.nil
          go_simp
          refine hK _ _ ?_
          clear hK K
          try simp only [Act.put, List.setIfInBounds_toArray, List.set_cons_zero, List.set_cons_succ]
          refine wpAnyIn_done (by kernel_rfl) ?_ _
          gi_wp2
          go_roundw
          case rel => exact ⟨k + 1, Q', by omega, by go_num, by rw [HS2.out]; exact HJd.out, HSi.out⟩
          case measure => simp [intOf]; omega)
    · obtain rfl : k = n := by omega
      have HEnd := Lib.hid (show Goes (J (spOf M.L kd).length) Q W wr from by rw [HAll.out] at hJk; exact hsi.goes hJk)
      clear hJk hsi
      gi_wp2
      go_end0
      exact ⟨⟨_, rfl⟩, .inl HEnd.out⟩
end
end Go.Proofs.Ytdlkdagmaeapdaa

/- The spans that the program's ledger hands out: slices.Collect over the iterator. No condition but that the ledger is one. -/
namespace Go.Proofs.Ytdlkdagmaeapdaa
open Go.RowKit Go.Shelf
attribute [local go_sem] Oper.semAt_some
set_option linter.unusedVariables false
set_option linter.unusedSimpArgs false
set_option maxRecDepth 100000

/-- Spans in a box, made since: the box, and the row. -/
def spHand (b0 B : Nat) (l : List (Int × Int)) : Thing where
  at_ w W := ∃ a c, Blk w B [.slice a l.length c] 48 ∧ w.ownsRow b0 51 2 (.slice a l.length c) l.length (rowOf sp2V l) ∧ (Value.slice a l.length c).ownBlock ≠ some B ∧ ∀ k, W k ↔ k = B ∨ (Value.slice a l.length c).ownBlock = some k
  lt := by
    rintro w W ⟨a, c, h1, h2, h3, hW⟩ k hk
    rcases (hW k).1 hk with rfl | hk
    · exact h1.lt
    · cases a with
      | none => cases hk
      | some z =>
        have h4 := (ow_lt h2 z rfl).2
        have h5 : z.block = k := by simpa [Value.ownBlock] using hk
        omega
  keep := by
    rintro w w' W S ⟨a, c, h1, h2, h3, hW⟩ ht hs
    exact ⟨a, c, h1.turned ht (hs _ ((hW B).2 (.inl rfl))), ow_turned h2 ht (fun b hb => hs b ((hW b).2 (.inr hb))), h3, hW⟩

/-- A span more. -/
theorem sph_app {b0 B : Nat} {l : List (Int × Int)} {V U w6 : World} {Q : Nat → Prop} {a a' : Option Addr} {c n c' : Nat} {x : Int × Int} (hn : n = l.length) (hB : Blk V B [.slice a n c] 48) (hne : (Value.slice a n c).ownBlock ≠ some B) (hQ : ∀ k, Q k ↔ k = B ∨ (Value.slice a n c).ownBlock = some k)
    (hU : Still V U) (hown : w6.ownsRow b0 51 2 (.slice a' (n + 1) c') (n + 1) (rowOf sp2V l ++ sp2V x)) (hg : U.grownBy w6 (Value.slice a n c).ownBlock) (hat : (Value.slice a' (n + 1) c').ownBlock = (Value.slice a n c).ownBlock ∨ (Value.slice a' (n + 1) c').ownBlock = some U.heap.size) :
    w6.cell? ⟨B, 0, none⟩ = some (.slice a n c) ∧ w6.frozen? ⟨B, 0, none⟩ = false ∧ Hid (Goes (spHand b0 B (l ++ [x])) Q V (w6.setCell ⟨B, 0, none⟩ (.slice a' (n + 1) c'))) := by
  subst hn
  have hBl := hB.lt
  have hUs := hU.size
  have hT : Turned (fun k => (Value.slice a l.length c).ownBlock = some k) V w6 := (hU.mono (fun _ _ h => h.elim)).grown hg (fun k hk => .inl hk)
  have hB6 : Blk w6 B [.slice a l.length c] 48 := hB.turned hT hne
  have hne' : (Value.slice a' (l.length + 1) c').ownBlock ≠ some B := fun e => by
    rcases hat with h | h
    · exact hne (h ▸ e)
    · rw [h] at e
      have := Option.some.inj e; omega
  refine ⟨hB6.cell rfl, hB6.free _, Lib.hid ?_⟩
  have hT2 : Turned (· = B) w6 (w6.setCell ⟨B, 0, none⟩ (.slice a' (l.length + 1) c')) := turned_set (Turned.refl _ _) 0 _
  have hlen : (l ++ [x]).length = l.length + 1 := by simp
  have hr : (spHand b0 B (l ++ [x])).at_ (w6.setCell ⟨B, 0, none⟩ (.slice a' (l.length + 1) c')) (fun k => k = B ∨ (Value.slice a' (l ++ [x]).length c').ownBlock = some k) := by
    refine ⟨a', c', ?_, ?_, ?_, fun _ => Iff.rfl⟩
    · rw [hlen]; have := hB6.set 0 (.slice a' (l.length + 1) c'); simpa using this
    · rw [hlen, rowOf_append, rowOf_cons, rowOf_nil, List.append_nil]
      exact ow_turned hown hT2 (fun b hb e => hne' (e ▸ hb))
    · rw [hlen]; exact hne'
  refine ⟨_, hr, ?_, fun k hk => ?_⟩
  · exact (hT.mono (fun k _ h => (hQ k).2 (.inr h))).trans (hT2.mono (fun k _ h => (hQ k).2 (.inl h)))
  · rcases hk with hk | hk
    · exact .inl ((hQ k).2 (.inl hk))
    · rw [hlen] at hk
      rcases hat with h | h
      · exact .inl ((hQ k).2 (.inr (h ▸ hk)))
      · rw [h] at hk
        have := Option.some.inj hk
        exact .inr (by omega)

set_option maxHeartbeats 4000000 in
theorem lgapp_any {S : Nat → Prop} {R : Thing} {gf : Nat} {lb : Array Value} {L : List (Int × Int)} {n : Nat} {w : World} (HI0 : IterS gf lb encSpA L R) (eg : ∀ args w, (callFunc gf args).run Try.prog w = .ok (.enter gf args) w) (hR : R.at_ w S) (hn : n = L.length) (hn1 : n ≤ 10000) :
    Calls Try.prog 73 #[.slice none 0 0, .func (.func gf) #[] lb] w (OutSp w L n) := by
  obtain ⟨i0, hi, hz0, hz1, hz2⟩ := info_parts infoSpan
  obtain ⟨W1, hW1⟩ : ∃ W1, W1 = w.alloc (.cells #[.slice none 0 0] 48) := ⟨_, rfl⟩
  have hs1 : Still w W1 := by rw [hW1]; exact (Turned.refl _ _).alloc _
  have hb1 : Blk W1 w.heap.size [.slice none 0 0] 48 := by rw [hW1]; exact Blk.new w [.slice none 0 0] 48
  have hz1' : W1.heap.size = w.heap.size + 1 := by rw [hW1]; simp
  have HIt := Lib.hid HI0
  have HEg := Lib.hid eg
  have hSl := R.lt hR
  have HR := Lib.hid (R.keep hR hs1 (fun _ _ h => h))
  have HB := Lib.hid (show (spHand w.heap.size w.heap.size (L.take 0)).at_ W1 (fun k => k = w.heap.size ∨ (Value.slice none 0 0).ownBlock = some k) from
    ⟨none, 0, hb1, World.ownsRow_nil _ _ _ _, by simp [Value.ownBlock], fun _ => Iff.rfl⟩)
  have hD' : ∀ k, k = w.heap.size ∨ (Value.slice none 0 0).ownBlock = some k → k = w.heap.size := fun k hk => hk.elim id (fun hk => by simp [Value.ownBlock] at hk)
  have HD := Lib.hid (show ∀ k, (k = w.heap.size ∨ (Value.slice none 0 0).ownBlock = some k) → ¬ S k from by
    intro k hk0 hk
    obtain rfl := hD' k hk0
    have := hSl _ hk; omega)
  have HSt := Lib.hid hs1
  have HD2 := Lib.hid hD'
  have HAll := Lib.hid (show L.take L.length = L from List.take_length)
  have HRn := Lib.hid (show L.length = n from hn.symm)
  have HLk := Lib.hid (fun k => show (L.take k).length ≤ 10000 from by rw [List.length_take]; omega)
  have HGet := Lib.hid (fun k (z : Int × Int) (hz : L[k]? = some z) => show L.take (k + 1) = L.take k ++ [z] from by rw [List.take_add_one, hz]; rfl)
  clear hR hSl hb1 hz1' hD' hn HI0 eg
  refine (callsIn_wide (n := 9)).1 (callsIn_of_wp_marks Try.func73 rfl trivial ?_ rfl)
  simp only [Try.ntmps73, List.size_toArray, List.length_cons, List.length_nil, Nat.reduceAdd, Nat.reduceSub, Array.replicate_succ, Array.replicate_zero, List.push_toArray, List.append_toArray, List.nil_append, List.cons_append]
  gi_wp2
  rw [← hW1]
  clear hW1
  refine loopA_outer rfl HEg.out HIt.out (by exact fun _ => rfl) (fun k => spHand w.heap.size w.heap.size (L.take k)) (fun _ => noT) HR.out HB.out HD.out ?_ ?_ ?_
  · rintro ⟨t, i⟩ y k V Q' hr hl1 hx hI hQl hsk
    obtain ⟨rr, hrr⟩ := hr
    have hyV : y < V.heap.size := (Array.getElem?_eq_some_iff.1 hrr).1
    have hVb := Blk.new V [.int .i64 t, .int .i64 i] 51
    have b1 : (V.alloc (.cells #[.int .i64 0, .int .i64 0] 51)).cell? ⟨V.heap.size, 0, none⟩ = some (.int .i64 0) := (Blk.new V [.int .i64 0, .int .i64 0] 51).cell rfl
    have HBx := Lib.hid (fun W2 (hT2 : Turned (· = y) (V.alloc (.cells #[.int .i64 t, .int .i64 i] 51)) W2) => show Blk W2 V.heap.size [.int .i64 t, .int .i64 i] 51 from hVb.turned hT2 (by omega))
    have HI2 := Lib.hid (fun W2 (hT2 : Turned (· = y) (V.alloc (.cells #[.int .i64 t, .int .i64 i] 51)) W2) => show (spHand w.heap.size w.heap.size (L.take k)).at_ W2 Q' ∧ V.heap.size < W2.heap.size from
      ⟨Thing.keep _ (Thing.keep _ hI ((Turned.refl _ V).alloc _) (fun _ _ h => h)) hT2 (fun j hj e => hQl (e ▸ hj)), by have := hT2.size; rw [World.size_alloc] at this; omega⟩)
    have hsz : w.heap.size ≤ V.heap.size := by
      have := hsk.turn.size
      have := HSt.out.size
      omega
    have HG := Lib.hid (HGet.out k _ hx)
    have hln := HLk.out k
    clear hl1 hx hI hQl hsk hVb hrr hyV
    dsimp only [encSpA]
    gi_wp2
    refine ⟨(Turned.refl _ _).alloc _, fun W2 _ hT2 => ?_⟩
    obtain ⟨hI2, hlt2⟩ := HI2.out W2 hT2
    have hbx := HBx.out W2 hT2
    have p0 := hbx.cell (o := 0) rfl
    have p1 := hbx.cell (o := 1) rfl
    obtain ⟨a1, c1, hB, hrow, hne, hQ⟩ := hI2
    have cc := hB.cell (o := 0) rfl
    have HF := Lib.hid (fun V' (hg : Goes (spHand w.heap.size w.heap.size (L.take k ++ [(t, i)])) Q' W2 V') => show Goes (spHand w.heap.size w.heap.size (L.take (k + 1))) Q' W2 V' from by
      rw [HG.out]; exact hg)
    have HAp := Lib.hid (fun U hU w6 a' c' hown hg hat => sph_app (b0 := w.heap.size) (U := U) (w6 := w6) (a' := a') (c' := c') (x := (t, i)) rfl hB hne hQ hU hown hg hat)
    have HRow := Lib.hid hrow
    obtain ⟨m, hm⟩ : ∃ m, m = (L.take k).length := ⟨_, rfl⟩
    rw [← hm] at HAp HRow cc hln
    have hsz2 : w.heap.size ≤ W2.heap.size := by omega
    clear hB hQ hrow hne hm hbx hT2
    gi_wp2_with (gi_at_builtin; refine wpListIn_append_own_at _ rfl _ _ 48 rfl w.heap.size 51 i0 (.agg #[.int .i64 0, .int .i64 0]) 2 16 Try.underlying48 hi hz0 hz1 hz2 rfl (by decide) _ _ _ rfl (HRow.out.alloc _) ⟨W2.heap.size, 0, none⟩ 1 1 [.int .i64 t, .int .i64 i] rfl rfl (ow_cells W2 [.int .i64 t, .int .i64 i] 51) (ow_ints rfl) (by unfold maxLen; omega) (by omega) (by simp; omega) ?_; intro v' w6 hown6 hg6 _ hat6; obtain ⟨a6, c6, rfl⟩ := ow_slice hown6; obtain ⟨hc6, hf6, HG6⟩ := HAp.out _ ((Turned.refl _ _).alloc _) w6 a6 c6 hown6 hg6 hat6; clear hown6 hg6 hat6)
    exact HF.out _ HG6.out
  · intro D V Q' hD hK hQD hI hsk
    rw [HAll.out] at hI
    obtain ⟨a, c, hB, hrow, hne, hQ⟩ := hI
    have cc := hB.cell (o := 0) rfl
    rw [HRn.out] at cc
    have hD1 : w.heap.size ≤ D := Nat.le_trans HSt.out.size hD
    have hT0 : Turned (fun k => w.heap.size ≤ k) w V := (HSt.out.mono (fun _ _ h => h.elim)).trans (hsk.turn.mono (fun k _ h => by have := HD2.out k h; omega))
    have hp := putObj_since (.deferred none) (Array.getElem?_eq_some_iff.1 hK).1
    have HP := Lib.hid (show OutSp w L n (.returned (.slice a n c)) (V.putObj D (.deferred none)) from by
      rw [HRn.out] at hrow hQ
      refine ⟨a, c, rfl, ow_turned hrow hp (fun b hb e => ?_), ?_⟩
      · obtain rfl := e
        exact hQD ((hQ _).2 (.inr hb))
      · exact (hT0.trans (hp.mono (fun k _ e => by rw [e]; exact hD1))).mono (fun k hk hh => by omega))
    clear hB hrow hne hQ hT0 hsk hp
    gi_wp2
    refine ⟨by simp, .inl ⟨_, _, rfl, run_takeDeferred hK, ?_⟩⟩
    refine ⟨_, results_tmp rfl _ _ _, ?_⟩
    exact HP.out
  · intro D k V Q' hD hK hQD hk hI hsk
    exact hI.elim

theorem OutSp.lower {w w1 w' : World} {l : List (Int × Int)} {n : Nat} {e : Ending} (hs : Still w w1) (h : OutSp w1 l n e w') : OutSp w l n e w' := by
  obtain ⟨a, c, he, ho, ht⟩ := h
  exact ⟨a, c, he, ow_base ho hs.size, hs.trans ht⟩
theorem lgcoll_any {S : Nat → Prop} {R : Thing} {gf : Nat} {lb : Array Value} {L : List (Int × Int)} {n : Nat} {w : World} (HI0 : IterS gf lb encSpA L R) (eg : ∀ args w, (callFunc gf args).run Try.prog w = .ok (.enter gf args) w) (hR : R.at_ w S) (hn : n = L.length) (hn1 : n ≤ 10000) :
    Calls Try.prog 53 #[.func (.func gf) #[] lb] w (OutSp w L n) := by
  have HA := Lib.hid (lgapp_any HI0 eg hR hn hn1)
  clear HI0 eg hR hn hn1
  go_enter Try.func53, Try.ntmps53
  go_wp2_with (go_at_call 73; ((with_reducible refine HA.out.mono ?_)); rintro e w1 ⟨a1, c1, rfl, ho, hs⟩; have HO := Lib.hid (show OutSp w L n (.returned (.slice a1 n c1)) w1 from ⟨a1, c1, rfl, ho, hs⟩); clear ho hs)
  go_ret
  exact HO.out

section
variable {q : Nat} {M : LgM} {w : World} {W : Nat → Prop} {n : Nat}
theorem lgit_any (h : (lgT q M).at_ w W) (hM : M.Ok) (kd : Bool) : ∃ (R : Thing) (S : Nat → Prop), IterS 74 #[.pointer (some ⟨w.heap.size, 0, none⟩), .pointer (some ⟨w.heap.size + 1, 0, none⟩)] encSpA (spOf M.L kd) R ∧
    R.at_ ((w.alloc (.cells #[.pointer (some ⟨q, 0, none⟩)] 46)).alloc (.cells #[.bool kd] 4)) S ∧ ∀ k, S k → k = w.heap.size ∨ k = w.heap.size + 1 ∨ W k := by
  obtain ⟨a, c, f, h, hf⟩ := h
  exact ⟨_, _, lgspans_it rfl rfl hM hf kd w.heap.size (w.heap.size + 1), evLg_new kd h, fun k h => h⟩
theorem lgaccepted_any (h : (lgT q M).at_ w W) (hM : M.Ok) (hn : n = (spOf M.L true).length) : Calls Try.prog 29 #[.pointer (some ⟨q, 0, none⟩)] w (OutSp w (spOf M.L true) n) := by
  obtain ⟨R, S, h1, h2, _⟩ := lgit_any h hM true
  have HS := Lib.hid (lgspans_any q true w)
  have HC := Lib.hid (lgcoll_any h1 (enters_of Try.func74 (by kernel_rfl) rfl) h2 hn (by have := spOf_len M.L true; have := hM.len; omega))
  have HL := Lib.hid (fun (e : Ending) (w' : World) (ho : OutSp _ (spOf M.L true) n e w') => OutSp.lower (w := w) (((Turned.refl _ w).alloc (.cells #[.pointer (some ⟨q, 0, none⟩)] 46)).alloc (.cells #[.bool true] 4)) ho)
  clear h h1 h2 hM hn
  go_enter Try.func29, Try.ntmps29
  go_wp2_with (first
    | (go_at_call 54; ((with_reducible refine HS.out.mono ?_)); rintro e w1 ⟨rfl, rfl⟩)
    | (go_at_call 53; ((with_reducible refine HC.out.mono ?_)); rintro e w2 ho; have HO := Lib.hid (HL.out _ _ ho); obtain ⟨a2, c2, rfl, _, _⟩ := ho))
  go_ret
  exact HO.out
theorem lgskipped_any (h : (lgT q M).at_ w W) (hM : M.Ok) (hn : n = (spOf M.L false).length) : Calls Try.prog 30 #[.pointer (some ⟨q, 0, none⟩)] w (OutSp w (spOf M.L false) n) := by
  obtain ⟨R, S, h1, h2, _⟩ := lgit_any h hM false
  have HS := Lib.hid (lgspans_any q false w)
  have HC := Lib.hid (lgcoll_any h1 (enters_of Try.func74 (by kernel_rfl) rfl) h2 hn (by have := spOf_len M.L false; have := hM.len; omega))
  have HL := Lib.hid (fun (e : Ending) (w' : World) (ho : OutSp _ (spOf M.L false) n e w') => OutSp.lower (w := w) (((Turned.refl _ w).alloc (.cells #[.pointer (some ⟨q, 0, none⟩)] 46)).alloc (.cells #[.bool false] 4)) ho)
  clear h h1 h2 hM hn
  go_enter Try.func30, Try.ntmps30
  go_wp2_with (first
    | (go_at_call 54; ((with_reducible refine HS.out.mono ?_)); rintro e w1 ⟨rfl, rfl⟩)
    | (go_at_call 53; ((with_reducible refine HC.out.mono ?_)); rintro e w2 ho; have HO := Lib.hid (HL.out _ _ ho); obtain ⟨a2, c2, rfl, _, _⟩ := ho))
  go_ret
  exact HO.out
end
end Go.Proofs.Ytdlkdagmaeapdaa

/- What Is of the program's ledger answers: the iterator's spans are looked through. No condition but that the ledger is one. -/
namespace Go.Proofs.Ytdlkdagmaeapdaa
open Go.RowKit Go.Shelf
attribute [local go_sem] Oper.semAt_some
set_option linter.unusedVariables false
set_option linter.unusedSimpArgs false
set_option maxRecDepth 100000

/-- How a function ends whose result, a Bool, lies in a cell, where a loop lies behind it. -/
theorem cell_endB {F : Fence} {n : Nat} {V : World} {D B : Nat} {y : Bool} {p : Tmp} {a : Act} {fn : Func} {R : Ending → World → Prop} (hfn : fn.results = #[.cell p 4])
    (h4 : a.tmps.getD p undef = .pointer (some ⟨B, 0, none⟩)) (hd : a.defers = [{ target := .collected D, args := #[] }]) (hB : Blk V B [.bool y] 4) (hne : B ≠ D) (hK : V.heap[D]? = some (.deferred (some [])))
    (hR : ∀ W', Turned (· = D) V W' → R (.returned (.bool y)) W') : bodyPostM F n Try.prog fn R .ret a V := by
  show LeavesInM F n Try.prog fn a.tmps R a.defers .returning V
  rw [hd]
  refine ⟨by simp, .inl ⟨_, _, rfl, run_takeDeferred hK, ?_⟩⟩
  have hP : Turned (· = D) V (V.putObj D (.deferred none)) := putObj_since _ (Array.getElem?_eq_some_iff.1 hK).1
  have b1 : (V.putObj D (.deferred none)).cell? ⟨B, 0, none⟩ = some (.bool y) := (hB.turned hP hne).cell rfl
  refine ⟨.bool y, ?_, hR _ hP⟩
  have hr : ∀ (tmps : Array Value) (P : Program) (w : World), (results fn tmps).run P w = ((asAddr (tmps.getD p undef)).run P w).andThen fun a w₁ => (loadVar 4 a).run P w₁ := fun tmps P w => by
    simp only [results, hfn]
    simp [Sem.run_bind, Result.andThen]
  rw [hr, h4]
  go_simp

/-- What holds between two rounds; and where one has left. -/
def inI (B : Nat) (L : List (Int × Int)) (x : Int) (k : Nat) : Thing where
  at_ w W := (blkT B [.bool false] 4).at_ w W ∧ ∀ j z, j < k → L[j]? = some z → inP x z = false
  lt := fun h => (blkT B [.bool false] 4).lt h.1
  keep := fun h ht hs => ⟨(blkT B [.bool false] 4).keep h.1 ht hs, h.2⟩
def inX (B : Nat) (L : List (Int × Int)) (x : Int) (k : Nat) : Thing where
  at_ w W := (∃ z, L[k]? = some z ∧ inP x z = true) ∧ (blkT B [.bool true] 4).at_ w W
  lt := fun h => (blkT B [.bool true] 4).lt h.2
  keep := fun h ht hs => ⟨h.1, (blkT B [.bool true] 4).keep h.2 ht hs⟩

section
variable {q : Nat} {M : LgM} {w : World} {W : Nat → Prop} {n : Nat}
end
end Go.Proofs.Ytdlkdagmaeapdaa

/- What From, End, Make, Accept and Skip of the program's ledger do. No condition but that it is one. -/
namespace Go.Proofs.Ytdlkdagmaeapdaa
open Go.RowKit
set_option linter.unusedVariables false
set_option linter.unusedSimpArgs false
set_option maxRecDepth 100000

section
variable {q : Nat} {a a6 : Option Addr} {c c6 N n : Nat} {f : Bool} {M : LgM} {w V w6 w' : World} {W : Nat → Prop}
theorem lgfrom_any (h : (lgT q M).at_ w W) : Calls Try.prog 27 #[.pointer (some ⟨q, 0, none⟩)] w fun e w' => e = .returned (.int .i64 M.b) ∧ Still w w' := by
  obtain ⟨a, c, f, hr, _⟩ := lgT_rd h
  have HMd := Lib.hid (lgmade_any hr.c0 (by omega))
  have c0 := hr.c0
  obtain ⟨g, rfl, y0⟩ := hr.row 0 M.b rfl
  generalize M.b = b at *
  obtain ⟨N, hN⟩ : ∃ N, N = M.L.length + 1 := ⟨_, rfl⟩
  rw [← hN] at c0
  have hN0 : (0 : Int) < (N : Int) := by omega
  clear hr h hN
  go_enter Try.func27, Try.ntmps27
  go_wp2_with (go_at_call 52; ((with_reducible refine HMd.out.mono ?_)); rintro e w1 ⟨rfl, rfl⟩)
  go_ret
  exact ⟨rfl, Turned.refl _ _⟩
theorem lgend_any (h : (lgT q M).at_ w W) (hM : M.Ok) : Calls Try.prog 28 #[.pointer (some ⟨q, 0, none⟩)] w fun e w' => e = .returned (.int .i64 M.fin) ∧ Still w w' := by
  obtain ⟨a, c, f, hr, _⟩ := lgT_rd h
  have HMd := Lib.hid (lgmade_any hr.c0 (by omega))
  have c0 := hr.c0
  obtain ⟨g, rfl, y0⟩ := hr.row _ _ (marks_fin M)
  have hn256 := hM.len
  generalize M.fin = f at *
  generalize M.L.length = n at *
  clear hr h hM
  go_enter Try.func28, Try.ntmps28
  go_wp2_with (go_at_call 52; ((with_reducible refine HMd.out.mono ?_)); rintro e w1 ⟨rfl, rfl⟩)
  go_quiet (fail)
  go_wp2_with fail
  go_ret
  exact ⟨rfl, (Turned.refl _ _).drewN _⟩
theorem lgmake_no (b : Int) (w : World) (h : ¬ (0 ≤ b ∧ b ≤ 1099511627776)) : Calls Try.prog 39 #[.int .i64 b] w fun e w' => e = .returned (.tuple #[.pointer none, .int .i64 2]) ∧ Still w w' := by
  by_cases h0 : b < 0
  · clear h
    go_enter Try.func39, Try.ntmps39
    go_wp2_with fail
    go_ret2
    exact ⟨rfl, Turned.refl _ _⟩
  · have h1 : 1099511627776 < b := by omega
    clear h
    go_enter Try.func39, Try.ntmps39
    go_wp2_with fail
    go_ret2
    exact ⟨rfl, Turned.refl _ _⟩
theorem lgnew (w : World) (b : Int) : LNew lgT w (LgM.new b) (w.heap.size + 1) ((w.alloc (.cells #[.int .i64 b] 3)).alloc (.cells #[.slice (some ⟨w.heap.size, 0, none⟩) 1 1, .bool false] 87)) := by
  have hs : (w.alloc (.cells #[.int .i64 b] 3)).heap.size = w.heap.size + 1 := by simp
  have hb := Blk.new (w.alloc (.cells #[.int .i64 b] 3)) [.slice (some ⟨w.heap.size, 0, none⟩) 1 1, .bool false] 87
  rw [hs] at hb
  refine ⟨fun k => k = w.heap.size + 1 ∨ k = w.heap.size, ⟨some ⟨w.heap.size, 0, none⟩, 1, false, ⟨(· = w.heap.size + 1), (· = w.heap.size), ⟨hb, fun _ => Iff.rfl⟩,
    ⟨ow_still (ow_one w (.int .i64 b) 3 (Nat.zero_le _)) ((Turned.refl _ _).alloc _), fun k => ⟨fun h => by rw [h]; rfl, fun h => by cases h; rfl⟩⟩, fun k h1 h2 => by omega, fun _ => Iff.rfl⟩, fun x hx => by simp [LgM.new] at hx⟩,
    ((Turned.refl _ _).alloc _).alloc _, fun k hk => by omega⟩
theorem lgmake_ok (b : Int) (w : World) (h0 : 0 ≤ b) (h1 : b ≤ 1099511627776) : Calls Try.prog 39 #[.int .i64 b] w fun e w' => ∃ q, e = .returned (.tuple #[.pointer (some ⟨q, 0, none⟩), .int .i64 0]) ∧ LNew lgT w (LgM.new b) q w' := by
  have HN := Lib.hid (lgnew w b)
  go_enter Try.func39, Try.ntmps39
  go_wp2_with fail
  go_ret2
  exact ⟨_, rfl, HN.out⟩

/-! ### Accept, Skip -/
theorem marks_set {l' : List Pc} {x : Pc} (b tt : Int) : marks ⟨b, l' ++ [(x.1, tt, x.2.2)]⟩ = (marks ⟨b, l' ++ [x]⟩).set (l'.length + 1) tt := by
  unfold marks
  dsimp only
  rw [List.map_append, List.map_append, List.set_cons_succ, List.set_append_right _ _ (by simp)]
  simp
theorem marks_snoc (M : LgM) (y : Pc) : marks ⟨M.b, M.L ++ [y]⟩ = marks M ++ [y.2.1] := by simp [marks]
theorem set_one (l : List Value) (b : Nat) (v : Value) : l.set b v = l.set b v := rfl
/-- The last span ends elsewhere. -/
theorem lg_last {l' : List Pc} {x : Pc} {g : Nat} {tt : Int} (hl : M.L = l' ++ [x]) (hN : N = M.L.length + 1) (hf : ∀ x, M.L[0]? = some x → x.2.2 = f) (H : Sit W w V (lgX q (some ⟨g, 0, none⟩) c N f M)) :
    V.cell? ⟨g, l'.length + 1, none⟩ = some (.int .i64 x.2.1) ∧ V.frozen? ⟨g, l'.length + 1, none⟩ = false ∧ Hid (Goes (lgT q ⟨M.b, setTo M.L tt⟩) W w (V.setCell ⟨g, l'.length + 1, none⟩ (.int .i64 tt))) := by
  have hx : (marks M)[l'.length + 1]? = some x.2.1 := by unfold marks; rw [hl]; simp
  have H' : Sit W w V (((blkT q [.slice (some ⟨g, 0, none⟩) N c, .bool f] 87)).sep ((ownT 3 1 (some ⟨g, 0, none⟩) N c (ints (marks M))).sep Thing.none)) := H.imp (fun h => by
    obtain ⟨W1, W2, h1, h2, h3, h4⟩ := h
    exact ⟨W1, W2, h1, ⟨W2, fun _ => False, h2, fun _ h => h, fun _ _ h => h, fun k => ⟨.inl, fun h => h.elim id (fun h => h.elim)⟩⟩, h3, h4⟩)
  obtain ⟨h1, h2, h3⟩ := sit_put H' (ints_get hx) (.int .i64 tt)
  refine ⟨h1, h2, Lib.hid ((h3.out.goes).turn (fun h => ?_))⟩
  have e1 : setTo M.L tt = l' ++ [(x.1, tt, x.2.2)] := by rw [hl, setTo_app]
  have e2 : marks ⟨M.b, setTo M.L tt⟩ = (marks M).set (l'.length + 1) tt := by
    have : marks M = marks ⟨M.b, l' ++ [x]⟩ := by rw [← hl]
    rw [e1, marks_set, this]
  have e3 : (setTo M.L tt).length + 1 = N := by rw [e1, hN, hl]; simp
  refine ⟨some ⟨g, 0, none⟩, c, f, ?_, fun y hy => ?_⟩
  · show (lgX q (some ⟨g, 0, none⟩) c ((setTo M.L tt).length + 1) f ⟨M.b, setTo M.L tt⟩).at_ _ _
    unfold lgX
    rw [e2, e3, ← ints_set]
    obtain ⟨W1, W2, g1, ⟨W3, W4, g3, g4, _, g5⟩, g6, g7⟩ := h
    refine ⟨W1, W3, g1, g3, fun k hk hk' => g6 k hk ((g5 k).2 (.inl hk')), fun k => (g7 k).trans ⟨fun h => h.imp id (fun h => ((g5 k).1 h).elim id (fun h => (g4 k h).elim)), fun h => h.imp id (fun h => (g5 k).2 (.inl h))⟩⟩
  · show y.2.2 = f
    replace hy : (setTo M.L tt)[0]? = some y := hy
    rw [e1] at hy
    cases l' with
    | nil =>
      obtain rfl : (x.1, tt, x.2.2) = y := by simpa using hy
      exact hf x (by rw [hl]; rfl)
    | cons z l' =>
      obtain rfl : z = y := by simpa using hy
      exact hf z (by rw [hl]; rfl)
/-- One span more: the marks' row grows (from a box that may have its kind set anew). -/
theorem lg_more {o : Obj} {tt : Int} {kd : Bool} (hn : n = M.L.length) (hN : N = n + 1) (hf : ∀ x, M.L[0]? = some x → x.2.2 = f) (h0 : n = 0 → f = kd) (H : Sit W w V (lgX q a c N f M)) (hown : w6.ownsRow 0 3 1 (.slice a6 (N + 1) c6) (N + 1) (ints (marks M) ++ [.int .i64 tt]))
    (hg : (V.alloc o).grownBy w6 (Value.slice a N c).ownBlock) (hat : (Value.slice a6 (N + 1) c6).ownBlock = (Value.slice a N c).ownBlock ∨ (Value.slice a6 (N + 1) c6).ownBlock = some (V.alloc o).heap.size) :
    w6.cell? ⟨q, 0, none⟩ = some (.slice a N c) ∧ w6.frozen? ⟨q, 0, none⟩ = false ∧ Hid (Goes (lgT q ⟨M.b, M.L ++ [(M.fin, tt, kd)]⟩) W w (w6.setCell ⟨q, 0, none⟩ (.slice a6 (N + 1) c6))) := by
  have H' : Sit W w V (((blkT q [.slice a N c, .bool f] 87)).sep ((ownT 3 1 a N c (ints (marks M))).sep Thing.none)) := H.imp (fun h => by
    obtain ⟨W1, W2, h1, h2, h3, h4⟩ := h
    exact ⟨W1, W2, h1, ⟨W2, fun _ => False, h2, fun _ h => h, fun _ _ h => h, fun k => ⟨.inl, fun h => h.elim id (fun h => h.elim)⟩⟩, h3, h4⟩)
  obtain ⟨h1, h2, h3⟩ := sit_app (i := 0) H' rfl hown hg hat
  refine ⟨h1, h2, Lib.hid ((h3.out.goes).turn (fun h => ⟨a6, c6, f, ?_, fun y hy => ?_⟩))⟩
  · have e1 : (M.L ++ [(M.fin, tt, kd)]).length + 1 = N + 1 := by rw [List.length_append, ← hn, hN]; rfl
    show (lgX q a6 c6 ((M.L ++ [(M.fin, tt, kd)]).length + 1) f ⟨M.b, M.L ++ [(M.fin, tt, kd)]⟩).at_ _ _
    unfold lgX
    rw [e1, marks_snoc, show ints (marks M ++ [tt]) = ints (marks M) ++ [.int .i64 tt] by simp [ints]]
    obtain ⟨W1, W2, g1, ⟨W3, W4, g3, g4, _, g5⟩, g6, g7⟩ := h
    refine ⟨W1, W3, g1, g3, fun k hk hk' => g6 k hk ((g5 k).2 (.inl hk')), fun k => (g7 k).trans ⟨fun h => h.imp id (fun h => ((g5 k).1 h).elim id (fun h => (g4 k h).elim)), fun h => h.imp id (fun h => (g5 k).2 (.inl h))⟩⟩
  · show y.2.2 = f
    replace hy : (M.L ++ [(M.fin, tt, kd)])[0]? = some y := hy
    by_cases hl : M.L = []
    · rw [hl] at hy
      obtain rfl : (M.fin, tt, kd) = y := by simpa using hy
      exact (h0 (by rw [hn, hl]; rfl)).symm
    · obtain ⟨z, l', hz⟩ := List.exists_cons_of_ne_nil hl
      rw [hz] at hy
      obtain rfl : z = y := by simpa using hy
      exact hf z (by rw [hz]; rfl)
/-- The kind of the first span is set, where there is none yet. -/
theorem lg_first {kd : Bool} (H : Sit W w V (lgX q a c N f M)) : V.cell? ⟨q, 1, none⟩ = some (.bool f) ∧ V.frozen? ⟨q, 1, none⟩ = false ∧ Hid (Sit W w (V.setCell ⟨q, 1, none⟩ (.bool kd)) (lgX q a c N kd M)) :=
  sit_row (o := 1) H rfl (.bool kd)
end
end Go.Proofs.Ytdlkdagmaeapdaa

/- What Accept and Skip of the program's ledger do. No condition but that it is one. -/
namespace Go.Proofs.Ytdlkdagmaeapdaa
open Go.RowKit
set_option linter.unusedVariables false
set_option linter.unusedSimpArgs false
set_option maxRecDepth 100000

section
variable {q : Nat} {a a6 : Option Addr} {c c6 N n : Nat} {f : Bool} {M : LgM} {w V w6 w' : World} {W : Nat → Prop}
set_option maxHeartbeats 4000000 in
theorem lggoon_any (h : (lgT q M).at_ w W) (hM : M.Ok) (tt : Int) (kd : Bool) :
    Calls Try.prog 71 #[.pointer (some ⟨q, 0, none⟩), .int .i64 tt, .bool kd] w fun e w' => e = .returned (.int .i64 (addE M tt kd)) ∧ Goes (lgT q (M.add tt kd)) W w w' := by
  have HEn := Lib.hid (lgend_any h hM)
  have HS := Lib.hid (fun V (hs : Still w V) => Goes.still h hs)
  obtain ⟨a, c, f, h, hf⟩ := h
  obtain ⟨n, hn⟩ : ∃ n, n = M.L.length := ⟨_, rfl⟩
  obtain ⟨N, hN⟩ : ∃ N, N = n + 1 := ⟨_, rfl⟩
  rw [← hn, ← hN] at h
  have hNM : N = M.L.length + 1 := by omega
  have HRd := Lib.hid (fun V (hs : Still w V) => (lgX_rd hNM h).still hs)
  have HSit := Lib.hid (fun V (hs : Still w V) => (Sit.start h).still hs)
  have hn256 : n ≤ 256 := by have := hM.len; omega
  have HMd := Lib.hid (lgmade_any (HRd.out w (Turned.refl _ _)).c0 (by omega))
  have HCt := Lib.hid (fun V (hs : Still w V) => lgcount_any (n := n) (HRd.out V hs).c0 hN hn256)
  unfold LgM.add addL
  by_cases hto : tt ≤ M.fin ∨ 1099511627776 < tt
  · have he : addE M tt kd = 2 := by unfold addE; rw [if_pos hto]
    rw [he, if_pos (by omega)]
    generalize M.fin = fi at *
    clear hM hn hN hNM h HRd HSit he HCt hf
    by_cases h1 : tt ≤ fi
    · clear hto
      go_enter Try.func71, Try.ntmps71
      go_wp2_with (first
        | (go_at_call 52; ((with_reducible refine HMd.out.mono ?_)); rintro e w0 ⟨rfl, rfl⟩)
        | (go_at_call 28; ((with_reducible refine HEn.out.mono ?_)); rintro e w1 ⟨rfl, hs1⟩; have HS1 := Lib.hid hs1; clear hs1))
      go_ret
      exact ⟨rfl, HS.out _ HS1.out⟩
    · have h2 : 1099511627776 < tt := by omega
      clear hto
      go_enter Try.func71, Try.ntmps71
      go_wp2_with (first
        | (go_at_call 52; ((with_reducible refine HMd.out.mono ?_)); rintro e w0 ⟨rfl, rfl⟩)
        | (go_at_call 28; ((with_reducible refine HEn.out.mono ?_)); rintro e w1 ⟨rfl, hs1⟩; have HS1 := Lib.hid hs1; clear hs1))
      go_ret
      exact ⟨rfl, HS.out _ HS1.out⟩
  · have h1 : ¬ tt ≤ M.fin := fun h => hto (.inl h)
    have h2 : ¬ 1099511627776 < tt := fun h => hto (.inr h)
    have HT := chn_turns hM.ch hf
    by_cases hk : lastK none M.L = some kd
    · have he : addE M tt kd = 0 := by unfold addE; rw [if_neg hto, if_pos hk]
      rw [he, if_neg (by omega), if_pos hk]
      obtain ⟨l', x, hl, hx⟩ := lastK_split hk
      have hnl : n = l'.length + 1 := by rw [hn, hl]; simp
      have HX := Lib.hid (fun V (hs : Still w V) => show ∃ g, a = some ⟨g, 0, none⟩ ∧ V.cell? ⟨g, l'.length + 1, none⟩ = some (.int .i64 x.2.1) ∧ V.frozen? ⟨g, l'.length + 1, none⟩ = false ∧ Hid (Goes (lgT q ⟨M.b, setTo M.L tt⟩) W w (V.setCell ⟨g, l'.length + 1, none⟩ (.int .i64 tt))) from by
        obtain ⟨g, rfl, _⟩ := (HRd.out V hs).row _ _ (marks_fin M)
        obtain ⟨z1, z2, z3⟩ := lg_last (tt := tt) hl hNM hf (HSit.out V hs)
        exact ⟨g, rfl, z1, z2, z3⟩)
      have HKd := Lib.hid (fun V (hs : Still w V) => show Calls Try.prog 76 #[.pointer (some ⟨q, 0, none⟩), .int .i64 (l'.length : Int)] V fun e w' => e = .returned (.bool kd) ∧ V = w' from by
        rw [← hx, HT l'.length x (by rw [hl]; simp)]
        exact lgkind_any (HRd.out V hs).c1 _ (by omega))
      have HC := Lib.hid (fun V (hs : Still w V) => (HRd.out V hs).c0)
      generalize M.fin = fi at *
      generalize l'.length = i at *
      subst hnl
      have hi0 : (0 : Int) < ((i + 1 : Nat) : Int) := by omega
      have hiN : ((i + 1 : Nat) : Int) < (N : Int) := by omega
      clear hM h HRd HSit he hto hl hk hn hx HS HT hf hN hNM
      go_enter Try.func71, Try.ntmps71
      go_wp2_with (first
        | (go_at_call 52; ((with_reducible refine HMd.out.mono ?_)); rintro e w0 ⟨rfl, rfl⟩)
        | (go_at_call 28; ((with_reducible refine HEn.out.mono ?_)); rintro e w1 ⟨rfl, hs1⟩; have c0 := HC.out w1 hs1; obtain ⟨g, rfl, y1, y2, y3⟩ := HX.out w1 hs1; have HS1 := Lib.hid hs1; clear hs1)
        | (go_at_call 75; ((with_reducible refine (HCt.out _ HS1.out).mono ?_)); rintro e w2 ⟨rfl, rfl⟩)
        | (go_at_call 76; ((with_reducible refine (HKd.out _ HS1.out).mono ?_)); rintro e w3 ⟨rfl, rfl⟩))
      go_ret
      exact ⟨rfl, y3.out⟩
    · by_cases hfull : 256 ≤ M.L.length
      · have he : addE M tt kd = 4 := by unfold addE; rw [if_neg hto, if_neg hk, if_pos hfull]
        rw [he, if_pos (by omega)]
        have hne : M.L ≠ [] := by intro h0; rw [h0] at hfull; simp at hfull
        obtain ⟨l', x, hl⟩ := last_split hne
        have hnl : n = l'.length + 1 := by rw [hn, hl]; simp
        have hx : (x.2.2 == kd) = false := by
          rw [beq_eq_false_iff_ne]
          intro hx
          apply hk
          rw [hl, lastK_app, ← hx]; rfl
        have HKd := Lib.hid (fun V (hs : Still w V) => show Calls Try.prog 76 #[.pointer (some ⟨q, 0, none⟩), .int .i64 (l'.length : Int)] V fun e w' => e = .returned (.bool x.2.2) ∧ V = w' from by
          rw [HT l'.length x (by rw [hl]; simp)]
          exact lgkind_any (HRd.out V hs).c1 _ (by omega))
        have hfi : (256 : Int) ≤ (n : Int) := by omega
        generalize M.fin = fi at *
        generalize l'.length = i at *
        generalize x.2.2 = xk at *
        subst hnl
        have hi0 : (0 : Int) < ((i + 1 : Nat) : Int) := by omega
        clear hM h HRd HSit he hto hl hk hn hfull hne HT hf hN hNM
        go_enter Try.func71, Try.ntmps71
        go_wp2_with (first
          | (go_at_call 52; ((with_reducible refine HMd.out.mono ?_)); rintro e w0 ⟨rfl, rfl⟩)
          | (go_at_call 28; ((with_reducible refine HEn.out.mono ?_)); rintro e w1 ⟨rfl, hs1⟩; have HS1 := Lib.hid hs1; clear hs1)
          | (go_at_call 75; ((with_reducible refine (HCt.out _ HS1.out).mono ?_)); rintro e w2 ⟨rfl, rfl⟩)
          | (go_at_call 76; ((with_reducible refine (HKd.out _ HS1.out).mono ?_)); rintro e w3 ⟨rfl, rfl⟩))
        go_ret
        exact ⟨rfl, HS.out _ HS1.out⟩
      · have he : addE M tt kd = 0 := by unfold addE; rw [if_neg hto, if_neg hk, if_neg hfull]
        rw [he, if_neg (by omega), if_neg hk]
        have hlt : (n : Int) < 256 := by omega
        obtain ⟨i0, hi, hz0, hz1, hz2⟩ := info_parts infoIntW
        by_cases h0 : M.L = []
        · obtain rfl : n = 0 := by rw [hn, h0]; rfl
          have HF := Lib.hid (fun V (hs : Still w V) => lg_first (kd := kd) (HSit.out V hs))
          have hf' : ∀ x, M.L[0]? = some x → x.2.2 = kd := fun x hx => by rw [h0] at hx; cases hx
          have HR1 := Lib.hid (fun V (H : Sit W w V (lgX q a c N kd M)) => show V.cell? ⟨q, 0, none⟩ = some (.slice a N c) ∧ V.ownsRow 0 3 1 (.slice a N c) N (ints (marks M)) from by
            obtain ⟨_, g1, _⟩ := H.fst
            obtain ⟨_, g2, _⟩ := H.swap.fst
            exact ⟨g1.1.cell rfl, g2.1⟩)
          have HM1 := Lib.hid (fun (V w6 : World) (o : Obj) (a6 : Option Addr) (c6 : Nat) (H : Sit W w V (lgX q a c N kd M)) hown hg hat => lg_more (w6 := w6) (o := o) (a6 := a6) (c6 := c6) (tt := tt) (kd := kd) hn hN hf' (fun _ => rfl) H hown hg hat)
          have hNl : N ≤ 257 := by omega
          generalize M.fin = fi at *
          clear hM h HRd HSit he hto hk hn hfull HS HT hf hf' hN hNM h0
          go_enter Try.func71, Try.ntmps71
          go_wp2_with (first
            | (go_at_call 52; ((with_reducible refine HMd.out.mono ?_)); rintro e w0 ⟨rfl, rfl⟩)
            | (go_at_call 28; ((with_reducible refine HEn.out.mono ?_)); rintro e w1 ⟨rfl, hs1⟩; have HS1 := Lib.hid hs1; obtain ⟨f1, f2, HF3⟩ := HF.out w1 hs1; obtain ⟨r1, r2⟩ := HR1.out _ HF3.out; have HO := Lib.hid r2; clear hs1 r2)
            | (go_at_call 75; ((with_reducible refine (HCt.out _ HS1.out).mono ?_)); rintro e w2 ⟨rfl, rfl⟩)
            | (at_builtin; refine wpList_append_own_at _ rfl _ _ 44 rfl 0 3 i0 (.int .i64 0) 1 8 Try.underlying44 hi hz0 hz1 hz2 rfl (by decide) (.slice a N c) N (ints (marks M)) rfl (ow_still HO.out ((Turned.refl _ _).alloc _)) ⟨w1.heap.size, 0, none⟩ 1 1 [.int .i64 tt] rfl rfl (by intro j u hj; have := ow_cells (w1.setCell ⟨q, 1, none⟩ (.bool kd)) [.int .i64 tt] 3 j u hj; simpa [World.setCell] using this) (ow_ints rfl) (by unfold maxLen; omega) (by omega) (Nat.zero_le _) ?_; intro v6 w6 hown6 hg6 _ hat6; obtain ⟨a6, c6, rfl⟩ := ow_slice hown6; obtain ⟨z1, z2, HZ6⟩ := HM1.out _ w6 _ a6 c6 HF3.out hown6 hg6 hat6; clear hown6 hg6 hat6))
          go_ret
          exact ⟨rfl, HZ6.out⟩
        · obtain ⟨l', x, hl⟩ := last_split h0
          have hnl : n = l'.length + 1 := by rw [hn, hl]; simp
          have hx : (x.2.2 == kd) = false := by
            rw [beq_eq_false_iff_ne]
            intro hx
            apply hk
            rw [hl, lastK_app, ← hx]; rfl
          have HKd := Lib.hid (fun V (hs : Still w V) => show Calls Try.prog 76 #[.pointer (some ⟨q, 0, none⟩), .int .i64 (l'.length : Int)] V fun e w' => e = .returned (.bool x.2.2) ∧ V = w' from by
            rw [HT l'.length x (by rw [hl]; simp)]
            exact lgkind_any (HRd.out V hs).c1 _ (by omega))
          have HR1 := Lib.hid (fun V (hs : Still w V) => show V.cell? ⟨q, 0, none⟩ = some (.slice a N c) ∧ V.ownsRow 0 3 1 (.slice a N c) N (ints (marks M)) from by
            obtain ⟨_, g1, _⟩ := (HSit.out V hs).fst
            obtain ⟨_, g2, _⟩ := (HSit.out V hs).swap.fst
            exact ⟨g1.1.cell rfl, g2.1⟩)
          have HM1 := Lib.hid (fun (V w6 : World) (o : Obj) (a6 : Option Addr) (c6 : Nat) (hs : Still w V) hown hg hat => lg_more (w6 := w6) (o := o) (a6 := a6) (c6 := c6) (tt := tt) (kd := kd) hn hN hf (fun h => by omega) (HSit.out V hs) hown hg hat)
          generalize M.fin = fi at *
          generalize l'.length = i at *
          generalize x.2.2 = xk at *
          subst hnl
          have hi0 : (0 : Int) < ((i + 1 : Nat) : Int) := by omega
          have hNl : N ≤ 257 := by omega
          clear hM h HRd HSit he hto hk hn hfull HS HT hf hNM h0 hl hN
          go_enter Try.func71, Try.ntmps71
          go_wp2_with (first
            | (go_at_call 52; ((with_reducible refine HMd.out.mono ?_)); rintro e w0 ⟨rfl, rfl⟩)
            | (go_at_call 28; ((with_reducible refine HEn.out.mono ?_)); rintro e w1 ⟨rfl, hs1⟩; have HS1 := Lib.hid hs1; obtain ⟨r1, r2⟩ := HR1.out _ hs1; have HO := Lib.hid r2; clear hs1 r2)
            | (go_at_call 75; ((with_reducible refine (HCt.out _ HS1.out).mono ?_)); rintro e w2 ⟨rfl, rfl⟩)
            | (go_at_call 76; ((with_reducible refine (HKd.out _ HS1.out).mono ?_)); rintro e w3 ⟨rfl, rfl⟩)
            | (at_builtin; refine wpList_append_own_at _ rfl _ _ 44 rfl 0 3 i0 (.int .i64 0) 1 8 Try.underlying44 hi hz0 hz1 hz2 rfl (by decide) (.slice a N c) N (ints (marks M)) rfl (ow_still HO.out ((Turned.refl _ _).alloc _)) ⟨w1.heap.size, 0, none⟩ 1 1 [.int .i64 tt] rfl rfl (ow_cells w1 _ _) (ow_ints rfl) (by unfold maxLen; omega) (by omega) (Nat.zero_le _) ?_; intro v6 w6 hown6 hg6 _ hat6; obtain ⟨a6, c6, rfl⟩ := ow_slice hown6; obtain ⟨z1, z2, HZ6⟩ := HM1.out _ w6 _ a6 c6 HS1.out hown6 hg6 hat6; clear hown6 hg6 hat6))
          go_ret
          exact ⟨rfl, HZ6.out⟩
theorem lgaccept_any (h : (lgT q M).at_ w W) (hM : M.Ok) (tt : Int) :
    Calls Try.prog 45 #[.pointer (some ⟨q, 0, none⟩), .int .i64 tt] w fun e w' => e = .returned (.int .i64 (addE M tt true)) ∧ Goes (lgT q (M.add tt true)) W w w' := by
  have HG := Lib.hid (lggoon_any h hM tt true)
  clear h hM
  go_enter Try.func45, Try.ntmps45
  go_wp2_with (go_at_call 71; ((with_reducible refine HG.out.mono ?_)); rintro e w1 ⟨rfl, hs1⟩; have H1 := Lib.hid hs1; clear hs1)
  go_ret
  exact ⟨rfl, H1.out⟩
theorem lgskip_any (h : (lgT q M).at_ w W) (hM : M.Ok) (tt : Int) :
    Calls Try.prog 70 #[.pointer (some ⟨q, 0, none⟩), .int .i64 tt] w fun e w' => e = .returned (.int .i64 (addE M tt false)) ∧ Goes (lgT q (M.add tt false)) W w w' := by
  have HG := Lib.hid (lggoon_any h hM tt false)
  clear h hM
  go_enter Try.func70, Try.ntmps70
  go_wp2_with (go_at_call 71; ((with_reducible refine HG.out.mono ?_)); rintro e w1 ⟨rfl, hs1⟩; have H1 := Lib.hid hs1; clear hs1)
  go_ret
  exact ⟨rfl, H1.out⟩
end
end Go.Proofs.Ytdlkdagmaeapdaa

/- What Back of the program's ledger does. No condition but that it is one. -/
namespace Go.Proofs.Ytdlkdagmaeapdaa
open Go.RowKit
set_option linter.unusedVariables false
set_option linter.unusedSimpArgs false
set_option maxRecDepth 100000

section
variable {q : Nat} {a a6 : Option Addr} {c c6 N n : Nat} {f : Bool} {M : LgM} {w V w6 w' : World} {W : Nat → Prop}
theorem marks_take {L : List Pc} {j : Nat} {x : Pc} (b : Int) (hx : L[j]? = some x) : marks ⟨b, L.take (j + 1)⟩ = marks ⟨b, L.take j⟩ ++ [x.2.1] := by
  unfold marks
  dsimp only
  rw [List.take_add_one, hx]
  simp
/-- The last mark goes. -/
theorem lg_cut {L : List Pc} {j : Nat} {x : Pc} {b : Int} {a : Option Addr} (hx : L[j]? = some x) (hN : N = j + 2) (hf : ∀ y, (L.take (j + 1))[0]? = some y → y.2.2 = f) (H : Sit W w V (lgX q a c N f ⟨b, L.take (j + 1)⟩)) :
    V.cell? ⟨q, 0, none⟩ = some (.slice a N c) ∧ V.frozen? ⟨q, 0, none⟩ = false ∧ Hid (Sit W w (V.setCell ⟨q, 0, none⟩ (.slice a (j + 1) c)) (lgT q ⟨b, L.take j⟩)) := by
  obtain ⟨h1, h2, h3⟩ := sit_row (o := 0) H rfl (.slice a (j + 1) c)
  refine ⟨h1, h2, Lib.hid (h3.out.imp (fun h => ⟨a, c, f, ?_, fun y hy => ?_⟩))⟩
  · have hlt := (List.getElem?_eq_some_iff.1 hx).1
    have e1 : (L.take j).length + 1 = j + 1 := by rw [List.length_take]; omega
    show (lgX q a c ((L.take j).length + 1) f ⟨b, L.take j⟩).at_ _ _
    rw [e1]
    obtain ⟨W1, W2, g1, ⟨g2, g3⟩, g4, g5⟩ := h
    obtain ⟨g, rfl⟩ := owm_addr g2 (by omega)
    refine ⟨W1, W2, g1, ⟨?_, g3⟩, g4, g5⟩
    rw [marks_take b hx, hN] at g2
    obtain ⟨r, k1, k2, k3, k4, k5, k6⟩ := owm_parts g2
    rw [show ints (marks ⟨b, L.take j⟩ ++ [x.2.1]) = ints (marks ⟨b, L.take j⟩) ++ [.int .i64 x.2.1] by simp [ints], List.append_assoc] at k1
    exact owm_of_parts k1 (by rw [ints_length, marks_len]; simp [List.length_take]; omega) (by rw [← k3]; simp [ints]) (by omega) k5 k6
  · refine hf y ?_
    cases j with
    | zero => replace hy : (L.take 0)[0]? = some y := hy; simp at hy
    | succ j => 
      replace hy : (L.take (j + 1))[0]? = some y := hy
      rw [List.getElem?_take] at hy ⊢
      rw [if_pos (by omega)] at hy
      rw [if_pos (by omega)]
      exact hy

end
end Go.Proofs.Ytdlkdagmaeapdaa

/- slices.Clone of numbers. No condition. -/
namespace Go.Proofs.Ytdlkdagmaeapdaa
open Go.RowKit
set_option linter.unusedVariables false
set_option linter.unusedSimpArgs false
set_option maxRecDepth 100000

theorem clone_ints (w : World) (ad : Addr) (l : List Int) (n cap : Nat) (hn : n = l.length) (hA : NumsAt w (some ad) l) (hmax : n ≤ 70368744177) :
    Calls Try.prog 72 #[.slice (some ad) n cap] w (IntsPost w l n) := by
  obtain ⟨i0, hi, hz0, hz1, hz2⟩ := info_parts infoIntW
  have HC := Lib.hid (show ∀ (j : Nat) (u : Value), (ints l)[j]? = some u → (w.alloc (.cells #[] 3)).cell? (ad.add j) = some u from fun j u hj => by
    simp only [ints, List.getElem?_map, Option.map_eq_some_iff] at hj
    obtain ⟨x, hx, rfl⟩ := hj
    obtain ⟨b, o, e, hc⟩ := (hA.still ((Turned.refl (fun _ => False) w).alloc (.cells #[] 3))) j x hx
    cases e
    rw [Addr.add_lit]
    exact hc)
  have H1 := Lib.hid (show ∀ u ∈ ints l, u.oneCell' = true from ow_ints (by simp [ints, isIntW]))
  have HL := Lib.hid (show (ints l).length = n * 1 by rw [ints_length, hn, Nat.mul_one])
  have hnil := fun W : World => Lib.run_eql_slice_nil (P := Try.prog) W 44 3 (some ad) n cap 0 0 Try.underlying44
  simp only [Option.isNone_some] at hnil
  clear hA hn
  go_enter Try.func72, Try.ntmps72
  go_wp2_with (at_builtin; refine wpList_append_own_at _ rfl _ _ 44 rfl w.heap.size 3 i0 (.int .i64 0) 1 8 Try.underlying44 hi hz0 hz1 hz2 rfl (by decide) _ _ _ rfl (World.ownsRow_made w #[] 0 (Nat.le_refl _) (by simp) (by simp)) ad n cap (ints l) rfl HL.out HC.out H1.out (by unfold maxLen; omega) (by omega) (by simp) ?_; intro v' w1 hown hgrow hnil hat; obtain ⟨aa, cc, rfl⟩ := ow_slice hown)
  go_ret
  rw [Nat.zero_add] at hown
  obtain ⟨aa, rfl⟩ : ∃ x, aa = some x := by
    cases aa with
    | none => rcases hat with h | h <;> cases h
    | some x => exact ⟨x, rfl⟩
  exact ⟨aa, cc, rfl, hown, ((Turned.refl (fun _ => False) w).alloc _).grown hgrow (fun k e => .inr (by cases e; exact Nat.le_refl _))⟩
end Go.Proofs.Ytdlkdagmaeapdaa

/- What Copy of the program's ledger makes. No condition but that it is one. -/
namespace Go.Proofs.Ytdlkdagmaeapdaa
open Go.RowKit
set_option linter.unusedVariables false
set_option linter.unusedSimpArgs false
set_option maxRecDepth 100000

section
variable {q : Nat} {a a6 : Option Addr} {c c6 N n : Nat} {f : Bool} {M : LgM} {w V w6 w' : World} {W : Nat → Prop}
theorem lgcopied {V w5 U : World} {a5 : Addr} {c5 : Nat} (hN : N = M.L.length + 1) (hf : ∀ x, M.L[0]? = some x → x.2.2 = f) (hs : Still w V) (ho : w5.ownsRow V.heap.size 3 1 (.slice (some a5) N c5) N (ints (marks M))) (ht : Still V w5) (hu : Still w5 U) :
    LNew lgT w M U.heap.size (U.alloc (.cells #[.slice (some a5) N c5, .bool f] 87)) := by
  obtain ⟨g, rfl⟩ := owm_addr' ho
  have hlt := ow_lt ho ⟨g, 0, none⟩ rfl
  have h5 := hu.size
  have h6 := hs.size
  have hlt1 : V.heap.size ≤ g := hlt.1
  have hlt2 : g < w5.heap.size := hlt.2
  refine ⟨fun k => k = U.heap.size ∨ k = g, ⟨some ⟨g, 0, none⟩, c5, f, ?_, hf⟩, ((hs.trans ht).trans hu).alloc _, fun k hk => ?_⟩
  · rw [← hN]
    refine ⟨(· = U.heap.size), (· = g), ⟨Blk.new U [.slice (some ⟨g, 0, none⟩) N c5, .bool f] 87, fun _ => Iff.rfl⟩, ⟨ow_base (ow_still ho (hu.alloc _)) (Nat.zero_le _), fun k => ⟨fun h => by rw [h]; rfl, fun h => by cases h; rfl⟩⟩, fun k h1 h2 => by omega, fun _ => Iff.rfl⟩
  · rcases hk with hk | hk
    · have := ht.size; omega
    · omega

set_option maxHeartbeats 4000000 in
theorem lgcopy_any (h : (lgT q M).at_ w W) (hM : M.Ok) :
    Calls Try.prog 51 #[.pointer (some ⟨q, 0, none⟩)] w fun e w' => ∃ q', e = .returned (.pointer (some ⟨q', 0, none⟩)) ∧ LNew lgT w M q' w' := by
  obtain ⟨a, c, f, h, hf⟩ := h
  have hr := lgX_rd rfl h
  obtain ⟨N, hN⟩ : ∃ N, N = M.L.length + 1 := ⟨_, rfl⟩
  rw [← hN] at hr
  have hn : N ≤ 257 := by have := hM.len; omega
  have HMd := Lib.hid (lgmade_any hr.c0 (by omega))
  obtain ⟨g, rfl, _⟩ := hr.row 0 _ rfl
  have HR := Lib.hid (fun V (hs : Still w V) => (⟨(hr.still hs).c0, (hr.still hs).c1⟩ : V.cell? ⟨q, 0, none⟩ = some (.slice (some ⟨g, 0, none⟩) N c) ∧ V.cell? ⟨q, 1, none⟩ = some (.bool f)))
  have HC := Lib.hid (fun V (hs : Still w V) => show Calls Try.prog 72 #[.slice (some ⟨g, 0, none⟩) N c] V fun e w' => ∃ a5 c5, e = .returned (.slice (some a5) N c5) ∧ V.heap.size ≤ w'.heap.size ∧ Still w w' ∧ Hid (∀ U, Still w' U → LNew lgT w M U.heap.size (U.alloc (.cells #[.slice (some a5) N c5, .bool f] 87))) from
    (clone_ints V ⟨g, 0, none⟩ (marks M) N c (by rw [marks_len]; exact hN) (fun i x hx => by
      obtain ⟨g', eg, h1⟩ := (hr.still hs).row i x hx
      cases eg
      exact ⟨g, 0, rfl, by rw [Nat.zero_add]; exact h1⟩) (by omega)).mono fun e w' ⟨a5, c5, he, ho, ht⟩ => ⟨a5, c5, he, ht.size, hs.trans ht, Lib.hid (fun U hu => lgcopied hN hf hs ho ht hu)⟩)
  have hT0 : Still w w := Turned.refl _ _
  have hTd : Still w w.drew := hT0.drew
  obtain ⟨c0, c1⟩ := HR.out w hT0
  clear h hr hM hN hf
  go_enter Try.func51, Try.ntmps51
  go_wp2_with (go_at_call 52; ((with_reducible refine HMd.out.mono ?_)); rintro e w1 ⟨rfl, rfl⟩)
  go_region_held3 (fun V => V.cell? ⟨q, 0, none⟩ = some (.slice (some ⟨g, 0, none⟩) N c) ∧ V.cell? ⟨q, 1, none⟩ = some (.bool f)) (first | assumption | exact ⟨by assumption, by assumption⟩ | go_keep)
    (first | (go_at_call 72; ((with_reducible refine (HC.out _ (by assumption)).mono ?_)); rintro e w5 ⟨a5, c5, rfl, hz5, hs5, HN5⟩; obtain ⟨d0, d1⟩ := HR.out w5 hs5))
  go_wp2_with fail
  go_ret
  exact ⟨_, rfl, HN5.out _ (Turned.refl _ _)⟩
end
end Go.Proofs.Ytdlkdagmaeapdaa

/- The program's ledger keeps its words. No condition. -/
namespace Go.Proofs.Ytdlkdagmaeapdaa
open Go.RowKit
set_option linter.unusedVariables false
set_option maxRecDepth 100000

theorem ledger_api : LedgerApi lgT where
  make_no := lgmake_no
  make_ok := lgmake_ok
  accept := fun h hM x _ _ => lgaccept_any h hM x
  skip := fun h hM x _ _ => lgskip_any h hM x
  from_ := fun h hM => lgfrom_any h
  end_ := fun h hM => lgend_any h hM
  accepted := fun h hM m hm => lgaccepted_any h hM hm
  skipped := fun h hM m hm => lgskipped_any h hM hm
  copy := fun h hM => lgcopy_any h hM
end Go.Proofs.Ytdlkdagmaeapdaa
