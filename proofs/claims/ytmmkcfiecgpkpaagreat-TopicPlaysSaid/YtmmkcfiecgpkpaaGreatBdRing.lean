/- Texts that lie next to one another, laid into one: each says what it holds. No condition but what each states. -/
import Derived.Test.YtmmkcfiecgpkpaaGreatBxRegRound
import Derived.OrdersIn
import Derived.Test.YtmmkcfiecgpkpaaGreatBdThing
import Derived.ArgAppend
import Derived.Deep.RegionHeld3
import Derived.Deep.RegionLaw
import Derived.Maps.AppendAt
import Derived.Test.YtmmkcfiecgpkpaaGreatBdRingZ
import Derived.BigQuiet
import Derived.Deep.DeepCutAuto
import Derived.RangeFuncNested
import Derived.RangeFuncBound
import Derived.RangeFuncCalls
import Derived.RangeFuncLeaves
import Derived.RangeFuncBox
import Derived.Shelf.Abstract
import Derived.Shelf.RegionOpen
import Derived.OwnWalkIn
import Derived.TacticsInMore
import Derived.LoopNIn
import Derived.LoopIn
import Derived.Stop.RegionWithIn
import Derived.BigRegionIn
import Derived.Test.YtmmkcfiecgpkpaaGreatBxRingApi

/- A region that draws its order, whose first operations only read, and of which one that comes behind all of them calls (the round of a loop over an iterator too): it may be walked in the order of the text, in a fence of whatever kind. No condition but that none of its operations is a defer statement. -/
namespace Go.Proofs.YtmmkcfiecgpkpaaGreat
open Go.RowKit
set_option linter.unusedVariables false

section
variable {F : Fence} {n : Nat} {P : Program} {md : Region.Mode} {ops : Array Oper} {Q : Exit → Act → World → Prop} {k : Nat} {w : World}

/-- Behind whatever comes up: an operation of the first so many leaves the world, and the rest goes on so; behind another one, in whatever order. -/
def readS (F : Fence) (n : Nat) (P : Program) (md : Region.Mode) (ops : Array Oper) (Q : Exit → Act → World → Prop) (k : Nat) (w : World) : Nat → Array Bool → Act → Prop
  | 0, L, a => Region.ready md ops L = [] ∧ Q .normal a w
  | fuel + 1, L, a => (Region.ready md ops L = [] → Q .normal a w) ∧ ∀ i ∈ Region.ready md ops L,
      wpOpIn F n P ops Q i (fun a' w' => if i < k then w' = w ∧ readS F n P md ops Q k w fuel (L.setIfInBounds i true) a' else wpAnyIn F n P md ops Q fuel (L.setIfInBounds i true) a' w') a w

theorem readS_any : ∀ (fuel : Nat) (L : Array Bool) (a : Act), readS F n P md ops Q k w fuel L a → wpAnyIn F n P md ops Q fuel L a w
  | 0, _, _, h => h
  | fuel + 1, L, a, h => ⟨h.1, fun i hi => wpOpIn_mono (fun a' w' h' => by
      split at h'
      · rw [h'.1]; exact readS_any fuel _ _ h'.2
      · exact h') (h.2 i hi)⟩

/-- What is listed has all behind which it must come listed. -/
def closedL (md : Region.Mode) (ops : Array Oper) (L : Array Bool) : Prop := ∀ (j : Nat) (o : Oper), ops[j]? = some o → L.getD j true = true → ∀ e ∈ o.after, Region.binds md e = true → L.getD e.on false = true
theorem closedL_start : closedL md ops (Array.replicate ops.size false) := fun j o ho h => by
  have := (Array.getElem?_eq_some_iff.1 ho).1
  simp [this] at h
theorem closedL_step {L : Array Bool} {i : Nat} (h : closedL md ops L) (hi : i ∈ Region.ready md ops L) : closedL md ops (L.setIfInBounds i true) := fun j o ho hj e he hb => by
  by_cases hij : i = j
  · subst hij
    obtain ⟨_, o', ho', hall⟩ := mem_ready.1 hi
    rw [ho] at ho'; cases ho'
    exact getD_set_true (hall e he hb)
  · rw [getD_set_ne true hij] at hj
    exact getD_set_true (h j o ho hj e he hb)
theorem unlisted {L : Array Bool} {i : Nat} (h0 : L.getD i true = false) (h1 : L.getD i false = true) : False := by
  rcases Nat.lt_or_ge i L.size with h' | h'
  · simp [h'] at h0 h1; rw [h0] at h1; cases h1
  · simp [Array.getElem?_eq_none h'] at h1

/-- Operation s must come behind operation i. -/
def behind (md : Region.Mode) (ops : Array Oper) (s i : Nat) : Bool := match ops[s]? with
  | some o => o.after.any fun e => Region.binds md e && e.on == i
  | none => false
/-- From each of the first so many a way leads to number k; and each behind it comes behind one of those from k on. -/
def leads (md : Region.Mode) (ops : Array Oper) (k : Nat) : Bool :=
  ((List.range k).all fun i => (List.range (k + 1)).any fun s => decide (i < s) && behind md ops s i) &&
  ((List.range ops.size).all fun s => decide (s ≤ k) || (List.range s).any fun e => decide (k ≤ e) && behind md ops s e)
theorem behind_spec {s i : Nat} (h : behind md ops s i = true) : ∃ o, ops[s]? = some o ∧ ∃ e ∈ o.after, Region.binds md e = true ∧ e.on = i := by
  unfold behind at h
  split at h
  · rename_i o ho
    obtain ⟨e, he, hb⟩ := Array.any_eq_true'.1 h
    simp only [Bool.and_eq_true, beq_iff_eq] at hb
    exact ⟨o, ho, e, he, hb⟩
  · cases h

theorem late_no {L : Array Bool} (hc : closedL md ops L) (hl : leads md ops k = true) {i : Nat} (hik : i < k) (hi : L.getD i true = false) : ∀ j ∈ Region.ready md ops L, j < k := by
  unfold leads at hl
  rw [Bool.and_eq_true, List.all_eq_true, List.all_eq_true] at hl
  obtain ⟨hl1, hl2⟩ := hl
  -- who must come behind what is not listed is not listed, and may not come up
  have hno : ∀ s t, behind md ops s t = true → L.getD t true = false → L.getD s true = false ∧ s ∉ Region.ready md ops L := fun s t hb ht => by
    obtain ⟨o, ho, e, he, hbi, rfl⟩ := behind_spec hb
    refine ⟨?_, fun hr => ?_⟩
    · cases hs : L.getD s true with
      | false => rfl
      | true => exact (unlisted ht (hc s o ho hs e he hbi)).elim
    · obtain ⟨_, o', ho', hall⟩ := mem_ready.1 hr
      rw [ho] at ho'; cases ho'
      exact unlisted ht (hall e he hbi)
  have hA : ∀ d i, k - i = d → i < k → L.getD i true = false → L.getD k true = false ∧ k ∉ Region.ready md ops L := by
    intro d
    induction d using Nat.strongRecOn with
    | ind d ih =>
      intro i hd hik hi
      have h1 := hl1 i (List.mem_range.2 hik)
      rw [List.any_eq_true] at h1
      obtain ⟨s, hs, hb⟩ := h1
      rw [Bool.and_eq_true, decide_eq_true_eq] at hb
      have hsk := List.mem_range.1 hs
      have h2 := hno s i hb.2 hi
      by_cases e : s = k
      · subst e; exact h2
      · exact ih (k - s) (by omega) s rfl (by omega) h2.1
  have hk := hA _ i rfl hik hi
  have hB : ∀ s, k ≤ s → s < ops.size → L.getD s true = false ∧ s ∉ Region.ready md ops L := by
    intro s
    induction s using Nat.strongRecOn with
    | ind s ih =>
      intro hks hsz
      by_cases e : s = k
      · subst e; exact hk
      · have h1 := hl2 s (List.mem_range.2 hsz)
        rw [Bool.or_eq_true, decide_eq_true_eq, List.any_eq_true] at h1
        rcases h1 with h1 | ⟨t, ht, hb⟩
        · omega
        · rw [Bool.and_eq_true, decide_eq_true_eq] at hb
          have htl := List.mem_range.1 ht
          exact hno s t hb.2 (ih t htl hb.1 (by omega)).1
  intro j hj
  rcases Nat.lt_or_ge j k with h | h
  · exact h
  · obtain ⟨_, o, ho, _⟩ := mem_ready.1 hj
    exact ((hB j h (Array.getElem?_eq_some_iff.1 ho).1).2 hj).elim

/-- In this state, in this world, the operation yields this value, and does nothing else. -/
def YieldsAt (P : Program) (ops : Array Oper) (w : World) (o : Oper) (v : Value) (a : Act) : Prop :=
  Region.wanted o (yielded ops a.tmps) = true ∧ (execOp a.eval o).run P w = .ok (.value v) w ∧ ∀ w, o.about P w a.eval = none
theorem YieldsAt.of_same {o : Oper} {v : Value} {a a' : Act} (hy : YieldsAt P ops w o v a) (he : execOp a'.eval o = execOp a.eval o)
    (hw : Region.wanted o (yielded ops a'.tmps) = Region.wanted o (yielded ops a.tmps)) (hb : ∀ w, o.about P w a'.eval = o.about P w a.eval) : YieldsAt P ops w o v a' :=
  ⟨hw.trans hy.1, by rw [he]; exact hy.2.1, fun w => by rw [hb w]; exact hy.2.2 w⟩

theorem wpOpIn_yields {i : Nat} {o : Oper} {v : Value} {a : Act} (hnd : noDefer ops = true) (hi : ops[i]? = some o) (hy : YieldsAt P ops w o v a) {K : Act → World → Prop} (h : K (a.put o.dst v) w) : wpOpIn F n P ops Q i K a w := by
  have hd := noDefer_spec hnd i o hi
  unfold wpOpIn
  simp only [hi, hy.1, if_true]
  unfold Oper.wpIn
  refine ⟨fun f hf => (by rw [hy.2.2 w] at hf; cases hf), ?_⟩
  rw [Oper.semAt_eq _ _ _ hd, hy.2.1]
  exact h

theorem wpOpIn_read {j : Nat} {oi oj : Oper} {v : Value} {w1 : World} (hnd : noDefer ops = true) (hj : ops[j]? = some oj) (hap : oi.apart ops oj = true)
    (hsi : ∀ cs b, oi.op ≠ .select cs b) (hsj : ∀ cs b, oj.op ≠ .select cs b)
    (hQ : ∀ c a w, Q (.panic c) (a.put oi.dst v) w → Q (.panic c) a w) {K : Act → World → Prop} {a : Act}
    (hy : YieldsAt P ops w1 oi v a) (h : wpOpIn F n P ops Q j K (a.put oi.dst v) w) :
    wpOpIn F n P ops Q j (fun a' w' => YieldsAt P ops w1 oi v a' ∧ K (a'.put oi.dst v) w') a w := by
  obtain ⟨h1, h2, h3⟩ := Oper.apart_spec hap
  have hd := noDefer_spec hnd j oj hj
  have keep' : ∀ (a : Act), YieldsAt P ops w1 oi v a → ∀ u, YieldsAt P ops w1 oi v (a.put oj.dst u) := fun a hy u => hy.of_same (execOp_put oi hsi a oj.dst u h3) (wanted_put oi a oj.dst u h3) (fun w => about_put oi w a oj.dst u h3)
  have keep := keep' a hy
  unfold wpOpIn at *
  simp only [hj] at *
  rw [wanted_put oj a oi.dst v h1, about_put oj w a oi.dst v h1] at h
  split
  · rename_i hw
    simp only [hw, if_true] at h
    unfold Oper.wpIn at *
    rw [about_put oj w a oi.dst v h1, Oper.semAt_eq _ _ _ hd, execOp_put oj hsj a oi.dst v h1] at h
    rw [Oper.semAt_eq _ _ _ hd]
    refine ⟨h.1, ?_⟩
    have h := h.2
    have put : ∀ u w', K ((a.put oi.dst v).put oj.dst u) w' → YieldsAt P ops w1 oi v (a.put oj.dst u) ∧ K ((a.put oj.dst u).put oi.dst v) w' := fun u w' hk => ⟨keep u, by rw [← Act.put_comm a v u h2]; exact hk⟩
    cases hr : (execOp a.eval oj).run P w with
    | ok x w' =>
      rw [hr] at h
      cases x <;> simp only [Oper.uponIn] at h ⊢
      case value u => exact put _ _ h
      case skip => exact put _ _ h
      case defer d =>
        refine ⟨keep' ({ tmps := a.tmps, defers := d :: a.defers } : Act) (YieldsAt.of_same hy rfl rfl (fun _ => rfl)) undef, ?_⟩
        rw [Act.put_defers, Act.put_comm _ v undef h2] at h
        exact h
      case enter f args =>
        refine ⟨h.1, CallsIn.mono h.2 fun e w'' he => ?_⟩
        cases e with
        | returned u => exact put _ _ he
        | panicked c => exact hQ _ _ _ he
        | outgrown => exact he
      case row row args => exact ⟨h.1, RowsIn.mono h.2 fun u w'' he => put _ _ he⟩
      case round l f tmps assign body =>
        refine ⟨h.1, RoundIn.mono h.2 fun e w'' he => ?_⟩
        cases e with
        | returned u => exact put _ _ he
        | panicked c => exact hQ _ _ _ he
        | outgrown => exact he
    | halt x w' =>
      rw [hr] at h
      cases x <;> simp only [Oper.uponIn] at h ⊢
      case panic u => exact hQ _ _ _ h
  · rename_i hw
    simp only [hw] at h
    exact ⟨h.1, keep _, by rw [← Act.put_comm a v undef h2]; exact h.2⟩

theorem readS_first {i : Nat} {oi : Oper} {v : Value} (hnd : noDefer ops = true) (hl : leads md ops k = true) (hik : i < k) (hi : ops[i]? = some oi) (hsel : ∀ (j : Nat) (o : Oper) cs b, ops[j]? = some o → o.op ≠ .select cs b)
    (hQ : ∀ c a w, Q (.panic c) (a.put oi.dst v) w → Q (.panic c) a w) :
    ∀ (fuel : Nat) (L : Array Bool) (a : Act), closedL md ops L →
      (∀ j oj, ops[j]? = some oj → j ≠ i → L.getD j true = false → (∀ e ∈ oj.after, Region.binds md e = true → e.on ≠ i) → oi.apart ops oj = true) →
      i ∈ Region.ready md ops L → YieldsAt P ops w oi v a →
      readS F n P md ops Q k w fuel (L.setIfInBounds i true) (a.put oi.dst v) → readS F n P md ops Q k w (fuel + 1) L a := by
  intro fuel
  induction fuel with
  | zero =>
    intro L a hc _ hr hy H
    refine ⟨fun h => (by rw [h] at hr; cases hr), fun j hj => ?_⟩
    by_cases hji : j = i
    · subst hji; exact wpOpIn_yields hnd hi hy (by rw [if_pos hik]; exact ⟨rfl, H⟩)
    · have := ready_mono hj hji
      rw [H.1] at this
      cases this
  | succ fuel ih =>
    intro L a hc hfree hr hy H
    refine ⟨fun h => (by rw [h] at hr; cases hr), fun j hj => ?_⟩
    by_cases hji : j = i
    · subst hji; exact wpOpIn_yields hnd hi hy (by rw [if_pos hik]; exact ⟨rfl, H⟩)
    · have h1 := H.2 j (ready_mono hj hji)
      have h0 := (mem_ready.1 hr).1
      have hjk := late_no hc hl hik h0 j hj
      obtain ⟨hjun, oj, hoj, hall⟩ := mem_ready.1 hj
      have hnot : ∀ e ∈ oj.after, Region.binds md e = true → e.on ≠ i := fun e he hb heq => unlisted h0 (heq ▸ hall e he hb)
      have h2 := wpOpIn_read hnd hoj (hfree j oj hoj hji hjun hnot) (fun cs b => hsel i oi cs b hi) (fun cs b => hsel j oj cs b hoj) hQ hy h1
      have hfree' : ∀ m om, ops[m]? = some om → m ≠ i → (L.setIfInBounds j true).getD m true = false →
          (∀ e ∈ om.after, Region.binds md e = true → e.on ≠ i) → oi.apart ops om = true := fun m om hm hmi hun hno => by
        refine hfree m om hm hmi ?_ hno
        by_cases hjm : j = m
        · subst hjm; exact hjun
        · rw [getD_set_ne true hjm] at hun; exact hun
      refine wpOpIn_mono (fun a' w' h3 => ?_) h2
      obtain ⟨h3, h4⟩ := h3
      rw [if_pos hjk] at h4 ⊢
      obtain ⟨rfl, h4⟩ := h4
      refine ⟨rfl, ih (L.setIfInBounds j true) a' (closedL_step hc hj) hfree' (ready_mono hr (Ne.symm hji)) h3 ?_⟩
      rw [Array.setIfInBounds_comm _ _ hji]
      exact h4
end

/-- The same with the list of what has come up known to be whole. -/
def readC (F : Fence) (n : Nat) (P : Program) (md : Region.Mode) (ops : Array Oper) (Q : Exit → Act → World → Prop) (k : Nat) (w : World) (fuel : Nat) (L : Array Bool) (a : Act) : Prop := closedL md ops L → readS F n P md ops Q k w fuel L a

section
variable {F : Fence} {n : Nat} {P : Program} {md : Region.Mode} {ops : Array Oper} {Q : Exit → Act → World → Prop} {k : Nat} {w : World}

theorem region_reads {id : Nat} {a : Act} (k : Nat) (hm : P.follows .mixedOrders = true)
    (h : readC F n P .any ops Q k w.drew ops.size (Array.replicate ops.size false) a) : (Code.region id ops true).wpIn F n P Q a w :=
  wpIn_region_any hm (readS_any _ _ _ (h closedL_start))

/-- One that reads comes up. -/
theorem reads_take {i : Nat} {oi : Oper} {v : Value} {fuel : Nat} {L : Array Bool} {a : Act} (hi : ops[i]? = some oi) (hnd : noDefer ops = true) (hl : leads md ops k = true) (hs : Region.noSelect ops = true) (hik : decide (i < k) = true)
    (hf : Region.free md ops L i = true) (hr : (Region.ready md ops L).contains i = true) (hQ : ∀ c a w, Q (.panic c) (a.put oi.dst v) w → Q (.panic c) a w)
    (hw : Region.wanted oi (yielded ops a.tmps) = true) (hab : ∀ w, oi.about P w a.eval = none) (hy : (execOp a.eval oi).run P w = .ok (.value v) w)
    (h : readC F n P md ops Q k w fuel (L.setIfInBounds i true) (a.put oi.dst v)) : readC F n P md ops Q k w (fuel + 1) L a := fun hc =>
  have hr' : i ∈ Region.ready md ops L := by simpa using hr
  readS_first hnd hl (by simpa using hik) hi (Region.noSelect_spec hs) hQ fuel L a hc (Region.free_spec hi hf) hr' ⟨hw, hy, hab⟩ (h (closedL_step hc hr'))

/-- The one behind them comes up. -/
theorem reads_call {i : Nat} {o : Oper} {fuel : Nat} {L : Array Bool} {a : Act} (hr : Region.ready md ops L = [i]) (hik : decide (i < k) = false) (ho : ops[i]? = some o)
    (h : ∀ K' : Act → World → Prop, (∀ a' w', wpAnyIn F n P md ops Q fuel (L.setIfInBounds i true) a' w' → K' a' w') → if Region.wanted o (yielded ops a.tmps) = true then Oper.wpIn F n P o a w K' Q else (∀ f, o.about P w a.eval = some f → F.fn f) ∧ K' (a.put o.dst undef) w) :
    readC F n P md ops Q k w (fuel + 1) L a := fun _ =>
  ⟨fun h0 => (by rw [hr] at h0; cases h0), fun j hj => by
    rw [hr] at hj
    obtain rfl : j = i := by simpa using hj
    refine wpOpIn_step ho fun K' hK => h K' fun a' w' h' => hK a' w' ?_
    rw [if_neg (by simpa using hik)]
    exact h'⟩
end
end Go.Proofs.YtmmkcfiecgpkpaaGreat

/- A slice of one's own that is a part of its block: behind it lies its room, ahead of it what was cut off; elements of one cell. What a store, a cut and an append leave of it. No condition. -/
namespace Go.Proofs.YtmmkcfiecgpkpaaGreat
open Go.RowKit
set_option linter.unusedVariables false
set_option linter.unusedSimpArgs false
set_option maxRecDepth 100000

/-- The block that it lies in, where it has room for anything. -/
def PB (ao : Option Addr) (cc : Nat) (k : Nat) : Prop := 0 < cc ∧ ∃ a, ao = some a ∧ a.block = k

/-- A part of a block: so many elements, and room for so many. -/
def Part (w : World) (e : TypeId) (ao : Option Addr) (n cc : Nat) (xs : List Value) : Prop :=
  xs.length = n ∧ n ≤ cc ∧ cc ≤ maxLen ∧ (0 < cc → ∃ g o pre sp, ao = some ⟨g, o, none⟩ ∧ Blk w g (pre ++ (xs ++ sp)) e ∧ pre.length = o ∧ (xs ++ sp).length = cc)

theorem Part.nil (w : World) (e : TypeId) (ao : Option Addr) : Part w e ao 0 0 [] := ⟨rfl, Nat.le_refl _, Nat.zero_le _, fun h => absurd h (Nat.lt_irrefl _)⟩
theorem Part.len {w : World} {e : TypeId} {ao : Option Addr} {n cc : Nat} {xs : List Value} (h : Part w e ao n cc xs) : xs.length = n := h.1
theorem Part.le {w : World} {e : TypeId} {ao : Option Addr} {n cc : Nat} {xs : List Value} (h : Part w e ao n cc xs) : n ≤ cc := h.2.1
theorem Part.max {w : World} {e : TypeId} {ao : Option Addr} {n cc : Nat} {xs : List Value} (h : Part w e ao n cc xs) : cc ≤ maxLen := h.2.2.1
theorem Part.lt {w : World} {e : TypeId} {ao : Option Addr} {n cc : Nat} {xs : List Value} (h : Part w e ao n cc xs) {k : Nat} (hk : PB ao cc k) : k < w.heap.size := by
  obtain ⟨h0, a, ha, rfl⟩ := hk
  obtain ⟨g, o, pre, sp, e1, hb, _⟩ := h.2.2.2 h0
  rw [e1] at ha
  cases ha
  exact hb.lt
theorem Part.turned {S : Nat → Prop} {w w' : World} {e : TypeId} {ao : Option Addr} {n cc : Nat} {xs : List Value} (h : Part w e ao n cc xs) (ht : Turned S w w') (hs : ∀ k, PB ao cc k → ¬ S k) : Part w' e ao n cc xs := by
  refine ⟨h.1, h.2.1, h.2.2.1, fun h0 => ?_⟩
  obtain ⟨g, o, pre, sp, rfl, hb, h1, h2⟩ := h.2.2.2 h0
  exact ⟨g, o, pre, sp, rfl, hb.turned ht (hs g ⟨h0, _, rfl, rfl⟩), h1, h2⟩
theorem Part.still {w w' : World} {e : TypeId} {ao : Option Addr} {n cc : Nat} {xs : List Value} (h : Part w e ao n cc xs) (ht : Still w w') : Part w' e ao n cc xs := h.turned ht (fun _ _ h => h)
/-- A cell of it. -/
theorem Part.cell {w : World} {e : TypeId} {ao : Option Addr} {n cc : Nat} {xs : List Value} (h : Part w e ao n cc xs) {j : Nat} {v : Value} (hj : xs[j]? = some v) :
    ∃ g o, ao = some ⟨g, o, none⟩ ∧ PB ao cc g ∧ w.cell? ⟨g, o + j, none⟩ = some v ∧ w.frozen? ⟨g, o + j, none⟩ = false := by
  have hl := (List.getElem?_eq_some_iff.1 hj).1
  have h0 : 0 < cc := by have := h.1; have := h.2.1; omega
  obtain ⟨g, o, pre, sp, rfl, hb, rfl, h2⟩ := h.2.2.2 h0
  refine ⟨g, _, rfl, ⟨h0, _, rfl, rfl⟩, hb.cell ?_, hb.free _⟩
  rw [List.getElem?_append_right (by omega), Nat.add_sub_cancel_left, List.getElem?_append_left hl]
  exact hj
/-- A store into it. -/
theorem Part.set {w : World} {e : TypeId} {g o n cc : Nat} {xs : List Value} (h : Part w e (some ⟨g, o, none⟩) n cc xs) {j : Nat} (hj : j < n) (v : Value) : Part (w.setCell ⟨g, o + j, none⟩ v) e (some ⟨g, o, none⟩) n cc (xs.set j v) := by
  have hl := h.1
  refine ⟨by simpa using hl, h.2.1, h.2.2.1, fun h0 => ?_⟩
  obtain ⟨g', o', pre, sp, e1, hb, h1, h2⟩ := h.2.2.2 h0
  cases e1
  refine ⟨g, o, pre, sp, rfl, ?_, h1, by simpa using h2⟩
  have := hb.set (o + j) v
  rwa [List.set_append_right _ _ (by omega), show o + j - pre.length = j by omega, List.set_append_left _ _ (by omega)] at this
/-- The first ones are cut off. -/
theorem Part.drop {w : World} {e : TypeId} {ao : Option Addr} {n cc : Nat} {xs : List Value} (h : Part w e ao n cc xs) {k : Nat} (hk : k ≤ n) : Part w e (if cc = k then ao else ao.map (fun x => x.add k)) (n - k) (cc - k) (xs.drop k) := by
  have hl := h.1
  have hle := h.2.1
  refine ⟨by rw [List.length_drop]; omega, by omega, Nat.le_trans (Nat.sub_le _ _) h.2.2.1, fun h0 => ?_⟩
  obtain ⟨g, o, pre, sp, rfl, hb, h1, h2⟩ := h.2.2.2 (by omega)
  refine ⟨g, o + k, pre ++ xs.take k, sp, ?_, ?_, by rw [List.length_append, List.length_take]; omega, by rw [List.length_append] at h2 ⊢; rw [List.length_drop]; omega⟩
  · rw [if_neg (by omega)]; simp [Addr.add_lit]
  · rw [List.append_assoc, ← List.append_assoc (xs.take k), List.take_append_drop]; exact hb
theorem Part.drop_pb {ao : Option Addr} {cc k : Nat} {i : Nat} (h : PB (if cc = k then ao else ao.map (fun x => x.add k)) (cc - k) i) : PB ao cc i := by
  obtain ⟨h0, a, ha, rfl⟩ := h
  rw [if_neg (by omega)] at ha
  cases ao with
  | none => cases ha
  | some x =>
    refine ⟨by omega, x, rfl, ?_⟩
    simp only [Option.map_some, Option.some.injEq] at ha
    rw [← ha]
    obtain ⟨b, o, r⟩ := x
    cases r <;> (unfold Addr.add; split <;> rfl)
/-- The numbers that were cut off can be read where they lay. -/
theorem Part.nums {w : World} {e : TypeId} {ao : Option Addr} {n cc : Nat} {l : List Int} (h : Part w e ao n cc (ints l)) : NumsAt w ao l := fun i x hx => by
  obtain ⟨g, o, h1, _, h2, _⟩ := h.cell (ints_get hx)
  exact ⟨g, o, h1, h2⟩
theorem Part.lt_of {w : World} {e : TypeId} {a : Addr} {n cc : Nat} {xs : List Value} (h : Part w e (some a) n cc xs) (h0 : 0 < cc) : ∃ g o, a = ⟨g, o, none⟩ := by
  obtain ⟨g, o, pre, sp, e1, _⟩ := h.2.2.2 h0
  cases e1
  exact ⟨g, o, rfl⟩
theorem Part.none_nil {w : World} {e : TypeId} {n cc : Nat} {xs : List Value} (h : Part w e none n cc xs) : n = 0 ∧ cc = 0 := by
  rcases Nat.eq_zero_or_pos cc with h0 | h0
  · have := h.2.1; omega
  · obtain ⟨_, _, _, _, e1, _⟩ := h.2.2.2 h0; cases e1
theorem Part.of_own {w : World} {B : Nat} {e : TypeId} {ao : Option Addr} {n cc : Nat} {xs : List Value} (h : w.ownsRow B e 1 (.slice ao n cc) n xs) : Part w e ao n cc xs ∧ ∀ k, PB ao cc k → B ≤ k := by
  have hx : xs.length = n := by have := h.1; omega
  rcases h.2 with ⟨e0, rfl⟩ | ⟨g, cap, cur, e0, hB, hg, h1, h2, h3, ht⟩
  · simp at e0
    obtain ⟨rfl, rfl⟩ := e0
    obtain rfl : xs = [] := List.eq_nil_of_length_eq_zero hx
    exact ⟨Part.nil _ _ _, fun k hk => absurd hk.1 (Nat.lt_irrefl _)⟩
  · simp at e0
    obtain ⟨rfl, rfl⟩ := e0
    rw [Nat.mul_one] at ht h3
    refine ⟨⟨hx, h1, h2, fun h0 => ⟨g, 0, [], cur.toList.drop n, rfl, ?_, rfl, ?_⟩⟩, fun k ⟨_, a, ha, hk⟩ => by cases ha; rw [← hk]; exact hB⟩
    · unfold Blk
      rw [List.nil_append, ← ht, List.take_append_drop, hg]
    · rw [← ht, List.take_append_drop]; simpa using h3

/-- One element more. -/
theorem run_append_part {P : Program} {w : World} (t ty e : TypeId) (i : TypeInfo) (z : Value) (bytes : Nat) (ht : P.underlying t = some (.slice e)) (hi : P.info? e = some i) (hz : i.zero = some z)
    (hsize : i.size = 1) (hby : i.bytes = bytes) (hzs : z.cells.size = 1) {ao : Option Addr} {n cc : Nat} {xs : List Value} (h : Part w e ao n cc xs)
    (ad : Addr) (c : Nat) (u : Value) (hnews : w.cell? ad = some u) (had : ad.add 0 = ad) (h1 : u.oneCell' = true) (hn : n < 1000000) (hb : bytes ≤ 8) :
    ∃ a' c' w', (Builtin.append_ #[t, t] ty #[.slice ao n cc, .slice (some ad) 1 c]).run P w = .ok (.slice a' (n + 1) c') w' ∧ Part w' e a' (n + 1) c' (xs ++ [u]) ∧ Turned (PB ao cc) w w' ∧ (∀ k, PB a' c' k → PB ao cc k ∨ w.heap.size ≤ k) := by
  have hl := h.1
  have hnews' : ∀ j v, [u][j]? = some v → w.cell? (ad.add j) = some v := by
    intro j v hj
    match j, hj with
    | 0, hj => simp at hj; subst hj; rw [had]; exact hnews
  have h1' : ∀ v ∈ [u], v.oneCell' = true := by intro v hv; simp at hv; subst hv; exact h1
  have h63 : n + 1 ≤ maxLen := by unfold maxLen; omega
  have hbytes : (n + 1) * bytes ≤ 140737488355328 := by
    have : (n + 1) * bytes ≤ 1000000 * 8 := Nat.mul_le_mul (by omega) hb
    omega
  by_cases hr : n + 1 ≤ cc
  · obtain ⟨g, o, pre, sp, rfl, hblk, h2, h3⟩ := h.2.2.2 (by omega)
    have hc : w.cell? ⟨g, o + n, none⟩ = some ((pre ++ (xs ++ sp))[o + n]?.getD u) := by
      refine hblk.cell ?_
      rw [List.getElem?_eq_getElem (by rw [List.length_append]; omega)]; rfl
    have hrun := run_append_room_cells (P := P) w t ty e i ht hi g o n cc ad 1 c [u] (by simp [hsize]) hnews' h1' hr
      (fun j hj => by
        obtain rfl : j = 0 := by simpa using hj
        rw [hsize, Nat.mul_one, Nat.add_zero, hc]; rfl) (fun j hj => hblk.free _)
    rw [hsize, Nat.mul_one] at hrun
    refine ⟨_, _, _, hrun, ⟨by simp [hl], hr, h.2.2.1, fun h0 => ⟨g, o, pre, sp.drop 1, rfl, ?_, h2, ?_⟩⟩, ?_, fun k hk => .inl hk⟩
    · have := hblk.set (o + n) u
      rw [List.set_append_right _ _ (by omega), show o + n - pre.length = n by omega, List.set_append_right _ _ (by omega), show n - xs.length = 0 by omega] at this
      have hsp : sp.set 0 u = u :: sp.drop 1 := by
        cases sp with
        | nil => simp at h3; omega
        | cons a r => rfl
      rw [hsp] at this
      rw [List.append_assoc]
      exact this
    · rw [List.length_append] at h3
      simp only [List.length_append, List.length_drop, List.length_cons, List.length_nil]; omega
    · exact (Turned.refl (PB (some ⟨g, o, none⟩) cc) w).setCell (p := ⟨g, o + n, none⟩) (.inl ⟨by omega, _, rfl, rfl⟩) u
  · cases ao with
    | some a =>
      have holds : ∀ j v, xs[j]? = some v → w.cell? (a.add j) = some v := fun j v hj => by
        obtain ⟨g, o, e1, _, h2, _⟩ := h.cell hj
        cases e1
        rw [Addr.add_lit]; exact h2
      obtain ⟨v', w', hrun, r1, r2⟩ := run_append_arg_grows (P := P) w t ty e i z 1 bytes ht hi hz hsize hby hzs (by omega) a n cc xs (by omega) holds ad 1 c [u] (by simp) hnews' (by omega) h63 hbytes
      obtain ⟨a', c', rfl⟩ := ow_slice r1
      obtain ⟨p1, p2⟩ := Part.of_own r1
      exact ⟨a', c', w', hrun, p1, (Turned.refl _ w).grown r2 (fun k e => by cases e), fun k hk => .inr (p2 k hk)⟩
    | none =>
      obtain ⟨rfl, rfl⟩ := h.none_nil
      obtain rfl : xs = [] := List.eq_nil_of_length_eq_zero hl
      obtain ⟨v', w', hrun, r1, r2, _⟩ := run_append_own (P := P) w w.heap.size t ty e i z 1 bytes ht hi hz hsize hby hzs (by omega) (.slice none 0 0) 0 [] (World.ownsRow_nil w _ e 1) ad 1 c [u] (by simp) hnews' h1' (by omega) hbytes (Nat.le_refl _)
      obtain ⟨a', c', rfl⟩ := ow_slice r1
      obtain ⟨p1, p2⟩ := Part.of_own r1
      exact ⟨a', c', w', by simpa using hrun, by simpa using p1, (Turned.refl _ w).grown r2 (fun k e => by cases e), fun k hk => .inr (p2 k hk)⟩

/-- The same as one step of a region. -/
theorem step_append_part {P : Program} {ops : Array Oper} {o : Oper} {a : Act} {w : World} {K : Act → World → Prop} {Q : Exit → Act → World → Prop} {E : Prop}
    (hg : o.guard = none) (s x : Operand) (t : TypeId) (hop : o.op = Op.call { callee := Callee.builtin Builtin.append, args := #[s, x], argTypes := #[t, t] })
    (e : TypeId) (i : TypeInfo) (z : Value) (bytes : Nat) (ht : P.underlying t = some (.slice e)) (hi : P.info? e = some i) (hz : i.zero = some z)
    (hsize : i.size = 1) (hby : i.bytes = bytes) (hzs : z.cells.size = 1) (ao : Option Addr) (n cc : Nat) (xs : List Value) (hs : a.eval s = .slice ao n cc) (h : Part w e ao n cc xs)
    (ad : Addr) (c : Nat) (u : Value) (hx : a.eval x = .slice (some ad) 1 c) (hnews : w.cell? ad = some u) (had : ad.add 0 = ad) (h1 : u.oneCell' = true) (hn : n < 1000000) (hb : bytes ≤ 8)
    (hK : ∀ a' c' w', Part w' e a' (n + 1) c' (xs ++ [u]) → Turned (PB ao cc) w w' → (∀ k, PB a' c' k → PB ao cc k ∨ w.heap.size ≤ k) → K (a.put o.dst (.slice a' (n + 1) c')) w') :
    if Region.wanted o (yielded ops a.tmps) = true then Oper.wp P o a w K Q else E := by
  have hw : Region.wanted o (yielded ops a.tmps) = true := by simp [Region.wanted, hg]
  rw [if_pos hw]
  obtain ⟨a', c', w', hrun, r1, r2, r3⟩ := run_append_part (P := P) t o.type e i z bytes ht hi hz hsize hby hzs h ad c u hnews had h1 hn hb
  unfold Oper.wp
  simp [execOp, hop, resolve, invoke, builtin, hs, hx, hrun, Result.andThen]
  exact hK _ _ _ r1 r2 r3
theorem wpList_append_part {P : Program} {w : World} {ops : Array Oper} {rest : List Oper} {o : Oper} {a : Act} {Q : Exit → Act → World → Prop}
    (hg : o.guard = none) (s x : Operand) (t : TypeId) (hop : o.op = Op.call { callee := Callee.builtin Builtin.append, args := #[s, x], argTypes := #[t, t] })
    (e : TypeId) (i : TypeInfo) (z : Value) (bytes : Nat) (ht : P.underlying t = some (.slice e)) (hi : P.info? e = some i) (hz : i.zero = some z)
    (hsize : i.size = 1) (hby : i.bytes = bytes) (hzs : z.cells.size = 1) (ao : Option Addr) (n cc : Nat) (xs : List Value) (hs : a.eval s = .slice ao n cc) (h : Part w e ao n cc xs)
    (ad : Addr) (c : Nat) (u : Value) (hx : a.eval x = .slice (some ad) 1 c) (hnews : w.cell? ad = some u) (had : ad.add 0 = ad) (h1 : u.oneCell' = true) (hn : n < 1000000) (hb : bytes ≤ 8)
    (hK : ∀ a' c' w', Part w' e a' (n + 1) c' (xs ++ [u]) → Turned (PB ao cc) w w' → (∀ k, PB a' c' k → PB ao cc k ∨ w.heap.size ≤ k) → wpList P ops Q rest (a.put o.dst (.slice a' (n + 1) c')) w') : wpList P ops Q (o :: rest) a w := by
  refine wpList_plain hg fun K hK' => ?_
  obtain ⟨a', c', w', hrun, r1, r2, r3⟩ := run_append_part (P := P) t o.type e i z bytes ht hi hz hsize hby hzs h ad c u hnews had h1 hn hb
  unfold Oper.wp
  simp [execOp, hop, resolve, invoke, builtin, hs, hx, hrun, Result.andThen]
  exact hK' _ _ (hK _ _ _ r1 r2 r3)
end Go.Proofs.YtmmkcfiecgpkpaaGreat

/- The program's ring, as it lies in memory: what it holds, and what single stores leave of it. No condition. -/
namespace Go.Proofs.YtmmkcfiecgpkpaaGreat
open Go.RowKit
set_option linter.unusedVariables false
set_option maxRecDepth 100000

def bools (l : List Bool) : List Value := l.map Value.bool
theorem bools_length (l : List Bool) : (bools l).length = l.length := by simp [bools]
theorem bools_get {l : List Bool} {i : Nat} {b : Bool} (h : l[i]? = some b) : (bools l)[i]? = some (.bool b) := by simp [bools, h]

/-- A ring in memory: its room, policy and head; its references, and which places are published, each in a part of a block. -/
structure RgIn (w : World) (W : Nat → Prop) (q : Nat) (la : Option Addr) (lc : Nat) (pa : Option Addr) (pc : Nat) (n : Nat) (ov : Bool) (h : Nat) (R : List Int) (D : List Bool) : Prop where
  lt : ∀ k, W k → k < w.heap.size
  own : W q
  lW : ∀ k, PB la lc k → W k ∧ k ≠ q
  pW : ∀ k, PB pa pc k → W k ∧ k ≠ q
  ne : ∀ k, PB la lc k → ¬ PB pa pc k
  hd : Blk w q [.int .i64 n, .int .i64 (polB ov), .int .i64 h, .slice la R.length lc, .slice pa D.length pc] 135
  ls : Part w 3 la R.length lc (ints R)
  ps : Part w 4 pa D.length pc (bools D)

section
variable {w w' : World} {W S : Nat → Prop} {q lc pc n h : Nat} {la pa : Option Addr} {ov : Bool} {R : List Int} {D : List Bool}

theorem RgIn.turned (H : RgIn w W q la lc pa pc n ov h R D) (ht : Turned S w w') (hs : ∀ k, W k → ¬ S k) : RgIn w' W q la lc pa pc n ov h R D :=
  ⟨fun k hk => Nat.lt_of_lt_of_le (H.lt k hk) ht.size, H.own, H.lW, H.pW, H.ne, H.hd.turned ht (hs _ H.own), H.ls.turned ht (fun k hk => hs k (H.lW k hk).1), H.ps.turned ht (fun k hk => hs k (H.pW k hk).1)⟩
theorem RgIn.still (H : RgIn w W q la lc pa pc n ov h R D) (ht : Still w w') : RgIn w' W q la lc pa pc n ov h R D := H.turned ht (fun _ _ h => h)

theorem RgIn.cells (H : RgIn w W q la lc pa pc n ov h R D) : w.cell? ⟨q, 0, none⟩ = some (.int .i64 n) ∧ w.cell? ⟨q, 1, none⟩ = some (.int .i64 (polB ov)) ∧ w.cell? ⟨q, 2, none⟩ = some (.int .i64 h) ∧
    w.cell? ⟨q, 3, none⟩ = some (.slice la R.length lc) ∧ w.cell? ⟨q, 4, none⟩ = some (.slice pa D.length pc) := ⟨H.hd.cell rfl, H.hd.cell rfl, H.hd.cell rfl, H.hd.cell rfl, H.hd.cell rfl⟩

/-- A store into a place's mark. -/
theorem RgIn.setD {g o : Nat} (H : RgIn w W q la lc (some ⟨g, o, none⟩) pc n ov h R D) {k : Nat} (hk : k < D.length) (b : Bool) : RgIn (w.setCell ⟨g, o + k, none⟩ (.bool b)) W q la lc (some ⟨g, o, none⟩) pc n ov h R (D.set k b) := by
  have hP : PB (some ⟨g, o, none⟩) pc g := ⟨by have := H.ps.le; omega, _, rfl, rfl⟩
  have ht : Turned (· = g) w (w.setCell ⟨g, o + k, none⟩ (.bool b)) := turned_set (Turned.refl _ _) _ _
  have h1 := H.ps.set hk (.bool b)
  refine ⟨fun i hi => by rw [show (w.setCell ⟨g, o + k, none⟩ (.bool b)).heap.size = w.heap.size by simp [World.setCell]]; exact H.lt i hi, H.own, H.lW, H.pW, H.ne, ?_, H.ls.turned ht (fun i hi e => H.ne i hi (e ▸ hP)), ?_⟩
  · have := H.hd.turned ht (fun e => (H.pW g hP).2 e.symm)
    simpa using this
  · simpa [bools, List.map_set] using h1

/-- The head is another. -/
theorem RgIn.setH (H : RgIn w W q la lc pa pc n ov h R D) (h' : Nat) : RgIn (w.setCell ⟨q, 2, none⟩ (.int .i64 (h' : Int))) W q la lc pa pc n ov h' R D := by
  have ht : Turned (· = q) w (w.setCell ⟨q, 2, none⟩ (.int .i64 (h' : Int))) := turned_set (Turned.refl _ _) _ _
  exact ⟨fun i hi => by rw [show (w.setCell ⟨q, 2, none⟩ (.int .i64 (h' : Int))).heap.size = w.heap.size by simp [World.setCell]]; exact H.lt i hi, H.own, H.lW, H.pW, H.ne, H.hd.set 2 _,
    H.ls.turned ht (fun k hk => (H.lW k hk).2), H.ps.turned ht (fun k hk => (H.pW k hk).2)⟩

/-- The references are others, in the block where they lay, or in a new one. -/
theorem RgIn.setR (H : RgIn w W q la lc pa pc n ov h R D) {la' : Option Addr} {lc' m : Nat} {R' : List Int} (hm : m = R'.length) (ht : Turned (PB la lc) w w') (hp : Part w' 3 la' m lc' (ints R')) (hb : ∀ k, PB la' lc' k → PB la lc k ∨ w.heap.size ≤ k) :
    RgIn (w'.setCell ⟨q, 3, none⟩ (.slice la' m lc')) (fun k => W k ∨ PB la' lc' k) q la' lc' pa pc n ov h R' D := by
  subst hm
  have hq := H.lt q H.own
  have ht2 : Turned (· = q) w' (w'.setCell ⟨q, 3, none⟩ (.slice la' R'.length lc')) := turned_set (Turned.refl _ _) _ _
  have hn : ∀ k, PB la' lc' k → k ≠ q := fun k hk e => by
    rcases hb k hk with h1 | h1
    · exact (H.lW k h1).2 e
    · omega
  have hne : ∀ k, PB la' lc' k → ¬ PB pa pc k := fun k hk hk2 => by
    rcases hb k hk with h1 | h1
    · exact H.ne k h1 hk2
    · have := H.lt k (H.pW k hk2).1; omega
  refine ⟨fun i hi => ?_, .inl H.own, fun k hk => ⟨.inr hk, hn k hk⟩, fun k hk => ⟨.inl (H.pW k hk).1, (H.pW k hk).2⟩, hne, ?_, hp.turned ht2 hn, (H.ps.turned ht (fun k hk hk2 => H.ne k hk2 hk)).turned ht2 (fun k hk => (H.pW k hk).2)⟩
  · rw [show (w'.setCell ⟨q, 3, none⟩ (.slice la' R'.length lc')).heap.size = w'.heap.size by simp [World.setCell]]
    rcases hi with hi | hi
    · exact Nat.lt_of_lt_of_le (H.lt i hi) ht.size
    · exact hp.lt hi
  · exact (H.hd.turned ht (fun hk => (H.lW q hk).2 rfl)).set 3 _

/-- The marks are others. -/
theorem RgIn.setP (H : RgIn w W q la lc pa pc n ov h R D) {pa' : Option Addr} {pc' m : Nat} {D' : List Bool} (hm : m = D'.length) (ht : Turned (PB pa pc) w w') (hp : Part w' 4 pa' m pc' (bools D')) (hb : ∀ k, PB pa' pc' k → PB pa pc k ∨ w.heap.size ≤ k) :
    RgIn (w'.setCell ⟨q, 4, none⟩ (.slice pa' m pc')) (fun k => W k ∨ PB pa' pc' k) q la lc pa' pc' n ov h R D' := by
  subst hm
  have hq := H.lt q H.own
  have ht2 : Turned (· = q) w' (w'.setCell ⟨q, 4, none⟩ (.slice pa' D'.length pc')) := turned_set (Turned.refl _ _) _ _
  have hn : ∀ k, PB pa' pc' k → k ≠ q := fun k hk e => by
    rcases hb k hk with h1 | h1
    · exact (H.pW k h1).2 e
    · omega
  have hne : ∀ k, PB la lc k → ¬ PB pa' pc' k := fun k hk2 hk => by
    rcases hb k hk with h1 | h1
    · exact H.ne k hk2 h1
    · have := H.lt k (H.lW k hk2).1; omega
  refine ⟨fun i hi => ?_, .inl H.own, fun k hk => ⟨.inl (H.lW k hk).1, (H.lW k hk).2⟩, fun k hk => ⟨.inr hk, hn k hk⟩, hne, ?_, (H.ls.turned ht (fun k hk hk2 => H.ne k hk hk2)).turned ht2 (fun k hk => (H.lW k hk).2), hp.turned ht2 hn⟩
  · rw [show (w'.setCell ⟨q, 4, none⟩ (.slice pa' D'.length pc')).heap.size = w'.heap.size by simp [World.setCell]]
    rcases hi with hi | hi
    · exact Nat.lt_of_lt_of_le (H.lt i hi) ht.size
    · exact hp.lt hi
  · exact (H.hd.turned ht (fun hk => (H.pW q hk).2 rfl)).set 4 _
theorem RgIn.less (H : RgIn w W q la lc pa pc n ov h R D) {V : Nat → Prop} (h1 : V q) (h2 : ∀ k, PB la lc k → V k) (h3 : ∀ k, PB pa pc k → V k) (h4 : ∀ k, V k → k < w.heap.size) : RgIn w V q la lc pa pc n ov h R D :=
  ⟨h4, h1, fun k hk => ⟨h2 k hk, (H.lW k hk).2⟩, fun k hk => ⟨h3 k hk, (H.pW k hk).2⟩, H.ne, H.hd, H.ls, H.ps⟩
end

def RM.dn (M : RM) : List Bool := M.l.map (·.d)
/-- The ring of which the plain one tells. -/
abbrev RgM (w : World) (W : Nat → Prop) (q : Nat) (la : Option Addr) (lc : Nat) (pa : Option Addr) (pc : Nat) (M : RM) : Prop := RgIn w W q la lc pa pc M.n M.ov M.h M.refs M.dn

/-- The program's ring as a thing. -/
def rT (q : Nat) (M : RM) : Thing where
  at_ w W := ∃ la lc pa pc, RgM w W q la lc pa pc M
  lt := by rintro w W ⟨la, lc, pa, pc, h⟩ k hk; exact h.lt k hk
  keep := by rintro w w' W S ⟨la, lc, pa, pc, h⟩ ht hs; exact ⟨la, lc, pa, pc, h.turned ht hs⟩
theorem rT_goes {q : Nat} {M : RM} {W W' : Nat → Prop} {w w' : World} {la pa : Option Addr} {lc pc : Nat} (h : RgM w' W' q la lc pa pc M) (ht : Turned W w w') (hW : ∀ k, W' k → W k ∨ w.heap.size ≤ k) : Goes (rT q M) W w w' := ⟨W', ⟨la, lc, pa, pc, h⟩, ht, hW⟩
theorem rT_still {q : Nat} {M : RM} {W : Nat → Prop} {w w' : World} {la pa : Option Addr} {lc pc : Nat} (h : RgM w W q la lc pa pc M) (ht : Still w w') : Goes (rT q M) W w w' := Goes.still (Q := rT q M) ⟨la, lc, pa, pc, h⟩ ht

theorem RM.refs_len (M : RM) : M.refs.length = M.l.length := by simp [RM.refs]
theorem RM.dn_len (M : RM) : M.dn.length = M.l.length := by simp [RM.dn]
theorem RM.refs_at {M : RM} {k : Nat} {p : Plc} (h : M.l[k]? = some p) : M.refs[k]? = some p.r := by simp [RM.refs, h]
theorem RM.dn_at {M : RM} {k : Nat} {p : Plc} (h : M.l[k]? = some p) : M.dn[k]? = some p.d := by simp [RM.dn, h]

/-- The cells of a place. -/
theorem RgIn.place {w : World} {W : Nat → Prop} {q lc pc : Nat} {la pa : Option Addr} {M : RM} (H : RgM w W q la lc pa pc M) {k : Nat} {p : Plc} (hk : M.l[k]? = some p) :
    (∃ g o, la = some ⟨g, o, none⟩ ∧ w.cell? ⟨g, o + k, none⟩ = some (.int .i64 p.r)) ∧ ∃ g o, pa = some ⟨g, o, none⟩ ∧ W g ∧ w.cell? ⟨g, o + k, none⟩ = some (.bool p.d) ∧ w.frozen? ⟨g, o + k, none⟩ = false := by
  obtain ⟨g, o, h1, h2, h3, _⟩ := H.ls.cell (ints_get (RM.refs_at hk))
  obtain ⟨g', o', h1', h2', h3', h4'⟩ := H.ps.cell (bools_get (RM.dn_at hk))
  exact ⟨⟨g, o, h1, h3⟩, g', o', h1', (H.pW _ h2').1, h3', h4'⟩
end Go.Proofs.YtmmkcfiecgpkpaaGreat

/- What the calls of the program's ring do that read, or mark a place: made, full, Head, Tail, Room, headMayGo, refuse, refuseClaim, Publish, Get. No condition but that the ring is one. -/
namespace Go.Proofs.YtmmkcfiecgpkpaaGreat
open Go.RowKit
set_option linter.unusedVariables false
set_option linter.unusedSimpArgs false
set_option maxRecDepth 100000

section
variable {w w' : World} {W S : Nat → Prop} {q lc pc n h : Nat} {la pa : Option Addr} {ov : Bool} {R : List Int} {D : List Bool}

theorem rmade_any (H : RgIn w W q la lc pa pc n ov h R D) (hn : 1 ≤ n) : Calls Tryz.prog 87 #[.pointer (some ⟨q, 0, none⟩)] w fun e w' => e = .returned (.bool true) ∧ w = w' := by
  obtain ⟨c0, _⟩ := H.cells
  clear H
  go_enter Tryz.func87, Tryz.ntmps87
  go_wp2_with fail
  go_ret
  exact ⟨by simp; omega, rfl⟩

theorem rfull_any (H : RgIn w W q la lc pa pc n ov h R D) (m : Nat) (hm : m = R.length) : Calls Tryz.prog 107 #[.pointer (some ⟨q, 0, none⟩)] w fun e w' => e = .returned (.bool (decide (m = n))) ∧ Still w w' := by
  obtain ⟨c0, _, _, c3, _⟩ := H.cells
  rw [← hm] at c3
  have HB := Lib.hid (show ((m : Int) == (n : Int)) = decide (m = n) by
    by_cases e : m = n
    · simp [e]
    · have : ¬ (m : Int) = (n : Int) := by omega
      simp [e, this])
  clear H hm
  go_enter Tryz.func107, Tryz.ntmps107
  go_wp2_with fail
  go_quiet (fail)
  go_wp2_with fail
  go_ret
  refine ⟨?_, (Turned.refl _ _).drewN _⟩
  first
    | exact congrArg (fun b => Ending.returned (.bool b)) HB.out
    | rfl
    | simp

theorem rhead_any (H : RgIn w W q la lc pa pc n ov h R D) (hn : 1 ≤ n) : Calls Tryz.prog 85 #[.pointer (some ⟨q, 0, none⟩)] w fun e w' => e = .returned (.int .i64 h) ∧ w = w' := by
  have HM := Lib.hid (rmade_any H hn)
  obtain ⟨c0, _, c2, _⟩ := H.cells
  clear H
  go_enter Tryz.func85, Tryz.ntmps85
  go_wp2_with (go_at_call 87; refine HM.out.mono ?_; rintro e w' ⟨rfl, rfl⟩)
  go_ret
  exact ⟨rfl, rfl⟩

theorem rroom_any (H : RgIn w W q la lc pa pc n ov h R D) (hn : 1 ≤ n) : Calls Tryz.prog 99 #[.pointer (some ⟨q, 0, none⟩)] w fun e w' => e = .returned (.int .i64 n) ∧ w = w' := by
  have HM := Lib.hid (rmade_any H hn)
  obtain ⟨c0, _, c2, _⟩ := H.cells
  clear H
  go_enter Tryz.func99, Tryz.ntmps99
  go_wp2_with (go_at_call 87; refine HM.out.mono ?_; rintro e w' ⟨rfl, rfl⟩)
  go_ret
  exact ⟨rfl, rfl⟩

theorem rtail_any (H : RgIn w W q la lc pa pc n ov h R D) (hn : 1 ≤ n) (t : Nat) (ht : t = h + R.length) (hb : t < 1000000000) : Calls Tryz.prog 61 #[.pointer (some ⟨q, 0, none⟩)] w fun e w' => e = .returned (.int .i64 t) ∧ Still w w' := by
  have HM := Lib.hid (rmade_any H hn)
  obtain ⟨c0, _, c2, c3, _⟩ := H.cells
  obtain ⟨m, hm⟩ : ∃ m, m = R.length := ⟨_, rfl⟩
  rw [← hm] at ht c3
  have HT := Lib.hid (show ((t : Nat) : Int) = (h : Int) + (m : Int) by omega)
  have h1 : (h : Int) < 1000000000 := by omega
  have h2 : (m : Int) < 1000000000 := by omega
  have h3 : (0 : Int) ≤ (h : Int) := by omega
  rw [HT.out]
  generalize (h : Int) = hh at *
  clear H hm HT ht hb
  go_enter Tryz.func61, Tryz.ntmps61
  go_wp2_with (go_at_call 87; refine HM.out.mono ?_; rintro e w' ⟨rfl, rfl⟩)
  go_quiet (fail)
  go_wp2_with fail
  go_ret
  exact ⟨rfl, (Turned.refl _ _).drewN _⟩

theorem rmay_any (H : RgIn w W q la lc pa pc n ov h R D) (d : Bool) (hd : D[0]? = some d) : Calls Tryz.prog 126 #[.pointer (some ⟨q, 0, none⟩)] w fun e w' => e = .returned (.bool (ov && d)) ∧ Still w w' := by
  obtain ⟨_, c1, _, _, c4⟩ := H.cells
  obtain ⟨g, o, rfl, _, cd, _⟩ := H.ps.cell (bools_get hd)
  rw [Nat.add_zero] at cd
  have h0 : 0 < D.length := (List.getElem?_eq_some_iff.1 hd).1
  obtain ⟨m, hm⟩ : ∃ m, m = D.length := ⟨_, rfl⟩
  rw [← hm] at c4 h0
  have h01 : (0 : Int) < (m : Int) := by omega
  clear H hm hd
  cases ov
  · rw [show polB false = 0 from rfl] at c1
    go_enter Tryz.func126, Tryz.ntmps126
    go_wp2_with fail
    go_ret
    exact ⟨rfl, Turned.refl _ _⟩
  · rw [show polB true = 1 from rfl] at c1
    go_enter Tryz.func126, Tryz.ntmps126
    go_wp2_with fail
    go_ret
    exact ⟨by simp, Turned.refl _ _⟩
end

theorem rrefuse_any {w : World} {W : Nat → Prop} {q lc pc : Nat} {la pa : Option Addr} {M : RM} {N : Nat} (H : RgM w W q la lc pa pc M) (hM : M.Ok N) (hN : N < 1000000) (a : Int) :
    Calls Tryz.prog 81 #[.pointer (some ⟨q, 0, none⟩), .int .i64 a] w fun e w' => e = .returned (.int .i64 (M.findE a)) ∧ Still w w' := by
  have HMd := Lib.hid (rmade_any H hM.pos)
  obtain ⟨_, _, c2, _⟩ := H.cells
  have HT := Lib.hid (rtail_any H hM.pos M.tail (by rw [RM.refs_len]; rfl) (by have := hM.low; omega))
  by_cases h1 : a < 0
  · have HR := Lib.hid (show M.findE a = 2 by unfold RM.findE; rw [if_pos h1])
    rw [HR.out]
    clear HR H hM
    go_enter Tryz.func81, Tryz.ntmps81
    go_wp2_with (go_at_call 87; refine HMd.out.mono ?_; rintro e w' ⟨rfl, rfl⟩)
    go_ret
    exact ⟨rfl, Turned.refl _ _⟩
  · by_cases h2 : a < (M.h : Int)
    · have HR := Lib.hid (show M.findE a = 61 by unfold RM.findE; rw [if_neg h1, if_pos h2])
      rw [HR.out]
      generalize (M.h : Int) = h at *
      clear HR H hM
      go_enter Tryz.func81, Tryz.ntmps81
      go_wp2_with (go_at_call 87; refine HMd.out.mono ?_; rintro e w' ⟨rfl, rfl⟩)
      go_ret
      exact ⟨rfl, Turned.refl _ _⟩
    · by_cases h3 : (M.tail : Int) ≤ a
      · have HR := Lib.hid (show M.findE a = 5 by unfold RM.findE; rw [if_neg h1, if_neg h2, if_pos h3])
        rw [HR.out]
        generalize (M.h : Int) = h at *
        generalize ((M.tail : Nat) : Int) = t at *
        clear HR H hM
        go_enter Tryz.func81, Tryz.ntmps81
        go_wp2_with (first
          | (go_at_call 87; refine HMd.out.mono ?_; rintro e w' ⟨rfl, rfl⟩)
          | (go_at_call 61; refine HT.out.mono ?_; rintro e w' ⟨rfl, hst⟩))
        go_ret
        exact ⟨rfl, hst⟩
      · have HR := Lib.hid (show M.findE a = 0 by unfold RM.findE; rw [if_neg h1, if_neg h2, if_neg h3])
        rw [HR.out]
        generalize (M.h : Int) = h at *
        generalize ((M.tail : Nat) : Int) = t at *
        clear HR H hM
        go_enter Tryz.func81, Tryz.ntmps81
        go_wp2_with (first
          | (go_at_call 87; refine HMd.out.mono ?_; rintro e w' ⟨rfl, rfl⟩)
          | (go_at_call 61; refine HT.out.mono ?_; rintro e w' ⟨rfl, hst⟩))
        go_ret
        exact ⟨rfl, hst⟩

theorem rpub_any {w : World} {W : Nat → Prop} {q : Nat} {M : RM} {N : Nat} (H0 : (rT q M).at_ w W) (hM : M.Ok N) (hN : N < 1000000) (a : Int) (ha64 : w64 a) :
    Calls Tryz.prog 53 #[.pointer (some ⟨q, 0, none⟩), .int .i64 a] w fun e w' => e = .returned (.int .i64 (M.pubE a)) ∧ Goes (rT q (M.pubM a)) W w w' := by
  obtain ⟨la, lc, pa, pc, H⟩ := H0
  have HV := Lib.hid (rrefuse_any H hM hN a)
  by_cases he : M.findE a = 0
  · obtain ⟨hk, ha, hp⟩ := RM.found he
    obtain ⟨_, g', o', rfl, hWg, p1, p2⟩ := H.place hp
    obtain ⟨n, hn⟩ : ∃ n, n = M.l.length := ⟨_, rfl⟩
    have hnp := H.ps.le
    rw [RM.dn_len, ← hn] at hnp
    have HC := Lib.hid (fun w' (hst : Still w w') => (by
      obtain ⟨_, _, x2, x3, x4⟩ := (H.still hst).cells
      rw [RM.dn_len, ← hn] at x4
      exact ⟨x2, x4, still_cell hst p1 rfl⟩ : w'.cell? ⟨q, 2, none⟩ = some (.int .i64 M.h) ∧ w'.cell? ⟨q, 4, none⟩ = some (.slice (some ⟨g', o', none⟩) n pc) ∧ w'.cell? ⟨g', o' + M.cut a, none⟩ = some (.bool (M.pl a).d)))
    have HZ := Lib.hid (fun w' (hst : Still w w') => (by
      obtain ⟨_, _, _, e, _, _, z⟩ := (H.still hst).place hp
      cases e
      exact z : w'.frozen? ⟨g', o' + M.cut a, none⟩ = false))
    have hn64 : n ≤ 64 := by have := hM.len; have := hM.max; omega
    have hkn : M.cut a < n := by omega
    have hsub : a - (M.h : Int) = (M.cut a : Nat) := by omega
    rw [he] at HV
    cases hd : (M.pl a).d with
    | true =>
      rw [hd] at HC
      have HR := Lib.hid (show M.pubE a = 6 by unfold RM.pubE; rw [if_neg (by simp [he]), if_pos hd])
      have HG := Lib.hid (fun w' (hst : Still w w') => rT_still H hst)
      rw [HR.out, show M.pubM a = M by unfold RM.pubM; rw [if_pos (by rw [HR.out]; omega)]]
      generalize M.cut a = k at *
      generalize (M.h : Int) = h at *
      have hw : IntKind.i64.wrap (a - h) = (k : Int) := by rw [hsub]; simp [IntKind.wrap, IntKind.signed, IntKind.bits]; omega
      have hk1 : (k : Int) < (n : Int) := by omega
      have hk0 : (0 : Int) ≤ (k : Int) := by omega
      clear HR H hM hp p1 p2 hn he hd ha hsub
      go_enter Tryz.func53, Tryz.ntmps53
      go_wp2_with (go_at_call 81; refine HV.out.mono ?_; rintro e w' ⟨rfl, hst⟩; obtain ⟨c2, c4, cd⟩ := HC.out w' hst)
      go_quiet (fail)
      go_wp2_with fail
      go_ret
      exact ⟨rfl, HG.out _ (hst.drewN _)⟩
    | false =>
      rw [hd] at HC
      have HR := Lib.hid (show M.pubE a = 0 by unfold RM.pubE; rw [if_neg (by simp [he]), if_neg (by simp [hd])])
      have HG := Lib.hid (fun w' (hst : Still w w') => show Goes (rT q (M.pubM a)) W w (w'.setCell ⟨g', o' + M.cut a, none⟩ (.bool true)) by
        rw [show M.pubM a = { M with l := M.l.set (M.cut a) ⟨(M.pl a).r, true⟩ } by unfold RM.pubM; rw [if_neg (by rw [HR.out]; simp)]]
        have h1 := (H.still hst).setD (k := M.cut a) (by rw [RM.dn_len]; omega) true
        refine rT_goes (la := la) (lc := lc) (pa := some ⟨g', o', none⟩) (pc := pc) ?_ ((hst.mono (T := W) (fun _ _ h => h.elim)).setCell (p := ⟨g', _, none⟩) (.inl hWg) _) (fun k hk => .inl hk)
        have e1 : RM.refs { M with l := M.l.set (M.cut a) ⟨(M.pl a).r, true⟩ } = M.refs := by
          unfold RM.refs
          rw [List.map_set]
          refine List.ext_getElem? fun i => ?_
          by_cases e : M.cut a = i
          · subst e; rw [List.getElem?_set_self (by simpa using hk), List.getElem?_map, hp]; rfl
          · rw [List.getElem?_set_ne e]
        have e2 : RM.dn { M with l := M.l.set (M.cut a) ⟨(M.pl a).r, true⟩ } = M.dn.set (M.cut a) true := by
          unfold RM.dn; rw [List.map_set]
        show RgIn _ W q la lc _ pc M.n M.ov M.h _ _
        rw [e1, e2]
        exact h1)
      rw [HR.out]
      generalize M.cut a = k at *
      generalize M.pubM a = M2 at *
      generalize (M.h : Int) = h at *
      have hw : IntKind.i64.wrap (a - h) = (k : Int) := by rw [hsub]; simp [IntKind.wrap, IntKind.signed, IntKind.bits]; omega
      have hk1 : (k : Int) < (n : Int) := by omega
      have hk0 : (0 : Int) ≤ (k : Int) := by omega
      clear HR H hM hp p1 p2 hn he hd ha hsub
      go_enter Tryz.func53, Tryz.ntmps53
      go_upto_region 6 with (go_at_call 81; refine HV.out.mono ?_; rintro e w' ⟨rfl, hst⟩; obtain ⟨c2, c4, cd⟩ := HC.out w' hst)
      go_quiet (fail)
      have HS := Lib.hid (hst.drewN nq)
      have fz := HZ.out _ HS.out
      obtain ⟨c2, c4, cd⟩ := HC.out _ HS.out
      clear hst
      generalize w'.drewN nq = w2 at *
      go_upto_region 6 with fail
      go_region
      all_goals
        go_wp2_with fail
        go_ret
        exact ⟨rfl, (HG.out w2 HS.out).drew⟩
  · have hb : (M.findE a != 0) = true := by rw [bne_iff_ne]; exact he
    have HR := Lib.hid (show M.pubE a = M.findE a by unfold RM.pubE; rw [if_pos he])
    have HG := Lib.hid (fun w' (hst : Still w w') => rT_still H hst)
    rw [show M.pubM a = M by unfold RM.pubM; rw [if_pos (by rw [HR.out]; exact he)], HR.out]
    generalize M.findE a = x at *
    clear HR H hM hN he
    go_enter Tryz.func53, Tryz.ntmps53
    go_wp2_with (go_at_call 81; refine HV.out.mono ?_; rintro e w' ⟨rfl, hst⟩)
    go_ret
    exact ⟨rfl, HG.out w' hst⟩
end Go.Proofs.YtmmkcfiecgpkpaaGreat

/- The iterator of package ring goes through the window's places, the head's first. No condition but that the ring is one. -/
namespace Go.Proofs.YtmmkcfiecgpkpaaGreat
open Go.RowKit Go.Shelf
attribute [local go_sem] Oper.semAt_some
set_option linter.unusedVariables false
set_option linter.unusedSimpArgs false
set_option maxRecDepth 100000

/-- A place of a window, with its number. -/
abbrev PlcAt (L : List Plc) := { x : Nat × Plc // L[x.1]? = some x.2 }
/-- The first so many places. -/
def plTo (L : List Plc) : Nat → List (PlcAt L)
  | 0 => []
  | k + 1 => if h : k < L.length then plTo L k ++ [⟨(k, L[k]), List.getElem?_eq_getElem h⟩] else plTo L k
theorem plTo_len (L : List Plc) : ∀ k, k ≤ L.length → (plTo L k).length = k
  | 0, _ => rfl
  | k + 1, h => by rw [plTo, dif_pos (by omega)]; simp [plTo_len L k (by omega)]
theorem plTo_step {L : List Plc} {k : Nat} {p : Plc} (h : L[k]? = some p) : plTo L (k + 1) = plTo L k ++ [⟨(k, p), h⟩] := by
  obtain ⟨hk, hp⟩ := List.getElem?_eq_some_iff.1 h
  rw [plTo, dif_pos hk]
  subst hp
  rfl
theorem plTo_pre (L : List Plc) {k n : Nat} (h : k ≤ n) : plTo L k <+: plTo L n := by
  obtain ⟨d, rfl⟩ := Nat.le.dest h
  induction d with
  | zero => exact List.prefix_refl _
  | succ d ih =>
    refine (ih (by omega)).trans ?_
    show _ <+: plTo L ((k + d) + 1)
    rw [plTo]
    split
    · exact List.prefix_append _ _
    · exact List.prefix_refl _
/-- What the iterator hands out of a place. -/
def plVal (h : Nat) {L : List Plc} (x : PlcAt L) : Value := .agg #[.int .i64 ((h : Int) + (x.1.1 : Int)), .int .i64 x.1.2.r, .bool x.1.2.d]

/-- What lay before n₀ is as it was, and block B, which lies behind. -/
def Keeps2 (n₀ B : Nat) (W W' : World) : Prop := Below n₀ W W' ∧ W'.heap[B]? = W.heap[B]?
theorem Keeps2.refl (n₀ B : Nat) (W : World) : Keeps2 n₀ B W W := ⟨Below.refl _ _, rfl⟩
theorem Keeps2.trans {n₀ B : Nat} {W W' W2 : World} (h : Keeps2 n₀ B W W') (k : Keeps2 n₀ B W' W2) : Keeps2 n₀ B W W2 := ⟨h.1.trans k.1, k.2.trans h.2⟩
theorem Keeps2.drew {n₀ B : Nat} {W W' : World} (h : Keeps2 n₀ B W W') : Keeps2 n₀ B W W'.drew := ⟨h.1.drew, h.2⟩
theorem Keeps2.alloc {n₀ B : Nat} {W W' : World} (h : Keeps2 n₀ B W W') (hn : n₀ ≤ W'.heap.size) (hB : B < W'.heap.size) (o : Obj) : Keeps2 n₀ B W (W'.alloc o) := ⟨h.1.alloc hn o, (Below.heap_alloc _ _ _ hB).trans h.2⟩
theorem keeps2K_b {n₀ B : Nat} {w : World} (hn : n₀ ≤ w.heap.size) (hB : B < w.heap.size) (W : World) (l : Nat) (o o' : Obj) (hl : w.heap.size ≤ l) (h : W.heap[l]? = some o) (h1 : o.isCells = false) (h2 : o.isWalk = false) : Keeps2 n₀ B W (W.putObj l o') :=
  ⟨belowK_b hn W l o o' hl h h1 h2, (grownBy_putObj' W l o').block B (by have := (Array.getElem?_eq_some_iff.1 h).1; omega) (fun e => by cases e; omega)⟩

theorem below_turned' {n₀ : Nat} {w w' : World} (h : Below n₀ w w') : Turned (fun k => n₀ ≤ k) w w' := ⟨h.os, h.tape, h.output, h.size, fun k _ hk => h.block k (by omega)⟩

theorem rmade_in (F : Fence) (n q : Nat) (m : Nat) (w : World) (hm : 0 < m) (h : F.fn 87) (hro : F.round = none) (c0 : w.cell? ⟨q, 0, none⟩ = some (.int .i64 m)) :
    CallsIn F n Tryz.prog 87 #[.pointer (some ⟨q, 0, none⟩)] w fun e w' => e = .returned (.bool true) ∧ w = w' := by
  refine callsIn_of_wp Tryz.func87 rfl h ?_ hro
  simp only [Tryz.ntmps87, List.size_toArray, List.length_cons, List.length_nil, Nat.reduceAdd, Nat.reduceSub, Array.replicate_succ, Array.replicate_zero, List.push_toArray, List.append_toArray, List.nil_append, List.cons_append]
  gi_wp2
  go_ret
  exact ⟨by first | rfl | (simp; omega), rfl⟩

theorem places_in (F : Fence) (n : Nat) (h : F.fn 130) (hro : F.round = none) (x : Option Addr) (w : World) :
    CallsIn F n Tryz.prog 130 #[.pointer x] w fun e w' => e = .returned (.func (.func 142) #[] #[.pointer (some ⟨w.heap.size, 0, none⟩)]) ∧ w' = w.alloc (.cells #[.pointer x] 104) := by
  refine callsIn_of_wp Tryz.func130 rfl h ?_ hro
  simp only [Tryz.ntmps130, List.size_toArray, List.length_cons, List.length_nil, Nat.reduceAdd, Nat.reduceSub, Array.replicate_succ, Array.replicate_zero, List.push_toArray, List.append_toArray, List.nil_append, List.cons_append]
  gi_wp2
  go_ret
  exact ⟨rfl, rfl⟩

set_option maxHeartbeats 2000000 in
theorem places1_in (F : Fence) (n : Nat) (h6 : F.fn 142) (h7 : F.fn 87) (hro : F.round = none) (hn : 1 ≤ n) (l Bn n₀ q m : Nat) {la pa : Option Addr} {lc pc : Nat} {Wf : Nat → Prop} {M : RM} (hm : m = M.l.length) (hst : m ≤ 64) (hpos : 1 ≤ M.n) (hhd : M.h < 1000000)
    (hlow : ∀ k, Wf k → k < n₀) (J Jx : List (PlcAt M.l) → World → Prop)
    (W : World) (hJ : AbidesFrom W.heap.size J)
    (hY : ∀ pre x W, J pre W → pre.length < m → YieldAt F (n - 1) Tryz.prog l #[plVal M.h x] W fun e W' =>
      (e = .returned (.bool true) ∧ J (pre ++ [x]) W' ∧ Keeps2 n₀ Bn W W') ∨ (e = .returned (.bool false) ∧ Jx (pre ++ [x]) W'))
    (hn₀ : n₀ ≤ W.heap.size) (hBn : W.cell? ⟨Bn, 0, none⟩ = some (.pointer (some ⟨q, 0, none⟩))) (hA : RgM W Wf q la lc pa pc M) (h0 : J [] W) :
    CallsIn F n Tryz.prog 142 #[.func (.yield l) #[] #[], .pointer (some ⟨Bn, 0, none⟩)] W fun e W' => (∃ v, e = .returned v) ∧
      ((∃ ys, ys = plTo M.l m ∧ J ys W') ∨ (∃ pre, pre <+: plTo M.l m ∧ Jx pre W')) := by
  have HJ := Lib.hid hJ
  have HD := Lib.hid (fun (pre : List (PlcAt M.l)) (V : World) (h : J pre V) => show J pre V.drew from hJ pre V _ none h ⟨rfl, rfl, rfl, Nat.le_refl _, fun _ _ _ => rfl⟩ (fun r e => by cases e))
  have HA := Lib.hid hA
  obtain ⟨c0, _, c2, c3, c4⟩ := hA.cells
  rw [RM.refs_len, ← hm] at c3
  rw [RM.dn_len, ← hm] at c4
  have HMd := Lib.hid (fun d => rmade_in F d q M.n W hpos h7 hro c0)
  have HCs := Lib.hid (fun (V : World) (hb : Keeps2 n₀ Bn W V) => (by
    have hA' := hA.turned (below_turned' hb.1) (fun k hk h => by have := hlow k hk; omega)
    obtain ⟨_, _, x2, x3, x4⟩ := hA'.cells
    rw [RM.refs_len, ← hm] at x3
    rw [RM.dn_len, ← hm] at x4
    exact ⟨x2, x3, x4, (World.cell?_of_block (w := V) (w' := W) (a := ⟨Bn, 0, none⟩) hb.2.symm).symm.trans hBn⟩ : V.cell? ⟨q, 2, none⟩ = some (.int .i64 M.h) ∧ V.cell? ⟨q, 3, none⟩ = some (.slice la m lc) ∧ V.cell? ⟨q, 4, none⟩ = some (.slice pa m pc) ∧ V.cell? ⟨Bn, 0, none⟩ = some (.pointer (some ⟨q, 0, none⟩))))
  have HPl := Lib.hid (fun (V : World) (hb : Keeps2 n₀ Bn W V) (k : Nat) (hk : k < m) => (by
    have hA' := hA.turned (below_turned' hb.1) (fun k hk h => by have := hlow k hk; omega)
    obtain ⟨p, hp⟩ := get_some (l := M.l) (i := k) (by omega)
    obtain ⟨⟨g, o, e1, h1⟩, g', o', e2, _, h2, _⟩ := hA'.place hp
    exact ⟨p, hp, g, o, g', o', e1, e2, h1, h2⟩ : ∃ p, M.l[k]? = some p ∧ ∃ g o g' o', la = some ⟨g, o, none⟩ ∧ pa = some ⟨g', o', none⟩ ∧ V.cell? ⟨g, o + k, none⟩ = some (.int .i64 p.r) ∧ V.cell? ⟨g', o' + k, none⟩ = some (.bool p.d)))
  have HLen := Lib.hid (fun k (hk : k ≤ m) => plTo_len M.l k (by omega))
  have hhh : (M.h : Int) < 1000000 := by omega
  have hlm : m ≤ lc ∧ m ≤ pc := by
    have h1 := hA.ls.le
    have h2 := hA.ps.le
    rw [RM.refs_len, ← hm] at h1
    rw [RM.dn_len, ← hm] at h2
    exact ⟨h1, h2⟩
  obtain ⟨hl1, hl2⟩ := hlm
  obtain ⟨hh, hhe⟩ : ∃ hh : Nat, hh = M.h := ⟨_, rfl⟩
  rw [← hhe] at hhh HCs
  have HHE := Lib.hid hhe
  clear hJ hA c4 hm hhe
  refine callsIn_of_wp Tryz.func142 rfl h6 ?_ hro
  simp only [Tryz.ntmps142, List.size_toArray, List.length_cons, List.length_nil, Nat.reduceAdd, Nat.reduceSub, Array.replicate_succ, Array.replicate_zero, List.push_toArray, List.append_toArray, List.nil_append, List.cons_append]
  gi_wp2_with (gi_at_call 87; refine (HMd.out _).mono ?_; rintro e w' ⟨rfl, rfl⟩)
  gi_loopw [13] (fun i wr => ∃ k : Nat, k ≤ m ∧ i = .int .i64 k ∧ J (plTo M.l k) wr ∧ Keeps2 n₀ Bn W wr)
    (fun i _ => m - (intOf i).toNat)
  case atStart => exact ⟨0, Nat.zero_le _, rfl, h0, Keeps2.refl _ _ _⟩
  case round =>
    clear c0 c2 c3 hBn
    obtain ⟨k, hk, rfl, hJs, hnx⟩ := hrel
    by_cases hlt : k < m
    · obtain ⟨c2, c3, c4, cB⟩ := HCs.out wr hnx
      obtain ⟨p, hp, g, o, g', o', rfl, rfl, d1, d2⟩ := HPl.out wr hnx k hlt
      obtain ⟨fn, tmps, assign, body, hy, hR⟩ := hY _ ⟨(k, p), hp⟩ _ (HD.out _ _ hJs) (by rw [HLen.out _ hk]; exact hlt)
      dsimp only [plVal] at hy
      rw [← HHE.out] at hy
      have HL := Lib.hid (plTo_step hp)
      have hki : (k : Int) < (m : Int) := by omega
      clear HPl HCs hY
      have hR2 : RoundIn F (n - 1) Tryz.prog l fn tmps assign body wr.drew fun e W' => ∃ b, e = .returned (.bool b) ∧ ((b = true ∧ J (plTo M.l (k + 1)) W' ∧ Keeps2 n₀ Bn wr.drew W') ∨ (b = false ∧ Jx (plTo M.l (k + 1)) W')) := by
        refine hR.mono ?_
        rw [HL.out]
        rintro e W3 (⟨rfl, h1, h2⟩ | ⟨rfl, h1⟩)
        · exact ⟨true, rfl, .inl ⟨rfl, h1, h2⟩⟩
        · exact ⟨false, rfl, .inr ⟨rfl, h1⟩⟩
      clear hR HL
      have hwr : IntKind.i64.wrap ((hh : Int) + (k : Int)) = (hh : Int) + (k : Int) := by simp [IntKind.wrap, IntKind.signed, IntKind.bits]; omega
      rw [← hwr] at hy
      clear hwr
      gi_wp2
      refine region_reads 16 (by kernel_rfl) ?_
      refine reads_take (i := 0) (v := ?_) rfl (by kernel_rfl) (by kernel_rfl) (by kernel_rfl) (by decide) (by kernel_rfl) (by kernel_rfl) (fun _ _ _ h => h) (by rfl) (fun _ => by rfl) ?_ ?_
      rotate_left
      · go_simp
        try with_reducible rfl
      try simp only [Act.put, List.setIfInBounds_toArray, List.set_cons_zero, List.set_cons_succ]
      refine reads_take (i := 1) (v := ?_) rfl (by kernel_rfl) (by kernel_rfl) (by kernel_rfl) (by decide) (by kernel_rfl) (by kernel_rfl) (fun _ _ _ h => h) (by rfl) (fun _ => by rfl) ?_ ?_
      rotate_left
      · go_simp
        try with_reducible rfl
      try simp only [Act.put, List.setIfInBounds_toArray, List.set_cons_zero, List.set_cons_succ]
      refine reads_take (i := 2) (v := ?_) rfl (by kernel_rfl) (by kernel_rfl) (by kernel_rfl) (by decide) (by kernel_rfl) (by kernel_rfl) (fun _ _ _ h => h) (by rfl) (fun _ => by rfl) ?_ ?_
      rotate_left
      · go_simp
        try with_reducible rfl
      try simp only [Act.put, List.setIfInBounds_toArray, List.set_cons_zero, List.set_cons_succ]
      refine reads_take (i := 3) (v := ?_) rfl (by kernel_rfl) (by kernel_rfl) (by kernel_rfl) (by decide) (by kernel_rfl) (by kernel_rfl) (fun _ _ _ h => h) (by rfl) (fun _ => by rfl) ?_ ?_
      rotate_left
      · go_simp
        try with_reducible rfl
      try simp only [Act.put, List.setIfInBounds_toArray, List.set_cons_zero, List.set_cons_succ]
      refine reads_take (i := 4) (v := ?_) rfl (by kernel_rfl) (by kernel_rfl) (by kernel_rfl) (by decide) (by kernel_rfl) (by kernel_rfl) (fun _ _ _ h => h) (by rfl) (fun _ => by rfl) ?_ ?_
      rotate_left
      · go_simp
        try with_reducible rfl
      try simp only [Act.put, List.setIfInBounds_toArray, List.set_cons_zero, List.set_cons_succ]
      refine reads_take (i := 5) (v := ?_) rfl (by kernel_rfl) (by kernel_rfl) (by kernel_rfl) (by decide) (by kernel_rfl) (by kernel_rfl) (fun _ _ _ h => h) (by rfl) (fun _ => by rfl) ?_ ?_
      rotate_left
      · go_simp
        try with_reducible rfl
      try simp only [Act.put, List.setIfInBounds_toArray, List.set_cons_zero, List.set_cons_succ]
      refine reads_take (i := 6) (v := ?_) rfl (by kernel_rfl) (by kernel_rfl) (by kernel_rfl) (by decide) (by kernel_rfl) (by kernel_rfl) (fun _ _ _ h => h) (by rfl) (fun _ => by rfl) ?_ ?_
      rotate_left
      · go_simp
        try with_reducible rfl
      try simp only [Act.put, List.setIfInBounds_toArray, List.set_cons_zero, List.set_cons_succ]
      refine reads_take (i := 7) (v := ?_) rfl (by kernel_rfl) (by kernel_rfl) (by kernel_rfl) (by decide) (by kernel_rfl) (by kernel_rfl) (fun _ _ _ h => h) (by rfl) (fun _ => by rfl) ?_ ?_
      rotate_left
      · go_simp
        try with_reducible rfl
      try simp only [Act.put, List.setIfInBounds_toArray, List.set_cons_zero, List.set_cons_succ]
      refine reads_take (i := 8) (v := ?_) rfl (by kernel_rfl) (by kernel_rfl) (by kernel_rfl) (by decide) (by kernel_rfl) (by kernel_rfl) (fun _ _ _ h => h) (by rfl) (fun _ => by rfl) ?_ ?_
      rotate_left
      · go_simp
        try with_reducible rfl
      try simp only [Act.put, List.setIfInBounds_toArray, List.set_cons_zero, List.set_cons_succ]
      refine reads_take (i := 9) (v := ?_) rfl (by kernel_rfl) (by kernel_rfl) (by kernel_rfl) (by decide) (by kernel_rfl) (by kernel_rfl) (fun _ _ _ h => h) (by rfl) (fun _ => by rfl) ?_ ?_
      rotate_left
      · go_simp
        try with_reducible rfl
      try simp only [Act.put, List.setIfInBounds_toArray, List.set_cons_zero, List.set_cons_succ]
      refine reads_take (i := 10) (v := ?_) rfl (by kernel_rfl) (by kernel_rfl) (by kernel_rfl) (by decide) (by kernel_rfl) (by kernel_rfl) (fun _ _ _ h => h) (by rfl) (fun _ => by rfl) ?_ ?_
      rotate_left
      · go_simp
        try with_reducible rfl
      try simp only [Act.put, List.setIfInBounds_toArray, List.set_cons_zero, List.set_cons_succ]
      refine reads_take (i := 11) (v := ?_) rfl (by kernel_rfl) (by kernel_rfl) (by kernel_rfl) (by decide) (by kernel_rfl) (by kernel_rfl) (fun _ _ _ h => h) (by rfl) (fun _ => by rfl) ?_ ?_
      rotate_left
      · go_simp
        try with_reducible rfl
      try simp only [Act.put, List.setIfInBounds_toArray, List.set_cons_zero, List.set_cons_succ]
      refine reads_take (i := 12) (v := ?_) rfl (by kernel_rfl) (by kernel_rfl) (by kernel_rfl) (by decide) (by kernel_rfl) (by kernel_rfl) (fun _ _ _ h => h) (by rfl) (fun _ => by rfl) ?_ ?_
      rotate_left
      · go_simp
        try with_reducible rfl
      try simp only [Act.put, List.setIfInBounds_toArray, List.set_cons_zero, List.set_cons_succ]
      refine reads_take (i := 13) (v := ?_) rfl (by kernel_rfl) (by kernel_rfl) (by kernel_rfl) (by decide) (by kernel_rfl) (by kernel_rfl) (fun _ _ _ h => h) (by rfl) (fun _ => by rfl) ?_ ?_
      rotate_left
      · go_simp
        try with_reducible rfl
      try simp only [Act.put, List.setIfInBounds_toArray, List.set_cons_zero, List.set_cons_succ]
      refine reads_take (i := 14) (v := ?_) rfl (by kernel_rfl) (by kernel_rfl) (by kernel_rfl) (by decide) (by kernel_rfl) (by kernel_rfl) (fun _ _ _ h => h) (by rfl) (fun _ => by rfl) ?_ ?_
      rotate_left
      · go_simp
        try with_reducible rfl
      try simp only [Act.put, List.setIfInBounds_toArray, List.set_cons_zero, List.set_cons_succ]
      refine reads_take (i := 15) (v := ?_) rfl (by kernel_rfl) (by kernel_rfl) (by kernel_rfl) (by decide) (by kernel_rfl) (by kernel_rfl) (fun _ _ _ h => h) (by rfl) (fun _ => by rfl) ?_ ?_
      rotate_left
      · go_simp
        try with_reducible rfl
      try simp only [Act.put, List.setIfInBounds_toArray, List.set_cons_zero, List.set_cons_succ]
      refine reads_call (i := 16) (by kernel_rfl) (by decide) rfl (fun K hK => ?_)
      go_simp
      gi_wp2_with (refine hR2.mono ?_; rintro e W3 ⟨b, rfl, hX⟩)
      try simp only [Act.put, List.setIfInBounds_toArray, List.set_cons_zero, List.set_cons_succ]
      refine wpAnyIn_ready (rs := [17]) (by kernel_rfl) (by simp) ?_
      refine AllReadyIn.cons rfl (fun K hK => ?_) AllReadyIn.nil
      go_simp
      refine hK _ _ ?_
      clear hK K
      try simp only [Act.put, List.setIfInBounds_toArray, List.set_cons_zero, List.set_cons_succ]
      refine wpAnyIn_done (by kernel_rfl) ?_ _
      clear hy hR2
      rcases hX with ⟨rfl, hJ3, hk3⟩ | ⟨rfl, hJx3⟩
      · simp only [Bool.not_true]
        gi_wp2
        go_roundw
        case rel => exact ⟨k + 1, by omega, by go_num, hJ3, hnx.drew.trans hk3⟩
        case measure => simp [intOf]; omega
      · simp only [Bool.not_false]
        gi_wp2
        refine bodyPost_ret (results_none rfl _ _ _) rfl ?_
        exact ⟨⟨_, rfl⟩, .inr ⟨plTo M.l (k + 1), plTo_pre M.l (by omega), hJx3⟩⟩
    · obtain rfl : k = m := by omega
      gi_wp2
      go_end0
      exact ⟨⟨_, rfl⟩, .inl ⟨_, rfl, hJs⟩⟩

theorem places_stops (F : Fence) (n : Nat) (h6 : F.fn 142) (h7 : F.fn 87) (hro : F.round = none) (hn : 1 ≤ n) (Bn n₀ q m : Nat) {la pa : Option Addr} {lc pc : Nat} {Wf : Nat → Prop} {M : RM} (w : World) (hm : m = M.l.length) (hst : m ≤ 64) (hpos : 1 ≤ M.n) (hhd : M.h < 1000000)
    (hlow : ∀ k, Wf k → k < n₀) (hB0 : Bn < w.heap.size) (hn₀ : n₀ ≤ w.heap.size) (hc : w.cell? ⟨Bn, 0, none⟩ = some (.pointer (some ⟨q, 0, none⟩))) (hA : RgM w Wf q la lc pa pc M) :
    SeqStopsK F n Tryz.prog 142 #[.pointer (some ⟨Bn, 0, none⟩)] (fun x : PlcAt M.l => #[plVal M.h x]) (Keeps2 n₀ Bn) (fun ys => ys = plTo M.l m) (fun pre => pre <+: plTo M.l m) m w := fun l J Jx W hW hJ _ hY h0 =>
  places1_in F n h6 h7 hro hn l Bn n₀ q m hm hst hpos hhd hlow J Jx W hJ hY (Nat.le_trans hn₀ hW.size) ((hW.cell (p := ⟨Bn, 0, none⟩) (cell_lt hc)).trans hc)
    (hA.turned (below_turned' hW) (fun k hk h => by have := hlow k hk; omega)) h0
end Go.Proofs.YtmmkcfiecgpkpaaGreat

/- What Refs of the program's ring hands out. No condition but that the ring is one. -/
namespace Go.Proofs.YtmmkcfiecgpkpaaGreat
open Go.RowKit Go.Shelf
attribute [local go_sem] Oper.semAt_some
set_option linter.unusedVariables false
set_option linter.unusedSimpArgs false
set_option maxRecDepth 100000

theorem ownFrom_keeps2 {β : Type} {n₀ C D : Nat} {w₀ : World} (hn : n₀ ≤ w₀.heap.size) (hC : C < w₀.heap.size) (hD : n₀ ≤ D) (hCD : C < D) : OwnFrom D (fun (_ : β) W => Keeps2 n₀ C w₀ W) :=
  fun s W W' row hs hg hr => ⟨ownFrom_below hn hD s W W' row hs.1 hg hr, (hg.block C (Nat.lt_of_lt_of_le hC hs.1.size) (fun e => by have := (hr C e.symm).1; omega)).trans hs.2⟩
/-- Another box lies as it lay behind an append and the store of what it yields. -/
theorem Boxed.past {W w1 : World} {n₀ B C : Nat} {e tc : TypeId} {size : Nat} {v v' vc : Value} {k : Nat} {xs : List Value} {tmp : Obj} (hC : Boxed W C tc vc) (hCB : C ≠ B) (htc : tc ≠ e) (hrow : W.ownsRow n₀ e size v k xs) (hgrow : (W.alloc tmp).grownBy w1 v.ownBlock) :
    (w1.setCell ⟨B, 0, none⟩ v').heap[C]? = W.heap[C]? := by
  have h1 : Boxed w1 C tc vc := (hC.alloc tmp).kept hgrow (hC.not_row htc hrow)
  exact (Below.heap_setCell _ _ _ _ (by simpa using hCB)).trans (Eq.trans h1 (Eq.symm hC))

theorem blkOwn {β : Type} (B : Nat) (xs : List Value) (e : TypeId) : Own (fun (_ : β) W => Blk W B xs e) := fun s X Y row hs hg hrow =>
  (hg.block B hs.lt (fun e' => by obtain ⟨o, ho, hc⟩ := hrow B e'.symm; rw [show X.heap[B]? = _ from hs] at ho; cases ho; cases hc)).trans hs
/-- A place's cells. -/
def plEnc (h : Nat) {L : List Plc} (x : PlcAt L) : List Value := [.int .i64 ((h : Int) + (x.1.1 : Int)), .int .i64 x.1.2.r, .bool x.1.2.d]

/-- The references of places that have come. -/
def plRefs {L : List Plc} (l : List (PlcAt L)) : List Int := l.map (·.1.2.r)
theorem plRefs_to (L : List Plc) : ∀ k, k ≤ L.length → plRefs (plTo L k) = (L.map (·.r)).take k
  | 0, _ => by simp [plTo, plRefs]
  | k + 1, h => by
    have hk : k < L.length := by omega
    rw [plTo_step (List.getElem?_eq_getElem hk), plRefs, List.map_append]
    have := plRefs_to L k (by omega)
    unfold plRefs at this
    rw [this, List.take_add_one, List.getElem?_map, List.getElem?_eq_getElem hk]
    rfl

set_option maxHeartbeats 2000000 in
theorem rrefs_in (F : Fence) (n : Nat) (h3 : F.fn 113) (h4 : F.fn 130) (h5 : F.fn 142) (h7 : F.fn 87) (hro : F.round = none) (hn : 3 ≤ n) (w : World) {W : Nat → Prop} {q lc pc : Nat} {la pa : Option Addr} {M : RM} {N : Nat} (H : RgM w W q la lc pa pc M) (hM : M.Ok N) (hN : N < 1000000) (m : Nat) (hm : m = M.l.length) :
    CallsIn F n Tryz.prog 113 #[.pointer (some ⟨q, 0, none⟩)] w (OutNums w M.refs m) := by
  have h1 : 1 ≤ n := by omega
  have hm64 : m ≤ 64 := by have := hM.len; have := hM.max; omega
  have hhd : M.h < 1000000 := by have := hM.low; unfold RM.tail at this; omega
  have HP := Lib.hid hM.pos
  have HM := Lib.hid hm
  have HH := Lib.hid H
  have HLt := Lib.hid H.lt
  obtain ⟨i0, hi, hz0, hz1, hz2⟩ := info_parts infoIntW
  clear hm hM hN H
  refine callsIn_of_wp_marks Tryz.func113 rfl h3 ?_ hro
  simp only [Tryz.ntmps113, List.size_toArray, List.length_cons, List.length_nil, Nat.reduceAdd, Nat.reduceSub, Array.replicate_succ, Array.replicate_zero, List.push_toArray, List.append_toArray, List.nil_append, List.cons_append]
  gi_wp2_with (gi_at_call 130; refine (places_in F (n - 1) h4 hro _ _).mono ?_; rintro e w' ⟨rfl, rfl⟩)
  have bO := (Boxed.new w 23 (.slice none 0 0)).alloc (.cells #[.pointer (some ⟨q, 0, none⟩)] 104)
  have bN := Boxed.new (w.alloc (.cells #[.slice none 0 0] 23)) 104 (.pointer (some ⟨q, 0, none⟩))
  rw [World.size_alloc] at bN
  have hH0 := HH.out.still ((((Turned.refl _ w).alloc (.cells #[.slice none 0 0] 23)).alloc (.cells #[.pointer (some ⟨q, 0, none⟩)] 104)))
  have hB0 : Below w.heap.size w ((w.alloc (.cells #[.slice none 0 0] 23)).alloc (.cells #[.pointer (some ⟨q, 0, none⟩)] 104)) := ((Below.refl _ w).alloc (Nat.le_refl _) _).alloc (by simp) _
  have hsz : ((w.alloc (.cells #[.slice none 0 0] 23)).alloc (.cells #[.pointer (some ⟨q, 0, none⟩)] 104)).heap.size = w.heap.size + 2 := by simp
  obtain ⟨W0, hW0⟩ : ∃ W0, (w.alloc (.cells #[.slice none 0 0] 23)).alloc (.cells #[.pointer (some ⟨q, 0, none⟩)] 104) = W0 := ⟨_, rfl⟩
  rw [hW0] at bO bN hH0 hB0 hsz ⊢
  clear hW0
  have hlenT := plTo_len M.l m (by rw [HM.out]; exact Nat.le_refl _)
  have hRef : plRefs (plTo M.l m) = M.refs := by rw [plRefs_to M.l m (by rw [HM.out]; exact Nat.le_refl _), HM.out]; exact List.take_of_length_le (by simp)
  have HR := Lib.hid hRef
  have HL := Lib.hid hlenT
  clear hRef hlenT
  obtain ⟨hh, hhe⟩ : ∃ hh, hh = M.h := ⟨_, rfl⟩
  have HHE := Lib.hid hhe
  clear hhe
  refine wpIn_rangeFunc_ownH hro h1 (gf := 142) (lb := #[.pointer (some ⟨w.heap.size + 1, 0, none⟩)]) rfl h5 (enters_of Tryz.func142 (by kernel_rfl) rfl)
    (places_stops F (n - 1) h5 h7 hro (by omega) (w.heap.size + 1) w.heap.size q m W0 HM.out hm64 HP.out hhd HLt.out (by omega) (by omega) bN.cell hH0) (fun h k => h.trans k) (keeps2K_b (by omega) (by omega)) (Below.refl _ _) (fun _ => rfl)
    (fun pre W => (∃ v, Boxed W w.heap.size 23 v ∧ W.ownsRow w.heap.size 3 1 v pre.length (ints (plRefs pre)) ∧ True) ∧ Keeps2 w.heap.size (w.heap.size + 1) W0 W)
    (fun _ _ _ => False)
    (OwnFrom.and (Own.from (holdsRow_own w.heap.size w.heap.size 23 3 1 (fun pre : List (PlcAt M.l) => pre.length) (fun pre => ints (plRefs pre)) (fun _ _ => True)) _) (ownFrom_keeps2 (by omega) (by omega) (by omega) (by omega)))
    (fun _ _ _ _ _ hs _ _ => hs)
    ⟨⟨_, bO, World.ownsRow_nil _ _ _ _, trivial⟩, Keeps2.refl _ _ _⟩
    (fun x a' W => ∃ Bx, w.heap.size + 1 < Bx ∧ Blk W Bx (plEnc M.h x) 170 ∧ a' = { tmps := #[.pointer (some ⟨q, 0, none⟩), undef, .slice none 0 0, .pointer (some ⟨w.heap.size, 0, none⟩), .pointer (some ⟨Bx, 0, none⟩), .pointer (some ⟨q, 0, none⟩), .func (.func 142) #[] #[.pointer (some ⟨w.heap.size + 1, 0, none⟩)], plVal M.h x, undef, undef, undef, undef, undef, undef], defers := [] })
    (fun x a' _ X Y row hs hg hr => by obtain ⟨Bx, h1, h2, h3⟩ := hs; exact ⟨Bx, h1, blkOwn Bx (plEnc M.h x) 170 () X Y row h2 hg (fun r e => (hr r e).2), h3⟩)
    ?assign ?body ?done ?stop
  case assign =>
    rintro l pre ⟨⟨x1, x2⟩, x3⟩ W K ⟨⟨v, hv, hrow, _⟩, hB⟩ hK
    dsimp only [plVal, plEnc] at hK ⊢
    have hsW := hB.1.size
    have hK2 := (Keeps2.refl w.heap.size (w.heap.size + 1) W).alloc (by omega) (by omega) (.cells #[.int .i64 ((M.h : Int) + (x1 : Int)), .int .i64 x2.r, .bool x2.d] 170)
    gi_wp2
    exact hK _ _ ((KeepsOthers.alloc _ _).from _) hK2 ⟨⟨v, hv.alloc _, hrow.alloc _, trivial⟩, hB.trans hK2⟩ ⟨W.heap.size, by omega, Blk.new W (plEnc M.h ⟨(x1, x2), x3⟩) _, rfl⟩
  case body =>
    rintro l pre x a' W hl ⟨r, hr⟩ ⟨⟨v, hv, hrow, _⟩, hB⟩ ⟨Bx, hBx, bX, rfl⟩ hlt
    have hc := hv.cell
    have hC : Boxed W (w.heap.size + 1) 104 (.pointer (some ⟨q, 0, none⟩)) := Eq.trans hB.2 bN
    have c1 : W.cell? ⟨Bx, 1, none⟩ = some (.int .i64 x.1.2.r) := bX.cell rfl
    have hsW := hB.1.size
    obtain ⟨xr, hxr⟩ : ∃ xr, xr = x.1.2.r := ⟨_, rfl⟩
    rw [← hxr] at c1
    have HX := Lib.hid hxr
    clear hr hxr
    gi_wp2_with (gi_at_builtin; refine wpListIn_append_own _ rfl _ _ 23 rfl w.heap.size 3 i0 (.int .i64 0) 1 8 Tryz.underlying23 hi hz0 hz1 hz2 rfl (by decide) _ pre.length _ rfl (hrow.alloc _) ⟨W.heap.size, 0, none⟩ 1 1 [.int .i64 xr] rfl rfl (cell_one_new _ _ _) (by simp [Value.oneCell']) (by unfold maxLen; omega) (by omega) (by simp; omega) ?_; intro v' w2 hown' hgrow _; obtain ⟨g', cap', e'⟩ := (show ∃ g cap, v' = .slice (some ⟨g, 0, none⟩) (pre.length + 1) cap from ownsRow_succ hown'); subst e'; have hk := Boxed.past (v' := .slice (some ⟨g', 0, none⟩) (pre.length + 1) cap') (B := w.heap.size) hC (by omega) (by decide) hrow hgrow; obtain ⟨hv1, hv2, hr2, hk2, hb2⟩ := hv.appended (by decide) hrow (by omega) (Nat.le_refl _) hown' hgrow; have hc1 := hv1.cell; have hf1 := hv1.frozen)
    exact ⟨hk2.from _, ⟨hb2, hk⟩, ⟨_, hv2, by have := HX.out; subst this; simpa [plRefs, ints] using hr2, trivial⟩, hB.trans ⟨hb2, hk⟩⟩
  case done =>
    rintro D ys W hD rfl ⟨⟨v, hv, hrow, _⟩, hB⟩ hK
    rw [HL.out, HR.out] at hrow
    obtain ⟨ao, cc, rfl⟩ := ow_slice hrow
    have hc := hv.cell
    gi_wp2
    refine ⟨by simp, .inl ⟨_, _, rfl, run_takeDeferred hK, ?_⟩⟩
    exact ⟨_, results_tmp rfl _ _ _, ao, cc, rfl, ownsRow_putObj hrow _ hK rfl, below_turned (hB0.trans (hB.1.trans (belowK_b (w := w) (Nat.le_refl _) W D _ _ (by omega) hK rfl rfl))) (Nat.le_refl _)⟩
  case stop =>
    rintro D c pre W _ _ h _
    exact h.elim

theorem rrefs_any {w : World} {W : Nat → Prop} {q : Nat} {M : RM} {N : Nat} (H0 : (rT q M).at_ w W) (hM : M.Ok N) (hN : N < 1000000) (m : Nat) (hm : m = M.l.length) : Calls Tryz.prog 113 #[.pointer (some ⟨q, 0, none⟩)] w (OutNums w M.refs m) := by
  obtain ⟨la, lc, pa, pc, H⟩ := H0
  exact (callsIn_wide (n := 3)).1 (rrefs_in Fence.wide 3 trivial trivial trivial trivial rfl (by omega) w H hM hN m hm)
end Go.Proofs.YtmmkcfiecgpkpaaGreat

/- What Ready of the program's ring answers. No condition but that the ring is one. -/
namespace Go.Proofs.YtmmkcfiecgpkpaaGreat
open Go.RowKit Go.Shelf
attribute [local go_sem] Oper.semAt_some
set_option linter.unusedVariables false
set_option linter.unusedSimpArgs false
set_option maxRecDepth 100000

theorem tw_len {α : Type} (f : α → Bool) : ∀ (l : List α) (t : Nat), t ≤ l.length → (∀ j x, j < t → l[j]? = some x → f x = true) → (t < l.length → ∃ x, l[t]? = some x ∧ f x = false) → (l.takeWhile f).length = t
  | [], t, h, _, _ => by simp at h; subst h; rfl
  | a :: r, 0, _, _, h => by
    obtain ⟨x, hx, hf⟩ := h (by simp)
    simp at hx
    subst hx
    rw [List.takeWhile_cons_of_neg (by simp [hf])]; rfl
  | a :: r, t + 1, h0, h1, h2 => by
    rw [List.takeWhile_cons_of_pos (h1 0 a (by omega) rfl)]
    have := tw_len f r t (by simp at h0; omega) (fun j x hj hx => h1 (j + 1) x (by omega) (by simpa using hx)) (fun h => by simpa using h2 (by simp; omega))
    simp [this]

/-- How far one comes who looks at place after place: each is ahead of what was asked, or published; and the next is neither. -/
theorem RM.ready_eq {M : RM} {a : Int} {k : Nat} (hk : k ≤ M.l.length) (h1 : ∀ j p, j < k → M.l[j]? = some p → (M.h : Int) + (j : Int) < a ∨ p.d = true) (h2 : k < M.l.length → ∃ p, M.l[k]? = some p ∧ ¬ (M.h : Int) + (k : Int) < a ∧ p.d = false) : M.ready a = M.h + k := by
  unfold RM.ready RM.tail
  obtain ⟨c, hc⟩ : ∃ c, c = M.cut a := ⟨_, rfl⟩
  have hca : ∀ j : Nat, c ≤ j → ¬ (M.h : Int) + (j : Int) < a := fun j hj => by rw [hc] at hj; unfold RM.cut at hj; omega
  have hca2 : ∀ j : Nat, ¬ (M.h : Int) + (j : Int) < a → c ≤ j := fun j hj => by rw [hc]; unfold RM.cut; omega
  rw [← hc]
  by_cases hck : c ≤ k
  · have ht := tw_len (·.d) (M.l.drop c) (k - c) (by rw [List.length_drop]; omega)
      (fun j x hj hx => by
        rw [List.getElem?_drop] at hx
        rcases h1 (c + j) x (by omega) hx with h | h
        · exact absurd h (hca _ (by omega))
        · exact h)
      (fun h => by
        rw [List.length_drop] at h
        obtain ⟨p, hp, _, hd⟩ := h2 (by omega)
        exact ⟨p, by rw [List.getElem?_drop, show c + (k - c) = k by omega]; exact hp, hd⟩)
    rw [ht]
    omega
  · have : k = M.l.length := by
      rcases Nat.lt_or_ge k M.l.length with h | h
      · obtain ⟨p, _, hn, _⟩ := h2 h
        exact absurd (hca2 k hn) (by omega)
      · omega
    omega

/-- How far one has come behind some places. -/
def rdOf (h : Nat) {L : List Plc} (l : List (PlcAt L)) : Nat := match l.getLast? with
  | some x => h + x.1.1 + 1
  | none => h
theorem rdOf_snoc (h : Nat) {L : List Plc} (l : List (PlcAt L)) (x : PlcAt L) : rdOf h (l ++ [x]) = h + x.1.1 + 1 := by simp [rdOf]
theorem rdOf_to (h : Nat) (L : List Plc) : ∀ k, k ≤ L.length → rdOf h (plTo L k) = h + k
  | 0, _ => rfl
  | k + 1, hk => by 
    rw [plTo_step (List.getElem?_eq_getElem (show k < L.length by omega)), rdOf_snoc]
    exact Nat.add_assoc h k 1
theorem plTo_mem {L : List Plc} {x : PlcAt L} : ∀ {k : Nat}, k ≤ L.length → (x ∈ plTo L k ↔ x.1.1 < k)
  | 0, _ => by simp [plTo]
  | k + 1, hk => by
    have hlt : k < L.length := by omega
    rw [plTo_step (List.getElem?_eq_getElem hlt), List.mem_append, plTo_mem (k := k) (by omega), List.mem_singleton]
    constructor
    · rintro (h | h)
      · omega
      · subst h; exact Nat.lt_succ_self _
    · intro h
      rcases Nat.lt_succ_iff_lt_or_eq.1 h with h | h
      · exact .inl h
      · refine .inr (Subtype.ext ?_)
        obtain ⟨⟨x1, x2⟩, hx⟩ := x
        dsimp only at h hx ⊢
        subst h
        rw [List.getElem?_eq_getElem hlt] at hx
        cases hx
        rfl
/-- A beginning of the places, with a last one, is the first so many and the next. -/
theorem plTo_front {L : List Plc} {pre : List (PlcAt L)} {x : PlcAt L} (h : pre ++ [x] <+: plTo L L.length) : x.1.1 < L.length ∧ pre = plTo L x.1.1 := by
  have hl : pre.length + 1 ≤ L.length := by
    have := h.length_le
    rw [List.length_append, plTo_len L _ (Nat.le_refl _)] at this
    simpa using this
  have h2 := plTo_pre L hl
  have e : pre ++ [x] = plTo L (pre.length + 1) := by
    refine List.IsPrefix.eq_of_length (List.prefix_of_prefix_length_le h h2 ?_) ?_ <;> rw [plTo_len L _ hl] <;> simp
  rw [plTo_step (List.getElem?_eq_getElem (show pre.length < L.length by omega))] at e
  obtain ⟨e1, e2⟩ := List.append_inj' e rfl
  have e3 : x = ⟨(pre.length, L[pre.length]), List.getElem?_eq_getElem (show pre.length < L.length by omega)⟩ := by simpa using e2
  have e4 : x.1.1 = pre.length := by rw [e3]
  rw [e4]
  exact ⟨by omega, e1⟩

theorem rhead_in (F : Fence) (n q m hd : Nat) (w : World) (hm : 0 < m) (hn : 1 ≤ n) (h : F.fn 85) (h2 : F.fn 87) (hro : F.round = none) (c0 : w.cell? ⟨q, 0, none⟩ = some (.int .i64 m)) (c2 : w.cell? ⟨q, 2, none⟩ = some (.int .i64 hd)) :
    CallsIn F n Tryz.prog 85 #[.pointer (some ⟨q, 0, none⟩)] w fun e w' => e = .returned (.int .i64 hd) ∧ w = w' := by
  refine callsIn_of_wp Tryz.func85 rfl h ?_ hro
  simp only [Tryz.ntmps85, List.size_toArray, List.length_cons, List.length_nil, Nat.reduceAdd, Nat.reduceSub, Array.replicate_succ, Array.replicate_zero, List.push_toArray, List.append_toArray, List.nil_append, List.cons_append]
  gi_wp2_with (gi_at_call 87; refine (rmade_in F (n - 1) q m w hm h2 hro c0).mono ?_; rintro e w' ⟨rfl, rfl⟩)
  go_ret
  exact ⟨rfl, rfl⟩

/-- What holds between two rounds; and where one has left. -/
def RdI (w W0 : World) (M : RM) (a : Int) (pre : List (PlcAt M.l)) (W : World) : Prop :=
  (Boxed W (w.heap.size + 1) 3 (.int .i64 (rdOf M.h pre : Nat)) ∧ ∀ x ∈ pre, (M.h : Int) + (x.1.1 : Int) < a ∨ x.1.2.d = true) ∧ Keeps2 (w.heap.size + 1) (w.heap.size + 2) W0 W
def RdX (w W0 : World) (M : RM) (a : Int) (c : Code) (pre : List (PlcAt M.l)) (W : World) : Prop :=
  c = .exit 0 ∧ ∃ pre0 x, pre = pre0 ++ [x] ∧ ¬ (M.h : Int) + (x.1.1 : Int) < a ∧ x.1.2.d = false ∧ RdI w W0 M a pre0 W
theorem RdI.own {w W0 : World} {M : RM} {a : Int} (h : W0.heap.size = w.heap.size + 3) : OwnFrom W0.heap.size (RdI w W0 M a) := fun s W W' row hs hg hr =>
  ⟨⟨boxed_own (β := Unit) _ _ (fun _ => _) () W W' row hs.1.1 hg (fun r e => (hr r e).2), hs.1.2⟩, ownFrom_keeps2 (β := Unit) (by omega) (by omega) (by omega) (by omega) () W W' row hs.2 hg hr⟩

set_option maxHeartbeats 2000000 in
theorem rready_any {w : World} {W : Nat → Prop} {q : Nat} {M : RM} {N : Nat} (H0 : (rT q M).at_ w W) (hM : M.Ok N) (hN : N < 1000000) (a : Int) :
    Calls Tryz.prog 122 #[.pointer (some ⟨q, 0, none⟩), .int .i64 a] w fun e w' => e = .returned (.int .i64 (M.ready a)) ∧ Still w w' := by
  obtain ⟨la, lc, pa, pc, H⟩ := H0
  refine (callsIn_wide (n := 3)).1 ?_
  obtain ⟨m, hm⟩ : ∃ m, m = M.l.length := ⟨_, rfl⟩
  have hm64 : m ≤ 64 := by have := hM.len; have := hM.max; omega
  have hhd : M.h < 1000000 := by have := hM.low; unfold RM.tail at this; omega
  have HP := Lib.hid hM.pos
  have HM := Lib.hid hm
  have HH := Lib.hid H
  have HLt := Lib.hid H.lt
  obtain ⟨c0, _, c2, _, _⟩ := H.cells
  have HHd := Lib.hid (fun (V : World) (hst : Still w V) d (hd : 1 ≤ d) => rhead_in Fence.wide d q M.n M.h V hM.pos hd trivial trivial rfl (still_cell hst c0 rfl) (still_cell hst c2 rfl))
  have hro : Fence.wide.round = none := rfl
  clear hm hM hN H c0 c2
  refine callsIn_of_wp_marks Tryz.func122 rfl trivial ?_ rfl
  simp only [Tryz.ntmps122, List.size_toArray, List.length_cons, List.length_nil, Nat.reduceAdd, Nat.reduceSub, Array.replicate_succ, Array.replicate_zero, List.push_toArray, List.append_toArray, List.nil_append, List.cons_append]
  have hs1 : Still w (w.alloc (.cells #[.int .i64 a] 3)) := (Turned.refl _ w).alloc _
  gi_wp2_with fail
  refine wpIn_wide.2 (wp_scope_straight ((wpIn_wide (n := 3)).1 ?_))
  gi_wp2_with (refine ⟨trivial, ?_⟩; gi_at_call 85; refine (HHd.out _ hs1 _ (by omega)).mono ?_; rintro e w' ⟨rfl, rfl⟩)
  refine wpIn_label ?_
  gi_wp2_with (refine ⟨trivial, ?_⟩; gi_at_call 130; refine (places_in Fence.wide _ trivial rfl _ _).mono ?_; rintro e w' ⟨rfl, rfl⟩)
  rw [show w.heap.size + 1 + 1 = w.heap.size + 2 by omega]
  obtain ⟨o1, ho1⟩ : ∃ o : Obj, o = .cells #[.int .i64 a] 3 := ⟨_, rfl⟩
  obtain ⟨o2, ho2⟩ : ∃ o : Obj, o = .cells #[.int .i64 (M.h : Nat)] 3 := ⟨_, rfl⟩
  obtain ⟨o3, ho3⟩ : ∃ o : Obj, o = .cells #[.pointer (some ⟨q, 0, none⟩)] 104 := ⟨_, rfl⟩
  have bA : Boxed (((w.alloc o1).alloc o2).alloc o3) w.heap.size 3 (.int .i64 a) := by rw [ho1]; exact ((Boxed.new w 3 _).alloc o2).alloc o3
  have bO : Boxed (((w.alloc o1).alloc o2).alloc o3) (w.heap.size + 1) 3 (.int .i64 (M.h : Nat)) := by
    have := (Boxed.new (w.alloc o1) 3 (.int .i64 (M.h : Nat))).alloc o3
    rw [ho2]; rwa [World.size_alloc] at this
  have bN : Boxed (((w.alloc o1).alloc o2).alloc o3) (w.heap.size + 2) 104 (.pointer (some ⟨q, 0, none⟩)) := by
    have := Boxed.new ((w.alloc o1).alloc o2) 104 (.pointer (some ⟨q, 0, none⟩))
    rw [ho3]; rwa [World.size_alloc, World.size_alloc] at this
  have hT0 : Still w (((w.alloc o1).alloc o2).alloc o3) := (((Turned.refl _ w).alloc o1).alloc o2).alloc o3
  have hsz : (((w.alloc o1).alloc o2).alloc o3).heap.size = w.heap.size + 3 := by simp
  rw [← ho1, ← ho2, ← ho3]
  obtain ⟨W0, hW0⟩ : ∃ W0, ((w.alloc o1).alloc o2).alloc o3 = W0 := ⟨_, rfl⟩
  rw [hW0] at bA bO bN hT0 hsz ⊢
  have hH0 := HH.out.still hT0
  have hlow : ∀ k, W k → k < w.heap.size + 1 := fun k hk => Nat.lt_succ_of_lt (HLt.out k hk)
  have HB0 := Lib.hid hT0
  have HA := Lib.hid bA
  have HSZ := Lib.hid hsz
  have hszl : w.heap.size + 3 ≤ W0.heap.size := by omega
  clear hW0 ho1 ho2 ho3 hs1 hT0 hsz
  refine wpIn_rangeFunc_ownH rfl (by omega) (gf := 142) (lb := #[.pointer (some ⟨w.heap.size + 2, 0, none⟩)]) rfl trivial (enters_of Tryz.func142 (by kernel_rfl) rfl)
    (places_stops Fence.wide (3 - 1) trivial trivial rfl (by omega) (w.heap.size + 2) (w.heap.size + 1) q m W0 HM.out hm64 HP.out hhd hlow (by omega) (by omega) bN.cell hH0) (fun h k => h.trans k) (keeps2K_b (by omega) (by omega)) (Below.refl _ _) (fun _ => rfl)
    (RdI w W0 M a) (RdX w W0 M a) (RdI.own HSZ.out) (fun c s W W' row ⟨h1, p0, x, h2, h3, h4, h5⟩ hg hr => ⟨h1, p0, x, h2, h3, h4, RdI.own HSZ.out p0 W W' row h5 hg hr⟩)
    ⟨⟨bO, fun x hx => by cases hx⟩, Keeps2.refl _ _ _⟩
    (fun x a' W => ∃ Bx, w.heap.size + 2 < Bx ∧ Blk W Bx (plEnc M.h x) 170 ∧ a' = { tmps := #[.pointer (some ⟨q, 0, none⟩), .int .i64 a, undef, .pointer (some ⟨w.heap.size, 0, none⟩), .int .i64 0, .pointer (some ⟨w.heap.size + 1, 0, none⟩), .pointer (some ⟨Bx, 0, none⟩), .pointer (some ⟨q, 0, none⟩), .int .i64 (M.h : Nat), .pointer (some ⟨q, 0, none⟩), .func (.func 142) #[] #[.pointer (some ⟨w.heap.size + 2, 0, none⟩)], plVal M.h x, undef, undef, undef, undef, undef, undef, undef, undef, undef, undef, undef, undef, undef], defers := [] })
    (fun x a' _ X Y row hs hg hr => by obtain ⟨Bx, h1, h2, h3⟩ := hs; exact ⟨Bx, h1, blkOwn Bx (plEnc M.h x) 170 () X Y row h2 hg (fun r e => (hr r e).2), h3⟩)
    ?assign ?body ?done ?stop
  case assign =>
    rintro l pre ⟨⟨x1, x2⟩, x3⟩ W K hI hK
    dsimp only [plVal, plEnc] at hK ⊢
    have hsW := hI.2.1.size
    have hK2 := (Keeps2.refl (w.heap.size + 1) (w.heap.size + 2) W).alloc (by omega) (by omega) (.cells #[.int .i64 ((M.h : Int) + (x1 : Int)), .int .i64 x2.r, .bool x2.d] 170)
    have hI2 : RdI w W0 M a pre (W.alloc (.cells #[.int .i64 ((M.h : Int) + (x1 : Int)), .int .i64 x2.r, .bool x2.d] 170)) := ⟨⟨hI.1.1.alloc _, hI.1.2⟩, hI.2.trans hK2⟩
    have HI2 := Lib.hid hI2
    clear hI hI2
    gi_wp2
    exact hK _ _ ((KeepsOthers.alloc _ _).from _) hK2 HI2.out ⟨W.heap.size, by omega, Blk.new W (plEnc M.h ⟨(x1, x2), x3⟩) _, rfl⟩
  case body =>
    rintro l pre x a' W hl ⟨r, hr⟩ hI ⟨Bx, hBx, bX, rfl⟩ hlt
    have HI := Lib.hid hI
    have hrd := hI.1.1.cell
    have hrf := hI.1.1.frozen
    have cA : W.cell? ⟨w.heap.size, 0, none⟩ = some (.int .i64 a) := (hI.2.1.cell (p := ⟨w.heap.size, 0, none⟩) (Nat.lt_succ_self _)).trans HA.out.cell
    have hsW := hI.2.1.size
    have k0 : W.cell? ⟨Bx, 0, none⟩ = some (.int .i64 ((M.h : Int) + (x.1.1 : Int))) := bX.cell rfl
    have k2 : W.cell? ⟨Bx, 2, none⟩ = some (.bool x.1.2.d) := bX.cell rfl
    have hxl : x.1.1 < m := by rw [HM.out]; exact (List.getElem?_eq_some_iff.1 x.2).1
    have HGo := Lib.hid (fun (hok : (M.h : Int) + (x.1.1 : Int) < a ∨ x.1.2.d = true) => show ownPostG W0.heap.size (Keeps2 (w.heap.size + 1) (w.heap.size + 2)) (RdI w W0 M a) (RdX w W0 M a) (pre ++ [x]) W .normal { tmps := #[], defers := [] } (W.setCell ⟨w.heap.size + 1, 0, none⟩ (.int .i64 ((M.h : Int) + (x.1.1 : Int) + 1))) by
      have hk : Keeps2 (w.heap.size + 1) (w.heap.size + 2) W (W.setCell ⟨w.heap.size + 1, 0, none⟩ (.int .i64 ((M.h : Int) + (x.1.1 : Int) + 1))) :=
        ⟨(Below.refl _ W).setCell (p := ⟨w.heap.size + 1, 0, none⟩) (Nat.le_refl _) _, Below.heap_setCell _ _ _ _ (by simp)⟩
      refine ⟨(KeepsOthers.setCell _ _ _).from _, hk, ⟨?_, fun y hy => ?_⟩, HI.out.2.trans hk⟩
      · rw [rdOf_snoc]
        have := HI.out.1.1.set (.int .i64 ((M.h : Int) + (x.1.1 : Int) + 1))
        rwa [show ((M.h + x.1.1 + 1 : Nat) : Int) = (M.h : Int) + (x.1.1 : Int) + 1 by omega]
      · rcases List.mem_append.1 hy with hy | hy
        · exact HI.out.1.2 y hy
        · obtain rfl : y = x := by simpa using hy
          exact hok)
    have HStop := Lib.hid (fun (h1 : ¬ (M.h : Int) + (x.1.1 : Int) < a) (h2 : x.1.2.d = false) => show RdX w W0 M a (.exit 0) (pre ++ [x]) W from ⟨rfl, pre, x, rfl, h1, h2, HI.out⟩)
    obtain ⟨y, hy⟩ : ∃ y : Int, y = (M.h : Int) + (x.1.1 : Int) := ⟨_, rfl⟩
    have hyb : y < 10000000 := by omega
    have hy0 : 0 ≤ y := by omega
    rw [← hy] at HGo HStop k0
    clear hr hI bX hy
    by_cases hya : y < a
    · gi_wp2
      exact HGo.out (.inl hya)
    · cases hd : x.1.2.d with
      | true =>
        rw [hd] at k2
        have HG := Lib.hid (HGo.out (.inr hd))
        clear HGo HStop hd
        gi_wp2
        exact HG.out
      | false =>
        rw [hd] at k2
        have HS := Lib.hid (HStop.out hya hd)
        clear HGo HStop hd
        gi_wp2
        exact ⟨(KeepsOthers.refl _).from _, (show RdX w W0 M a (.exit 0) (pre ++ [x]) W from HS.out)⟩
  case done =>
    rintro D ys W hD rfl hI hK
    have hc := hI.1.1.cell
    have HI := Lib.hid hI
    clear hI
    gi_wp2
    try rw [Exit.noGoto_ret]
    refine ⟨by simp, .inl ⟨_, _, rfl, run_takeDeferred hK, ?_⟩⟩
    have hst : Still w (W.putObj D (.deferred none)) := below_turned ((((⟨HB0.out.os, HB0.out.tape, HB0.out.output, HB0.out.size, fun k hk => HB0.out.block k hk (fun h => h)⟩ : Below w.heap.size w W0)).trans (HI.out.2.1.mono (Nat.le_succ _))).trans (belowK_b (w := w) (Nat.le_refl _) W D _ _ (by omega) hK rfl rfl)) (Nat.le_refl _)
    have hv : M.ready a = rdOf M.h (plTo M.l m) := by
      rw [rdOf_to M.h M.l m (by rw [HM.out]; exact Nat.le_refl _), HM.out]
      refine RM.ready_eq (Nat.le_refl _) (fun j p hj hp => ?_) (fun h => absurd h (Nat.lt_irrefl _))
      exact HI.out.1.2 ⟨(j, p), hp⟩ ((plTo_mem (by rw [HM.out]; exact Nat.le_refl _)).2 (by rw [HM.out]; exact hj))
    rw [hv]
    exact ⟨_, results_tmp rfl _ _ _, rfl, hst⟩
  case stop =>
    rintro D c pre W hD hpre ⟨rfl, pre0, x, rfl, hx1, hx2, hI⟩ hK
    have hc := hI.1.1.cell
    have HI := Lib.hid hI
    clear hI
    gi_wp2
    try rw [Exit.noGoto_ret]
    refine ⟨by simp, .inl ⟨_, _, rfl, run_takeDeferred hK, ?_⟩⟩
    have hst : Still w (W.putObj D (.deferred none)) := below_turned ((((⟨HB0.out.os, HB0.out.tape, HB0.out.output, HB0.out.size, fun k hk => HB0.out.block k hk (fun h => h)⟩ : Below w.heap.size w W0)).trans (HI.out.2.1.mono (Nat.le_succ _))).trans (belowK_b (w := w) (Nat.le_refl _) W D _ _ (by omega) hK rfl rfl)) (Nat.le_refl _)
    have hv : M.ready a = rdOf M.h pre0 := by
      rw [HM.out] at hpre
      obtain ⟨hxl, hp0⟩ := plTo_front hpre
      rw [hp0, rdOf_to M.h M.l _ (Nat.le_of_lt hxl)]
      refine RM.ready_eq (Nat.le_of_lt hxl) (fun j p hj hp => ?_) (fun _ => ⟨x.1.2, x.2, by omega, hx2⟩)
      exact HI.out.1.2 ⟨(j, p), hp⟩ (by rw [hp0]; exact (plTo_mem (Nat.le_of_lt hxl)).2 hj)
    rw [hv]
    exact ⟨_, results_tmp rfl _ _ _, rfl, hst⟩
end Go.Proofs.YtmmkcfiecgpkpaaGreat

/- What cut of the program's ring does: the first so many places go off the window. No condition but that there are so many. -/
namespace Go.Proofs.YtmmkcfiecgpkpaaGreat
open Go.RowKit
set_option linter.unusedVariables false
set_option linter.unusedSimpArgs false
set_option maxRecDepth 100000

theorem RgIn.cutN {w : World} {W : Nat → Prop} {q lc pc n h : Nat} {la pa : Option Addr} {ov : Bool} {R : List Int} {D : List Bool} (H : RgIn w W q la lc pa pc n ov h R D) (c m d : Nat) (hR : c ≤ R.length) (hD : c ≤ D.length) (hm : m = R.length - c) (hd : d = D.length - c) :
    RgIn (((w.setCell ⟨q, 3, none⟩ (.slice (if lc = c then la else la.map (fun x => x.add c)) m (lc - c))).setCell ⟨q, 4, none⟩ (.slice (if pc = c then pa else pa.map (fun x => x.add c)) d (pc - c))).setCell ⟨q, 2, none⟩ (.int .i64 ((h : Int) + (c : Int))))
      W q (if lc = c then la else la.map (fun x => x.add c)) (lc - c) (if pc = c then pa else pa.map (fun x => x.add c)) (pc - c) n ov (h + c) (R.drop c) (D.drop c) := by
  have h1 := H.ls.drop hR
  have h2 := H.setR (w' := w) (la' := if lc = c then la else la.map (fun x => x.add c)) (lc' := lc - c) (m := m) (R' := R.drop c) (by rw [List.length_drop]; exact hm) (Turned.refl _ _) (by rw [hm]; simpa [ints, List.map_drop] using h1) (fun k hk => .inl (Part.drop_pb hk))
  have h3 := h2.ps.drop hD
  have h4 := h2.setP (w' := w.setCell ⟨q, 3, none⟩ (.slice (if lc = c then la else la.map (fun x => x.add c)) m (lc - c))) (pa' := if pc = c then pa else pa.map (fun x => x.add c)) (pc' := pc - c) (m := d) (D' := D.drop c) (by rw [List.length_drop]; exact hd) (Turned.refl _ _) (by rw [hd]; simpa [bools, List.map_drop] using h3) (fun k hk => .inl (Part.drop_pb hk))
  have h5 := h4.setH (h + c)
  rw [show ((h + c : Nat) : Int) = (h : Int) + (c : Int) by omega] at h5
  refine h5.less H.own (fun k hk => (H.lW k (Part.drop_pb hk)).1) (fun k hk => (H.pW k (Part.drop_pb hk)).1) (fun k hk => ?_)
  have := H.lt k hk
  simpa [World.setCell] using this

set_option maxHeartbeats 1000000 in
theorem rcut_any {w : World} {W : Nat → Prop} {q lc pc n h : Nat} {la pa : Option Addr} {ov : Bool} {R : List Int} {D : List Bool} (H : RgIn w W q la lc pa pc n ov h R D) (c : Nat) (hR : c ≤ R.length) (hD : c ≤ D.length) (h64 : R.length ≤ 64) (hD64 : D.length ≤ 64) (hh : h < 1000000) :
    Calls Tryz.prog 108 #[.pointer (some ⟨q, 0, none⟩), .int .i64 c] w fun e w' => e = .returned (.slice la c c) ∧ (∃ la' pa', RgIn w' W q la' (lc - c) pa' (pc - c) n ov (h + c) (R.drop c) (D.drop c)) ∧ Turned (· = q) w w' := by
  obtain ⟨_, _, c2, c3, c4⟩ := H.cells
  have f2 := H.hd.free 2
  have f3 := H.hd.free 3
  have f4 := H.hd.free 4
  have hl := H.ls.le
  have hp := H.ps.le
  obtain ⟨m, hm⟩ : ∃ m, m = R.length := ⟨_, rfl⟩
  obtain ⟨d, hd⟩ : ∃ d, d = D.length := ⟨_, rfl⟩
  have HP := Lib.hid (H.cutN c (m - c) (d - c) hR hD (by rw [hm]) (by rw [hd]))
  rw [← hm] at c3 hl hR h64
  rw [← hd] at c4 hp hD hD64
  have hc1 : (c : Int) ≤ (m : Int) := by omega
  have hc2 : (c : Int) ≤ (d : Int) := by omega
  have hh1 : (h : Int) < 1000000 := by omega
  have hh0 : (0 : Int) ≤ (h : Int) := by omega
  have hT : ∀ u v x, Turned (· = q) w (((w.setCell ⟨q, 3, none⟩ u).setCell ⟨q, 4, none⟩ v).setCell ⟨q, 2, none⟩ x) := fun u v x => turned_set (turned_set (turned_set (Turned.refl _ _) _ _) _ _) _ _
  have HT := Lib.hid hT
  clear H hm hd hT
  by_cases e1 : lc = c
  · subst e1
    obtain rfl : m = lc := by omega
    rw [if_pos rfl, Nat.sub_self] at HP; rw [Nat.sub_self]
    by_cases e2 : pc = m
    · subst e2
      obtain rfl : d = pc := by omega
      rw [if_pos rfl, Nat.sub_self] at HP; rw [Nat.sub_self]
      go_enter Tryz.func108, Tryz.ntmps108
      go_wp2_with fail
      go_ret
      exact ⟨rfl, ⟨_, _, HP.out⟩, HT.out _ _ _⟩
    · rw [if_neg e2] at HP
      go_enter Tryz.func108, Tryz.ntmps108
      go_wp2_with fail
      go_ret
      exact ⟨rfl, ⟨_, _, HP.out⟩, HT.out _ _ _⟩
  · rw [if_neg e1] at HP
    by_cases e2 : pc = c
    · subst e2
      obtain rfl : d = pc := by omega
      rw [if_pos rfl, Nat.sub_self] at HP; rw [Nat.sub_self]
      go_enter Tryz.func108, Tryz.ntmps108
      go_wp2_with fail
      go_ret
      exact ⟨rfl, ⟨_, _, HP.out⟩, HT.out _ _ _⟩
    · rw [if_neg e2] at HP
      go_enter Tryz.func108, Tryz.ntmps108
      go_wp2_with fail
      go_ret
      exact ⟨rfl, ⟨_, _, HP.out⟩, HT.out _ _ _⟩
end Go.Proofs.YtmmkcfiecgpkpaaGreat

/- What Trim of the program's ring does. No condition but that the ring is one. -/
namespace Go.Proofs.YtmmkcfiecgpkpaaGreat
open Go.RowKit
set_option linter.unusedVariables false
set_option linter.unusedSimpArgs false
set_option maxRecDepth 100000

theorem tw_all' {α : Type} (f : α → Bool) : ∀ (l : List α) (t : Nat), t ≤ l.length → ((l.take t).all f = true ↔ t ≤ (l.takeWhile f).length)
  | [], t, h => by simp at h; subst h; simp
  | a :: r, 0, _ => by simp
  | a :: r, t + 1, h => by
    have ih := tw_all' f r t (by simp at h; omega)
    by_cases ha : f a = true
    · rw [List.takeWhile_cons_of_pos ha]
      simp only [List.take_succ_cons, List.all_cons, ha, Bool.true_and, ih]
      simp
    · rw [List.takeWhile_cons_of_neg ha]
      simp [ha]
theorem tw_le' {α : Type} (f : α → Bool) (l : List α) : (l.takeWhile f).length ≤ l.length := (List.takeWhile_prefix f).length_le

/-- All places ahead of an offset are published just if what is ready from the head on goes as far. -/
theorem RM.trim_ready {M : RM} {a : Int} (h1 : a ≤ (M.tail : Int)) : (M.l.take (M.cut a)).all (·.d) = true ↔ a ≤ (M.ready (M.h : Nat) : Int) := by
  have h0 : M.cut (M.h : Nat) = 0 := by unfold RM.cut; omega
  have hl := tw_le' (·.d) M.l
  have hr : M.ready (M.h : Nat) = M.h + (M.l.takeWhile (·.d)).length := by
    unfold RM.ready RM.tail
    rw [h0, List.drop_zero]
    omega
  unfold RM.tail at h1
  rw [hr, tw_all' _ _ _ (by unfold RM.cut; omega)]
  unfold RM.cut
  omega

theorem rtrim_same {w w' : World} {W : Nat → Prop} {q lc pc : Nat} {la pa : Option Addr} {M : RM} (H : RgM w W q la lc pa pc M) (hst : Still w w') {tt er : Int} (he : M.trimE tt = er) (h0 : er ≠ 0) : TrimPost rT w W q M tt (.returned (.tuple #[.slice none 0 0, .int .i64 er])) w' := by
  have hl : M.trimL tt = [] := by unfold RM.trimL; rw [if_pos (by rw [he]; exact h0)]
  have hm : M.trimM tt = M := by unfold RM.trimM; rw [if_pos (by rw [he]; exact h0)]
  unfold TrimPost
  rw [hl, hm, he]
  have H' := H.still hst
  exact ⟨none, 0, rfl, W, ⟨⟨W, ⟨la, lc, pa, pc, H'⟩, fun k hk => hk⟩, H'.lt, NumsAt.nil _ _, fun x hx _ => by cases hx⟩, hst.mono (fun _ _ h => h.elim), fun k hk => .inl hk⟩

set_option maxHeartbeats 1000000 in
theorem rtrim_any {w : World} {W : Nat → Prop} {q : Nat} {M : RM} {N : Nat} (H0 : (rT q M).at_ w W) (hM : M.Ok N) (hN : N < 1000000) (tt : Int) :
    Calls Tryz.prog 100 #[.pointer (some ⟨q, 0, none⟩), .int .i64 tt] w (TrimPost rT w W q M tt) := by
  have HRd := Lib.hid (fun w' (hst : Still w w') => rready_any ((rT q M).keep H0 hst (fun _ _ h => h)) hM hN (M.h : Nat))
  obtain ⟨la, lc, pa, pc, H⟩ := H0
  have HMd := Lib.hid (rmade_any H hM.pos)
  have HT := Lib.hid (rtail_any H hM.pos M.tail (by rw [RM.refs_len]; rfl) (by have := hM.low; omega))
  have hl := hM.low
  obtain ⟨_, _, c2, _⟩ := H.cells
  have HC := Lib.hid (fun w' (hst : Still w w') => still_cell hst c2 rfl)
  by_cases hx : tt < 0
  · have HP := Lib.hid (fun w' (hst : Still w w') => rtrim_same H hst (tt := tt) (er := 2) (by unfold RM.trimE; rw [if_pos (.inl hx)]) (by omega))
    clear H hM hl HRd HT c2
    go_enter Tryz.func100, Tryz.ntmps100
    go_wp2_with (go_at_call 87; refine HMd.out.mono ?_; rintro e w' ⟨rfl, rfl⟩)
    go_ret2
    exact HP.out _ (Turned.refl _ _)
  · by_cases hb : (M.tail : Int) < tt
    · have HP := Lib.hid (fun w' (hst : Still w w') => rtrim_same H hst (tt := tt) (er := 2) (by unfold RM.trimE; rw [if_pos (.inr hb)]) (by omega))
      generalize ((M.tail : Nat) : Int) = tl at *
      clear H hM hl HRd c2
      go_enter Tryz.func100, Tryz.ntmps100
      go_wp2_with (first
        | (go_at_call 87; refine HMd.out.mono ?_; rintro e w' ⟨rfl, rfl⟩)
        | (go_at_call 61; refine HT.out.mono ?_; rintro e w' ⟨rfl, hst⟩))
      go_ret2
      exact HP.out _ hst
    · have HRT := RM.trim_ready (M := M) (a := tt) (by omega)
      by_cases hr : tt ≤ (M.ready (M.h : Nat) : Int)
      · have h0 : M.trimE tt = 0 := by unfold RM.trimE; rw [if_neg (by omega), if_pos (HRT.2 hr)]
        obtain ⟨c, hc⟩ : ∃ c, c = M.cut tt := ⟨_, rfl⟩
        have hcl : c ≤ M.l.length := by rw [hc]; unfold RM.cut; unfold RM.tail at hb; omega
        have hif : (if tt - (M.h : Int) < 0 then (0 : Int) else tt - (M.h : Int)) = (c : Int) := by rw [hc]; unfold RM.cut; split <;> omega
        have hlen := hM.len
        have hmax := hM.max
        have hhd : M.h < 1000000 := by unfold RM.tail at hl; omega
        have HCu := Lib.hid (fun w' (hst : Still w w') => rcut_any (H.still hst) c (by rw [RM.refs_len]; exact hcl) (by rw [RM.dn_len]; exact hcl) (by rw [RM.refs_len]; omega) (by rw [RM.dn_len]; omega) hhd)
        have HP := Lib.hid (fun (w1 w2 : World) (hst : Still w w1) (h2 : ∃ la' pa', RgIn w2 W q la' (lc - c) pa' (pc - c) M.n M.ov (M.h + c) (M.refs.drop c) (M.dn.drop c)) (ht : Turned (· = q) w1 w2) => show TrimPost rT w W q M tt (.returned (.tuple #[.slice la c c, .int .i64 0])) w2 by
          obtain ⟨la', pa', R⟩ := h2
          have e1 : M.trimL tt = (M.l.take c).map (·.r) := by unfold RM.trimL; rw [if_neg (by rw [h0]; simp), ← hc]
          have e2 : M.trimM tt = { M with h := M.h + c, l := M.l.drop c } := by unfold RM.trimM; rw [if_neg (by rw [h0]; simp), ← hc]
          have e3 : ((M.l.take c).map (·.r)).length = c := by rw [List.length_map, List.length_take]; omega
          unfold TrimPost
          rw [e1, e2, h0, e3]
          have hPB : c ≠ 0 → ∀ x, la = some x → W x.block ∧ x.block ≠ q := fun hc0 x hx => H.lW x.block ⟨by have := H.ls.le; rw [RM.refs_len] at this; omega, x, hx, rfl⟩
          refine ⟨la, c, rfl, W, ⟨⟨W, ⟨la', lc - c, pa', pc - c, ?_⟩, fun k hk => hk⟩, R.lt, ?_, fun x hx hne => (hPB (fun h => hne (by rw [h]; rfl)) x hx).1⟩, (hst.mono (fun _ _ h => h.elim)).trans (ht.mono (fun k _ e => e ▸ H.own)), fun k hk => .inl hk⟩
          · show RgIn w2 W q la' (lc - c) pa' (pc - c) M.n M.ov (M.h + c) _ _
            have r1 : RM.refs { M with h := M.h + c, l := M.l.drop c } = M.refs.drop c := by simp [RM.refs, List.map_drop]
            have r2 : RM.dn { M with h := M.h + c, l := M.l.drop c } = M.dn.drop c := by simp [RM.dn, List.map_drop]
            rw [r1, r2]
            exact R
          · by_cases hc0 : c = 0
            · rw [hc0]; exact NumsAt.nil _ _
            · have h1 : NumsAt w1 la ((M.l.take c).map (·.r)) := by
                have := ((H.still hst).ls.nums).take c
                simpa [RM.refs, List.map_take] using this
              exact h1.turned ht (fun a ha => (hPB hc0 a ha).2))
        have hbnd : tt < 1000000 := by omega
        have hh0 : (0 : Int) ≤ (M.h : Int) := by omega
        have hh1 : (M.h : Int) < 1000000 := by omega
        generalize ((M.tail : Nat) : Int) = tl at *
        generalize ((M.ready (M.h : Nat) : Nat) : Int) = rd at *
        generalize (M.h : Int) = h at *
        clear H hM hl c2 HRT h0 hc hcl hlen hmax hN hhd
        go_enter Tryz.func100, Tryz.ntmps100
        go_wp2_with (first
          | (go_at_call 87; refine HMd.out.mono ?_; rintro e w' ⟨rfl, rfl⟩)
          | (go_at_call 61; refine HT.out.mono ?_; rintro e w' ⟨rfl, hst⟩; have k2 := HC.out w' hst)
          | (go_at_call 122; refine (HRd.out _ hst).mono ?_; rintro e w2 ⟨rfl, hst2⟩; have k3 := HC.out w2 (hst.trans hst2))
          | (go_at_call 108; refine (HCu.out _ (hst.trans hst2)).mono ?_; rintro e w3 ⟨rfl, hR, hT3⟩))
        go_ret2
        exact HP.out _ _ (hst.trans hst2) hR hT3
      · have HP := Lib.hid (fun w' (hst : Still w w') => rtrim_same H hst (tt := tt) (er := 8) (by unfold RM.trimE; rw [if_neg (by omega), if_neg (fun h => hr (HRT.1 h))]) (by omega))
        generalize ((M.tail : Nat) : Int) = tl at *
        generalize ((M.ready (M.h : Nat) : Nat) : Int) = rd at *
        generalize (M.h : Int) = h at *
        clear H hM hl c2 HRT
        go_enter Tryz.func100, Tryz.ntmps100
        go_wp2_with (first
          | (go_at_call 87; refine HMd.out.mono ?_; rintro e w' ⟨rfl, rfl⟩)
          | (go_at_call 61; refine HT.out.mono ?_; rintro e w' ⟨rfl, hst⟩; have k2 := HC.out w' hst)
          | (go_at_call 122; refine (HRd.out _ hst).mono ?_; rintro e w2 ⟨rfl, hst2⟩))
        go_ret2
        exact HP.out _ (hst.trans hst2)
end Go.Proofs.YtmmkcfiecgpkpaaGreat

/- What Claim of the program's ring does. No condition but that the ring is one. -/
namespace Go.Proofs.YtmmkcfiecgpkpaaGreat
open Go.RowKit
set_option linter.unusedVariables false
set_option linter.unusedSimpArgs false
set_option maxRecDepth 100000

theorem infoBoolW : (Tryz.prog.info? 4).map (fun i => (i.zero, i.size, i.bytes)) = some (some (.bool false), 1, 1) := by kernel_rfl

theorem rrefc_any {w : World} {W : Nat → Prop} {q lc pc : Nat} {la pa : Option Addr} {M : RM} {N : Nat} (H : RgM w W q la lc pa pc M) (hM : M.Ok N) (hN : N < 1000000) (x : Int) :
    Calls Tryz.prog 106 #[.pointer (some ⟨q, 0, none⟩), .int .i64 x] w fun e w' => e = .returned (.int .i64 (M.claimE x)) ∧ Still w w' := by
  have HMd := Lib.hid (rmade_any H hM.pos)
  have HT := Lib.hid (rtail_any H hM.pos M.tail (by rw [RM.refs_len]; rfl) (by have := hM.low; omega))
  have HFl := Lib.hid (fun w' (hst : Still w w') => rfull_any (H.still hst) M.l.length (RM.refs_len M).symm)
  have hlow : M.tail < 1000000 := by have := hM.low; omega
  have htl : ((M.tail : Nat) : Int) < 1000000 := by omega
  by_cases h1 : x < 1
  · have HR := Lib.hid (show M.claimE x = 2 by unfold RM.claimE; rw [if_pos h1])
    rw [HR.out]
    generalize ((M.tail : Nat) : Int) = t at *
    clear HR H hM HFl
    go_enter Tryz.func106, Tryz.ntmps106
    go_wp2_with (go_at_call 87; refine HMd.out.mono ?_; rintro e w' ⟨rfl, rfl⟩)
    go_ret
    exact ⟨rfl, Turned.refl _ _⟩
  · have h1' : 1 ≤ x := by omega
    by_cases h2 : M.l.length = M.n
    · have hpos := hM.pos
      obtain ⟨p, hp⟩ := get_some (l := M.l) (i := 0) (by omega)
      have hh : M.hdp = p := by unfold RM.hdp; rw [hp]; rfl
      have HMy := Lib.hid (fun w' (hst : Still w w') => rmay_any (H.still hst) p.d (RM.dn_at hp))
      have HR := Lib.hid (show M.claimE x = if (M.ov && p.d) = true then 0 else 60 by
        unfold RM.claimE
        rw [if_neg h1, if_neg (by omega), hh]
        cases M.ov <;> cases p.d <;> simp [h2])
      rw [HR.out]
      rw [show decide (M.l.length = M.n) = true by simp [h2]] at HFl
      clear HR hp hh
      cases hb : (M.ov && p.d)
      · rw [hb] at HMy
        generalize ((M.tail : Nat) : Int) = t at *
        clear H hM hb
        go_enter Tryz.func106, Tryz.ntmps106
        go_wp2_with (first
          | (go_at_call 87; refine HMd.out.mono ?_; rintro e w' ⟨rfl, rfl⟩)
          | (go_at_call 61; refine HT.out.mono ?_; rintro e w2 ⟨rfl, h2⟩)
          | (go_at_call 107; refine (HFl.out _ (by assumption)).mono ?_; rintro e w3 ⟨rfl, h3⟩)
          | (go_at_call 126; refine (HMy.out _ (h2.trans h3)).mono ?_; rintro e w4 ⟨rfl, h4⟩))
        go_ret
        exact ⟨by simp, (h2.trans h3).trans h4⟩
      · rw [hb] at HMy
        generalize ((M.tail : Nat) : Int) = t at *
        clear H hM hb
        go_enter Tryz.func106, Tryz.ntmps106
        go_wp2_with (first
          | (go_at_call 87; refine HMd.out.mono ?_; rintro e w' ⟨rfl, rfl⟩)
          | (go_at_call 61; refine HT.out.mono ?_; rintro e w2 ⟨rfl, h2⟩)
          | (go_at_call 107; refine (HFl.out _ (by assumption)).mono ?_; rintro e w3 ⟨rfl, h3⟩)
          | (go_at_call 126; refine (HMy.out _ (h2.trans h3)).mono ?_; rintro e w4 ⟨rfl, h4⟩))
        go_ret
        exact ⟨by simp, (h2.trans h3).trans h4⟩
    · have HR := Lib.hid (show M.claimE x = 0 by unfold RM.claimE; rw [if_neg h1, if_neg (by omega), if_neg (fun h => h2 h.1)])
      rw [HR.out]
      rw [show decide (M.l.length = M.n) = false by simp [h2]] at HFl
      generalize ((M.tail : Nat) : Int) = t at *
      clear HR H hM h2
      go_enter Tryz.func106, Tryz.ntmps106
      go_wp2_with (first
        | (go_at_call 87; refine HMd.out.mono ?_; rintro e w' ⟨rfl, rfl⟩)
        | (go_at_call 61; refine HT.out.mono ?_; rintro e w2 ⟨rfl, h2⟩)
        | (go_at_call 107; refine (HFl.out _ (by assumption)).mono ?_; rintro e w3 ⟨rfl, h3⟩))
      go_ret
      exact ⟨rfl, h2.trans h3⟩

/-- A place more, at the tail: its reference. -/
theorem RgIn.addR {w w6 : World} {W : Nat → Prop} {q lc pc n h : Nat} {la pa : Option Addr} {ov : Bool} {R : List Int} {D : List Bool} (H : RgIn w W q la lc pa pc n ov h R D) {o : Obj} {a6 : Option Addr} {c6 m : Nat} {x : Int} (hm : m = R.length)
    (hp : Part w6 3 a6 (m + 1) c6 (ints R ++ [.int .i64 x])) (ht : Turned (PB la lc) (w.alloc o) w6) (hb : ∀ k, PB a6 c6 k → PB la lc k ∨ (w.alloc o).heap.size ≤ k) :
    RgIn (w6.setCell ⟨q, 3, none⟩ (.slice a6 (m + 1) c6)) (fun k => W k ∨ PB a6 c6 k) q a6 c6 pa pc n ov h (R ++ [x]) D ∧ Turned W w (w6.setCell ⟨q, 3, none⟩ (.slice a6 (m + 1) c6)) ∧ w6.cell? ⟨q, 3, none⟩ = some (.slice la m lc) ∧ w6.frozen? ⟨q, 3, none⟩ = false := by
  subst hm
  have hw := (H.still ((Turned.refl _ w).alloc o))
  have hblk := hw.hd.turned ht (fun hk => (hw.lW q hk).2 rfl)
  refine ⟨hw.setR (R' := R ++ [x]) (by simp) ht (by simpa [ints] using hp) hb, ?_, hblk.cell rfl, hblk.free 3⟩
  exact ((((Turned.refl W w).alloc o).trans (ht.mono (fun k hk h => (H.lW k h).1)))).setCell (p := ⟨q, 3, none⟩) (.inl H.own) _
/-- .. its mark. -/
theorem RgIn.addP {w w6 : World} {W : Nat → Prop} {q lc pc n h : Nat} {la pa : Option Addr} {ov : Bool} {R : List Int} {D : List Bool} (H : RgIn w W q la lc pa pc n ov h R D) {o : Obj} {a6 : Option Addr} {c6 m : Nat} {x : Bool} (hm : m = D.length)
    (hp : Part w6 4 a6 (m + 1) c6 (bools D ++ [.bool x])) (ht : Turned (PB pa pc) (w.alloc o) w6) (hb : ∀ k, PB a6 c6 k → PB pa pc k ∨ (w.alloc o).heap.size ≤ k) :
    RgIn (w6.setCell ⟨q, 4, none⟩ (.slice a6 (m + 1) c6)) (fun k => W k ∨ PB a6 c6 k) q la lc a6 c6 n ov h R (D ++ [x]) ∧ Turned W w (w6.setCell ⟨q, 4, none⟩ (.slice a6 (m + 1) c6)) ∧ w6.cell? ⟨q, 4, none⟩ = some (.slice pa m pc) ∧ w6.frozen? ⟨q, 4, none⟩ = false := by
  subst hm
  have hw := (H.still ((Turned.refl _ w).alloc o))
  have hblk := hw.hd.turned ht (fun hk => (hw.pW q hk).2 rfl)
  refine ⟨hw.setP (D' := D ++ [x]) (by simp) ht (by simpa [bools] using hp) hb, ?_, hblk.cell rfl, hblk.free 4⟩
  exact ((((Turned.refl W w).alloc o).trans (ht.mono (fun k hk h => (H.pW k h).1)))).setCell (p := ⟨q, 4, none⟩) (.inl H.own) _

theorem cell_new0 (w : World) (v : Value) (t : TypeId) : (w.alloc (.cells #[v] t)).cell? ⟨w.heap.size, 0, none⟩ = some v := by
  exact ow_cells w [v] t 0 v rfl

set_option maxHeartbeats 2000000 in
theorem rclaim_any {w : World} {W : Nat → Prop} {q : Nat} {M : RM} {N : Nat} (H0 : (rT q M).at_ w W) (hM : M.Ok N) (hN : N < 1000000) (x : Int) (hx64 : w64 x) :
    Calls Tryz.prog 73 #[.pointer (some ⟨q, 0, none⟩), .int .i64 x] w fun e w' => e = .returned (.tuple #[.int .i64 (M.claimA x), .int .i64 (M.claimW x), .int .i64 (M.claimE x)]) ∧ Goes (rT q (M.claimM x)) W w w' := by
  obtain ⟨la, lc, pa, pc, H⟩ := H0
  have HV := Lib.hid (rrefc_any H hM hN x)
  by_cases he : M.claimE x = 0
  · rw [he] at HV
    have HA := Lib.hid (show M.claimA x = (M.tail : Nat) by unfold RM.claimA; rw [if_neg (by rw [he]; simp)])
    rw [HA.out, he]
    obtain ⟨i0, hi, hz0, hz1, hz2⟩ := info_parts infoIntW
    obtain ⟨j0, ji, jz0, jz1, jz2⟩ := info_parts infoBoolW
    have hlow := hM.low
    have hlen := hM.len
    have hmax := hM.max
    have hpos := hM.pos
    -- how it ends, from a ring whose window has room
    have HEnd := Lib.hid (fun (V : World) (V0 : Nat → Prop) (la2 pa2 : Option Addr) (lc2 pc2 h2 : Nat) (R2 : List Int) (D2 : List Bool) (H2 : RgIn V V0 q la2 lc2 pa2 pc2 M.n M.ov h2 R2 D2) (hT : Turned W w V) (hW : ∀ k, V0 k → W k ∨ w.heap.size ≤ k)
        (e1 : (M.claimM x).h = h2) (e2 : (M.claimM x).refs = R2) (e3 : (M.claimM x).dn = D2) (e4 : (M.claimM x).n = M.n) (e5 : (M.claimM x).ov = M.ov) => show Goes (rT q (M.claimM x)) W w V from
      rT_goes (la := la2) (lc := lc2) (pa := pa2) (pc := pc2) (by show RgIn V V0 q la2 lc2 pa2 pc2 _ _ _ _ _; rw [e1, e2, e3, e4, e5]; exact H2) hT hW)
    by_cases hf : M.l.length = M.n
    · obtain ⟨p, hp⟩ := get_some (l := M.l) (i := 0) (by omega)
      have hh : M.hdp = p := by unfold RM.hdp; rw [hp]; rfl
      have HM := Lib.hid (show M.claimM x = { M with h := M.h + 1, l := M.l.drop 1 ++ [⟨x, false⟩] } by unfold RM.claimM; rw [if_neg (by rw [he]; simp), if_pos hf])
      have HW0 := Lib.hid (show M.claimW x = p.r by unfold RM.claimW; rw [if_neg (by rw [he]; simp), if_pos hf, hh])
      rw [HW0.out]
      have HFl := Lib.hid (fun w' (hst : Still w w') => rfull_any (H.still hst) M.l.length (RM.refs_len M).symm)
      rw [show decide (M.l.length = M.n) = true by simp [hf]] at HFl
      have hlow' : M.h + M.l.length ≤ N := hlow
      have HCu := Lib.hid (fun w' (hst : Still w w') => rcut_any (H.still hst) 1 (by rw [RM.refs_len]; omega) (by rw [RM.dn_len]; omega) (by rw [RM.refs_len]; omega) (by rw [RM.dn_len]; omega) (by omega))
      have HPl := Lib.hid (fun w1 w2 (hst : Still w w1) (ht : Turned (· = q) w1 w2) => (by
        obtain ⟨g, o, e, hPB, h4, _⟩ := (H.still hst).ls.cell (ints_get (RM.refs_at hp))
        refine ⟨g, o, e, ?_⟩
        rw [Nat.add_zero] at h4
        rw [ht.cell (p := ⟨g, o, none⟩) (cell_lt h4) (H.lW g hPB).2]
        exact h4 : ∃ g o, la = some ⟨g, o, none⟩ ∧ w2.cell? ⟨g, o, none⟩ = some (.int .i64 p.r)))
      have hpos' := hM.pos
      have htail : M.tail = M.h + 1 + (M.refs.drop 1).length := by unfold RM.tail; rw [List.length_drop, RM.refs_len]; omega
      have HT := Lib.hid (fun (V : World) (la2 pa2 : Option Addr) (H2 : RgIn V W q la2 (lc - 1) pa2 (pc - 1) M.n M.ov (M.h + 1) (M.refs.drop 1) (M.dn.drop 1)) => rtail_any H2 hpos' M.tail htail (by omega))
      obtain ⟨m, hm⟩ : ∃ m, m = M.l.length - 1 := ⟨_, rfl⟩
      have HH := Lib.hid H
      have hmm : m ≤ 64 := by omega
      have HmR := Lib.hid (show m = (M.refs.drop 1).length by rw [List.length_drop, RM.refs_len]; exact hm)
      have HmD := Lib.hid (show m = (M.dn.drop 1).length by rw [List.length_drop, RM.dn_len]; exact hm)
      have HE2 := Lib.hid (show (M.claimM x).refs = M.refs.drop 1 ++ [x] ∧ (M.claimM x).dn = M.dn.drop 1 ++ [false] ∧ (M.claimM x).h = M.h + 1 ∧ (M.claimM x).n = M.n ∧ (M.claimM x).ov = M.ov by
        rw [HM.out]; exact ⟨by simp [RM.refs], by simp [RM.dn], rfl, rfl, rfl⟩)
      generalize M.claimM x = M2 at *
      generalize ((M.tail : Nat) : Int) = tl at *
      generalize p.r = pr at *
      clear H hM hlow hlen hmax hpos hf HM HW0 HA he hN hm hp hh hlow' hpos' htail
      go_enter Tryz.func73, Tryz.ntmps73
      go_upto_region 8 with (first
        | (go_at_call 106; refine HV.out.mono ?_; rintro e w1 ⟨rfl, h1⟩)
        | (go_at_call 107; refine (HFl.out _ h1).mono ?_; rintro e w2 ⟨rfl, h2⟩)
        | (go_at_call 108; refine (HCu.out _ (h1.trans h2)).mono ?_; rintro e wc ⟨rfl, ⟨la2, pa2, hc2⟩, hct⟩; obtain ⟨g, o, rfl, cg⟩ := HPl.out _ _ (h1.trans h2) hct)
        | (go_at_call 61; refine (HT.out _ _ _ hc2).mono ?_; rintro e w3 ⟨rfl, h3⟩))
      have H3 := Lib.hid (hc2.still h3)
      have HG := Lib.hid ((((h1.trans h2).mono (T := W) (fun _ _ h => h.elim)).trans (hct.mono (T := W) (fun k _ e => e ▸ HH.out.own))).trans (h3.mono (T := W) (fun _ _ h => h.elim)))
      clear hc2 hct
      have c3 : w3.cell? ⟨q, 3, none⟩ = some (.slice la2 m (lc - 1)) := by have := H3.out.cells.2.2.2.1; rwa [← HmR.out] at this
      have HPt : Hid (Part w3 3 la2 m (lc - 1) (ints (M.refs.drop 1))) := Lib.hid (by have := H3.out.ls; rwa [← HmR.out] at this)
      have HA := Lib.hid (fun (a6 : Option Addr) (c6 : Nat) (w6 : World) (o : Obj) => H3.out.addR (w6 := w6) (o := o) (a6 := a6) (c6 := c6) (x := x) HmR.out)
      have hqs : q < w3.heap.size := cell_lt c3
      clear h1 h2 h3 HV HFl HT
      go_upto_region 9 with (at_builtin; refine wpList_append_part rfl (.tmp 28) (.tmp 30) 23 rfl 3 i0 (.int .i64 0) 8 Tryz.underlying23 hi hz0 hz1 hz2 rfl la2 m (lc - 1) (ints (M.refs.drop 1)) rfl (HPt.out.still ((Turned.refl _ _).alloc _)) ⟨w3.heap.size, 0, none⟩ 1 (.int .i64 x) rfl (cell_new0 _ _ _) rfl rfl (by omega) (by omega) ?_; intro a6 c6 w6 hp6 ht6 hb6; obtain ⟨q6, t6, y6, z6⟩ := HA.out a6 c6 w6 _ hp6 ht6 hb6; have HB6 := Lib.hid (show ∀ k, PB a6 c6 k → PB la2 (lc - 1) k ∨ w3.heap.size ≤ k from fun k hk => (hb6 k hk).imp id (fun h => by simp at h; omega)); have HQ6 := Lib.hid q6; have HT6 := Lib.hid t6; clear hp6 ht6 hb6 q6 t6)
      obtain ⟨w7, hw7⟩ : ∃ w7, w7 = w6.setCell ⟨q, 3, none⟩ (.slice a6 (m + 1) c6) := ⟨_, rfl⟩
      rw [← hw7] at HQ6 HT6 ⊢
      have c4 : w7.cell? ⟨q, 4, none⟩ = some (.slice pa2 m (pc - 1)) := by have := HQ6.out.cells.2.2.2.2; rwa [← HmD.out] at this
      have HPp : Hid (Part w7 4 pa2 m (pc - 1) (bools (M.dn.drop 1))) := Lib.hid (by have := HQ6.out.ps; rwa [← HmD.out] at this)
      have HA := Lib.hid (fun (a8 : Option Addr) (c8 : Nat) (w8 : World) (o : Obj) => HQ6.out.addP (w6 := w8) (o := o) (a6 := a8) (c6 := c8) (x := false) HmD.out)
      have hqs : q < w7.heap.size := cell_lt c4
      clear hw7
      go_upto_region 10 with (at_builtin; refine wpList_append_part rfl (.tmp 38) (.tmp 39) 133 rfl 4 j0 (.bool false) 1 Tryz.underlying133 ji jz0 jz1 jz2 rfl pa2 m (pc - 1) (bools (M.dn.drop 1)) rfl (HPp.out.still ((Turned.refl _ _).alloc _)) ⟨w7.heap.size, 0, none⟩ 1 (.bool false) rfl (cell_new0 _ _ _) rfl rfl (by omega) (by omega) ?_; intro a8 c8 w8 hp8 ht8 hb8; obtain ⟨q8, t8, y8, z8⟩ := HA.out a8 c8 w8 _ hp8 ht8 hb8; have HB8 := Lib.hid (show ∀ k, PB a8 c8 k → PB pa2 (pc - 1) k ∨ w7.heap.size ≤ k from fun k hk => (hb8 k hk).imp id (fun h => by simp at h; omega)); have HQ8 := Lib.hid q8; have HT8 := Lib.hid t8; clear hp8 ht8 hb8 q8 t8)
      obtain ⟨w9, hw9⟩ : ∃ w9, w9 = w8.setCell ⟨q, 4, none⟩ (.slice a8 (m + 1) c8) := ⟨_, rfl⟩
      rw [← hw9] at HQ8 HT8 ⊢
      have hsz := HG.out.size
      have hsz2 := HT6.out.size
      have HF := Lib.hid (HEnd.out w9 _ _ _ _ _ _ _ _ HQ8.out ((HG.out.past (HT6.out.mono (T := W) (fun _ _ h => h)) (fun i hi => .inl hi)).past HT8.out (fun i hi => by
        rcases hi with hi | hi
        · exact .inl hi
        · rcases HB6.out i hi with h | h
          · have hi := (H3.out.lW i h).1; exact .inl hi
          · exact .inr (by omega)))
        (fun k hk => by
          rcases hk with (hk | hk) | hk
          · have hi := hk; exact .inl hi
          · rcases HB6.out k hk with h | h
            · have hi := (H3.out.lW k h).1; exact .inl hi
            · exact .inr (by omega)
          · rcases HB8.out k hk with h | h
            · have hi := (H3.out.pW k h).1; exact .inl hi
            · exact .inr (by omega)) HE2.out.2.2.1 HE2.out.1 HE2.out.2.1 HE2.out.2.2.2.1 HE2.out.2.2.2.2)
      clear hw9
      go_wp2_with fail
      go_ret3
      exact ⟨rfl, HF.out⟩
    · have HM := Lib.hid (show M.claimM x = { M with l := M.l ++ [⟨x, false⟩] } by unfold RM.claimM; rw [if_neg (by rw [he]; simp), if_neg hf])
      have HW0 := Lib.hid (show M.claimW x = 0 by unfold RM.claimW; rw [if_neg (by rw [he]; simp), if_neg hf])
      rw [HW0.out]
      have HFl := Lib.hid (fun w' (hst : Still w w') => rfull_any (H.still hst) M.l.length (RM.refs_len M).symm)
      rw [show decide (M.l.length = M.n) = false by simp [hf]] at HFl
      have HT := Lib.hid (fun w' (hst : Still w w') => rtail_any (H.still hst) hM.pos M.tail (by rw [RM.refs_len]; rfl) (by omega))
      obtain ⟨m, hm⟩ : ∃ m, m = M.l.length := ⟨_, rfl⟩
      have HH := Lib.hid H
      have hmm : m ≤ 64 := by omega
      have HmR := Lib.hid (show m = M.refs.length by rw [RM.refs_len]; exact hm)
      have HmD := Lib.hid (show m = M.dn.length by rw [RM.dn_len]; exact hm)
      have HE2 := Lib.hid (show (M.claimM x).refs = M.refs ++ [x] ∧ (M.claimM x).dn = M.dn ++ [false] ∧ (M.claimM x).h = M.h ∧ (M.claimM x).n = M.n ∧ (M.claimM x).ov = M.ov by
        rw [HM.out]; exact ⟨by simp [RM.refs], by simp [RM.dn], rfl, rfl, rfl⟩)
      generalize M.claimM x = M2 at *
      generalize ((M.tail : Nat) : Int) = tl at *
      clear H hM hlow hlen hmax hpos hf HM HW0 HA he hN hm
      go_enter Tryz.func73, Tryz.ntmps73
      go_upto_region 8 with (first
        | (go_at_call 106; refine HV.out.mono ?_; rintro e w1 ⟨rfl, h1⟩)
        | (go_at_call 107; refine (HFl.out _ h1).mono ?_; rintro e w2 ⟨rfl, h2⟩)
        | (go_at_call 61; refine (HT.out _ (h1.trans h2)).mono ?_; rintro e w3 ⟨rfl, h3⟩))
      have H3 := Lib.hid (HH.out.still ((h1.trans h2).trans h3))
      have HG := Lib.hid (((h1.trans h2).trans h3).mono (T := W) (fun _ _ h => h.elim))
      have c3 : w3.cell? ⟨q, 3, none⟩ = some (.slice la m lc) := by have := H3.out.cells.2.2.2.1; rwa [← HmR.out] at this
      have HPt : Hid (Part w3 3 la m lc (ints M.refs)) := Lib.hid (by have := H3.out.ls; rwa [← HmR.out] at this)
      have HA := Lib.hid (fun (a6 : Option Addr) (c6 : Nat) (w6 : World) (o : Obj) => H3.out.addR (w6 := w6) (o := o) (a6 := a6) (c6 := c6) (x := x) HmR.out)
      have hqs : q < w3.heap.size := cell_lt c3
      clear h1 h2 h3 HV HFl HT
      go_upto_region 9 with (at_builtin; refine wpList_append_part rfl (.tmp 28) (.tmp 30) 23 rfl 3 i0 (.int .i64 0) 8 Tryz.underlying23 hi hz0 hz1 hz2 rfl la m lc (ints M.refs) rfl (HPt.out.still ((Turned.refl _ _).alloc _)) ⟨w3.heap.size, 0, none⟩ 1 (.int .i64 x) rfl (cell_new0 _ _ _) rfl rfl (by omega) (by omega) ?_; intro a6 c6 w6 hp6 ht6 hb6; obtain ⟨q6, t6, y6, z6⟩ := HA.out a6 c6 w6 _ hp6 ht6 hb6; have HB6 := Lib.hid (show ∀ k, PB a6 c6 k → PB la lc k ∨ w3.heap.size ≤ k from fun k hk => (hb6 k hk).imp id (fun h => by simp at h; omega)); have HQ6 := Lib.hid q6; have HT6 := Lib.hid t6; clear hp6 ht6 hb6 q6 t6)
      obtain ⟨w7, hw7⟩ : ∃ w7, w7 = w6.setCell ⟨q, 3, none⟩ (.slice a6 (m + 1) c6) := ⟨_, rfl⟩
      rw [← hw7] at HQ6 HT6 ⊢
      have c4 : w7.cell? ⟨q, 4, none⟩ = some (.slice pa m pc) := by have := HQ6.out.cells.2.2.2.2; rwa [← HmD.out] at this
      have HPp : Hid (Part w7 4 pa m pc (bools M.dn)) := Lib.hid (by have := HQ6.out.ps; rwa [← HmD.out] at this)
      have HA := Lib.hid (fun (a8 : Option Addr) (c8 : Nat) (w8 : World) (o : Obj) => HQ6.out.addP (w6 := w8) (o := o) (a6 := a8) (c6 := c8) (x := false) HmD.out)
      have hqs : q < w7.heap.size := cell_lt c4
      clear hw7
      go_upto_region 10 with (at_builtin; refine wpList_append_part rfl (.tmp 38) (.tmp 39) 133 rfl 4 j0 (.bool false) 1 Tryz.underlying133 ji jz0 jz1 jz2 rfl pa m pc (bools M.dn) rfl (HPp.out.still ((Turned.refl _ _).alloc _)) ⟨w7.heap.size, 0, none⟩ 1 (.bool false) rfl (cell_new0 _ _ _) rfl rfl (by omega) (by omega) ?_; intro a8 c8 w8 hp8 ht8 hb8; obtain ⟨q8, t8, y8, z8⟩ := HA.out a8 c8 w8 _ hp8 ht8 hb8; have HB8 := Lib.hid (show ∀ k, PB a8 c8 k → PB pa pc k ∨ w7.heap.size ≤ k from fun k hk => (hb8 k hk).imp id (fun h => by simp at h; omega)); have HQ8 := Lib.hid q8; have HT8 := Lib.hid t8; clear hp8 ht8 hb8 q8 t8)
      obtain ⟨w9, hw9⟩ : ∃ w9, w9 = w8.setCell ⟨q, 4, none⟩ (.slice a8 (m + 1) c8) := ⟨_, rfl⟩
      rw [← hw9] at HQ8 HT8 ⊢
      have hsz := HG.out.size
      have hsz2 := HT6.out.size
      have HF := Lib.hid (HEnd.out w9 _ _ _ _ _ _ _ _ HQ8.out ((HG.out.past (HT6.out.mono (T := W) (fun _ _ h => h)) (fun i hi => .inl hi)).past HT8.out (fun i hi => by
        rcases hi with hi | hi
        · exact .inl hi
        · rcases HB6.out i hi with h | h
          · have hi := (H3.out.lW i h).1; exact .inl hi
          · exact .inr (by omega)))
        (fun k hk => by
          rcases hk with (hk | hk) | hk
          · have hi := hk; exact .inl hi
          · rcases HB6.out k hk with h | h
            · have hi := (H3.out.lW k h).1; exact .inl hi
            · exact .inr (by omega)
          · rcases HB8.out k hk with h | h
            · have hi := (H3.out.pW k h).1; exact .inl hi
            · exact .inr (by omega)) HE2.out.2.2.1 HE2.out.1 HE2.out.2.1 HE2.out.2.2.2.1 HE2.out.2.2.2.2)
      clear hw9
      go_wp2_with fail
      go_ret3
      exact ⟨rfl, HF.out⟩
  · have hb : (M.claimE x != 0) = true := by rw [bne_iff_ne]; exact he
    rw [show M.claimM x = M by unfold RM.claimM; rw [if_pos he], show M.claimA x = 0 by unfold RM.claimA; rw [if_pos he], show M.claimW x = 0 by unfold RM.claimW; rw [if_pos he]]
    have HG := Lib.hid (fun w' (hst : Still w w') => rT_still H hst)
    generalize M.claimE x = y at *
    clear H hM hN he
    go_enter Tryz.func73, Tryz.ntmps73
    go_wp2_with (go_at_call 106; refine HV.out.mono ?_; rintro e w1 ⟨rfl, h1⟩)
    go_ret3
    exact ⟨rfl, HG.out _ h1⟩
end Go.Proofs.YtmmkcfiecgpkpaaGreat

/- What Make of the program's ring answers. No condition. -/
namespace Go.Proofs.YtmmkcfiecgpkpaaGreat
open Go.RowKit
set_option linter.unusedVariables false
set_option linter.unusedSimpArgs false
set_option maxRecDepth 100000

theorem rmake_no (n p : Int) (w : World) (h : ¬ (1 ≤ n ∧ n ≤ 64 ∧ (p = 0 ∨ p = 1))) :
    Calls Tryz.prog 91 #[.int .i64 n, .int .i64 p] w fun e w' => e = .returned (.tuple #[.pointer none, .int .i64 2]) ∧ Still w w' := by
  have h' : n < 1 ∨ 64 < n ∨ (p ≠ 0 ∧ p ≠ 1) := by omega
  clear h
  rcases h' with h | h | ⟨h, k⟩
  · go_enter Tryz.func91, Tryz.ntmps91
    go_wp2
    all_goals first | (exfalso; omega) | (go_ret2; exact ⟨rfl, Turned.refl _ _⟩)
  · have h1 : ¬ n < 1 := by omega
    go_enter Tryz.func91, Tryz.ntmps91
    go_wp2
    all_goals first | (exfalso; omega) | (go_ret2; exact ⟨rfl, Turned.refl _ _⟩)
  · have h1 : (p != 0) = true := by rw [bne_iff_ne]; exact h
    have h2 : (p != 1) = true := by rw [bne_iff_ne]; exact k
    go_enter Tryz.func91, Tryz.ntmps91
    go_wp2
    all_goals first | (exfalso; omega) | (go_ret2; exact ⟨rfl, Turned.refl _ _⟩)

theorem rmake_ok (n : Nat) (ov : Bool) (w : World) (h1 : 1 ≤ n) (h2 : n ≤ 64) :
    Calls Tryz.prog 91 #[.int .i64 n, .int .i64 (polB ov)] w (RNew rT w n ov) := by
  have HI := Lib.hid (show ∃ W, (rT w.heap.size (RM.new n ov)).at_ (w.alloc (.cells #[.int .i64 (n : Nat), .int .i64 (polB ov), .int .i64 0, .slice none 0 0, .slice none 0 0] 135)) W ∧ Still w (w.alloc (.cells #[.int .i64 (n : Nat), .int .i64 (polB ov), .int .i64 0, .slice none 0 0, .slice none 0 0] 135)) ∧ ∀ k, W k → w.heap.size ≤ k from
    ⟨fun k => k = w.heap.size, ⟨none, 0, none, 0, fun k hk => by rw [hk]; simp, rfl, fun k hk => absurd hk.1 (Nat.lt_irrefl _), fun k hk => absurd hk.1 (Nat.lt_irrefl _), fun k hk => absurd hk.1 (Nat.lt_irrefl _),
      Blk.new w [.int .i64 (n : Nat), .int .i64 (polB ov), .int .i64 0, .slice none 0 0, .slice none 0 0] 135, Part.nil _ _ _, Part.nil _ _ _⟩, (Turned.refl _ _).alloc _, fun k hk => by omega⟩)
  have hn1 : (1 : Int) ≤ (n : Int) := by omega
  have hn2 : (n : Int) ≤ 64 := by omega
  cases ov
  · go_enter Tryz.func91, Tryz.ntmps91
    simp only [show polB false = 0 from rfl] at HI ⊢
    go_wp2
    go_ret2
    exact ⟨_, rfl, HI.out⟩
  · go_enter Tryz.func91, Tryz.ntmps91
    simp only [show polB true = 1 from rfl] at HI ⊢
    go_wp2
    go_ret2
    exact ⟨_, rfl, HI.out⟩
end Go.Proofs.YtmmkcfiecgpkpaaGreat

/- The program's ring keeps the words that the statements want of it. No condition. -/
namespace Go.Proofs.YtmmkcfiecgpkpaaGreat
open Go.RowKit
set_option linter.unusedVariables false

theorem ring_api : RingApi rT where
  make_no := fun n p w _ _ h => rmake_no n p w h
  make_ok := fun n ov w h1 h2 => rmake_ok n ov w h1 h2
  claim := fun h hM hN x hx => rclaim_any h hM hN x hx
  pub := fun h hM hN x hx => rpub_any h hM hN x hx
  trim := fun h hM hN x _ => rtrim_any h hM hN x
  ready := fun h hM hN x _ => rready_any h hM hN x
  head := fun ⟨_, _, _, _, H⟩ hM _ => (rhead_any H hM.pos).mono fun e w' ⟨h1, h2⟩ => ⟨h1, h2 ▸ Turned.refl _ _⟩
  tail := fun {w W q M N} ⟨_, _, _, _, H⟩ hM hN => rtail_any H hM.pos M.tail (by rw [RM.refs_len]; rfl) (by have := hM.low; omega)
  room := fun ⟨_, _, _, _, H⟩ hM _ => (rroom_any H hM.pos).mono fun e w' ⟨h1, h2⟩ => ⟨h1, h2 ▸ Turned.refl _ _⟩
  refs := fun h hM hN n hn => rrefs_any h hM hN n hn
end Go.Proofs.YtmmkcfiecgpkpaaGreat
