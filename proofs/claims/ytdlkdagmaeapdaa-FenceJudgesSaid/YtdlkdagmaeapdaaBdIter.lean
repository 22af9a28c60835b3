import Derived.Test.YtdlkdagmaeapdaaKit
import Derived.RangeFuncCalls
import Derived.RangeFuncNested
import Derived.Shelf.RegionOpen
import Derived.Deep.RegionHeld
import Derived.Deep.RegionLaw
import Derived.OrdersIn
import Derived.Test.YtdlkdagmaeapdaaIter
import Derived.Test.YtdlkdagmaeapdaaSamePl
import Derived.Test.YtdlkdagmaeapdaaThing
import Derived.MapKept
import Derived.Carry
import Derived.WideKeyEntry
import Derived.Maps.OwnIn
import Derived.Test.YtdlkdagmaeapdaaOwn
import Derived.Test.YtdlkdagmaeapdaaOutNums

/- A region that draws its order, inside a round of a loop over an iterator, may be walked as outside, where none of its operations is a defer statement. No condition. -/
namespace Go.Proofs.Ytdlkdagmaeapdaa
open Go.RowKit
set_option linter.unusedVariables false

theorem oper_round {P : Program} {o : Oper} (hd : ∀ c, o.op ≠ .defer c) {K : Act → World → Prop} {Q : Exit → Act → World → Prop} {a : Act} {w : World} {r n : Nat}
    (h : o.wp P a w K Q) : o.wpIn (Fence.wide.inRound r) n P a w K Q := by
  unfold Oper.wp at h
  unfold Oper.wpIn
  refine ⟨fun _ _ => trivial, ?_⟩
  rw [Oper.semAt_eq _ _ _ hd]
  generalize (execOp a.eval o).run P w = res at *
  cases res with
  | ok x w' =>
    cases x
    case value v => exact h
    case skip => exact h
    case defer d => exact h
    case enter f args =>
      refine ⟨fun hh => by simp [Fence.wide] at hh, ?_⟩
      have h1 : Calls P f args w' _ := h
      refine ((callsIn_wide (n := n - 1)).2 h1).mono ?_
      intro e w'' he
      cases e <;> exact he
    case row row args =>
      refine ⟨fun hh => by simp [Fence.wide] at hh, ?_⟩
      have h1 : Rows P row args w' _ := h
      intro c cs _
      obtain ⟨v, w'', hr, hs⟩ := h1 c cs
      exact ⟨v, w'', hr, stepsIn_wide.2 hs⟩
    all_goals exact False.elim h
  | halt hh w' =>
    cases hh <;> exact h

theorem wpOp_round {P : Program} {ops : Array Oper} {Q : Exit → Act → World → Prop} {i : Nat} {K : Act → World → Prop} {a : Act} {w : World} {r n : Nat}
    (hL : ¬ LetsOut Q) (hd : ∀ (i : Nat) (o : Oper), ops[i]? = some o → ∀ c, o.op ≠ .defer c) (h : wpOp P ops Q i K a w) : wpOpIn (Fence.wide.inRound r) n P ops Q i K a w := by
  unfold wpOp at h
  unfold wpOpIn
  cases ho : ops[i]? with
  | none => rw [ho] at h; exact h
  | some o =>
    rw [ho] at h
    simp only at h ⊢
    split
    · rename_i hw; rw [if_pos hw] at h; exact oper_round (hd i o ho) (h.resolve_right (fun hh => hL hh.2))
    · rename_i hw; rw [if_neg hw] at h; exact ⟨fun _ _ => trivial, h⟩

theorem wpAny_round {P : Program} {md : Region.Mode} {ops : Array Oper} {Q : Exit → Act → World → Prop} {r n : Nat} (hL : ¬ LetsOut Q) (hd : ∀ (i : Nat) (o : Oper), ops[i]? = some o → ∀ c, o.op ≠ .defer c) :
    ∀ (fuel : Nat) (listed : Array Bool) (a : Act) (w : World), wpAny P md ops Q fuel listed a w → wpAnyIn (Fence.wide.inRound r) n P md ops Q fuel listed a w
  | 0, _, _, _, h => h
  | fuel + 1, _, _, _, h => ⟨h.1, fun i hi => wpOp_round hL hd (wpOp_mono (fun a' w' h' => wpAny_round hL hd fuel _ a' w' h') (h.2 i hi))⟩

def noDefer (ops : Array Oper) : Bool := ops.all fun o => match o.op with | .defer _ => false | _ => true
theorem noDefer_spec {ops : Array Oper} (h : noDefer ops = true) : ∀ (i : Nat) (o : Oper), ops[i]? = some o → ∀ c, o.op ≠ .defer c := by
  intro i o ho c hc
  unfold noDefer at h
  rw [Array.all_eq_true'] at h
  have := h o (Array.mem_of_getElem? ho)
  rw [hc] at this
  cases this

theorem region_round {P : Program} {id : Nat} {ops : Array Oper} {Q : Exit → Act → World → Prop} {a : Act} {w : World} {r n : Nat} {S : World → Prop} (hm : P.follows .mixedOrders = true) (hL : ¬ LetsOut Q) (hd : noDefer ops = true)
    (h : wpAnyH P .any ops Q S ops.size (Array.replicate ops.size false) a w.drew) : (Code.region id ops true).wpIn (Fence.wide.inRound r) n P Q a w :=
  wpIn_region_any hm (wpAny_round hL (noDefer_spec hd) _ _ _ _ (wpAny_of_held _ _ _ _ h))
end Go.Proofs.Ytdlkdagmaeapdaa

/- A region that draws its order, whose first operations only read, and of which one that comes behind all of them calls (the round of a loop over an iterator too): it may be walked in the order of the text, in a fence of whatever kind. No condition but that none of its operations is a defer statement. -/
namespace Go.Proofs.Ytdlkdagmaeapdaa
open Go.RowKit
set_option linter.unusedVariables false

section
variable {F : Fence} {n : Nat} {P : Program} {md : Region.Mode} {ops : Array Oper} {Q : Exit → Act → World → Prop} {k : Nat} {w : World}

/-- Behind whatever comes up: an operation of the first so many leaves the world, and the rest goes on so; behind another one, in whatever order. -/
def readS (F : Fence) (n : Nat) (P : Program) (md : Region.Mode) (ops : Array Oper) (Q : Exit → Act → World → Prop) (k : Nat) (w : World) : Nat → Array Bool → Act → Prop
  | 0, L, a => Region.ready md ops L = [] ∧ Q .normal a w
  | fuel + 1, L, a => (Region.ready md ops L = [] → Q .normal a w) ∧ ∀ i ∈ Region.ready md ops L,
      wpOpIn F n P ops Q i (fun a' w' => if i < k then w' = w ∧ readS F n P md ops Q k w fuel (L.setIfInBounds i true) a' else wpAnyIn F n P md ops Q fuel (L.setIfInBounds i true) a' w') a w

theorem readS_any : ∀ (fuel : Nat) (L : Array Bool) (a : Act), readS F n P md ops Q k w fuel L a → wpAnyIn F n P md ops Q fuel L a w
  | 0, _, _, h => h
  | fuel + 1, L, a, h => ⟨h.1, fun i hi => wpOpIn_mono (fun a' w' h' => by
      split at h'
      · rw [h'.1]; exact readS_any fuel _ _ h'.2
      · exact h') (h.2 i hi)⟩

/-- What is listed has all behind which it must come listed. -/
def closedL (md : Region.Mode) (ops : Array Oper) (L : Array Bool) : Prop := ∀ (j : Nat) (o : Oper), ops[j]? = some o → L.getD j true = true → ∀ e ∈ o.after, Region.binds md e = true → L.getD e.on false = true
theorem closedL_start : closedL md ops (Array.replicate ops.size false) := fun j o ho h => by
  have := (Array.getElem?_eq_some_iff.1 ho).1
  simp [this] at h
theorem closedL_step {L : Array Bool} {i : Nat} (h : closedL md ops L) (hi : i ∈ Region.ready md ops L) : closedL md ops (L.setIfInBounds i true) := fun j o ho hj e he hb => by
  by_cases hij : i = j
  · subst hij
    obtain ⟨_, o', ho', hall⟩ := mem_ready.1 hi
    rw [ho] at ho'; cases ho'
    exact getD_set_true (hall e he hb)
  · rw [getD_set_ne true hij] at hj
    exact getD_set_true (h j o ho hj e he hb)
theorem unlisted {L : Array Bool} {i : Nat} (h0 : L.getD i true = false) (h1 : L.getD i false = true) : False := by
  rcases Nat.lt_or_ge i L.size with h' | h'
  · simp [h'] at h0 h1; rw [h0] at h1; cases h1
  · simp [Array.getElem?_eq_none h'] at h1

/-- Operation s must come behind operation i. -/
def behind (md : Region.Mode) (ops : Array Oper) (s i : Nat) : Bool := match ops[s]? with
  | some o => o.after.any fun e => Region.binds md e && e.on == i
  | none => false
/-- From each of the first so many a way leads to number k; and each behind it comes behind one of those from k on. -/
def leads (md : Region.Mode) (ops : Array Oper) (k : Nat) : Bool :=
  ((List.range k).all fun i => (List.range (k + 1)).any fun s => decide (i < s) && behind md ops s i) &&
  ((List.range ops.size).all fun s => decide (s ≤ k) || (List.range s).any fun e => decide (k ≤ e) && behind md ops s e)
theorem behind_spec {s i : Nat} (h : behind md ops s i = true) : ∃ o, ops[s]? = some o ∧ ∃ e ∈ o.after, Region.binds md e = true ∧ e.on = i := by
  unfold behind at h
  split at h
  · rename_i o ho
    obtain ⟨e, he, hb⟩ := Array.any_eq_true'.1 h
    simp only [Bool.and_eq_true, beq_iff_eq] at hb
    exact ⟨o, ho, e, he, hb⟩
  · cases h

theorem late_no {L : Array Bool} (hc : closedL md ops L) (hl : leads md ops k = true) {i : Nat} (hik : i < k) (hi : L.getD i true = false) : ∀ j ∈ Region.ready md ops L, j < k := by
  unfold leads at hl
  rw [Bool.and_eq_true, List.all_eq_true, List.all_eq_true] at hl
  obtain ⟨hl1, hl2⟩ := hl
  -- who must come behind what is not listed is not listed, and may not come up
  have hno : ∀ s t, behind md ops s t = true → L.getD t true = false → L.getD s true = false ∧ s ∉ Region.ready md ops L := fun s t hb ht => by
    obtain ⟨o, ho, e, he, hbi, rfl⟩ := behind_spec hb
    refine ⟨?_, fun hr => ?_⟩
    · cases hs : L.getD s true with
      | false => rfl
      | true => exact (unlisted ht (hc s o ho hs e he hbi)).elim
    · obtain ⟨_, o', ho', hall⟩ := mem_ready.1 hr
      rw [ho] at ho'; cases ho'
      exact unlisted ht (hall e he hbi)
  have hA : ∀ d i, k - i = d → i < k → L.getD i true = false → L.getD k true = false ∧ k ∉ Region.ready md ops L := by
    intro d
    induction d using Nat.strongRecOn with
    | ind d ih =>
      intro i hd hik hi
      have h1 := hl1 i (List.mem_range.2 hik)
      rw [List.any_eq_true] at h1
      obtain ⟨s, hs, hb⟩ := h1
      rw [Bool.and_eq_true, decide_eq_true_eq] at hb
      have hsk := List.mem_range.1 hs
      have h2 := hno s i hb.2 hi
      by_cases e : s = k
      · subst e; exact h2
      · exact ih (k - s) (by omega) s rfl (by omega) h2.1
  have hk := hA _ i rfl hik hi
  have hB : ∀ s, k ≤ s → s < ops.size → L.getD s true = false ∧ s ∉ Region.ready md ops L := by
    intro s
    induction s using Nat.strongRecOn with
    | ind s ih =>
      intro hks hsz
      by_cases e : s = k
      · subst e; exact hk
      · have h1 := hl2 s (List.mem_range.2 hsz)
        rw [Bool.or_eq_true, decide_eq_true_eq, List.any_eq_true] at h1
        rcases h1 with h1 | ⟨t, ht, hb⟩
        · omega
        · rw [Bool.and_eq_true, decide_eq_true_eq] at hb
          have htl := List.mem_range.1 ht
          exact hno s t hb.2 (ih t htl hb.1 (by omega)).1
  intro j hj
  rcases Nat.lt_or_ge j k with h | h
  · exact h
  · obtain ⟨_, o, ho, _⟩ := mem_ready.1 hj
    exact ((hB j h (Array.getElem?_eq_some_iff.1 ho).1).2 hj).elim

/-- In this state, in this world, the operation yields this value, and does nothing else. -/
def YieldsAt (P : Program) (ops : Array Oper) (w : World) (o : Oper) (v : Value) (a : Act) : Prop :=
  Region.wanted o (yielded ops a.tmps) = true ∧ (execOp a.eval o).run P w = .ok (.value v) w ∧ ∀ w, o.about P w a.eval = none
theorem YieldsAt.of_same {o : Oper} {v : Value} {a a' : Act} (hy : YieldsAt P ops w o v a) (he : execOp a'.eval o = execOp a.eval o)
    (hw : Region.wanted o (yielded ops a'.tmps) = Region.wanted o (yielded ops a.tmps)) (hb : ∀ w, o.about P w a'.eval = o.about P w a.eval) : YieldsAt P ops w o v a' :=
  ⟨hw.trans hy.1, by rw [he]; exact hy.2.1, fun w => by rw [hb w]; exact hy.2.2 w⟩

theorem wpOpIn_yields {i : Nat} {o : Oper} {v : Value} {a : Act} (hnd : noDefer ops = true) (hi : ops[i]? = some o) (hy : YieldsAt P ops w o v a) {K : Act → World → Prop} (h : K (a.put o.dst v) w) : wpOpIn F n P ops Q i K a w := by
  have hd := noDefer_spec hnd i o hi
  unfold wpOpIn
  simp only [hi, hy.1, if_true]
  unfold Oper.wpIn
  refine ⟨fun f hf => (by rw [hy.2.2 w] at hf; cases hf), ?_⟩
  rw [Oper.semAt_eq _ _ _ hd, hy.2.1]
  exact h

theorem wpOpIn_read {j : Nat} {oi oj : Oper} {v : Value} {w1 : World} (hnd : noDefer ops = true) (hj : ops[j]? = some oj) (hap : oi.apart ops oj = true)
    (hsi : ∀ cs b, oi.op ≠ .select cs b) (hsj : ∀ cs b, oj.op ≠ .select cs b)
    (hQ : ∀ c a w, Q (.panic c) (a.put oi.dst v) w → Q (.panic c) a w) {K : Act → World → Prop} {a : Act}
    (hy : YieldsAt P ops w1 oi v a) (h : wpOpIn F n P ops Q j K (a.put oi.dst v) w) :
    wpOpIn F n P ops Q j (fun a' w' => YieldsAt P ops w1 oi v a' ∧ K (a'.put oi.dst v) w') a w := by
  obtain ⟨h1, h2, h3⟩ := Oper.apart_spec hap
  have hd := noDefer_spec hnd j oj hj
  have keep' : ∀ (a : Act), YieldsAt P ops w1 oi v a → ∀ u, YieldsAt P ops w1 oi v (a.put oj.dst u) := fun a hy u => hy.of_same (execOp_put oi hsi a oj.dst u h3) (wanted_put oi a oj.dst u h3) (fun w => about_put oi w a oj.dst u h3)
  have keep := keep' a hy
  unfold wpOpIn at *
  simp only [hj] at *
  rw [wanted_put oj a oi.dst v h1, about_put oj w a oi.dst v h1] at h
  split
  · rename_i hw
    simp only [hw, if_true] at h
    unfold Oper.wpIn at *
    rw [about_put oj w a oi.dst v h1, Oper.semAt_eq _ _ _ hd, execOp_put oj hsj a oi.dst v h1] at h
    rw [Oper.semAt_eq _ _ _ hd]
    refine ⟨h.1, ?_⟩
    have h := h.2
    have put : ∀ u w', K ((a.put oi.dst v).put oj.dst u) w' → YieldsAt P ops w1 oi v (a.put oj.dst u) ∧ K ((a.put oj.dst u).put oi.dst v) w' := fun u w' hk => ⟨keep u, by rw [← Act.put_comm a v u h2]; exact hk⟩
    cases hr : (execOp a.eval oj).run P w with
    | ok x w' =>
      rw [hr] at h
      cases x <;> simp only [Oper.uponIn] at h ⊢
      case value u => exact put _ _ h
      case skip => exact put _ _ h
      case defer d =>
        refine ⟨keep' ({ tmps := a.tmps, defers := d :: a.defers } : Act) (YieldsAt.of_same hy rfl rfl (fun _ => rfl)) undef, ?_⟩
        rw [Act.put_defers, Act.put_comm _ v undef h2] at h
        exact h
      case enter f args =>
        refine ⟨h.1, CallsIn.mono h.2 fun e w'' he => ?_⟩
        cases e with
        | returned u => exact put _ _ he
        | panicked c => exact hQ _ _ _ he
        | outgrown => exact he
      case row row args => exact ⟨h.1, RowsIn.mono h.2 fun u w'' he => put _ _ he⟩
      case round l f tmps assign body =>
        refine ⟨h.1, RoundIn.mono h.2 fun e w'' he => ?_⟩
        cases e with
        | returned u => exact put _ _ he
        | panicked c => exact hQ _ _ _ he
        | outgrown => exact he
    | halt x w' =>
      rw [hr] at h
      cases x <;> simp only [Oper.uponIn] at h ⊢
      case panic u => exact hQ _ _ _ h
  · rename_i hw
    simp only [hw] at h
    exact ⟨h.1, keep _, by rw [← Act.put_comm a v undef h2]; exact h.2⟩

theorem readS_first {i : Nat} {oi : Oper} {v : Value} (hnd : noDefer ops = true) (hl : leads md ops k = true) (hik : i < k) (hi : ops[i]? = some oi) (hsel : ∀ (j : Nat) (o : Oper) cs b, ops[j]? = some o → o.op ≠ .select cs b)
    (hQ : ∀ c a w, Q (.panic c) (a.put oi.dst v) w → Q (.panic c) a w) :
    ∀ (fuel : Nat) (L : Array Bool) (a : Act), closedL md ops L →
      (∀ j oj, ops[j]? = some oj → j ≠ i → L.getD j true = false → (∀ e ∈ oj.after, Region.binds md e = true → e.on ≠ i) → oi.apart ops oj = true) →
      i ∈ Region.ready md ops L → YieldsAt P ops w oi v a →
      readS F n P md ops Q k w fuel (L.setIfInBounds i true) (a.put oi.dst v) → readS F n P md ops Q k w (fuel + 1) L a := by
  intro fuel
  induction fuel with
  | zero =>
    intro L a hc _ hr hy H
    refine ⟨fun h => (by rw [h] at hr; cases hr), fun j hj => ?_⟩
    by_cases hji : j = i
    · subst hji; exact wpOpIn_yields hnd hi hy (by rw [if_pos hik]; exact ⟨rfl, H⟩)
    · have := ready_mono hj hji
      rw [H.1] at this
      cases this
  | succ fuel ih =>
    intro L a hc hfree hr hy H
    refine ⟨fun h => (by rw [h] at hr; cases hr), fun j hj => ?_⟩
    by_cases hji : j = i
    · subst hji; exact wpOpIn_yields hnd hi hy (by rw [if_pos hik]; exact ⟨rfl, H⟩)
    · have h1 := H.2 j (ready_mono hj hji)
      have h0 := (mem_ready.1 hr).1
      have hjk := late_no hc hl hik h0 j hj
      obtain ⟨hjun, oj, hoj, hall⟩ := mem_ready.1 hj
      have hnot : ∀ e ∈ oj.after, Region.binds md e = true → e.on ≠ i := fun e he hb heq => unlisted h0 (heq ▸ hall e he hb)
      have h2 := wpOpIn_read hnd hoj (hfree j oj hoj hji hjun hnot) (fun cs b => hsel i oi cs b hi) (fun cs b => hsel j oj cs b hoj) hQ hy h1
      have hfree' : ∀ m om, ops[m]? = some om → m ≠ i → (L.setIfInBounds j true).getD m true = false →
          (∀ e ∈ om.after, Region.binds md e = true → e.on ≠ i) → oi.apart ops om = true := fun m om hm hmi hun hno => by
        refine hfree m om hm hmi ?_ hno
        by_cases hjm : j = m
        · subst hjm; exact hjun
        · rw [getD_set_ne true hjm] at hun; exact hun
      refine wpOpIn_mono (fun a' w' h3 => ?_) h2
      obtain ⟨h3, h4⟩ := h3
      rw [if_pos hjk] at h4 ⊢
      obtain ⟨rfl, h4⟩ := h4
      refine ⟨rfl, ih (L.setIfInBounds j true) a' (closedL_step hc hj) hfree' (ready_mono hr (Ne.symm hji)) h3 ?_⟩
      rw [Array.setIfInBounds_comm _ _ hji]
      exact h4
end

/-- The same with the list of what has come up known to be whole. -/
def readC (F : Fence) (n : Nat) (P : Program) (md : Region.Mode) (ops : Array Oper) (Q : Exit → Act → World → Prop) (k : Nat) (w : World) (fuel : Nat) (L : Array Bool) (a : Act) : Prop := closedL md ops L → readS F n P md ops Q k w fuel L a

section
variable {F : Fence} {n : Nat} {P : Program} {md : Region.Mode} {ops : Array Oper} {Q : Exit → Act → World → Prop} {k : Nat} {w : World}

theorem region_reads {id : Nat} {a : Act} (k : Nat) (hm : P.follows .mixedOrders = true)
    (h : readC F n P .any ops Q k w.drew ops.size (Array.replicate ops.size false) a) : (Code.region id ops true).wpIn F n P Q a w :=
  wpIn_region_any hm (readS_any _ _ _ (h closedL_start))

/-- One that reads comes up. -/
theorem reads_take {i : Nat} {oi : Oper} {v : Value} {fuel : Nat} {L : Array Bool} {a : Act} (hi : ops[i]? = some oi) (hnd : noDefer ops = true) (hl : leads md ops k = true) (hs : Region.noSelect ops = true) (hik : decide (i < k) = true)
    (hf : Region.free md ops L i = true) (hr : (Region.ready md ops L).contains i = true) (hQ : ∀ c a w, Q (.panic c) (a.put oi.dst v) w → Q (.panic c) a w)
    (hw : Region.wanted oi (yielded ops a.tmps) = true) (hab : ∀ w, oi.about P w a.eval = none) (hy : (execOp a.eval oi).run P w = .ok (.value v) w)
    (h : readC F n P md ops Q k w fuel (L.setIfInBounds i true) (a.put oi.dst v)) : readC F n P md ops Q k w (fuel + 1) L a := fun hc =>
  have hr' : i ∈ Region.ready md ops L := by simpa using hr
  readS_first hnd hl (by simpa using hik) hi (Region.noSelect_spec hs) hQ fuel L a hc (Region.free_spec hi hf) hr' ⟨hw, hy, hab⟩ (h (closedL_step hc hr'))

/-- The one behind them comes up. -/
theorem reads_call {i : Nat} {o : Oper} {fuel : Nat} {L : Array Bool} {a : Act} (hr : Region.ready md ops L = [i]) (hik : decide (i < k) = false) (ho : ops[i]? = some o)
    (h : ∀ K' : Act → World → Prop, (∀ a' w', wpAnyIn F n P md ops Q fuel (L.setIfInBounds i true) a' w' → K' a' w') → if Region.wanted o (yielded ops a.tmps) = true then Oper.wpIn F n P o a w K' Q else (∀ f, o.about P w a.eval = some f → F.fn f) ∧ K' (a.put o.dst undef) w) :
    readC F n P md ops Q k w (fuel + 1) L a := fun _ =>
  ⟨fun h0 => (by rw [hr] at h0; cases h0), fun j hj => by
    rw [hr] at hj
    obtain rfl : j = i := by simpa using hj
    refine wpOpIn_step ho fun K' hK => h K' fun a' w' h' => hK a' w' ?_
    rw [if_neg (by simpa using hik)]
    exact h'⟩
end
end Go.Proofs.Ytdlkdagmaeapdaa

/- Loops over functions whose rounds go on or leave the function at once, told of things that lie in memory: what the iterator reads, and what the rounds change, lie apart. No condition. -/
namespace Go.Proofs.Ytdlkdagmaeapdaa
open Go.RowKit Go.Shelf
set_option linter.unusedVariables false

/-- What never lies in memory. -/
def noT : Thing where
  at_ _ _ := False
  lt := fun h => h.elim
  keep := fun h _ _ => h

/-- A function that a loop goes through: it hands its rounds the elements of xs, one behind the other, till one of them leaves; it reads R, and changes nothing but what the rounds change. -/
def IterS {α : Type} (gf : Nat) (lb : Array Value) (encs : α → Array Value) (xs : List α) (R : Thing) : Prop :=
  ∀ (l : Nat) (J Jx : Nat → Thing) (W : World) (Q S : Nat → Prop), R.at_ W S → (J 0).at_ W Q → (∀ k, Q k → ¬ S k) →
    (∀ k x W1 Q1, xs[k]? = some x → (J k).at_ W1 Q1 → Since Q W Q1 W1 → YieldAt Fence.wide 9 Try.prog l (encs x) W1 fun e W' =>
      (e = .returned (.bool true) ∧ Goes (J (k + 1)) Q1 W1 W') ∨ (e = .returned (.bool false) ∧ Goes (Jx k) Q1 W1 W')) →
    Calls Try.prog gf (#[.func (.yield l) #[] #[]] ++ lb) W fun e W' => (∃ v, e = .returned v) ∧ (Goes (J xs.length) Q W W' ∨ ∃ k, k < xs.length ∧ Goes (Jx k) Q W W')

theorem IterS.all {α : Type} {gf : Nat} {lb : Array Value} {encs : α → Array Value} {xs : List α} {R : Thing} (h : IterS gf lb encs xs R) : IterT gf lb encs xs R := by
  intro l J W Q S hR h0 hd hY
  refine (h l J (fun _ => noT) W Q S hR h0 hd (fun k x W1 Q1 hx hJ hs => ?_)).mono ?_
  · obtain ⟨fn, tm, as', bd, hy, hr⟩ := hY k x W1 Q1 hx hJ hs
    exact ⟨fn, tm, as', bd, hy, hr.mono (fun e W' he => .inl he)⟩
  · rintro e W' ⟨hv, h | ⟨k, _, Q', h, _⟩⟩
    · exact ⟨hv, h⟩
    · exact h.elim

/-- How the body of a round ends: it goes on, or leaves. -/
def roundS (A B : Thing) (Q : Nat → Prop) (W : World) : Exit → Act → World → Prop
  | .normal, _, W' => Goes A Q W W'
  | .ret, _, W' => Goes B Q W W'
  | _, _, _ => False

section
variable {α : Type} {g : Operand} {ps : Array Tmp} {assign body : Code} {Qx : Exit → Act → World → Prop} {a : Act} {w : World} {gf : Nat} {lb : Array Value} {encs : α → Array Value} {xs : List α} {R : Thing}

/-- One round, between two states of the record. -/
theorem roundS_yield {rec : LoopState → Option Code → Loop} {fn l : Nat} {df : Nat} {tm : Array Value} (hrec : rec = fun st pe => { state := st, pending := pe, fn, tmps := tm, params := ps, assign, body, defers := df })
    (hps : ∀ x, (encs x).size = ps.size) {A B C : Thing} {x : α} {W : World} {Q : Nat → Prop} {a1 : Act}
    (hA : A.at_ W Q) (hl : W.heap[l]? = some (.loop (rec .ready none))) (hQ : ¬ Q l)
    (hassign : ∀ K : Act → World → Prop, K a1 W → assign.wpIn (Fence.wide.inRound l) 9 Try.prog (Exit.then K (fun _ _ _ => False)) { tmps := (ps.zip (encs x)).foldl (fun t (p, v) => t.setIfInBounds p v) tm, defers := [] } W)
    (hbody : ∀ W2, (∃ r, W2.heap[l]? = some (.loop r)) → A.at_ W2 Q → Turned (· = l) W W2 → body.wpIn (Fence.wide.inRound l) 9 Try.prog (roundS B C Q W2) a1 W2) :
    YieldAt Fence.wide 9 Try.prog l (encs x) W fun e W' =>
      (e = .returned (.bool true) ∧ ∃ Q', B.at_ W' Q' ∧ W'.heap[l]? = some (.loop (rec .ready none)) ∧ ¬ Q' l ∧ Turned (fun k => Q k ∨ k = l) W W' ∧ ∀ i, Q' i → Q i ∨ W.heap.size ≤ i) ∨
      (e = .returned (.bool false) ∧ ∃ Q', C.at_ W' Q' ∧ W'.heap[l]? = some (.loop (rec .done (some .ret))) ∧ ¬ Q' l ∧ Turned (fun k => Q k ∨ k = l) W W' ∧ ∀ i, Q' i → Q i ∨ W.heap.size ≤ i) := by
  have hlt : l < W.heap.size := (Array.getElem?_eq_some_iff.1 hl).1
  have hy := run_yield (P := Try.prog) (args := encs x) hl (by rw [hrec]; exact hps x)
  rw [hrec] at hy
  refine ⟨fn, _, assign, body, hy, roundIn_of_wpIn trivial (hassign _ ?_)⟩
  refine ⟨_, run_beginRound hl (by rw [hrec]), ?_⟩
  have hl2 : (W.putObj l (.loop { rec .ready none with state := .busy })).heap[l]? = some (.loop { rec .ready none with state := .busy }) := World.putObj_heap_same hlt
  have ht2 := putObj_since (l := l) (.loop { rec .ready none with state := .busy }) hlt
  refine wpIn_mono (hbody _ ⟨_, hl2⟩ (A.keep hA ht2 (fun k hk e => hQ (e ▸ hk))) ht2) ?_
  have fin : ∀ (T : Thing) (jump : Option Code) (W3 : World), Goes T Q (W.putObj l (.loop { rec .ready none with state := .busy })) W3 →
      (Instr.endRound l jump).run Try.prog W3 = .ok (.bool jump.isNone) (W3.putObj l (.loop (rec (if jump.isNone then .ready else .done) jump))) ∧
      ∃ Q', T.at_ (W3.putObj l (.loop (rec (if jump.isNone then .ready else .done) jump))) Q' ∧ (W3.putObj l (.loop (rec (if jump.isNone then .ready else .done) jump))).heap[l]? = some (.loop (rec (if jump.isNone then .ready else .done) jump)) ∧ ¬ Q' l ∧
        Turned (fun k => Q k ∨ k = l) W (W3.putObj l (.loop (rec (if jump.isNone then .ready else .done) jump))) ∧ ∀ i, Q' i → Q i ∨ W.heap.size ≤ i := by
    rintro T jump W3 ⟨Q', hB, hT, hG⟩
    have hl3 : W3.heap[l]? = some (.loop { rec .ready none with state := .busy }) := (hT.block l (by simpa using hlt) hQ).trans hl2
    have hlt3 : l < W3.heap.size := (Array.getElem?_eq_some_iff.1 hl3).1
    have hr := run_endRound (P := Try.prog) jump hl3
    have hQ' : ¬ Q' l := fun h => by
      rcases hG l h with h1 | h1
      · exact hQ h1
      · rw [World.putObj_size] at h1; omega
    have ht4 := putObj_since (l := l) (.loop (rec (if jump.isNone then .ready else .done) jump)) hlt3
    rw [hrec] at hr ht4 ⊢
    refine ⟨hr, Q', T.keep hB ht4 (fun k hk e => hQ' (e ▸ hk)), World.putObj_heap_same hlt3, hQ', ?_, fun i hi => by have := hG i hi; rwa [World.putObj_size] at this⟩
    exact ((ht2.mono (fun k _ e => .inr e)).trans ((hT.mono (fun k _ h => .inl h)).trans (ht4.mono (fun k _ e => .inr e))))
  rintro e a3 W3 hp
  cases e with
  | normal =>
    obtain ⟨hr, h⟩ := fin B none W3 hp
    exact ⟨_, _, hr, .inl ⟨rfl, h⟩⟩
  | ret =>
    obtain ⟨hr, h⟩ := fin C (some .ret) W3 hp
    exact ⟨_, _, hr, .inr ⟨rfl, h⟩⟩
  | exit id => exact hp.elim
  | goto t => exact hp.elim
  | panic ch => exact hp.elim
  | outgrown => exact hp.elim

/-- A loop at a function's own level, whose rounds may leave the function. -/
theorem loopS_outer (hg : a.eval g = .func (.func gf) #[] lb) (eg : ∀ args w, (callFunc gf args).run Try.prog w = .ok (.enter gf args) w)
    (hseq : IterS gf lb encs xs R) (hps : ∀ x, (encs x).size = ps.size) (I Ix : Nat → Thing) {Q0 S0 : Nat → Prop} (hR : R.at_ w S0) (h0 : (I 0).at_ w Q0) (hd : ∀ k, Q0 k → ¬ S0 k)
    (hround : ∀ x, ∃ a1, (∀ (l : Nat) (W : World) (K : Act → World → Prop), K a1 W → assign.wpIn (Fence.wide.inRound l) 9 Try.prog (Exit.then K (fun _ _ _ => False)) { tmps := (ps.zip (encs x)).foldl (fun t (p, v) => t.setIfInBounds p v) a.tmps, defers := [] } W) ∧
      (∀ (l k : Nat) (W : World) (Q : Nat → Prop), (∃ r, W.heap[l]? = some (.loop r)) → w.heap.size ≤ l → xs[k]? = some x → (I k).at_ W Q → ¬ Q l → Since Q0 w Q W → body.wpIn (Fence.wide.inRound l) 9 Try.prog (roundS (I (k + 1)) (Ix k) Q W) a1 W))
    (hdone : ∀ (D : Nat) (W' : World) (Q : Nat → Prop), w.heap.size ≤ D → W'.heap[D]? = some (.deferred (some [])) → ¬ Q D → (I xs.length).at_ W' Q → Since Q0 w Q W' → Qx .normal { a with defers := { target := .collected D, args := #[] } :: a.defers } W')
    (hstop : ∀ (D k : Nat) (W' : World) (Q : Nat → Prop), w.heap.size ≤ D → W'.heap[D]? = some (.deferred (some [])) → ¬ Q D → k < xs.length → (Ix k).at_ W' Q → Since Q0 w Q W' → Code.ret.wpIn Fence.wide 9 Try.prog Qx { a with defers := { target := .collected D, args := #[] } :: a.defers } W') :
    (Code.rangeFunc g ps assign body).wpIn Fence.wide 9 Try.prog Qx a w := by
  refine wpIn_rangeFunc ?_
  intro fn hfn
  obtain ⟨rec, hrec⟩ : ∃ rec : LoopState → Option Code → Loop, rec = fun st pe => { state := st, pending := pe, fn, tmps := a.tmps, params := ps, assign, body, defers := w.heap.size } := ⟨_, rfl⟩
  obtain ⟨W1, hW1⟩ : ∃ W1, (w.alloc (.deferred (some []))).alloc (.loop (rec .ready none)) = W1 := ⟨_, rfl⟩
  have hL1 : W1.heap[w.heap.size + 1]? = some (.loop (rec .ready none)) := by
    rw [← hW1]; have := World.alloc_heap_new (w.alloc (.deferred (some []))) (.loop (rec .ready none)); rwa [World.size_alloc] at this
  have hK1 : W1.heap[w.heap.size]? = some (.deferred (some [])) := by
    rw [← hW1]; exact (Below.heap_alloc _ _ _ (by simp)).trans (World.alloc_heap_new w _)
  have hT1 : Still w W1 := by rw [← hW1]; exact ((Turned.refl _ _).alloc _).alloc _
  refine ⟨w.heap.size + 1, [{ target := .collected w.heap.size, args := #[] }], W1, { target := .fn (.func gf) lb, args := #[.func (.yield (w.heap.size + 1)) #[] #[]] }, W1, gf, #[.func (.yield (w.heap.size + 1)) #[] #[]] ++ lb, W1, ?_, ?_, ?_, ?_, fun _ => by omega, ?_⟩
  · rw [← hW1, hrec]; exact run_enterLoop_outer _ _ _ _ _
  · simp only [resolve, hg]; simp [go_sem]
  · intro f' hf'; trivial
  · simp [invoke, go_sem, eg]
  · have hQl : ¬ Q0 w.heap.size := fun h => by have := (I 0).lt h0 _ h; omega
    have hQl1 : ¬ Q0 (w.heap.size + 1) := fun h => by have := (I 0).lt h0 _ h; omega
    have hst : ((((I 0).sep (objT w.heap.size (.deferred (some [])))).sep (objT (w.heap.size + 1) (.loop (rec .ready none))))).at_ W1 (fun k => (Q0 k ∨ k = w.heap.size) ∨ k = w.heap.size + 1) :=
      obj_sep (obj_sep ((I 0).keep h0 hT1 (fun _ _ h => h)) hK1 hQl) hL1 (fun h => h.elim hQl1 (by omega))
    have hend : ∀ (T : Thing) (pe : Option Code) (st : LoopState) (W2 : World), st ≠ .busy → Goes ((T.sep (objT w.heap.size (.deferred (some [])))).sep (objT (w.heap.size + 1) (.loop (rec st pe)))) (fun k => (Q0 k ∨ k = w.heap.size) ∨ k = w.heap.size + 1) W1 W2 →
        ∃ W', (Instr.endLoop (w.heap.size + 1)).run Try.prog W2 = .ok pe W' ∧ ∃ P1, W'.heap[w.heap.size]? = some (.deferred (some [])) ∧ ¬ P1 w.heap.size ∧ T.at_ W' P1 ∧ Since Q0 w P1 W' := by
      rintro T pe st W2 hne ⟨Q, ⟨Q1, Q2, ⟨P1, P2, hI, ⟨hD, hP2⟩, hpp, hP⟩, ⟨hl, hQ2⟩, hdd, hQ⟩, hT, hG⟩
      have hn : ¬ P1 (w.heap.size + 1) := fun h => hdd _ ((hP _).2 (.inl h)) ((hQ2 _).2 rfl)
      have hnD : ¬ P1 w.heap.size := fun h => hpp _ h ((hP2 _).2 rfl)
      obtain ⟨o4, hend⟩ : ∃ o4, (Instr.endLoop (w.heap.size + 1)).run Try.prog W2 = .ok pe (W2.putObj (w.heap.size + 1) o4) := ⟨_, by have := run_endLoop (P := Try.prog) hl (by rw [hrec]; exact hne); rw [hrec] at this; exact this⟩
      have ht4 := putObj_since (l := w.heap.size + 1) o4 (Array.getElem?_eq_some_iff.1 hl).1
      refine ⟨_, hend, P1, (World.putObj_heap_other (by omega)).trans hD, hnD, T.keep hI ht4 (fun k hk e => hn (by rw [← e]; exact hk)), ?_, fun i hi => ?_⟩
      · have hT' : Turned (fun k => Q0 k ∨ w.heap.size ≤ k) w (W2.putObj (w.heap.size + 1) o4) :=
          (hT1.mono (fun _ _ h => h.elim)).trans ((hT.mono (fun k _ h => by
            rcases h with (h | h) | h
            · exact .inl h
            · exact .inr (by omega)
            · exact .inr (by omega))).trans (ht4.mono (fun k _ e => .inr (by omega))))
        exact hT'.mono (fun k hk h => h.elim id (fun h => by omega))
      · rcases hG i ((hQ i).2 (.inl ((hP i).2 (.inl hi)))) with ((h | h) | h) | h
        · exact .inl h
        · exact .inr (by omega)
        · exact .inr (by omega)
        · exact .inr (Nat.le_trans hT1.size h)
    refine callsIn_wide.2 ((hseq (w.heap.size + 1) (fun k => ((I k).sep (objT w.heap.size (.deferred (some [])))).sep (objT (w.heap.size + 1) (.loop (rec .ready none)))) (fun k => ((Ix k).sep (objT w.heap.size (.deferred (some [])))).sep (objT (w.heap.size + 1) (.loop (rec .done (some .ret))))) W1 _ S0 (R.keep hR hT1 (fun _ _ h => h)) hst ?_ ?_).mono ?_)
    · rintro k ((hk | rfl) | rfl)
      · exact hd k hk
      · intro h; have := R.lt hR _ h; omega
      · intro h; have := R.lt hR _ h; omega
    · rintro k x W Q hx ⟨Q1, Q2, ⟨P1, P2, hI, ⟨hD, hP2⟩, hpp, hP⟩, ⟨hl, hQ2⟩, hdd, hQ⟩ hS
      have hn : ¬ P1 (w.heap.size + 1) := fun h => hdd _ ((hP _).2 (.inl h)) ((hQ2 _).2 rfl)
      have hnD : ¬ P1 w.heap.size := fun h => hpp _ h ((hP2 _).2 rfl)
      have hS1 : Since Q0 w P1 W := by
        refine ⟨⟨hS.turn.os.trans hT1.os, hS.turn.tape.trans hT1.tape, hS.turn.output.trans hT1.output, Nat.le_trans hT1.size hS.turn.size, fun j hj hq => (hS.turn.block j (Nat.lt_of_lt_of_le hj hT1.size) (fun h => by
          rcases h with (h | h) | h
          · exact hq h
          · omega
          · omega)).trans (hT1.block j hj (fun h => h))⟩, fun i hi => ?_⟩
        rcases hS.grow i ((hQ i).2 (.inl ((hP i).2 (.inl hi)))) with ((h | h) | h) | h
        · exact .inl h
        · exact .inr (by omega)
        · exact .inr (by omega)
        · exact .inr (Nat.le_trans hT1.size h)
      obtain ⟨a1, hass, hbod⟩ := hround x
      obtain ⟨fn', tm', as', bd', hy, hR'⟩ := roundS_yield hrec hps (B := I (k + 1)) (C := Ix k) hI hl hn (hass _ W) (fun W2 hr hI2 hT2 => hbod _ k W2 P1 hr (by omega) hx hI2 hn
        ⟨hS1.turn.past hT2 (fun i e => .inr (by omega)), hS1.grow⟩)
      have hlt := (Array.getElem?_eq_some_iff.1 hD).1
      have join : ∀ (T : Thing) (o : Obj) (W' : World) (Q' : Nat → Prop), T.at_ W' Q' → W'.heap[w.heap.size + 1]? = some o → ¬ Q' (w.heap.size + 1) → Turned (fun k => P1 k ∨ k = w.heap.size + 1) W W' → (∀ i, Q' i → P1 i ∨ W.heap.size ≤ i) →
          Goes ((T.sep (objT w.heap.size (.deferred (some [])))).sep (objT (w.heap.size + 1) o)) Q W W' := fun T o W' Q' hB hl' hnl hT hG => by
        have hD' : W'.heap[w.heap.size]? = some (.deferred (some [])) := (hT.block _ hlt (fun h => h.elim hnD (by omega))).trans hD
        have hnD' : ¬ Q' w.heap.size := fun h => by
          rcases hG _ h with h | h
          · exact hnD h
          · omega
        refine ⟨fun i => (Q' i ∨ i = w.heap.size) ∨ i = w.heap.size + 1, obj_sep (obj_sep hB hD' hnD') hl' (fun h => h.elim hnl (by omega)), hT.mono (fun i _ h => (hQ i).2 (h.imp (fun h => (hP i).2 (.inl h)) (fun e => (hQ2 i).2 e))), fun i hi => ?_⟩
        rcases hi with (hi | hi) | hi
        · exact (hG i hi).imp (fun h => (hQ i).2 (.inl ((hP i).2 (.inl h)))) id
        · exact .inl ((hQ i).2 (.inl ((hP i).2 (.inr ((hP2 i).2 hi)))))
        · exact .inl ((hQ i).2 (.inr ((hQ2 i).2 hi)))
      refine ⟨fn', tm', as', bd', hy, hR'.mono ?_⟩
      rintro e W' (⟨he, Q', hB, hl', hnl, hT, hG⟩ | ⟨he, Q', hB, hl', hnl, hT, hG⟩)
      · exact .inl ⟨he, join _ _ _ _ hB hl' hnl hT hG⟩
      · exact .inr ⟨he, join _ _ _ _ hB hl' hnl hT hG⟩
    · rintro e W2 ⟨⟨v, rfl⟩, h | ⟨k, hk, h⟩⟩
      · obtain ⟨W', he, P1, hD, hnD, hI, hS⟩ := hend _ none .ready W2 (by simp) h
        exact ⟨none, _, he, hdone w.heap.size _ P1 (Nat.le_refl _) hD hnD hI hS⟩
      · obtain ⟨W', he, P1, hD, hnD, hI, hS⟩ := hend _ (some .ret) .done W2 (by simp) h
        exact ⟨some .ret, _, he, hstop w.heap.size k _ P1 (Nat.le_refl _) hD hnD hk hI hS⟩
end
end Go.Proofs.Ytdlkdagmaeapdaa

/- Loops over functions whose rounds lay a box of their own ahead of the body, go on, or leave the function. No condition. -/
namespace Go.Proofs.Ytdlkdagmaeapdaa
open Go.RowKit Go.Shelf
set_option linter.unusedVariables false

section
variable {α : Type} {g : Operand} {ps : Array Tmp} {assign body : Code} {Qx : Exit → Act → World → Prop} {a : Act} {w : World} {gf : Nat} {lb : Array Value} {encs : α → Array Value} {xs : List α} {R : Thing}

/-- What the code ahead of a round's body leaves: it turns nothing, and the body goes on from there. -/
def aheadA (B C : Thing) (l : Nat) (Q : Nat → Prop) (body : Code) (W : World) (a1 : Act) (W1 : World) : Prop :=
  Still W W1 ∧ ∀ W2, (∃ r, W2.heap[l]? = some (.loop r)) → Turned (· = l) W1 W2 → body.wpIn (Fence.wide.inRound l) 9 Try.prog (roundS B C Q W2) a1 W2

/-- One round, between two states of the record. -/
theorem roundA_yield {rec : LoopState → Option Code → Loop} {fn l : Nat} {df : Nat} {tm : Array Value} (hrec : rec = fun st pe => { state := st, pending := pe, fn, tmps := tm, params := ps, assign, body, defers := df })
    (hps : ∀ x, (encs x).size = ps.size) {A B C : Thing} {x : α} {W : World} {Q : Nat → Prop}
    (hA : A.at_ W Q) (hl : W.heap[l]? = some (.loop (rec .ready none))) (hQ : ¬ Q l)
    (hass : assign.wpIn (Fence.wide.inRound l) 9 Try.prog (Exit.then (aheadA B C l Q body W) (fun _ _ _ => False)) { tmps := (ps.zip (encs x)).foldl (fun t (p, v) => t.setIfInBounds p v) tm, defers := [] } W) :
    YieldAt Fence.wide 9 Try.prog l (encs x) W fun e W' =>
      (e = .returned (.bool true) ∧ ∃ Q', B.at_ W' Q' ∧ W'.heap[l]? = some (.loop (rec .ready none)) ∧ ¬ Q' l ∧ Turned (fun k => Q k ∨ k = l) W W' ∧ ∀ i, Q' i → Q i ∨ W.heap.size ≤ i) ∨
      (e = .returned (.bool false) ∧ ∃ Q', C.at_ W' Q' ∧ W'.heap[l]? = some (.loop (rec .done (some .ret))) ∧ ¬ Q' l ∧ Turned (fun k => Q k ∨ k = l) W W' ∧ ∀ i, Q' i → Q i ∨ W.heap.size ≤ i) := by
  have hlt0 : l < W.heap.size := (Array.getElem?_eq_some_iff.1 hl).1
  have hy := run_yield (P := Try.prog) (args := encs x) hl (by rw [hrec]; exact hps x)
  rw [hrec] at hy
  refine ⟨fn, _, assign, body, hy, roundIn_of_wpIn trivial (wpIn_mono hass (fun e a1 W1 hp => ?_))⟩
  cases e with
  | exit id => exact hp.elim
  | goto t => exact hp.elim
  | panic ch => exact hp.elim
  | outgrown => exact hp.elim
  | ret => exact hp.elim
  | normal =>
  obtain ⟨hs1, hbody⟩ := hp
  have hl1 : W1.heap[l]? = some (.loop (rec .ready none)) := (hs1.block l hlt0 (fun h => h)).trans hl
  have hlt : l < W1.heap.size := (Array.getElem?_eq_some_iff.1 hl1).1
  refine ⟨_, run_beginRound hl1 (by rw [hrec]), ?_⟩
  have hl2 : (W1.putObj l (.loop { rec .ready none with state := .busy })).heap[l]? = some (.loop { rec .ready none with state := .busy }) := World.putObj_heap_same hlt
  have ht2 := putObj_since (l := l) (.loop { rec .ready none with state := .busy }) hlt
  refine wpIn_mono (hbody _ ⟨_, hl2⟩ ht2) ?_
  have fin : ∀ (T : Thing) (jump : Option Code) (W3 : World), Goes T Q (W1.putObj l (.loop { rec .ready none with state := .busy })) W3 →
      (Instr.endRound l jump).run Try.prog W3 = .ok (.bool jump.isNone) (W3.putObj l (.loop (rec (if jump.isNone then .ready else .done) jump))) ∧
      ∃ Q', T.at_ (W3.putObj l (.loop (rec (if jump.isNone then .ready else .done) jump))) Q' ∧ (W3.putObj l (.loop (rec (if jump.isNone then .ready else .done) jump))).heap[l]? = some (.loop (rec (if jump.isNone then .ready else .done) jump)) ∧ ¬ Q' l ∧
        Turned (fun k => Q k ∨ k = l) W (W3.putObj l (.loop (rec (if jump.isNone then .ready else .done) jump))) ∧ ∀ i, Q' i → Q i ∨ W.heap.size ≤ i := by
    rintro T jump W3 ⟨Q', hB, hT, hG⟩
    have hl3 : W3.heap[l]? = some (.loop { rec .ready none with state := .busy }) := (hT.block l (by simpa using hlt) hQ).trans hl2
    have hlt3 : l < W3.heap.size := (Array.getElem?_eq_some_iff.1 hl3).1
    have hr := run_endRound (P := Try.prog) jump hl3
    have hQ' : ¬ Q' l := fun h => by
      rcases hG l h with h1 | h1
      · exact hQ h1
      · rw [World.putObj_size] at h1; omega
    have ht4 := putObj_since (l := l) (.loop (rec (if jump.isNone then .ready else .done) jump)) hlt3
    rw [hrec] at hr ht4 ⊢
    refine ⟨hr, Q', T.keep hB ht4 (fun k hk e => hQ' (e ▸ hk)), World.putObj_heap_same hlt3, hQ', ?_, fun i hi => by
      have h5 := hs1.size
      have h6 := hG i hi
      rw [World.putObj_size] at h6
      exact h6.imp id (fun h => Nat.le_trans h5 h)⟩
    exact (hs1.mono (fun k _ h => h.elim)).trans ((ht2.mono (fun k _ e => .inr e)).trans ((hT.mono (fun k _ h => .inl h)).trans (ht4.mono (fun k _ e => .inr e))))
  rintro e a3 W3 hp
  cases e with
  | normal =>
    obtain ⟨hr, h⟩ := fin B none W3 hp
    exact ⟨_, _, hr, .inl ⟨rfl, h⟩⟩
  | ret =>
    obtain ⟨hr, h⟩ := fin C (some .ret) W3 hp
    exact ⟨_, _, hr, .inr ⟨rfl, h⟩⟩
  | exit id => exact hp.elim
  | goto t => exact hp.elim
  | panic ch => exact hp.elim
  | outgrown => exact hp.elim

/-- A loop at a function's own level, whose rounds may leave the function. -/
theorem loopA_outer (hg : a.eval g = .func (.func gf) #[] lb) (eg : ∀ args w, (callFunc gf args).run Try.prog w = .ok (.enter gf args) w)
    (hseq : IterS gf lb encs xs R) (hps : ∀ x, (encs x).size = ps.size) (I Ix : Nat → Thing) {Q0 S0 : Nat → Prop} (hR : R.at_ w S0) (h0 : (I 0).at_ w Q0) (hd : ∀ k, Q0 k → ¬ S0 k)
    (hround : ∀ (x : α) (l k : Nat) (W : World) (Q : Nat → Prop), (∃ r, W.heap[l]? = some (.loop r)) → w.heap.size ≤ l → xs[k]? = some x → (I k).at_ W Q → ¬ Q l → Since Q0 w Q W →
      assign.wpIn (Fence.wide.inRound l) 9 Try.prog (Exit.then (aheadA (I (k + 1)) (Ix k) l Q body W) (fun _ _ _ => False)) { tmps := (ps.zip (encs x)).foldl (fun t (p, v) => t.setIfInBounds p v) a.tmps, defers := [] } W)
    (hdone : ∀ (D : Nat) (W' : World) (Q : Nat → Prop), w.heap.size ≤ D → W'.heap[D]? = some (.deferred (some [])) → ¬ Q D → (I xs.length).at_ W' Q → Since Q0 w Q W' → Qx .normal { a with defers := { target := .collected D, args := #[] } :: a.defers } W')
    (hstop : ∀ (D k : Nat) (W' : World) (Q : Nat → Prop), w.heap.size ≤ D → W'.heap[D]? = some (.deferred (some [])) → ¬ Q D → k < xs.length → (Ix k).at_ W' Q → Since Q0 w Q W' → Code.ret.wpIn Fence.wide 9 Try.prog Qx { a with defers := { target := .collected D, args := #[] } :: a.defers } W') :
    (Code.rangeFunc g ps assign body).wpIn Fence.wide 9 Try.prog Qx a w := by
  refine wpIn_rangeFunc ?_
  intro fn hfn
  obtain ⟨rec, hrec⟩ : ∃ rec : LoopState → Option Code → Loop, rec = fun st pe => { state := st, pending := pe, fn, tmps := a.tmps, params := ps, assign, body, defers := w.heap.size } := ⟨_, rfl⟩
  obtain ⟨W1, hW1⟩ : ∃ W1, (w.alloc (.deferred (some []))).alloc (.loop (rec .ready none)) = W1 := ⟨_, rfl⟩
  have hL1 : W1.heap[w.heap.size + 1]? = some (.loop (rec .ready none)) := by
    rw [← hW1]; have := World.alloc_heap_new (w.alloc (.deferred (some []))) (.loop (rec .ready none)); rwa [World.size_alloc] at this
  have hK1 : W1.heap[w.heap.size]? = some (.deferred (some [])) := by
    rw [← hW1]; exact (Below.heap_alloc _ _ _ (by simp)).trans (World.alloc_heap_new w _)
  have hT1 : Still w W1 := by rw [← hW1]; exact ((Turned.refl _ _).alloc _).alloc _
  refine ⟨w.heap.size + 1, [{ target := .collected w.heap.size, args := #[] }], W1, { target := .fn (.func gf) lb, args := #[.func (.yield (w.heap.size + 1)) #[] #[]] }, W1, gf, #[.func (.yield (w.heap.size + 1)) #[] #[]] ++ lb, W1, ?_, ?_, ?_, ?_, fun _ => by omega, ?_⟩
  · rw [← hW1, hrec]; exact run_enterLoop_outer _ _ _ _ _
  · simp only [resolve, hg]; simp [go_sem]
  · intro f' hf'; trivial
  · simp [invoke, go_sem, eg]
  · have hQl : ¬ Q0 w.heap.size := fun h => by have := (I 0).lt h0 _ h; omega
    have hQl1 : ¬ Q0 (w.heap.size + 1) := fun h => by have := (I 0).lt h0 _ h; omega
    have hst : ((((I 0).sep (objT w.heap.size (.deferred (some [])))).sep (objT (w.heap.size + 1) (.loop (rec .ready none))))).at_ W1 (fun k => (Q0 k ∨ k = w.heap.size) ∨ k = w.heap.size + 1) :=
      obj_sep (obj_sep ((I 0).keep h0 hT1 (fun _ _ h => h)) hK1 hQl) hL1 (fun h => h.elim hQl1 (by omega))
    have hend : ∀ (T : Thing) (pe : Option Code) (st : LoopState) (W2 : World), st ≠ .busy → Goes ((T.sep (objT w.heap.size (.deferred (some [])))).sep (objT (w.heap.size + 1) (.loop (rec st pe)))) (fun k => (Q0 k ∨ k = w.heap.size) ∨ k = w.heap.size + 1) W1 W2 →
        ∃ W', (Instr.endLoop (w.heap.size + 1)).run Try.prog W2 = .ok pe W' ∧ ∃ P1, W'.heap[w.heap.size]? = some (.deferred (some [])) ∧ ¬ P1 w.heap.size ∧ T.at_ W' P1 ∧ Since Q0 w P1 W' := by
      rintro T pe st W2 hne ⟨Q, ⟨Q1, Q2, ⟨P1, P2, hI, ⟨hD, hP2⟩, hpp, hP⟩, ⟨hl, hQ2⟩, hdd, hQ⟩, hT, hG⟩
      have hn : ¬ P1 (w.heap.size + 1) := fun h => hdd _ ((hP _).2 (.inl h)) ((hQ2 _).2 rfl)
      have hnD : ¬ P1 w.heap.size := fun h => hpp _ h ((hP2 _).2 rfl)
      obtain ⟨o4, hend⟩ : ∃ o4, (Instr.endLoop (w.heap.size + 1)).run Try.prog W2 = .ok pe (W2.putObj (w.heap.size + 1) o4) := ⟨_, by have := run_endLoop (P := Try.prog) hl (by rw [hrec]; exact hne); rw [hrec] at this; exact this⟩
      have ht4 := putObj_since (l := w.heap.size + 1) o4 (Array.getElem?_eq_some_iff.1 hl).1
      refine ⟨_, hend, P1, (World.putObj_heap_other (by omega)).trans hD, hnD, T.keep hI ht4 (fun k hk e => hn (by rw [← e]; exact hk)), ?_, fun i hi => ?_⟩
      · have hT' : Turned (fun k => Q0 k ∨ w.heap.size ≤ k) w (W2.putObj (w.heap.size + 1) o4) :=
          (hT1.mono (fun _ _ h => h.elim)).trans ((hT.mono (fun k _ h => by
            rcases h with (h | h) | h
            · exact .inl h
            · exact .inr (by omega)
            · exact .inr (by omega))).trans (ht4.mono (fun k _ e => .inr (by omega))))
        exact hT'.mono (fun k hk h => h.elim id (fun h => by omega))
      · rcases hG i ((hQ i).2 (.inl ((hP i).2 (.inl hi)))) with ((h | h) | h) | h
        · exact .inl h
        · exact .inr (by omega)
        · exact .inr (by omega)
        · exact .inr (Nat.le_trans hT1.size h)
    refine callsIn_wide.2 ((hseq (w.heap.size + 1) (fun k => ((I k).sep (objT w.heap.size (.deferred (some [])))).sep (objT (w.heap.size + 1) (.loop (rec .ready none)))) (fun k => ((Ix k).sep (objT w.heap.size (.deferred (some [])))).sep (objT (w.heap.size + 1) (.loop (rec .done (some .ret))))) W1 _ S0 (R.keep hR hT1 (fun _ _ h => h)) hst ?_ ?_).mono ?_)
    · rintro k ((hk | rfl) | rfl)
      · exact hd k hk
      · intro h; have := R.lt hR _ h; omega
      · intro h; have := R.lt hR _ h; omega
    · rintro k x W Q hx ⟨Q1, Q2, ⟨P1, P2, hI, ⟨hD, hP2⟩, hpp, hP⟩, ⟨hl, hQ2⟩, hdd, hQ⟩ hS
      have hn : ¬ P1 (w.heap.size + 1) := fun h => hdd _ ((hP _).2 (.inl h)) ((hQ2 _).2 rfl)
      have hnD : ¬ P1 w.heap.size := fun h => hpp _ h ((hP2 _).2 rfl)
      have hS1 : Since Q0 w P1 W := by
        refine ⟨⟨hS.turn.os.trans hT1.os, hS.turn.tape.trans hT1.tape, hS.turn.output.trans hT1.output, Nat.le_trans hT1.size hS.turn.size, fun j hj hq => (hS.turn.block j (Nat.lt_of_lt_of_le hj hT1.size) (fun h => by
          rcases h with (h | h) | h
          · exact hq h
          · omega
          · omega)).trans (hT1.block j hj (fun h => h))⟩, fun i hi => ?_⟩
        rcases hS.grow i ((hQ i).2 (.inl ((hP i).2 (.inl hi)))) with ((h | h) | h) | h
        · exact .inl h
        · exact .inr (by omega)
        · exact .inr (by omega)
        · exact .inr (Nat.le_trans hT1.size h)
      obtain ⟨fn', tm', as', bd', hy, hR'⟩ := roundA_yield hrec hps (B := I (k + 1)) (C := Ix k) hI hl hn (hround x (w.heap.size + 1) k W P1 ⟨_, hl⟩ (by omega) hx hI hn hS1)
      have hlt := (Array.getElem?_eq_some_iff.1 hD).1
      have join : ∀ (T : Thing) (o : Obj) (W' : World) (Q' : Nat → Prop), T.at_ W' Q' → W'.heap[w.heap.size + 1]? = some o → ¬ Q' (w.heap.size + 1) → Turned (fun k => P1 k ∨ k = w.heap.size + 1) W W' → (∀ i, Q' i → P1 i ∨ W.heap.size ≤ i) →
          Goes ((T.sep (objT w.heap.size (.deferred (some [])))).sep (objT (w.heap.size + 1) o)) Q W W' := fun T o W' Q' hB hl' hnl hT hG => by
        have hD' : W'.heap[w.heap.size]? = some (.deferred (some [])) := (hT.block _ hlt (fun h => h.elim hnD (by omega))).trans hD
        have hnD' : ¬ Q' w.heap.size := fun h => by
          rcases hG _ h with h | h
          · exact hnD h
          · omega
        refine ⟨fun i => (Q' i ∨ i = w.heap.size) ∨ i = w.heap.size + 1, obj_sep (obj_sep hB hD' hnD') hl' (fun h => h.elim hnl (by omega)), hT.mono (fun i _ h => (hQ i).2 (h.imp (fun h => (hP i).2 (.inl h)) (fun e => (hQ2 i).2 e))), fun i hi => ?_⟩
        rcases hi with (hi | hi) | hi
        · exact (hG i hi).imp (fun h => (hQ i).2 (.inl ((hP i).2 (.inl h)))) id
        · exact .inl ((hQ i).2 (.inl ((hP i).2 (.inr ((hP2 i).2 hi)))))
        · exact .inl ((hQ i).2 (.inr ((hQ2 i).2 hi)))
      refine ⟨fn', tm', as', bd', hy, hR'.mono ?_⟩
      rintro e W' (⟨he, Q', hB, hl', hnl, hT, hG⟩ | ⟨he, Q', hB, hl', hnl, hT, hG⟩)
      · exact .inl ⟨he, join _ _ _ _ hB hl' hnl hT hG⟩
      · exact .inr ⟨he, join _ _ _ _ hB hl' hnl hT hG⟩
    · rintro e W2 ⟨⟨v, rfl⟩, h | ⟨k, hk, h⟩⟩
      · obtain ⟨W', he, P1, hD, hnD, hI, hS⟩ := hend _ none .ready W2 (by simp) h
        exact ⟨none, _, he, hdone w.heap.size _ P1 (Nat.le_refl _) hD hnD hI hS⟩
      · obtain ⟨W', he, P1, hD, hnD, hI, hS⟩ := hend _ (some .ret) .done W2 (by simp) h
        exact ⟨some .ret, _, he, hstop w.heap.size k _ P1 (Nat.le_refl _) hD hnD hk hI hS⟩
end
end Go.Proofs.Ytdlkdagmaeapdaa

/- Maps from places, or from numbers, to numbers in memory: what a look-up answers, what stores leave. No condition. -/
namespace Go.Proofs.Ytdlkdagmaeapdaa
open Go.RowKit
set_option linter.unusedVariables false
set_option linter.unusedSimpArgs false
set_option linter.unusedSectionVars false
set_option maxRecDepth 100000

section
variable {κ : Type} [DecidableEq κ] {t k : TypeId} {kv : κ → Value} {w : World} {b : Nat}

def ent (kv : κ → Value) (x : κ × Int × Nat) : MapEntry := ⟨kv x.1, .int .i64 x.2.1, x.2.2⟩
def fnd (a : κ) : List (κ × Int × Nat) → Nat → Option (Nat × Int × Nat)
  | [], _ => none
  | x :: r, i => if a = x.1 then some (i, x.2) else fnd a r (i + 1)
def fvl (y : Nat × Int × Nat) : Nat × Value := (y.1, .int .i64 y.2.1)
theorem fnd_some {a : κ} : ∀ {l : List (κ × Int × Nat)} {i : Nat} {y : Nat × Int × Nat}, fnd a l i = some y → ∃ j, y.1 = i + j ∧ l[j]? = some (a, y.2)
  | [], _, _, h => by cases h
  | x :: r, i, y, h => by
    rw [fnd] at h
    split at h
    · rename_i e; cases h; exact ⟨0, rfl, by rw [e]; rfl⟩
    · obtain ⟨j, e, h2⟩ := fnd_some h
      exact ⟨j + 1, by omega, h2⟩
theorem fnd_app {a : κ} : ∀ {l m : List (κ × Int × Nat)} {i : Nat}, fnd a (l ++ m) i = match fnd a l i with | some y => some y | none => fnd a m (i + l.length)
  | [], m, i => rfl
  | x :: r, m, i => by
    rw [List.cons_append, fnd, fnd]
    split
    · rfl
    · rw [fnd_app, List.length_cons, show i + 1 + r.length = i + (r.length + 1) by omega]
def setV (l : List (κ × Int × Nat)) (j : Nat) (v : Int) : List (κ × Int × Nat) := l.modify j fun x => (x.1, v, x.2.2)
def asc (l : List (κ × Int × Nat)) (a : κ) : Option Int := (fnd a l 0).map (·.2.1)
theorem asc_app (l : List (κ × Int × Nat)) (x : κ × Int × Nat) (a : κ) : asc (l ++ [x]) a = match asc l a with | some v => some v | none => if a = x.1 then some x.2.1 else none := by
  unfold asc
  rw [fnd_app]
  cases fnd a l 0 with
  | some y => rfl
  | none =>
    show Option.map _ (fnd a [x] _) = if a = x.1 then _ else _
    rw [fnd]
    split <;> rfl
theorem asc_set {a : κ} {v : Int} : ∀ {l : List (κ × Int × Nat)} {i j : Nat} {y : Int × Nat}, fnd a l i = some (i + j, y) → ∀ c, ((fnd c (setV l j v) i).map (·.2.1)) = if c = a then some v else (fnd c l i).map (·.2.1)
  | [], _, _, _, h => by cases h
  | x :: r, i, j, y, h => fun c => by
    rw [fnd] at h
    split at h
    · rename_i e
      obtain ⟨h1, h2⟩ : i = i + j ∧ x.2 = y := by simpa using h
      obtain rfl : j = 0 := by omega
      show Option.map _ (fnd c ((x.1, v, x.2.2) :: r) i) = _
      rw [fnd, fnd, e]
      split <;> rfl
    · rename_i e
      obtain ⟨j', e1, _⟩ := fnd_some h
      obtain ⟨j2, rfl⟩ : ∃ j2, j = j2 + 1 := ⟨j - 1, by simp only at e1; omega⟩
      show Option.map _ (fnd c (x :: setV r j2 v) i) = _
      rw [fnd, fnd]
      have := asc_set (v := v) (l := r) (i := i + 1) (j := j2) (y := y) (by rw [h]; congr 1; congr 1; omega) c
      by_cases h1 : c = x.1
      · rw [if_pos h1, if_pos h1, if_neg (fun e2 => e (e2.symm.trans h1))]
      · rw [if_neg h1, if_neg h1]; exact this

structure KeyK (t k : TypeId) (kv : κ → Value) : Prop where
  und : Try.prog.underlying t = some (.map k 3)
  check : ∀ em w a, (Instr.checkKey em 10000 k (kv a)).run Try.prog w = .ok () w
  find : ∀ w a (l : List (κ × Int × Nat)), (Instr.findKey k (kv a) (l.map (ent kv))).run Try.prog w = .ok ((fnd a l 0).map fvl) w
  stays : ∀ w a, (Instr.keyThatStays (kv a) (kv a)).run Try.prog w = .ok (kv a) w

/-- Block b is a map whose entries are these. -/
def MapAt (kv : κ → Value) (w : World) (b : Nat) (l : List (κ × Int × Nat)) : Prop :=
  ∃ clock, w.heap[b]? = some (.map (l.map (ent kv)).toArray clock) ∧ (l.map (·.2.2)).Nodup ∧ ∀ x ∈ l, x.2.2 < clock
def MapF (kv : κ → Value) (w : World) (b : Nat) (f : κ → Option Int) : Prop := ∃ l, MapAt kv w b l ∧ ∀ a, asc l a = f a

theorem MapF.made (w : World) : MapF kv (w.alloc (.map #[] 0)) w.heap.size (fun _ => none) :=
  ⟨[], ⟨0, World.alloc_heap_new w _, List.nodup_nil, fun _ h => by cases h⟩, fun _ => rfl⟩
theorem MapF.lt {f : κ → Option Int} (h : MapF kv w b f) : b < w.heap.size := by
  obtain ⟨l, ⟨c, hb, _⟩, _⟩ := h
  exact (Array.getElem?_eq_some_iff.1 hb).1
theorem MapF.keep {w' : World} {S : Nat → Prop} {f : κ → Option Int} (h : MapF kv w b f) (ht : Turned S w w') (hn : ¬ S b) : MapF kv w' b f := by
  have hlt := h.lt
  obtain ⟨l, ⟨c, hb, r⟩, hf⟩ := h
  exact ⟨l, ⟨c, (ht.block b hlt hn).trans hb, r⟩, hf⟩
theorem MapF.congr {f g : κ → Option Int} (h : MapF kv w b f) (e : ∀ a, f a = g a) : MapF kv w b g := by
  obtain ⟨l, h1, h2⟩ := h
  exact ⟨l, h1, fun a => (h2 a).trans (e a)⟩
theorem zeroInt16 (w : World) : (zeroValue 3).run Try.prog w = .ok (.int .i64 0) w := by kernel_rfl

theorem MapF.look {f : κ → Option Int} (K : KeyK t k kv) (h : MapF kv w b f) (a : κ) (c : Bool) :
    (Instr.lookup t (.map (some b)) (kv a) c).run Try.prog w = .ok (if c then .tuple #[.int .i64 ((f a).getD 0), .bool (f a).isSome] else .int .i64 ((f a).getD 0)) w := by
  obtain ⟨l, ⟨clk, hb, _⟩, hf⟩ := h
  have hf := hf a
  unfold asc at hf
  have hfd := K.find w a l
  cases hx : fnd a l 0 with
  | none =>
    rw [hx] at hf hfd
    simp [Instr.lookup, run_underlying K.und, MapKept.run_getObj_map hb, K.check, hfd, zeroInt16, Result.andThen, ← hf]
  | some y =>
    rw [hx] at hf hfd
    simp [Instr.lookup, run_underlying K.und, MapKept.run_getObj_map hb, K.check, hfd, fvl, Result.andThen, ← hf]

theorem ent_set (l : List (κ × Int × Nat)) (j : Nat) (v : Int) : ((l.map (ent kv)).modify j fun e => { e with val := .int .i64 v }) = (setV l j v).map (ent kv) := by
  apply List.ext_getElem?
  intro i
  unfold setV
  rw [List.getElem?_modify, List.getElem?_map, List.getElem?_map, List.getElem?_modify]
  by_cases h : j = i
  · cases l[i]? <;> simp [h, ent]
  · cases l[i]? <;> simp [h, ent]
theorem setV_born (l : List (κ × Int × Nat)) (j : Nat) (v : Int) : (setV l j v).map (·.2.2) = l.map (·.2.2) := by
  apply List.ext_getElem?
  intro i
  unfold setV
  rw [List.getElem?_map, List.getElem?_map, List.getElem?_modify]
  by_cases h : j = i
  · cases l[i]? <;> simp [h]
  · cases l[i]? <;> simp [h]
theorem asc_some {l : List (κ × Int × Nat)} {a : κ} {y : Nat × Int × Nat} (h : fnd a l 0 = some y) (v : Int) (c : κ) : asc (setV l y.1 v) c = if c = a then some v else asc l c := by
  obtain ⟨j, e, _⟩ := fnd_some h
  obtain ⟨y1, y2⟩ := y
  simp only [Nat.zero_add] at e
  subst e
  exact asc_set (l := l) (i := 0) (j := y1) (y := y2) (by rw [h, Nat.zero_add]) c
theorem turned_setObj {o : Obj} (hb : b < w.heap.size) : Turned (· = b) w (w.putObj b o) := putObj_since (l := b) o hb
theorem born_lt {l : List (κ × Int × Nat)} {v : Int} {j clk : Nat} (h : ∀ x ∈ l, x.2.2 < clk) : ∀ x ∈ setV l j v, x.2.2 < clk := by
  intro x hx
  have h1 : x.2.2 ∈ (setV l j v).map (·.2.2) := List.mem_map.2 ⟨x, hx, rfl⟩
  rw [setV_born] at h1
  obtain ⟨y, hy, e⟩ := List.mem_map.1 h1
  rw [← e]; exact h y hy

theorem MapF.stored {f : κ → Option Int} {l l2 : List (κ × Int × Nat)} {c2 : Nat} {a : κ} {v : Int} (hb : b < w.heap.size) (hf : ∀ a, asc l a = f a) (he : ∀ c, asc l2 c = if c = a then some v else asc l c) (h1 : (l2.map (·.2.2)).Nodup) (h2 : ∀ x ∈ l2, x.2.2 < c2) :
    MapF kv (w.putObj b (.map (l2.map (ent kv)).toArray c2)) b (fun c => if c = a then some v else f c) :=
  ⟨l2, ⟨c2, World.putObj_heap_same hb, h1, h2⟩, fun c => by rw [he c, hf c]⟩
theorem asc_push {l : List (κ × Int × Nat)} {a : κ} (h : fnd a l 0 = none) (v : Int) (n : Nat) (c : κ) : asc (l ++ [(a, v, n)]) c = if c = a then some v else asc l c := by
  rw [asc_app]
  by_cases e : c = a
  · subst e
    have : asc l c = none := by unfold asc; rw [h]; rfl
    rw [this, if_pos rfl]
  · rw [if_neg e]
    cases hx : asc l c with
    | some y => simp [e]
    | none => simp [e]
theorem nodup_push {l : List (κ × Int × Nat)} {a : κ} {v : Int} {clk : Nat} (h1 : (l.map (·.2.2)).Nodup) (h2 : ∀ x ∈ l, x.2.2 < clk) : ((l ++ [(a, v, clk)]).map (·.2.2)).Nodup ∧ ∀ x ∈ l ++ [(a, v, clk)], x.2.2 < clk + 1 := by
  refine ⟨?_, fun x hx => ?_⟩
  · rw [List.map_append]
    refine List.nodup_append.2 ⟨h1, by simp, fun x hx y hy e => ?_⟩
    obtain ⟨z, hz, rfl⟩ := List.mem_map.1 hx
    have := h2 z hz
    simp at hy
    omega
  · rcases List.mem_append.1 hx with hx | hx
    · have := h2 x hx; omega
    · simp at hx; subst hx; simp

theorem MapF.put {f : κ → Option Int} (K : KeyK t k kv) (h : MapF kv w b f) (a : κ) (v : Int) :
    ∃ w', (Instr.mapUpdate t (.map (some b)) (kv a) (.int .i64 v)).run Try.prog w = .ok () w' ∧ MapF kv w' b (fun c => if c = a then some v else f c) ∧ Turned (· = b) w w' := by
  have hlt := h.lt
  obtain ⟨l, ⟨clk, hb, h1, h2⟩, hf⟩ := h
  have hfd := K.find w a l
  cases hx : fnd a l 0 with
  | none =>
    rw [hx] at hfd
    have hp := nodup_push (a := a) (v := v) h1 h2
    refine ⟨w.putObj b (.map ((l ++ [(a, v, clk)]).map (ent kv)).toArray (clk + 1)), ?_, MapF.stored hlt hf (asc_push hx v clk) hp.1 hp.2, putObj_since _ hlt⟩
    simp [Instr.mapUpdate, run_underlying K.und, MapKept.run_getObj_map hb, K.check, hfd, MapKept.run_setObj_map _ hb, Result.andThen, World.putObj, ent]
  | some y =>
    rw [hx] at hfd
    obtain ⟨j, e, hj⟩ := fnd_some hx
    rw [Nat.zero_add] at e
    have hse := ent_set (kv := kv) l y.1 v
    refine ⟨w.putObj b (.map ((setV l y.1 v).map (ent kv)).toArray clk), ?_, MapF.stored hlt hf (asc_some hx v) (by rw [setV_born]; exact h1) (born_lt h2), putObj_since _ hlt⟩
    have hm : (l.map (ent kv)).modify y.1 (fun e => { e with key := kv a, val := .int .i64 v }) = (setV l y.1 v).map (ent kv) := by
      rw [← hse]
      apply List.ext_getElem?
      intro i
      rw [List.getElem?_modify, List.getElem?_modify]
      by_cases hi : y.1 = i
      · subst hi
        rw [List.getElem?_map, e, hj]; simp [ent]
      · simp [hi]
    simp [Instr.mapUpdate, run_underlying K.und, MapKept.run_getObj_map hb, K.check, hfd, fvl, e, hj, ent, K.stays, MapKept.run_setObj_map _ hb, Result.andThen, World.putObj]
    rw [← e, hm]

theorem MapAt.estore {l : List (κ × Int × Nat)} {a : κ} {y : Nat × Int × Nat} (h : MapAt kv w b l) (hx : fnd a l 0 = some y) (v : Int) :
    ∃ w2, (Instr.entryStore t (.map (some b)) (.int .i64 (y.2.2 : Nat)) (.int .i64 v)).run Try.prog w = .ok () w2 ∧ MapF kv w2 b (fun c => if c = a then some v else asc l c) ∧ Turned (· = b) w w2 := by
  obtain ⟨clk, hb, h1, h2⟩ := h
  obtain ⟨j, e, hj⟩ := fnd_some hx
  rw [Nat.zero_add] at e
  have hlt := (Array.getElem?_eq_some_iff.1 hb).1
  have hse := ent_set (kv := kv) l y.1 v
  refine ⟨w.putObj b (.map ((setV l y.1 v).map (ent kv)).toArray clk), ?_, MapF.stored hlt (fun _ => rfl) (asc_some hx v) (by rw [setV_born]; exact h1) (born_lt h2), putObj_since _ hlt⟩
  have hid := WideElems.findIdx_born (l := l.map (ent kv)) (j := y.1) (e0 := ent kv (a, y.2)) (by rw [List.map_map]; exact h1) (by rw [List.getElem?_map, e, hj]; rfl)
  simp only [ent] at hid
  simp [Instr.entryStore, MapKept.run_getObj_map hb, asInt, asIntOf, WideElems.findIdx_arr, hid, MapKept.run_setObj_map _ hb, Result.andThen, World.putObj]
  rw [hse]
theorem MapF.entry {f : κ → Option Int} (K : KeyK t k kv) (h : MapF kv w b f) (a : κ) (v : Int) :
    ∃ (w1 w2 : World) (st : Int), (Instr.mapEntry t (.map (some b)) (kv a)).run Try.prog w = .ok (.tuple #[.int .i64 ((f a).getD 0), .int .i64 st]) w1 ∧ MapF kv w1 b (fun c => if c = a then some ((f a).getD 0) else f c) ∧ Turned (· = b) w w1 ∧
      (Instr.entryStore t (.map (some b)) (.int .i64 st) (.int .i64 v)).run Try.prog w1 = .ok () w2 ∧ MapF kv w2 b (fun c => if c = a then some v else f c) ∧ Turned (· = b) w1 w2 := by
  have hlt := h.lt
  obtain ⟨l, ⟨clk, hb, h1, h2⟩, hf⟩ := h
  have hfd := K.find w a l
  have hfa := hf a
  unfold asc at hfa
  cases hx : fnd a l 0 with
  | none =>
    rw [hx] at hfd hfa
    have hp := nodup_push (a := a) (v := (0 : Int)) h1 h2
    have hy : fnd a (l ++ [(a, (0 : Int), clk)]) 0 = some (l.length, 0, clk) := by
      rw [fnd_app, hx]
      show fnd a [(a, (0 : Int), clk)] (0 + l.length) = _
      rw [fnd, if_pos rfl, Nat.zero_add]
    have hM : MapAt kv (w.putObj b (.map ((l ++ [(a, (0 : Int), clk)]).map (ent kv)).toArray (clk + 1))) b (l ++ [(a, 0, clk)]) := ⟨_, World.putObj_heap_same hlt, hp.1, hp.2⟩
    obtain ⟨w2, e2, m2, t2⟩ := MapAt.estore (t := t) hM hy v
    refine ⟨_, w2, clk, ?_, ⟨_, hM, fun c => ?_⟩, putObj_since _ hlt, e2, m2.congr (fun c => ?_), t2⟩
    · simp [Instr.mapEntry, run_underlying K.und, MapKept.run_getObj_map hb, K.check, hfd, zeroInt16, MapKept.run_setObj_map _ hb, Result.andThen, World.putObj, ent, goInt, ← hfa]
    · rw [asc_push hx, hf c, ← hfa]; rfl
    · rw [asc_push hx, hf c]
      by_cases e : c = a
      · rw [if_pos e, if_pos e]
      · rw [if_neg e, if_neg e, if_neg e]
  | some y =>
    rw [hx] at hfd hfa
    obtain ⟨j, e, hj⟩ := fnd_some hx
    rw [Nat.zero_add] at e
    obtain ⟨y1, yv, yb⟩ := y
    simp only at e hj
    subst e
    have hM : MapAt kv (w.putObj b (.map (l.map (ent kv)).toArray clk)) b l := ⟨_, World.putObj_heap_same hlt, h1, h2⟩
    obtain ⟨w2, e2, m2, t2⟩ := MapAt.estore (t := t) hM hx v
    have hfa2 : f a = some yv := by rw [← hfa]; rfl
    have hm : (l.map (ent kv)).modify y1 (fun e => { e with key := kv a }) = l.map (ent kv) := by
      apply List.ext_getElem?
      intro i
      rw [List.getElem?_modify]
      by_cases hi : y1 = i
      · subst hi
        rw [List.getElem?_map, hj]; simp [ent]
      · simp [hi]
    refine ⟨_, w2, yb, ?_, ⟨l, hM, fun c => ?_⟩, putObj_since _ hlt, e2, m2.congr (fun c => ?_), t2⟩
    · simp [Instr.mapEntry, run_underlying K.und, MapKept.run_getObj_map hb, K.check, hfd, fvl, hj, K.stays, MapKept.run_setObj_map _ hb, Result.andThen, World.putObj, goInt, hfa2]
      simp [ent, hj, K.stays, MapKept.run_setObj_map _ hb, Result.andThen]
      rw [hm]
    · rw [hf c]
      show f c = if c = a then some ((f a).getD 0) else f c
      by_cases e : c = a
      · rw [if_pos e, e, hfa2]; rfl
      · rw [if_neg e]
    · rw [hf c]
end

/-! ### The keys: places, numbers -/
def plV (p : Plc) : Value := .agg #[.int .i64 p.1, .int .i64 p.2]
def inV (x : Int) : Value := .int .i64 x
theorem ckInt (em : Bool) (n : Nat) (x : Int) (w : World) : (Instr.checkKey em (n + 1) 3 (.int .i64 x)).run Try.prog w = .ok () w := MapKept.run_checkKey Try.underlying3 (by trivial) em n
theorem keysPl : KeyK 113 54 plV where
  und := Try.underlying113
  check em w a := by
    have u3 := Try.underlying3
    have a3 := Try.isAgg3
    have z3 := Try.sizeOf3
    have c1 := ckInt em 9998
    rw [show (10000 : Nat) = 9998 + 1 + 1 from rfl, Instr.checkKey]
    simp only [plV, Sem.run_bind, run_underlying Try.underlying54, Result.andThen_ok]
    go_simp
  find w a l := by
    have hn : ∀ (l : List (Plc × Int × Nat)) i, (Instr.findAsking 54 (plV a) (l.map (ent plV)) i).run Try.prog w = .ok ((fnd a l i).map fvl) w := by
      intro l
      induction l with
      | nil => intro i; rfl
      | cons x r ih =>
        intro i
        obtain ⟨⟨x1, x2⟩, v, n⟩ := x
        obtain ⟨a1, a2⟩ := a
        have he : (Op.equalIn Op.maxDepth 54 (.agg #[.int .i64 a1, .int .i64 a2]) (.agg #[.int .i64 x1, .int .i64 x2])).run Try.prog w = .ok (decide (a1 = x1 ∧ a2 = x2)) w := pl16_eqIn a1 a2 x1 x2 w
        rw [List.map_cons, Instr.findAsking, fnd]
        simp only [Sem.run_bind, ent, plV, Op.equal, he, Result.andThen_ok]
        by_cases h : a1 = x1 ∧ a2 = x2
        · have hd : decide (a1 = x1 ∧ a2 = x2) = true := decide_eq_true h
          rw [hd, if_pos rfl, if_pos (by rw [h.1, h.2])]
          rfl
        · have hd : decide (a1 = x1 ∧ a2 = x2) = false := decide_eq_false h
          rw [hd, if_neg Bool.false_ne_true, if_neg (fun e => h (Prod.mk.inj e))]
          exact ih (i + 1)
    have hf := hn l 0
    rw [Instr.findKey]
    simp only [Sem.run_bind, run_underlying Try.underlying54, Result.andThen_ok]
    cases l with
    | nil => rfl
    | cons x r =>
      rw [List.map_cons, Instr.findNow]
      exact hf
  stays w a := by
    simp [Instr.keyThatStays, plV, Instr.sameBits]
end Go.Proofs.Ytdlkdagmaeapdaa

/- Things that can only be read: two of them, rows of numbers. No condition. -/
namespace Go.Proofs.Ytdlkdagmaeapdaa
open Go.RowKit
set_option linter.unusedVariables false

/-- Two things that can be read, apart or not. -/
def Thing.with_ (A B : Thing) : Thing where
  at_ w W := ∃ W1 W2, A.at_ w W1 ∧ B.at_ w W2 ∧ ∀ k, W k ↔ W1 k ∨ W2 k
  lt := by
    rintro w W ⟨W1, W2, h1, h2, hW⟩ k hk
    rcases (hW k).1 hk with h | h
    · exact A.lt h1 k h
    · exact B.lt h2 k h
  keep := by
    rintro w w' W S ⟨W1, W2, h1, h2, hW⟩ ht hs
    exact ⟨W1, W2, A.keep h1 ht (fun k hk => hs k ((hW k).2 (.inl hk))), B.keep h2 ht (fun k hk => hs k ((hW k).2 (.inr hk))), hW⟩
theorem with_at {A B : Thing} {w : World} {W1 W2 : Nat → Prop} (h1 : A.at_ w W1) (h2 : B.at_ w W2) : (A.with_ B).at_ w (fun k => W1 k ∨ W2 k) := ⟨W1, W2, h1, h2, fun _ => Iff.rfl⟩
/-- Numbers that can be read. -/
def readT (ao : Option Addr) (l : List Int) : Thing where
  at_ w W := NumsAt w ao l ∧ ∀ k, W k ↔ l ≠ [] ∧ ∃ x, ao = some x ∧ x.block = k
  lt := by
    rintro w W ⟨h, hW⟩ k hk
    obtain ⟨hl, x, hx, rfl⟩ := (hW k).1 hk
    cases l with
    | nil => exact absurd rfl hl
    | cons y l =>
      obtain ⟨b, o, e, hc⟩ := h 0 y rfl
      rw [hx] at e
      obtain rfl := Option.some.inj e
      exact cell_lt hc
  keep := by
    rintro w w' W S ⟨h, hW⟩ ht hs
    refine ⟨?_, hW⟩
    by_cases hl : l = []
    · subst hl; exact NumsAt.nil _ _
    · exact h.turned ht (fun a ha => hs _ ((hW _).2 ⟨hl, a, ha, rfl⟩))

theorem nums_lt {w : World} {ao : Option Addr} {l : List Int} (h : NumsAt w ao l) {k : Nat} (hk : l ≠ [] ∧ ∃ x, ao = some x ∧ x.block = k) : k < w.heap.size :=
  (readT ao l).lt (W := fun k => l ≠ [] ∧ ∃ x, ao = some x ∧ x.block = k) ⟨h, fun _ => Iff.rfl⟩ k hk
end Go.Proofs.Ytdlkdagmaeapdaa

/- Loops over functions whose rounds go on, or end the loop by a break, told of things that lie in memory: what the iterator reads, and what the rounds change, lie apart. No condition. -/
namespace Go.Proofs.Ytdlkdagmaeapdaa
open Go.RowKit Go.Shelf
set_option linter.unusedVariables false

/-- How the body of a round ends: it goes on, or breaks. -/
def roundX (i : Nat) (A B : Thing) (Q : Nat → Prop) (W : World) : Exit → Act → World → Prop
  | .normal, _, W' => Goes A Q W W'
  | .exit j, _, W' => j = i ∧ Goes B Q W W'
  | _, _, _ => False

section
variable {i0 : Nat} {α : Type} {g : Operand} {ps : Array Tmp} {assign body : Code} {Qx : Exit → Act → World → Prop} {a : Act} {w : World} {gf : Nat} {lb : Array Value} {encs : α → Array Value} {xs : List α} {R : Thing}

/-- One round, between two states of the record. -/
theorem roundX_yield {rec : LoopState → Option Code → Loop} {fn l : Nat} {df : Nat} {tm : Array Value} (hrec : rec = fun st pe => { state := st, pending := pe, fn, tmps := tm, params := ps, assign, body, defers := df })
    (hps : ∀ x, (encs x).size = ps.size) {A B C : Thing} {x : α} {W : World} {Q : Nat → Prop} {a1 : Act}
    (hA : A.at_ W Q) (hl : W.heap[l]? = some (.loop (rec .ready none))) (hQ : ¬ Q l)
    (hassign : ∀ K : Act → World → Prop, K a1 W → assign.wpIn (Fence.wide.inRound l) 9 Try.prog (Exit.then K (fun _ _ _ => False)) { tmps := (ps.zip (encs x)).foldl (fun t (p, v) => t.setIfInBounds p v) tm, defers := [] } W)
    (hbody : ∀ W2, (∃ r, W2.heap[l]? = some (.loop r)) → A.at_ W2 Q → Turned (· = l) W W2 → body.wpIn (Fence.wide.inRound l) 9 Try.prog (roundX i0 B C Q W2) a1 W2) :
    YieldAt Fence.wide 9 Try.prog l (encs x) W fun e W' =>
      (e = .returned (.bool true) ∧ ∃ Q', B.at_ W' Q' ∧ W'.heap[l]? = some (.loop (rec .ready none)) ∧ ¬ Q' l ∧ Turned (fun k => Q k ∨ k = l) W W' ∧ ∀ i, Q' i → Q i ∨ W.heap.size ≤ i) ∨
      (e = .returned (.bool false) ∧ ∃ Q', C.at_ W' Q' ∧ W'.heap[l]? = some (.loop (rec .done (some (.exit i0)))) ∧ ¬ Q' l ∧ Turned (fun k => Q k ∨ k = l) W W' ∧ ∀ i, Q' i → Q i ∨ W.heap.size ≤ i) := by
  have hlt : l < W.heap.size := (Array.getElem?_eq_some_iff.1 hl).1
  have hy := run_yield (P := Try.prog) (args := encs x) hl (by rw [hrec]; exact hps x)
  rw [hrec] at hy
  refine ⟨fn, _, assign, body, hy, roundIn_of_wpIn trivial (hassign _ ?_)⟩
  refine ⟨_, run_beginRound hl (by rw [hrec]), ?_⟩
  have hl2 : (W.putObj l (.loop { rec .ready none with state := .busy })).heap[l]? = some (.loop { rec .ready none with state := .busy }) := World.putObj_heap_same hlt
  have ht2 := putObj_since (l := l) (.loop { rec .ready none with state := .busy }) hlt
  refine wpIn_mono (hbody _ ⟨_, hl2⟩ (A.keep hA ht2 (fun k hk e => hQ (e ▸ hk))) ht2) ?_
  have fin : ∀ (T : Thing) (jump : Option Code) (W3 : World), Goes T Q (W.putObj l (.loop { rec .ready none with state := .busy })) W3 →
      (Instr.endRound l jump).run Try.prog W3 = .ok (.bool jump.isNone) (W3.putObj l (.loop (rec (if jump.isNone then .ready else .done) jump))) ∧
      ∃ Q', T.at_ (W3.putObj l (.loop (rec (if jump.isNone then .ready else .done) jump))) Q' ∧ (W3.putObj l (.loop (rec (if jump.isNone then .ready else .done) jump))).heap[l]? = some (.loop (rec (if jump.isNone then .ready else .done) jump)) ∧ ¬ Q' l ∧
        Turned (fun k => Q k ∨ k = l) W (W3.putObj l (.loop (rec (if jump.isNone then .ready else .done) jump))) ∧ ∀ i, Q' i → Q i ∨ W.heap.size ≤ i := by
    rintro T jump W3 ⟨Q', hB, hT, hG⟩
    have hl3 : W3.heap[l]? = some (.loop { rec .ready none with state := .busy }) := (hT.block l (by simpa using hlt) hQ).trans hl2
    have hlt3 : l < W3.heap.size := (Array.getElem?_eq_some_iff.1 hl3).1
    have hr := run_endRound (P := Try.prog) jump hl3
    have hQ' : ¬ Q' l := fun h => by
      rcases hG l h with h1 | h1
      · exact hQ h1
      · rw [World.putObj_size] at h1; omega
    have ht4 := putObj_since (l := l) (.loop (rec (if jump.isNone then .ready else .done) jump)) hlt3
    rw [hrec] at hr ht4 ⊢
    refine ⟨hr, Q', T.keep hB ht4 (fun k hk e => hQ' (e ▸ hk)), World.putObj_heap_same hlt3, hQ', ?_, fun i hi => by have := hG i hi; rwa [World.putObj_size] at this⟩
    exact ((ht2.mono (fun k _ e => .inr e)).trans ((hT.mono (fun k _ h => .inl h)).trans (ht4.mono (fun k _ e => .inr e))))
  rintro e a3 W3 hp
  cases e with
  | normal =>
    obtain ⟨hr, h⟩ := fin B none W3 hp
    exact ⟨_, _, hr, .inl ⟨rfl, h⟩⟩
  | ret => exact hp.elim
  | exit id =>
    obtain ⟨rfl, hp⟩ := hp
    obtain ⟨hr, h⟩ := fin C (some (.exit id)) W3 hp
    exact ⟨_, _, hr, .inr ⟨rfl, h⟩⟩
  | goto t => exact hp.elim
  | panic ch => exact hp.elim
  | outgrown => exact hp.elim

/-- A loop at a function's own level, whose rounds may break it. -/
theorem loopX_outer (hg : a.eval g = .func (.func gf) #[] lb) (eg : ∀ args w, (callFunc gf args).run Try.prog w = .ok (.enter gf args) w)
    (hseq : IterS gf lb encs xs R) (hps : ∀ x, (encs x).size = ps.size) (I Ix : Nat → Thing) {Q0 S0 : Nat → Prop} (hR : R.at_ w S0) (h0 : (I 0).at_ w Q0) (hd : ∀ k, Q0 k → ¬ S0 k)
    (hround : ∀ x, ∃ a1, (∀ (l : Nat) (W : World) (K : Act → World → Prop), K a1 W → assign.wpIn (Fence.wide.inRound l) 9 Try.prog (Exit.then K (fun _ _ _ => False)) { tmps := (ps.zip (encs x)).foldl (fun t (p, v) => t.setIfInBounds p v) a.tmps, defers := [] } W) ∧
      (∀ (l k : Nat) (W : World) (Q : Nat → Prop), (∃ r, W.heap[l]? = some (.loop r)) → w.heap.size ≤ l → xs[k]? = some x → (I k).at_ W Q → ¬ Q l → Since Q0 w Q W → body.wpIn (Fence.wide.inRound l) 9 Try.prog (roundX i0 (I (k + 1)) (Ix k) Q W) a1 W))
    (hdone : ∀ (D : Nat) (W' : World) (Q : Nat → Prop), w.heap.size ≤ D → W'.heap[D]? = some (.deferred (some [])) → ¬ Q D → (I xs.length).at_ W' Q → Since Q0 w Q W' → Qx .normal { a with defers := { target := .collected D, args := #[] } :: a.defers } W')
    (hstop : ∀ (D k : Nat) (W' : World) (Q : Nat → Prop), w.heap.size ≤ D → W'.heap[D]? = some (.deferred (some [])) → ¬ Q D → k < xs.length → (Ix k).at_ W' Q → Since Q0 w Q W' → (Code.exit i0).wpIn Fence.wide 9 Try.prog Qx { a with defers := { target := .collected D, args := #[] } :: a.defers } W') :
    (Code.rangeFunc g ps assign body).wpIn Fence.wide 9 Try.prog Qx a w := by
  refine wpIn_rangeFunc ?_
  intro fn hfn
  obtain ⟨rec, hrec⟩ : ∃ rec : LoopState → Option Code → Loop, rec = fun st pe => { state := st, pending := pe, fn, tmps := a.tmps, params := ps, assign, body, defers := w.heap.size } := ⟨_, rfl⟩
  obtain ⟨W1, hW1⟩ : ∃ W1, (w.alloc (.deferred (some []))).alloc (.loop (rec .ready none)) = W1 := ⟨_, rfl⟩
  have hL1 : W1.heap[w.heap.size + 1]? = some (.loop (rec .ready none)) := by
    rw [← hW1]; have := World.alloc_heap_new (w.alloc (.deferred (some []))) (.loop (rec .ready none)); rwa [World.size_alloc] at this
  have hK1 : W1.heap[w.heap.size]? = some (.deferred (some [])) := by
    rw [← hW1]; exact (Below.heap_alloc _ _ _ (by simp)).trans (World.alloc_heap_new w _)
  have hT1 : Still w W1 := by rw [← hW1]; exact ((Turned.refl _ _).alloc _).alloc _
  refine ⟨w.heap.size + 1, [{ target := .collected w.heap.size, args := #[] }], W1, { target := .fn (.func gf) lb, args := #[.func (.yield (w.heap.size + 1)) #[] #[]] }, W1, gf, #[.func (.yield (w.heap.size + 1)) #[] #[]] ++ lb, W1, ?_, ?_, ?_, ?_, fun _ => by omega, ?_⟩
  · rw [← hW1, hrec]; exact run_enterLoop_outer _ _ _ _ _
  · simp only [resolve, hg]; simp [go_sem]
  · intro f' hf'; trivial
  · simp [invoke, go_sem, eg]
  · have hQl : ¬ Q0 w.heap.size := fun h => by have := (I 0).lt h0 _ h; omega
    have hQl1 : ¬ Q0 (w.heap.size + 1) := fun h => by have := (I 0).lt h0 _ h; omega
    have hst : ((((I 0).sep (objT w.heap.size (.deferred (some [])))).sep (objT (w.heap.size + 1) (.loop (rec .ready none))))).at_ W1 (fun k => (Q0 k ∨ k = w.heap.size) ∨ k = w.heap.size + 1) :=
      obj_sep (obj_sep ((I 0).keep h0 hT1 (fun _ _ h => h)) hK1 hQl) hL1 (fun h => h.elim hQl1 (by omega))
    have hend : ∀ (T : Thing) (pe : Option Code) (st : LoopState) (W2 : World), st ≠ .busy → Goes ((T.sep (objT w.heap.size (.deferred (some [])))).sep (objT (w.heap.size + 1) (.loop (rec st pe)))) (fun k => (Q0 k ∨ k = w.heap.size) ∨ k = w.heap.size + 1) W1 W2 →
        ∃ W', (Instr.endLoop (w.heap.size + 1)).run Try.prog W2 = .ok pe W' ∧ ∃ P1, W'.heap[w.heap.size]? = some (.deferred (some [])) ∧ ¬ P1 w.heap.size ∧ T.at_ W' P1 ∧ Since Q0 w P1 W' := by
      rintro T pe st W2 hne ⟨Q, ⟨Q1, Q2, ⟨P1, P2, hI, ⟨hD, hP2⟩, hpp, hP⟩, ⟨hl, hQ2⟩, hdd, hQ⟩, hT, hG⟩
      have hn : ¬ P1 (w.heap.size + 1) := fun h => hdd _ ((hP _).2 (.inl h)) ((hQ2 _).2 rfl)
      have hnD : ¬ P1 w.heap.size := fun h => hpp _ h ((hP2 _).2 rfl)
      obtain ⟨o4, hend⟩ : ∃ o4, (Instr.endLoop (w.heap.size + 1)).run Try.prog W2 = .ok pe (W2.putObj (w.heap.size + 1) o4) := ⟨_, by have := run_endLoop (P := Try.prog) hl (by rw [hrec]; exact hne); rw [hrec] at this; exact this⟩
      have ht4 := putObj_since (l := w.heap.size + 1) o4 (Array.getElem?_eq_some_iff.1 hl).1
      refine ⟨_, hend, P1, (World.putObj_heap_other (by omega)).trans hD, hnD, T.keep hI ht4 (fun k hk e => hn (by rw [← e]; exact hk)), ?_, fun i hi => ?_⟩
      · have hT' : Turned (fun k => Q0 k ∨ w.heap.size ≤ k) w (W2.putObj (w.heap.size + 1) o4) :=
          (hT1.mono (fun _ _ h => h.elim)).trans ((hT.mono (fun k _ h => by
            rcases h with (h | h) | h
            · exact .inl h
            · exact .inr (by omega)
            · exact .inr (by omega))).trans (ht4.mono (fun k _ e => .inr (by omega))))
        exact hT'.mono (fun k hk h => h.elim id (fun h => by omega))
      · rcases hG i ((hQ i).2 (.inl ((hP i).2 (.inl hi)))) with ((h | h) | h) | h
        · exact .inl h
        · exact .inr (by omega)
        · exact .inr (by omega)
        · exact .inr (Nat.le_trans hT1.size h)
    refine callsIn_wide.2 ((hseq (w.heap.size + 1) (fun k => ((I k).sep (objT w.heap.size (.deferred (some [])))).sep (objT (w.heap.size + 1) (.loop (rec .ready none)))) (fun k => ((Ix k).sep (objT w.heap.size (.deferred (some [])))).sep (objT (w.heap.size + 1) (.loop (rec .done (some (.exit i0)))))) W1 _ S0 (R.keep hR hT1 (fun _ _ h => h)) hst ?_ ?_).mono ?_)
    · rintro k ((hk | rfl) | rfl)
      · exact hd k hk
      · intro h; have := R.lt hR _ h; omega
      · intro h; have := R.lt hR _ h; omega
    · rintro k x W Q hx ⟨Q1, Q2, ⟨P1, P2, hI, ⟨hD, hP2⟩, hpp, hP⟩, ⟨hl, hQ2⟩, hdd, hQ⟩ hS
      have hn : ¬ P1 (w.heap.size + 1) := fun h => hdd _ ((hP _).2 (.inl h)) ((hQ2 _).2 rfl)
      have hnD : ¬ P1 w.heap.size := fun h => hpp _ h ((hP2 _).2 rfl)
      have hS1 : Since Q0 w P1 W := by
        refine ⟨⟨hS.turn.os.trans hT1.os, hS.turn.tape.trans hT1.tape, hS.turn.output.trans hT1.output, Nat.le_trans hT1.size hS.turn.size, fun j hj hq => (hS.turn.block j (Nat.lt_of_lt_of_le hj hT1.size) (fun h => by
          rcases h with (h | h) | h
          · exact hq h
          · omega
          · omega)).trans (hT1.block j hj (fun h => h))⟩, fun i hi => ?_⟩
        rcases hS.grow i ((hQ i).2 (.inl ((hP i).2 (.inl hi)))) with ((h | h) | h) | h
        · exact .inl h
        · exact .inr (by omega)
        · exact .inr (by omega)
        · exact .inr (Nat.le_trans hT1.size h)
      obtain ⟨a1, hass, hbod⟩ := hround x
      obtain ⟨fn', tm', as', bd', hy, hR'⟩ := roundX_yield hrec hps (B := I (k + 1)) (C := Ix k) hI hl hn (hass _ W) (fun W2 hr hI2 hT2 => hbod _ k W2 P1 hr (by omega) hx hI2 hn
        ⟨hS1.turn.past hT2 (fun i e => .inr (by omega)), hS1.grow⟩)
      have hlt := (Array.getElem?_eq_some_iff.1 hD).1
      have join : ∀ (T : Thing) (o : Obj) (W' : World) (Q' : Nat → Prop), T.at_ W' Q' → W'.heap[w.heap.size + 1]? = some o → ¬ Q' (w.heap.size + 1) → Turned (fun k => P1 k ∨ k = w.heap.size + 1) W W' → (∀ i, Q' i → P1 i ∨ W.heap.size ≤ i) →
          Goes ((T.sep (objT w.heap.size (.deferred (some [])))).sep (objT (w.heap.size + 1) o)) Q W W' := fun T o W' Q' hB hl' hnl hT hG => by
        have hD' : W'.heap[w.heap.size]? = some (.deferred (some [])) := (hT.block _ hlt (fun h => h.elim hnD (by omega))).trans hD
        have hnD' : ¬ Q' w.heap.size := fun h => by
          rcases hG _ h with h | h
          · exact hnD h
          · omega
        refine ⟨fun i => (Q' i ∨ i = w.heap.size) ∨ i = w.heap.size + 1, obj_sep (obj_sep hB hD' hnD') hl' (fun h => h.elim hnl (by omega)), hT.mono (fun i _ h => (hQ i).2 (h.imp (fun h => (hP i).2 (.inl h)) (fun e => (hQ2 i).2 e))), fun i hi => ?_⟩
        rcases hi with (hi | hi) | hi
        · exact (hG i hi).imp (fun h => (hQ i).2 (.inl ((hP i).2 (.inl h)))) id
        · exact .inl ((hQ i).2 (.inl ((hP i).2 (.inr ((hP2 i).2 hi)))))
        · exact .inl ((hQ i).2 (.inr ((hQ2 i).2 hi)))
      refine ⟨fn', tm', as', bd', hy, hR'.mono ?_⟩
      rintro e W' (⟨he, Q', hB, hl', hnl, hT, hG⟩ | ⟨he, Q', hB, hl', hnl, hT, hG⟩)
      · exact .inl ⟨he, join _ _ _ _ hB hl' hnl hT hG⟩
      · exact .inr ⟨he, join _ _ _ _ hB hl' hnl hT hG⟩
    · rintro e W2 ⟨⟨v, rfl⟩, h | ⟨k, hk, h⟩⟩
      · obtain ⟨W', he, P1, hD, hnD, hI, hS⟩ := hend _ none .ready W2 (by simp) h
        exact ⟨none, _, he, hdone w.heap.size _ P1 (Nat.le_refl _) hD hnD hI hS⟩
      · obtain ⟨W', he, P1, hD, hnD, hI, hS⟩ := hend _ (some (.exit i0)) .done W2 (by simp) h
        exact ⟨some (.exit i0), _, he, hstop w.heap.size k _ P1 (Nat.le_refl _) hD hnD hk hI hS⟩
end
end Go.Proofs.Ytdlkdagmaeapdaa

/- Numbers in a box of one's own, that grow (cut out of the texts of package part). No condition. -/
namespace Go.Proofs.Ytdlkdagmaeapdaa
open Go.RowKit Go.Shelf
set_option linter.unusedVariables false
set_option linter.unusedSimpArgs false
set_option maxRecDepth 100000

/-- Numbers in a box, made since: the box, and the row. -/
def handT (b0 B : Nat) (l : List Int) : Thing where
  at_ w W := ∃ a c, Blk w B [.slice a l.length c] 44 ∧ w.ownsRow b0 3 1 (.slice a l.length c) l.length (ints l) ∧ (Value.slice a l.length c).ownBlock ≠ some B ∧ ∀ k, W k ↔ k = B ∨ (Value.slice a l.length c).ownBlock = some k
  lt := by
    rintro w W ⟨a, c, h1, h2, h3, hW⟩ k hk
    rcases (hW k).1 hk with rfl | hk
    · exact h1.lt
    · cases a with
      | none => cases hk
      | some z =>
        have h4 := (ow_lt h2 z rfl).2
        have h5 : z.block = k := by simpa [Value.ownBlock] using hk
        omega
  keep := by
    rintro w w' W S ⟨a, c, h1, h2, h3, hW⟩ ht hs
    exact ⟨a, c, h1.turned ht (hs _ ((hW B).2 (.inl rfl))), ow_turned h2 ht (fun b hb => hs b ((hW b).2 (.inr hb))), h3, hW⟩

/-- A number more. -/
theorem hand_app {b0 B : Nat} {l : List Int} {V w6 : World} {Q : Nat → Prop} {a a' : Option Addr} {c n c' : Nat} {o : Obj} {x : Int} (hn : n = l.length) (hB : Blk V B [.slice a n c] 44) (hne : (Value.slice a n c).ownBlock ≠ some B) (hQ : ∀ k, Q k ↔ k = B ∨ (Value.slice a n c).ownBlock = some k)
    (hown : w6.ownsRow b0 3 1 (.slice a' (n + 1) c') (n + 1) (ints l ++ [.int .i64 x])) (hg : (V.alloc o).grownBy w6 (Value.slice a n c).ownBlock) (hat : (Value.slice a' (n + 1) c').ownBlock = (Value.slice a n c).ownBlock ∨ (Value.slice a' (n + 1) c').ownBlock = some (V.alloc o).heap.size) :
    w6.cell? ⟨B, 0, none⟩ = some (.slice a n c) ∧ w6.frozen? ⟨B, 0, none⟩ = false ∧ Hid (Goes (handT b0 B (l ++ [x])) Q V (w6.setCell ⟨B, 0, none⟩ (.slice a' (n + 1) c'))) := by
  subst hn
  have hBl := hB.lt
  have hT : Turned (fun k => (Value.slice a l.length c).ownBlock = some k) V w6 := ((Turned.refl _ _).alloc o).grown hg (fun k hk => .inl hk)
  have hB6 : Blk w6 B [.slice a l.length c] 44 := hB.turned hT hne
  have hne' : (Value.slice a' (l.length + 1) c').ownBlock ≠ some B := fun e => by
    rcases hat with h | h
    · exact hne (h ▸ e)
    · rw [h] at e
      rw [World.size_alloc] at e
      have := Option.some.inj e; omega
  refine ⟨hB6.cell rfl, hB6.free _, Lib.hid ?_⟩
  have hT2 : Turned (· = B) w6 (w6.setCell ⟨B, 0, none⟩ (.slice a' (l.length + 1) c')) := turned_set (Turned.refl _ _) 0 _
  have hlen : (l ++ [x]).length = l.length + 1 := by simp
  have hr : (handT b0 B (l ++ [x])).at_ (w6.setCell ⟨B, 0, none⟩ (.slice a' (l.length + 1) c')) (fun k => k = B ∨ (Value.slice a' (l ++ [x]).length c').ownBlock = some k) := by
    refine ⟨a', c', ?_, ?_, ?_, fun _ => Iff.rfl⟩
    · rw [hlen]; have := hB6.set 0 (.slice a' (l.length + 1) c'); simpa using this
    · rw [hlen, show ints (l ++ [x]) = ints l ++ [.int .i64 x] by simp [ints]]
      exact ow_turned hown hT2 (fun b hb e => hne' (e ▸ hb))
    · rw [hlen]; exact hne'
  refine ⟨_, hr, ?_, fun k hk => ?_⟩
  · exact (hT.mono (fun k _ h => (hQ k).2 (.inr h))).trans (hT2.mono (fun k _ h => (hQ k).2 (.inl h)))
  · rcases hk with hk | hk
    · exact .inl ((hQ k).2 (.inl hk))
    · rw [hlen] at hk
      rcases hat with h | h
      · exact .inl ((hQ k).2 (.inr (h ▸ hk)))
      · rw [h, World.size_alloc] at hk
        have := Option.some.inj hk
        exact .inr (by omega)
end Go.Proofs.Ytdlkdagmaeapdaa

/- Loops over functions whose rounds lay a box of their own ahead of the body, which the body may change, go on, or leave the function. No condition. -/
namespace Go.Proofs.Ytdlkdagmaeapdaa
open Go.RowKit Go.Shelf
set_option linter.unusedVariables false

/-- What a round's body leaves: what lay ahead of it since may have turned too. -/
def GoesB (T : Thing) (Q : Nat → Prop) (n l : Nat) (W W' : World) : Prop := ∃ Q', T.at_ W' Q' ∧ Turned (fun k => Q k ∨ (n ≤ k ∧ k ≠ l)) W W' ∧ ∀ k, Q' k → Q k ∨ (n ≤ k ∧ k ≠ l)
def roundB (A B : Thing) (Q : Nat → Prop) (n l : Nat) (W : World) : Exit → Act → World → Prop
  | .normal, _, W' => GoesB A Q n l W W'
  | .ret, _, W' => GoesB B Q n l W W'
  | _, _, _ => False

section
variable {α : Type} {g : Operand} {ps : Array Tmp} {assign body : Code} {Qx : Exit → Act → World → Prop} {a : Act} {w : World} {gf : Nat} {lb : Array Value} {encs : α → Array Value} {xs : List α} {R : Thing}

/-- What the code ahead of a round's body leaves: it turns nothing, and the body goes on from there. -/
def aheadB (B C : Thing) (l : Nat) (Q : Nat → Prop) (body : Code) (W : World) (a1 : Act) (W1 : World) : Prop :=
  Still W W1 ∧ ∀ W2, (∃ r, W2.heap[l]? = some (.loop r)) → Turned (· = l) W1 W2 → body.wpIn (Fence.wide.inRound l) 9 Try.prog (roundB B C Q W.heap.size l W2) a1 W2

/-- One round, between two states of the record. -/
theorem roundB_yield {rec : LoopState → Option Code → Loop} {fn l : Nat} {df : Nat} {tm : Array Value} (hrec : rec = fun st pe => { state := st, pending := pe, fn, tmps := tm, params := ps, assign, body, defers := df })
    (hps : ∀ x, (encs x).size = ps.size) {A B C : Thing} {x : α} {W : World} {Q : Nat → Prop}
    (hA : A.at_ W Q) (hl : W.heap[l]? = some (.loop (rec .ready none))) (hQ : ¬ Q l)
    (hass : assign.wpIn (Fence.wide.inRound l) 9 Try.prog (Exit.then (aheadB B C l Q body W) (fun _ _ _ => False)) { tmps := (ps.zip (encs x)).foldl (fun t (p, v) => t.setIfInBounds p v) tm, defers := [] } W) :
    YieldAt Fence.wide 9 Try.prog l (encs x) W fun e W' =>
      (e = .returned (.bool true) ∧ ∃ Q', B.at_ W' Q' ∧ W'.heap[l]? = some (.loop (rec .ready none)) ∧ ¬ Q' l ∧ Turned (fun k => Q k ∨ k = l) W W' ∧ ∀ i, Q' i → Q i ∨ W.heap.size ≤ i) ∨
      (e = .returned (.bool false) ∧ ∃ Q', C.at_ W' Q' ∧ W'.heap[l]? = some (.loop (rec .done (some .ret))) ∧ ¬ Q' l ∧ Turned (fun k => Q k ∨ k = l) W W' ∧ ∀ i, Q' i → Q i ∨ W.heap.size ≤ i) := by
  have hlt0 : l < W.heap.size := (Array.getElem?_eq_some_iff.1 hl).1
  have hy := run_yield (P := Try.prog) (args := encs x) hl (by rw [hrec]; exact hps x)
  rw [hrec] at hy
  refine ⟨fn, _, assign, body, hy, roundIn_of_wpIn trivial (wpIn_mono hass (fun e a1 W1 hp => ?_))⟩
  cases e with
  | exit id => exact hp.elim
  | goto t => exact hp.elim
  | panic ch => exact hp.elim
  | outgrown => exact hp.elim
  | ret => exact hp.elim
  | normal =>
  obtain ⟨hs1, hbody⟩ := hp
  have hl1 : W1.heap[l]? = some (.loop (rec .ready none)) := (hs1.block l hlt0 (fun h => h)).trans hl
  have hlt : l < W1.heap.size := (Array.getElem?_eq_some_iff.1 hl1).1
  refine ⟨_, run_beginRound hl1 (by rw [hrec]), ?_⟩
  have hl2 : (W1.putObj l (.loop { rec .ready none with state := .busy })).heap[l]? = some (.loop { rec .ready none with state := .busy }) := World.putObj_heap_same hlt
  have ht2 := putObj_since (l := l) (.loop { rec .ready none with state := .busy }) hlt
  refine wpIn_mono (hbody _ ⟨_, hl2⟩ ht2) ?_
  have fin : ∀ (T : Thing) (jump : Option Code) (W3 : World), GoesB T Q W.heap.size l (W1.putObj l (.loop { rec .ready none with state := .busy })) W3 →
      (Instr.endRound l jump).run Try.prog W3 = .ok (.bool jump.isNone) (W3.putObj l (.loop (rec (if jump.isNone then .ready else .done) jump))) ∧
      ∃ Q', T.at_ (W3.putObj l (.loop (rec (if jump.isNone then .ready else .done) jump))) Q' ∧ (W3.putObj l (.loop (rec (if jump.isNone then .ready else .done) jump))).heap[l]? = some (.loop (rec (if jump.isNone then .ready else .done) jump)) ∧ ¬ Q' l ∧
        Turned (fun k => Q k ∨ k = l) W (W3.putObj l (.loop (rec (if jump.isNone then .ready else .done) jump))) ∧ ∀ i, Q' i → Q i ∨ W.heap.size ≤ i := by
    rintro T jump W3 ⟨Q', hB, hT, hG⟩
    have hl3 : W3.heap[l]? = some (.loop { rec .ready none with state := .busy }) := (hT.block l (by simpa using hlt) (fun h => h.elim hQ (fun h => h.2 rfl))).trans hl2
    have hlt3 : l < W3.heap.size := (Array.getElem?_eq_some_iff.1 hl3).1
    have hr := run_endRound (P := Try.prog) jump hl3
    have hQ' : ¬ Q' l := fun h => by
      rcases hG l h with h1 | h1
      · exact hQ h1
      · exact h1.2 rfl
    have ht4 := putObj_since (l := l) (.loop (rec (if jump.isNone then .ready else .done) jump)) hlt3
    rw [hrec] at hr ht4 ⊢
    refine ⟨hr, Q', T.keep hB ht4 (fun k hk e => hQ' (e ▸ hk)), World.putObj_heap_same hlt3, hQ', ?_, fun i hi => (hG i hi).imp id (fun h => h.1)⟩
    have hall : Turned (fun k => (Q k ∨ k = l) ∨ W.heap.size ≤ k) W (W3.putObj l (.loop { state := if jump.isNone then .ready else .done, pending := jump, fn := fn, tmps := tm, params := ps, assign := assign, body := body, defers := df })) :=
      (hs1.mono (fun k _ h => h.elim)).trans ((ht2.mono (fun k _ e => .inl (.inr e))).trans ((hT.mono (fun k _ h => h.elim (fun h => .inl (.inl h)) (fun h => .inr h.1))).trans (ht4.mono (fun k _ e => .inl (.inr e)))))
    exact hall.mono (fun k hk h => h.elim id (fun h => by omega))
  rintro e a3 W3 hp
  cases e with
  | normal =>
    obtain ⟨hr, h⟩ := fin B none W3 hp
    exact ⟨_, _, hr, .inl ⟨rfl, h⟩⟩
  | ret =>
    obtain ⟨hr, h⟩ := fin C (some .ret) W3 hp
    exact ⟨_, _, hr, .inr ⟨rfl, h⟩⟩
  | exit id => exact hp.elim
  | goto t => exact hp.elim
  | panic ch => exact hp.elim
  | outgrown => exact hp.elim

/-- A loop at a function's own level, whose rounds may leave the function. -/
theorem loopB_outer (hg : a.eval g = .func (.func gf) #[] lb) (eg : ∀ args w, (callFunc gf args).run Try.prog w = .ok (.enter gf args) w)
    (hseq : IterS gf lb encs xs R) (hps : ∀ x, (encs x).size = ps.size) (I Ix : Nat → Thing) {Q0 S0 : Nat → Prop} (hR : R.at_ w S0) (h0 : (I 0).at_ w Q0) (hd : ∀ k, Q0 k → ¬ S0 k)
    (hround : ∀ (x : α) (l k : Nat) (W : World) (Q : Nat → Prop), (∃ r, W.heap[l]? = some (.loop r)) → w.heap.size ≤ l → xs[k]? = some x → (I k).at_ W Q → ¬ Q l → Since Q0 w Q W →
      assign.wpIn (Fence.wide.inRound l) 9 Try.prog (Exit.then (aheadB (I (k + 1)) (Ix k) l Q body W) (fun _ _ _ => False)) { tmps := (ps.zip (encs x)).foldl (fun t (p, v) => t.setIfInBounds p v) a.tmps, defers := [] } W)
    (hdone : ∀ (D : Nat) (W' : World) (Q : Nat → Prop), w.heap.size ≤ D → W'.heap[D]? = some (.deferred (some [])) → ¬ Q D → (I xs.length).at_ W' Q → Since Q0 w Q W' → Qx .normal { a with defers := { target := .collected D, args := #[] } :: a.defers } W')
    (hstop : ∀ (D k : Nat) (W' : World) (Q : Nat → Prop), w.heap.size ≤ D → W'.heap[D]? = some (.deferred (some [])) → ¬ Q D → k < xs.length → (Ix k).at_ W' Q → Since Q0 w Q W' → Code.ret.wpIn Fence.wide 9 Try.prog Qx { a with defers := { target := .collected D, args := #[] } :: a.defers } W') :
    (Code.rangeFunc g ps assign body).wpIn Fence.wide 9 Try.prog Qx a w := by
  refine wpIn_rangeFunc ?_
  intro fn hfn
  obtain ⟨rec, hrec⟩ : ∃ rec : LoopState → Option Code → Loop, rec = fun st pe => { state := st, pending := pe, fn, tmps := a.tmps, params := ps, assign, body, defers := w.heap.size } := ⟨_, rfl⟩
  obtain ⟨W1, hW1⟩ : ∃ W1, (w.alloc (.deferred (some []))).alloc (.loop (rec .ready none)) = W1 := ⟨_, rfl⟩
  have hL1 : W1.heap[w.heap.size + 1]? = some (.loop (rec .ready none)) := by
    rw [← hW1]; have := World.alloc_heap_new (w.alloc (.deferred (some []))) (.loop (rec .ready none)); rwa [World.size_alloc] at this
  have hK1 : W1.heap[w.heap.size]? = some (.deferred (some [])) := by
    rw [← hW1]; exact (Below.heap_alloc _ _ _ (by simp)).trans (World.alloc_heap_new w _)
  have hT1 : Still w W1 := by rw [← hW1]; exact ((Turned.refl _ _).alloc _).alloc _
  refine ⟨w.heap.size + 1, [{ target := .collected w.heap.size, args := #[] }], W1, { target := .fn (.func gf) lb, args := #[.func (.yield (w.heap.size + 1)) #[] #[]] }, W1, gf, #[.func (.yield (w.heap.size + 1)) #[] #[]] ++ lb, W1, ?_, ?_, ?_, ?_, fun _ => by omega, ?_⟩
  · rw [← hW1, hrec]; exact run_enterLoop_outer _ _ _ _ _
  · simp only [resolve, hg]; simp [go_sem]
  · intro f' hf'; trivial
  · simp [invoke, go_sem, eg]
  · have hQl : ¬ Q0 w.heap.size := fun h => by have := (I 0).lt h0 _ h; omega
    have hQl1 : ¬ Q0 (w.heap.size + 1) := fun h => by have := (I 0).lt h0 _ h; omega
    have hst : ((((I 0).sep (objT w.heap.size (.deferred (some [])))).sep (objT (w.heap.size + 1) (.loop (rec .ready none))))).at_ W1 (fun k => (Q0 k ∨ k = w.heap.size) ∨ k = w.heap.size + 1) :=
      obj_sep (obj_sep ((I 0).keep h0 hT1 (fun _ _ h => h)) hK1 hQl) hL1 (fun h => h.elim hQl1 (by omega))
    have hend : ∀ (T : Thing) (pe : Option Code) (st : LoopState) (W2 : World), st ≠ .busy → Goes ((T.sep (objT w.heap.size (.deferred (some [])))).sep (objT (w.heap.size + 1) (.loop (rec st pe)))) (fun k => (Q0 k ∨ k = w.heap.size) ∨ k = w.heap.size + 1) W1 W2 →
        ∃ W', (Instr.endLoop (w.heap.size + 1)).run Try.prog W2 = .ok pe W' ∧ ∃ P1, W'.heap[w.heap.size]? = some (.deferred (some [])) ∧ ¬ P1 w.heap.size ∧ T.at_ W' P1 ∧ Since Q0 w P1 W' := by
      rintro T pe st W2 hne ⟨Q, ⟨Q1, Q2, ⟨P1, P2, hI, ⟨hD, hP2⟩, hpp, hP⟩, ⟨hl, hQ2⟩, hdd, hQ⟩, hT, hG⟩
      have hn : ¬ P1 (w.heap.size + 1) := fun h => hdd _ ((hP _).2 (.inl h)) ((hQ2 _).2 rfl)
      have hnD : ¬ P1 w.heap.size := fun h => hpp _ h ((hP2 _).2 rfl)
      obtain ⟨o4, hend⟩ : ∃ o4, (Instr.endLoop (w.heap.size + 1)).run Try.prog W2 = .ok pe (W2.putObj (w.heap.size + 1) o4) := ⟨_, by have := run_endLoop (P := Try.prog) hl (by rw [hrec]; exact hne); rw [hrec] at this; exact this⟩
      have ht4 := putObj_since (l := w.heap.size + 1) o4 (Array.getElem?_eq_some_iff.1 hl).1
      refine ⟨_, hend, P1, (World.putObj_heap_other (by omega)).trans hD, hnD, T.keep hI ht4 (fun k hk e => hn (by rw [← e]; exact hk)), ?_, fun i hi => ?_⟩
      · have hT' : Turned (fun k => Q0 k ∨ w.heap.size ≤ k) w (W2.putObj (w.heap.size + 1) o4) :=
          (hT1.mono (fun _ _ h => h.elim)).trans ((hT.mono (fun k _ h => by
            rcases h with (h | h) | h
            · exact .inl h
            · exact .inr (by omega)
            · exact .inr (by omega))).trans (ht4.mono (fun k _ e => .inr (by omega))))
        exact hT'.mono (fun k hk h => h.elim id (fun h => by omega))
      · rcases hG i ((hQ i).2 (.inl ((hP i).2 (.inl hi)))) with ((h | h) | h) | h
        · exact .inl h
        · exact .inr (by omega)
        · exact .inr (by omega)
        · exact .inr (Nat.le_trans hT1.size h)
    refine callsIn_wide.2 ((hseq (w.heap.size + 1) (fun k => ((I k).sep (objT w.heap.size (.deferred (some [])))).sep (objT (w.heap.size + 1) (.loop (rec .ready none)))) (fun k => ((Ix k).sep (objT w.heap.size (.deferred (some [])))).sep (objT (w.heap.size + 1) (.loop (rec .done (some .ret))))) W1 _ S0 (R.keep hR hT1 (fun _ _ h => h)) hst ?_ ?_).mono ?_)
    · rintro k ((hk | rfl) | rfl)
      · exact hd k hk
      · intro h; have := R.lt hR _ h; omega
      · intro h; have := R.lt hR _ h; omega
    · rintro k x W Q hx ⟨Q1, Q2, ⟨P1, P2, hI, ⟨hD, hP2⟩, hpp, hP⟩, ⟨hl, hQ2⟩, hdd, hQ⟩ hS
      have hn : ¬ P1 (w.heap.size + 1) := fun h => hdd _ ((hP _).2 (.inl h)) ((hQ2 _).2 rfl)
      have hnD : ¬ P1 w.heap.size := fun h => hpp _ h ((hP2 _).2 rfl)
      have hS1 : Since Q0 w P1 W := by
        refine ⟨⟨hS.turn.os.trans hT1.os, hS.turn.tape.trans hT1.tape, hS.turn.output.trans hT1.output, Nat.le_trans hT1.size hS.turn.size, fun j hj hq => (hS.turn.block j (Nat.lt_of_lt_of_le hj hT1.size) (fun h => by
          rcases h with (h | h) | h
          · exact hq h
          · omega
          · omega)).trans (hT1.block j hj (fun h => h))⟩, fun i hi => ?_⟩
        rcases hS.grow i ((hQ i).2 (.inl ((hP i).2 (.inl hi)))) with ((h | h) | h) | h
        · exact .inl h
        · exact .inr (by omega)
        · exact .inr (by omega)
        · exact .inr (Nat.le_trans hT1.size h)
      obtain ⟨fn', tm', as', bd', hy, hR'⟩ := roundB_yield hrec hps (B := I (k + 1)) (C := Ix k) hI hl hn (hround x (w.heap.size + 1) k W P1 ⟨_, hl⟩ (by omega) hx hI hn hS1)
      have hlt := (Array.getElem?_eq_some_iff.1 hD).1
      have join : ∀ (T : Thing) (o : Obj) (W' : World) (Q' : Nat → Prop), T.at_ W' Q' → W'.heap[w.heap.size + 1]? = some o → ¬ Q' (w.heap.size + 1) → Turned (fun k => P1 k ∨ k = w.heap.size + 1) W W' → (∀ i, Q' i → P1 i ∨ W.heap.size ≤ i) →
          Goes ((T.sep (objT w.heap.size (.deferred (some [])))).sep (objT (w.heap.size + 1) o)) Q W W' := fun T o W' Q' hB hl' hnl hT hG => by
        have hD' : W'.heap[w.heap.size]? = some (.deferred (some [])) := (hT.block _ hlt (fun h => h.elim hnD (by omega))).trans hD
        have hnD' : ¬ Q' w.heap.size := fun h => by
          rcases hG _ h with h | h
          · exact hnD h
          · omega
        refine ⟨fun i => (Q' i ∨ i = w.heap.size) ∨ i = w.heap.size + 1, obj_sep (obj_sep hB hD' hnD') hl' (fun h => h.elim hnl (by omega)), hT.mono (fun i _ h => (hQ i).2 (h.imp (fun h => (hP i).2 (.inl h)) (fun e => (hQ2 i).2 e))), fun i hi => ?_⟩
        rcases hi with (hi | hi) | hi
        · exact (hG i hi).imp (fun h => (hQ i).2 (.inl ((hP i).2 (.inl h)))) id
        · exact .inl ((hQ i).2 (.inl ((hP i).2 (.inr ((hP2 i).2 hi)))))
        · exact .inl ((hQ i).2 (.inr ((hQ2 i).2 hi)))
      refine ⟨fn', tm', as', bd', hy, hR'.mono ?_⟩
      rintro e W' (⟨he, Q', hB, hl', hnl, hT, hG⟩ | ⟨he, Q', hB, hl', hnl, hT, hG⟩)
      · exact .inl ⟨he, join _ _ _ _ hB hl' hnl hT hG⟩
      · exact .inr ⟨he, join _ _ _ _ hB hl' hnl hT hG⟩
    · rintro e W2 ⟨⟨v, rfl⟩, h | ⟨k, hk, h⟩⟩
      · obtain ⟨W', he, P1, hD, hnD, hI, hS⟩ := hend _ none .ready W2 (by simp) h
        exact ⟨none, _, he, hdone w.heap.size _ P1 (Nat.le_refl _) hD hnD hI hS⟩
      · obtain ⟨W', he, P1, hD, hnD, hI, hS⟩ := hend _ (some .ret) .done W2 (by simp) h
        exact ⟨some .ret, _, he, hstop w.heap.size k _ P1 (Nat.le_refl _) hD hnD hk hI hS⟩
end
end Go.Proofs.Ytdlkdagmaeapdaa
