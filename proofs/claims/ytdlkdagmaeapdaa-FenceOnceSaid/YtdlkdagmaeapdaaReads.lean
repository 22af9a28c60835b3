/- A region that draws its order, whose first operations only read, and of which one that comes behind all of them calls (the round of a loop over an iterator too): it may be walked in the order of the text, in a fence of whatever kind. No condition but that none of its operations is a defer statement. -/
import Derived.Test.YtdlkdagmaeapdaaRegRound
import Derived.OrdersIn
namespace Go.Proofs.Ytdlkdagmaeapdaa
open Go.RowKit
set_option linter.unusedVariables false

section
variable {F : Fence} {n : Nat} {P : Program} {md : Region.Mode} {ops : Array Oper} {Q : Exit → Act → World → Prop} {k : Nat} {w : World}

/-- Behind whatever comes up: an operation of the first so many leaves the world, and the rest goes on so; behind another one, in whatever order. -/
def readS (F : Fence) (n : Nat) (P : Program) (md : Region.Mode) (ops : Array Oper) (Q : Exit → Act → World → Prop) (k : Nat) (w : World) : Nat → Array Bool → Act → Prop
  | 0, L, a => Region.ready md ops L = [] ∧ Q .normal a w
  | fuel + 1, L, a => (Region.ready md ops L = [] → Q .normal a w) ∧ ∀ i ∈ Region.ready md ops L,
      wpOpIn F n P ops Q i (fun a' w' => if i < k then w' = w ∧ readS F n P md ops Q k w fuel (L.setIfInBounds i true) a' else wpAnyIn F n P md ops Q fuel (L.setIfInBounds i true) a' w') a w

theorem readS_any : ∀ (fuel : Nat) (L : Array Bool) (a : Act), readS F n P md ops Q k w fuel L a → wpAnyIn F n P md ops Q fuel L a w
  | 0, _, _, h => h
  | fuel + 1, L, a, h => ⟨h.1, fun i hi => wpOpIn_mono (fun a' w' h' => by
      split at h'
      · rw [h'.1]; exact readS_any fuel _ _ h'.2
      · exact h') (h.2 i hi)⟩

/-- What is listed has all behind which it must come listed. -/
def closedL (md : Region.Mode) (ops : Array Oper) (L : Array Bool) : Prop := ∀ (j : Nat) (o : Oper), ops[j]? = some o → L.getD j true = true → ∀ e ∈ o.after, Region.binds md e = true → L.getD e.on false = true
theorem closedL_start : closedL md ops (Array.replicate ops.size false) := fun j o ho h => by
  have := (Array.getElem?_eq_some_iff.1 ho).1
  simp [this] at h
theorem closedL_step {L : Array Bool} {i : Nat} (h : closedL md ops L) (hi : i ∈ Region.ready md ops L) : closedL md ops (L.setIfInBounds i true) := fun j o ho hj e he hb => by
  by_cases hij : i = j
  · subst hij
    obtain ⟨_, o', ho', hall⟩ := mem_ready.1 hi
    rw [ho] at ho'; cases ho'
    exact getD_set_true (hall e he hb)
  · rw [getD_set_ne true hij] at hj
    exact getD_set_true (h j o ho hj e he hb)
theorem unlisted {L : Array Bool} {i : Nat} (h0 : L.getD i true = false) (h1 : L.getD i false = true) : False := by
  rcases Nat.lt_or_ge i L.size with h' | h'
  · simp [h'] at h0 h1; rw [h0] at h1; cases h1
  · simp [Array.getElem?_eq_none h'] at h1

/-- Operation s must come behind operation i. -/
def behind (md : Region.Mode) (ops : Array Oper) (s i : Nat) : Bool := match ops[s]? with
  | some o => o.after.any fun e => Region.binds md e && e.on == i
  | none => false
/-- From each of the first so many a way leads to number k; and each behind it comes behind one of those from k on. -/
def leads (md : Region.Mode) (ops : Array Oper) (k : Nat) : Bool :=
  ((List.range k).all fun i => (List.range (k + 1)).any fun s => decide (i < s) && behind md ops s i) &&
  ((List.range ops.size).all fun s => decide (s ≤ k) || (List.range s).any fun e => decide (k ≤ e) && behind md ops s e)
theorem behind_spec {s i : Nat} (h : behind md ops s i = true) : ∃ o, ops[s]? = some o ∧ ∃ e ∈ o.after, Region.binds md e = true ∧ e.on = i := by
  unfold behind at h
  split at h
  · rename_i o ho
    obtain ⟨e, he, hb⟩ := Array.any_eq_true'.1 h
    simp only [Bool.and_eq_true, beq_iff_eq] at hb
    exact ⟨o, ho, e, he, hb⟩
  · cases h

theorem late_no {L : Array Bool} (hc : closedL md ops L) (hl : leads md ops k = true) {i : Nat} (hik : i < k) (hi : L.getD i true = false) : ∀ j ∈ Region.ready md ops L, j < k := by
  unfold leads at hl
  rw [Bool.and_eq_true, List.all_eq_true, List.all_eq_true] at hl
  obtain ⟨hl1, hl2⟩ := hl
  -- who must come behind what is not listed is not listed, and may not come up
  have hno : ∀ s t, behind md ops s t = true → L.getD t true = false → L.getD s true = false ∧ s ∉ Region.ready md ops L := fun s t hb ht => by
    obtain ⟨o, ho, e, he, hbi, rfl⟩ := behind_spec hb
    refine ⟨?_, fun hr => ?_⟩
    · cases hs : L.getD s true with
      | false => rfl
      | true => exact (unlisted ht (hc s o ho hs e he hbi)).elim
    · obtain ⟨_, o', ho', hall⟩ := mem_ready.1 hr
      rw [ho] at ho'; cases ho'
      exact unlisted ht (hall e he hbi)
  have hA : ∀ d i, k - i = d → i < k → L.getD i true = false → L.getD k true = false ∧ k ∉ Region.ready md ops L := by
    intro d
    induction d using Nat.strongRecOn with
    | ind d ih =>
      intro i hd hik hi
      have h1 := hl1 i (List.mem_range.2 hik)
      rw [List.any_eq_true] at h1
      obtain ⟨s, hs, hb⟩ := h1
      rw [Bool.and_eq_true, decide_eq_true_eq] at hb
      have hsk := List.mem_range.1 hs
      have h2 := hno s i hb.2 hi
      by_cases e : s = k
      · subst e; exact h2
      · exact ih (k - s) (by omega) s rfl (by omega) h2.1
  have hk := hA _ i rfl hik hi
  have hB : ∀ s, k ≤ s → s < ops.size → L.getD s true = false ∧ s ∉ Region.ready md ops L := by
    intro s
    induction s using Nat.strongRecOn with
    | ind s ih =>
      intro hks hsz
      by_cases e : s = k
      · subst e; exact hk
      · have h1 := hl2 s (List.mem_range.2 hsz)
        rw [Bool.or_eq_true, decide_eq_true_eq, List.any_eq_true] at h1
        rcases h1 with h1 | ⟨t, ht, hb⟩
        · omega
        · rw [Bool.and_eq_true, decide_eq_true_eq] at hb
          have htl := List.mem_range.1 ht
          exact hno s t hb.2 (ih t htl hb.1 (by omega)).1
  intro j hj
  rcases Nat.lt_or_ge j k with h | h
  · exact h
  · obtain ⟨_, o, ho, _⟩ := mem_ready.1 hj
    exact ((hB j h (Array.getElem?_eq_some_iff.1 ho).1).2 hj).elim

/-- In this state, in this world, the operation yields this value, and does nothing else. -/
def YieldsAt (P : Program) (ops : Array Oper) (w : World) (o : Oper) (v : Value) (a : Act) : Prop :=
  Region.wanted o (yielded ops a.tmps) = true ∧ (execOp a.eval o).run P w = .ok (.value v) w ∧ ∀ w, o.about P w a.eval = none
theorem YieldsAt.of_same {o : Oper} {v : Value} {a a' : Act} (hy : YieldsAt P ops w o v a) (he : execOp a'.eval o = execOp a.eval o)
    (hw : Region.wanted o (yielded ops a'.tmps) = Region.wanted o (yielded ops a.tmps)) (hb : ∀ w, o.about P w a'.eval = o.about P w a.eval) : YieldsAt P ops w o v a' :=
  ⟨hw.trans hy.1, by rw [he]; exact hy.2.1, fun w => by rw [hb w]; exact hy.2.2 w⟩

theorem wpOpIn_yields {i : Nat} {o : Oper} {v : Value} {a : Act} (hnd : noDefer ops = true) (hi : ops[i]? = some o) (hy : YieldsAt P ops w o v a) {K : Act → World → Prop} (h : K (a.put o.dst v) w) : wpOpIn F n P ops Q i K a w := by
  have hd := noDefer_spec hnd i o hi
  unfold wpOpIn
  simp only [hi, hy.1, if_true]
  unfold Oper.wpIn
  refine ⟨fun f hf => (by rw [hy.2.2 w] at hf; cases hf), ?_⟩
  rw [Oper.semAt_eq _ _ _ hd, hy.2.1]
  exact h

theorem wpOpIn_read {j : Nat} {oi oj : Oper} {v : Value} {w1 : World} (hnd : noDefer ops = true) (hj : ops[j]? = some oj) (hap : oi.apart ops oj = true)
    (hsi : ∀ cs b, oi.op ≠ .select cs b) (hsj : ∀ cs b, oj.op ≠ .select cs b)
    (hQ : ∀ c a w, Q (.panic c) (a.put oi.dst v) w → Q (.panic c) a w) {K : Act → World → Prop} {a : Act}
    (hy : YieldsAt P ops w1 oi v a) (h : wpOpIn F n P ops Q j K (a.put oi.dst v) w) :
    wpOpIn F n P ops Q j (fun a' w' => YieldsAt P ops w1 oi v a' ∧ K (a'.put oi.dst v) w') a w := by
  obtain ⟨h1, h2, h3⟩ := Oper.apart_spec hap
  have hd := noDefer_spec hnd j oj hj
  have keep' : ∀ (a : Act), YieldsAt P ops w1 oi v a → ∀ u, YieldsAt P ops w1 oi v (a.put oj.dst u) := fun a hy u => hy.of_same (execOp_put oi hsi a oj.dst u h3) (wanted_put oi a oj.dst u h3) (fun w => about_put oi w a oj.dst u h3)
  have keep := keep' a hy
  unfold wpOpIn at *
  simp only [hj] at *
  rw [wanted_put oj a oi.dst v h1, about_put oj w a oi.dst v h1] at h
  split
  · rename_i hw
    simp only [hw, if_true] at h
    unfold Oper.wpIn at *
    rw [about_put oj w a oi.dst v h1, Oper.semAt_eq _ _ _ hd, execOp_put oj hsj a oi.dst v h1] at h
    rw [Oper.semAt_eq _ _ _ hd]
    refine ⟨h.1, ?_⟩
    have h := h.2
    have put : ∀ u w', K ((a.put oi.dst v).put oj.dst u) w' → YieldsAt P ops w1 oi v (a.put oj.dst u) ∧ K ((a.put oj.dst u).put oi.dst v) w' := fun u w' hk => ⟨keep u, by rw [← Act.put_comm a v u h2]; exact hk⟩
    cases hr : (execOp a.eval oj).run P w with
    | ok x w' =>
      rw [hr] at h
      cases x <;> simp only [Oper.uponIn] at h ⊢
      case value u => exact put _ _ h
      case skip => exact put _ _ h
      case defer d =>
        refine ⟨keep' ({ tmps := a.tmps, defers := d :: a.defers } : Act) (YieldsAt.of_same hy rfl rfl (fun _ => rfl)) undef, ?_⟩
        rw [Act.put_defers, Act.put_comm _ v undef h2] at h
        exact h
      case enter f args =>
        refine ⟨h.1, CallsIn.mono h.2 fun e w'' he => ?_⟩
        cases e with
        | returned u => exact put _ _ he
        | panicked c => exact hQ _ _ _ he
        | outgrown => exact he
      case row row args => exact ⟨h.1, RowsIn.mono h.2 fun u w'' he => put _ _ he⟩
      case round l f tmps assign body =>
        refine ⟨h.1, RoundIn.mono h.2 fun e w'' he => ?_⟩
        cases e with
        | returned u => exact put _ _ he
        | panicked c => exact hQ _ _ _ he
        | outgrown => exact he
    | halt x w' =>
      rw [hr] at h
      cases x <;> simp only [Oper.uponIn] at h ⊢
      case panic u => exact hQ _ _ _ h
  · rename_i hw
    simp only [hw] at h
    exact ⟨h.1, keep _, by rw [← Act.put_comm a v undef h2]; exact h.2⟩

theorem readS_first {i : Nat} {oi : Oper} {v : Value} (hnd : noDefer ops = true) (hl : leads md ops k = true) (hik : i < k) (hi : ops[i]? = some oi) (hsel : ∀ (j : Nat) (o : Oper) cs b, ops[j]? = some o → o.op ≠ .select cs b)
    (hQ : ∀ c a w, Q (.panic c) (a.put oi.dst v) w → Q (.panic c) a w) :
    ∀ (fuel : Nat) (L : Array Bool) (a : Act), closedL md ops L →
      (∀ j oj, ops[j]? = some oj → j ≠ i → L.getD j true = false → (∀ e ∈ oj.after, Region.binds md e = true → e.on ≠ i) → oi.apart ops oj = true) →
      i ∈ Region.ready md ops L → YieldsAt P ops w oi v a →
      readS F n P md ops Q k w fuel (L.setIfInBounds i true) (a.put oi.dst v) → readS F n P md ops Q k w (fuel + 1) L a := by
  intro fuel
  induction fuel with
  | zero =>
    intro L a hc _ hr hy H
    refine ⟨fun h => (by rw [h] at hr; cases hr), fun j hj => ?_⟩
    by_cases hji : j = i
    · subst hji; exact wpOpIn_yields hnd hi hy (by rw [if_pos hik]; exact ⟨rfl, H⟩)
    · have := ready_mono hj hji
      rw [H.1] at this
      cases this
  | succ fuel ih =>
    intro L a hc hfree hr hy H
    refine ⟨fun h => (by rw [h] at hr; cases hr), fun j hj => ?_⟩
    by_cases hji : j = i
    · subst hji; exact wpOpIn_yields hnd hi hy (by rw [if_pos hik]; exact ⟨rfl, H⟩)
    · have h1 := H.2 j (ready_mono hj hji)
      have h0 := (mem_ready.1 hr).1
      have hjk := late_no hc hl hik h0 j hj
      obtain ⟨hjun, oj, hoj, hall⟩ := mem_ready.1 hj
      have hnot : ∀ e ∈ oj.after, Region.binds md e = true → e.on ≠ i := fun e he hb heq => unlisted h0 (heq ▸ hall e he hb)
      have h2 := wpOpIn_read hnd hoj (hfree j oj hoj hji hjun hnot) (fun cs b => hsel i oi cs b hi) (fun cs b => hsel j oj cs b hoj) hQ hy h1
      have hfree' : ∀ m om, ops[m]? = some om → m ≠ i → (L.setIfInBounds j true).getD m true = false →
          (∀ e ∈ om.after, Region.binds md e = true → e.on ≠ i) → oi.apart ops om = true := fun m om hm hmi hun hno => by
        refine hfree m om hm hmi ?_ hno
        by_cases hjm : j = m
        · subst hjm; exact hjun
        · rw [getD_set_ne true hjm] at hun; exact hun
      refine wpOpIn_mono (fun a' w' h3 => ?_) h2
      obtain ⟨h3, h4⟩ := h3
      rw [if_pos hjk] at h4 ⊢
      obtain ⟨rfl, h4⟩ := h4
      refine ⟨rfl, ih (L.setIfInBounds j true) a' (closedL_step hc hj) hfree' (ready_mono hr (Ne.symm hji)) h3 ?_⟩
      rw [Array.setIfInBounds_comm _ _ hji]
      exact h4
end

/-- The same with the list of what has come up known to be whole. -/
def readC (F : Fence) (n : Nat) (P : Program) (md : Region.Mode) (ops : Array Oper) (Q : Exit → Act → World → Prop) (k : Nat) (w : World) (fuel : Nat) (L : Array Bool) (a : Act) : Prop := closedL md ops L → readS F n P md ops Q k w fuel L a

section
variable {F : Fence} {n : Nat} {P : Program} {md : Region.Mode} {ops : Array Oper} {Q : Exit → Act → World → Prop} {k : Nat} {w : World}

theorem region_reads {id : Nat} {a : Act} (k : Nat) (hm : P.follows .mixedOrders = true)
    (h : readC F n P .any ops Q k w.drew ops.size (Array.replicate ops.size false) a) : (Code.region id ops true).wpIn F n P Q a w :=
  wpIn_region_any hm (readS_any _ _ _ (h closedL_start))

/-- One that reads comes up. -/
theorem reads_take {i : Nat} {oi : Oper} {v : Value} {fuel : Nat} {L : Array Bool} {a : Act} (hi : ops[i]? = some oi) (hnd : noDefer ops = true) (hl : leads md ops k = true) (hs : Region.noSelect ops = true) (hik : decide (i < k) = true)
    (hf : Region.free md ops L i = true) (hr : (Region.ready md ops L).contains i = true) (hQ : ∀ c a w, Q (.panic c) (a.put oi.dst v) w → Q (.panic c) a w)
    (hw : Region.wanted oi (yielded ops a.tmps) = true) (hab : ∀ w, oi.about P w a.eval = none) (hy : (execOp a.eval oi).run P w = .ok (.value v) w)
    (h : readC F n P md ops Q k w fuel (L.setIfInBounds i true) (a.put oi.dst v)) : readC F n P md ops Q k w (fuel + 1) L a := fun hc =>
  have hr' : i ∈ Region.ready md ops L := by simpa using hr
  readS_first hnd hl (by simpa using hik) hi (Region.noSelect_spec hs) hQ fuel L a hc (Region.free_spec hi hf) hr' ⟨hw, hy, hab⟩ (h (closedL_step hc hr'))

/-- The one behind them comes up. -/
theorem reads_call {i : Nat} {o : Oper} {fuel : Nat} {L : Array Bool} {a : Act} (hr : Region.ready md ops L = [i]) (hik : decide (i < k) = false) (ho : ops[i]? = some o)
    (h : ∀ K' : Act → World → Prop, (∀ a' w', wpAnyIn F n P md ops Q fuel (L.setIfInBounds i true) a' w' → K' a' w') → if Region.wanted o (yielded ops a.tmps) = true then Oper.wpIn F n P o a w K' Q else (∀ f, o.about P w a.eval = some f → F.fn f) ∧ K' (a.put o.dst undef) w) :
    readC F n P md ops Q k w (fuel + 1) L a := fun _ =>
  ⟨fun h0 => (by rw [hr] at h0; cases h0), fun j hj => by
    rw [hr] at hj
    obtain rfl : j = i := by simpa using hj
    refine wpOpIn_step ho fun K' hK => h K' fun a' w' h' => hK a' w' ?_
    rw [if_neg (by simpa using hik)]
    exact h'⟩
end
end Go.Proofs.Ytdlkdagmaeapdaa
