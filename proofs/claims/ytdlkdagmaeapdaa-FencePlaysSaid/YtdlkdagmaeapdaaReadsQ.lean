/- A region that draws its order, of whose first operations each reads, or calls and leaves the world as it was, or is not wanted, and of which one that comes behind all of them calls: it may be walked in the order of the text, in a fence of whatever kind. No condition but that none of its operations is a defer statement. -/
import Derived.Test.YtdlkdagmaeapdaaReads
namespace Go.Proofs.Ytdlkdagmaeapdaa
open Go.RowKit
set_option linter.unusedVariables false

section
variable {F : Fence} {n : Nat} {P : Program} {md : Region.Mode} {ops : Array Oper} {Q : Exit → Act → World → Prop} {k : Nat} {w : World}

/-- In this state, in this world, the operation yields this value, by a call or without one, or is not wanted; the world stays. -/
structure QuietAt (F : Fence) (n : Nat) (P : Program) (ops : Array Oper) (w : World) (o : Oper) (v : Value) (a : Act) : Prop where
  about : ∀ w f, o.about P w a.eval = some f → F.fn f
  how : (Region.wanted o (yielded ops a.tmps) = true ∧ ((execOp a.eval o).run P w = .ok (.value v) w ∨
      ∃ f args, (execOp a.eval o).run P w = .ok (.enter f args) w ∧ (F.depth.isSome = true → 1 ≤ n) ∧ CallsIn F (n - 1) P f args w fun e w' => e = .returned v ∧ w' = w)) ∨
    (Region.wanted o (yielded ops a.tmps) = false ∧ v = undef)
theorem QuietAt.of_same {o : Oper} {v : Value} {a a' : Act} (hy : QuietAt F n P ops w o v a) (he : execOp a'.eval o = execOp a.eval o)
    (hw : Region.wanted o (yielded ops a'.tmps) = Region.wanted o (yielded ops a.tmps)) (hb : ∀ w, o.about P w a'.eval = o.about P w a.eval) : QuietAt F n P ops w o v a' :=
  ⟨fun w f h => hy.about w f (by rw [← hb w]; exact h), by rw [he, hw]; exact hy.how⟩

theorem wpOpIn_quiet {i : Nat} {o : Oper} {v : Value} {a : Act} (hnd : noDefer ops = true) (hi : ops[i]? = some o) (hy : QuietAt F n P ops w o v a) {K : Act → World → Prop} (h : K (a.put o.dst v) w) : wpOpIn F n P ops Q i K a w := by
  have hd := noDefer_spec hnd i o hi
  unfold wpOpIn
  simp only [hi]
  rcases hy.how with ⟨hw, hv | ⟨f, args, hc, hn, hcall⟩⟩ | ⟨hw, rfl⟩
  · rw [if_pos hw]
    unfold Oper.wpIn
    refine ⟨hy.about w, ?_⟩
    rw [Oper.semAt_eq _ _ _ hd, hv]
    exact h
  · rw [if_pos hw]
    unfold Oper.wpIn
    refine ⟨hy.about w, ?_⟩
    rw [Oper.semAt_eq _ _ _ hd, hc]
    refine ⟨hn, CallsIn.mono hcall fun e w' he => ?_⟩
    obtain ⟨rfl, rfl⟩ := he
    exact h
  · rw [if_neg (by rw [hw]; simp)]
    exact ⟨hy.about w, h⟩

theorem wpOpIn_readQ {j : Nat} {oi oj : Oper} {v : Value} {w1 : World} (hnd : noDefer ops = true) (hj : ops[j]? = some oj) (hap : oi.apart ops oj = true)
    (hsi : ∀ cs b, oi.op ≠ .select cs b) (hsj : ∀ cs b, oj.op ≠ .select cs b)
    (hQ : ∀ c a w, Q (.panic c) (a.put oi.dst v) w → Q (.panic c) a w) {K : Act → World → Prop} {a : Act}
    (hy : QuietAt F n P ops w1 oi v a) (h : wpOpIn F n P ops Q j K (a.put oi.dst v) w) :
    wpOpIn F n P ops Q j (fun a' w' => QuietAt F n P ops w1 oi v a' ∧ K (a'.put oi.dst v) w') a w := by
  obtain ⟨h1, h2, h3⟩ := Oper.apart_spec hap
  have hd := noDefer_spec hnd j oj hj
  have keep' : ∀ (a : Act), QuietAt F n P ops w1 oi v a → ∀ u, QuietAt F n P ops w1 oi v (a.put oj.dst u) := fun a hy u => hy.of_same (execOp_put oi hsi a oj.dst u h3) (wanted_put oi a oj.dst u h3) (fun w => about_put oi w a oj.dst u h3)
  have keep := keep' a hy
  unfold wpOpIn at *
  simp only [hj] at *
  rw [wanted_put oj a oi.dst v h1, about_put oj w a oi.dst v h1] at h
  split
  · rename_i hw
    simp only [hw, if_true] at h
    unfold Oper.wpIn at *
    rw [about_put oj w a oi.dst v h1, Oper.semAt_eq _ _ _ hd, execOp_put oj hsj a oi.dst v h1] at h
    rw [Oper.semAt_eq _ _ _ hd]
    refine ⟨h.1, ?_⟩
    have h := h.2
    have put : ∀ u w', K ((a.put oi.dst v).put oj.dst u) w' → QuietAt F n P ops w1 oi v (a.put oj.dst u) ∧ K ((a.put oj.dst u).put oi.dst v) w' := fun u w' hk => ⟨keep u, by rw [← Act.put_comm a v u h2]; exact hk⟩
    cases hr : (execOp a.eval oj).run P w with
    | ok x w' =>
      rw [hr] at h
      cases x <;> simp only [Oper.uponIn] at h ⊢
      case value u => exact put _ _ h
      case skip => exact put _ _ h
      case defer d =>
        refine ⟨keep' ({ tmps := a.tmps, defers := d :: a.defers } : Act) (QuietAt.of_same hy rfl rfl (fun _ => rfl)) undef, ?_⟩
        rw [Act.put_defers, Act.put_comm _ v undef h2] at h
        exact h
      case enter f args =>
        refine ⟨h.1, CallsIn.mono h.2 fun e w'' he => ?_⟩
        cases e with
        | returned u => exact put _ _ he
        | panicked c => exact hQ _ _ _ he
        | outgrown => exact he
      case row row args => exact ⟨h.1, RowsIn.mono h.2 fun u w'' he => put _ _ he⟩
      case round l f tmps assign body =>
        refine ⟨h.1, RoundIn.mono h.2 fun e w'' he => ?_⟩
        cases e with
        | returned u => exact put _ _ he
        | panicked c => exact hQ _ _ _ he
        | outgrown => exact he
    | halt x w' =>
      rw [hr] at h
      cases x <;> simp only [Oper.uponIn] at h ⊢
      case panic u => exact hQ _ _ _ h
  · rename_i hw
    simp only [hw] at h
    exact ⟨h.1, keep _, by rw [← Act.put_comm a v undef h2]; exact h.2⟩

theorem readS_firstQ {i : Nat} {oi : Oper} {v : Value} (hnd : noDefer ops = true) (hl : leads md ops k = true) (hik : i < k) (hi : ops[i]? = some oi) (hsel : ∀ (j : Nat) (o : Oper) cs b, ops[j]? = some o → o.op ≠ .select cs b)
    (hQ : ∀ c a w, Q (.panic c) (a.put oi.dst v) w → Q (.panic c) a w) :
    ∀ (fuel : Nat) (L : Array Bool) (a : Act), closedL md ops L →
      (∀ j oj, ops[j]? = some oj → j ≠ i → L.getD j true = false → (∀ e ∈ oj.after, Region.binds md e = true → e.on ≠ i) → oi.apart ops oj = true) →
      i ∈ Region.ready md ops L → QuietAt F n P ops w oi v a →
      readS F n P md ops Q k w fuel (L.setIfInBounds i true) (a.put oi.dst v) → readS F n P md ops Q k w (fuel + 1) L a := by
  intro fuel
  induction fuel with
  | zero =>
    intro L a hc _ hr hy H
    refine ⟨fun h => (by rw [h] at hr; cases hr), fun j hj => ?_⟩
    by_cases hji : j = i
    · subst hji; exact wpOpIn_quiet hnd hi hy (by rw [if_pos hik]; exact ⟨rfl, H⟩)
    · have := ready_mono hj hji
      rw [H.1] at this
      cases this
  | succ fuel ih =>
    intro L a hc hfree hr hy H
    refine ⟨fun h => (by rw [h] at hr; cases hr), fun j hj => ?_⟩
    by_cases hji : j = i
    · subst hji; exact wpOpIn_quiet hnd hi hy (by rw [if_pos hik]; exact ⟨rfl, H⟩)
    · have h1 := H.2 j (ready_mono hj hji)
      have h0 := (mem_ready.1 hr).1
      have hjk := late_no hc hl hik h0 j hj
      obtain ⟨hjun, oj, hoj, hall⟩ := mem_ready.1 hj
      have hnot : ∀ e ∈ oj.after, Region.binds md e = true → e.on ≠ i := fun e he hb heq => unlisted h0 (heq ▸ hall e he hb)
      have h2 := wpOpIn_readQ hnd hoj (hfree j oj hoj hji hjun hnot) (fun cs b => hsel i oi cs b hi) (fun cs b => hsel j oj cs b hoj) hQ hy h1
      have hfree' : ∀ m om, ops[m]? = some om → m ≠ i → (L.setIfInBounds j true).getD m true = false →
          (∀ e ∈ om.after, Region.binds md e = true → e.on ≠ i) → oi.apart ops om = true := fun m om hm hmi hun hno => by
        refine hfree m om hm hmi ?_ hno
        by_cases hjm : j = m
        · subst hjm; exact hjun
        · rw [getD_set_ne true hjm] at hun; exact hun
      refine wpOpIn_mono (fun a' w' h3 => ?_) h2
      obtain ⟨h3, h4⟩ := h3
      rw [if_pos hjk] at h4 ⊢
      obtain ⟨rfl, h4⟩ := h4
      refine ⟨rfl, ih (L.setIfInBounds j true) a' (closedL_step hc hj) hfree' (ready_mono hr (Ne.symm hji)) h3 ?_⟩
      rw [Array.setIfInBounds_comm _ _ hji]
      exact h4

/-- One of the first comes up: it reads, .. -/
theorem readsQ_take {i : Nat} {oi : Oper} {v : Value} {fuel : Nat} {L : Array Bool} {a : Act} (hi : ops[i]? = some oi) (hnd : noDefer ops = true) (hl : leads md ops k = true) (hs : Region.noSelect ops = true) (hik : decide (i < k) = true)
    (hf : Region.free md ops L i = true) (hr : (Region.ready md ops L).contains i = true) (hQ : ∀ c a w, Q (.panic c) (a.put oi.dst v) w → Q (.panic c) a w)
    (hy : QuietAt F n P ops w oi v a)
    (h : readC F n P md ops Q k w fuel (L.setIfInBounds i true) (a.put oi.dst v)) : readC F n P md ops Q k w (fuel + 1) L a := fun hc =>
  have hr' : i ∈ Region.ready md ops L := by simpa using hr
  readS_firstQ hnd hl (by simpa using hik) hi (Region.noSelect_spec hs) hQ fuel L a hc (Region.free_spec hi hf) hr' hy (h (closedL_step hc hr'))
/-- .. or is not wanted, .. -/
theorem readsQ_skip {i : Nat} {oi : Oper} {fuel : Nat} {L : Array Bool} {a : Act} (hi : ops[i]? = some oi) (hnd : noDefer ops = true) (hl : leads md ops k = true) (hs : Region.noSelect ops = true) (hik : decide (i < k) = true)
    (hf : Region.free md ops L i = true) (hr : (Region.ready md ops L).contains i = true) (hQ : ∀ c a w, Q (.panic c) (a.put oi.dst undef) w → Q (.panic c) a w)
    (hw : Region.wanted oi (yielded ops a.tmps) = false) (hab : ∀ w, oi.about P w a.eval = none)
    (h : readC F n P md ops Q k w fuel (L.setIfInBounds i true) (a.put oi.dst undef)) : readC F n P md ops Q k w (fuel + 1) L a :=
  readsQ_take hi hnd hl hs hik hf hr hQ ⟨fun w f e => (by rw [hab w] at e; cases e), .inr ⟨hw, rfl⟩⟩ h
/-- .. or calls. -/
theorem readsQ_call {i : Nat} {oi : Oper} {v : Value} {fuel : Nat} {L : Array Bool} {a : Act} {f : Nat} {args : Array Value} (hi : ops[i]? = some oi) (hnd : noDefer ops = true) (hl : leads md ops k = true) (hs : Region.noSelect ops = true) (hik : decide (i < k) = true)
    (hf : Region.free md ops L i = true) (hr : (Region.ready md ops L).contains i = true) (hQ : ∀ c a w, Q (.panic c) (a.put oi.dst v) w → Q (.panic c) a w)
    (hw : Region.wanted oi (yielded ops a.tmps) = true) (hab : ∀ w f, oi.about P w a.eval = some f → F.fn f) (hy : (execOp a.eval oi).run P w = .ok (.enter f args) w)
    (hn : F.depth.isSome = true → 1 ≤ n) (hc : CallsIn F (n - 1) P f args w fun e w' => e = .returned v ∧ w' = w)
    (h : readC F n P md ops Q k w fuel (L.setIfInBounds i true) (a.put oi.dst v)) : readC F n P md ops Q k w (fuel + 1) L a :=
  readsQ_take hi hnd hl hs hik hf hr hQ ⟨hab, .inl ⟨hw, .inr ⟨f, args, hy, hn, hc⟩⟩⟩ h
end
end Go.Proofs.Ytdlkdagmaeapdaa
