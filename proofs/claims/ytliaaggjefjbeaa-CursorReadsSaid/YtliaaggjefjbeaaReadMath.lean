/- What a reader that goes on finds in a ring whose references are told by their offsets. No condition. -/
import Derived.Test.YtliaaggjefjbeaaRingApi7
namespace Go.Proofs.Ytliaaggjefjbeaa
open Go.RowKit
set_option linter.unusedVariables false
set_option linter.unusedSimpArgs false

structure Rd7 (M : RM) (k a : Nat) : Prop where
  ok : M.Ok k
  refs : ∀ (i : Nat) (p : Plc), M.l[i]? = some p → p.r = (M.h : Int) + i + 1
  at_ : a ≤ M.tail

theorem Rd7.new {n : Nat} (h1 : 1 ≤ n) (h2 : n ≤ 64) : Rd7 (RM.new n true) 0 0 := ⟨RM.new_ok h1 h2, fun i p h => by simp [RM.new] at h, Nat.zero_le _⟩
theorem Rd7.claim {M : RM} {k a : Nat} (T : Rd7 M k a) : Rd7 (M.claimM ((M.tail : Nat) + 1 : Int)) (k + 1) a := by
  refine ⟨T.ok.claim _, ?_, ?_⟩
  · unfold RM.claimM
    split
    · exact T.refs
    · split
      · rename_i h1 h2
        have hp := T.ok.pos
        intro i p h
        dsimp only at h ⊢
        rw [List.getElem?_append] at h
        split at h
        · rename_i h3
          rw [List.getElem?_drop] at h
          have := T.refs _ _ h
          rw [this]
          push_cast
          omega
        · rename_i h3
          rw [List.length_drop] at h h3
          have hi : i - (M.l.length - 1) = 0 := by
            have := (List.getElem?_eq_some_iff.1 h).1
            simp at this; omega
          rw [hi] at h
          simp at h
          subst h
          unfold RM.tail
          push_cast
          omega
      · intro i p h
        dsimp only at h ⊢
        rw [List.getElem?_append] at h
        split at h
        · exact T.refs _ _ h
        · rename_i h3
          have hi : i - M.l.length = 0 := by
            have := (List.getElem?_eq_some_iff.1 h).1
            simp at this; omega
          rw [hi] at h
          simp at h
          subst h
          unfold RM.tail
          push_cast
          omega
  · have := T.at_
    unfold RM.claimM
    split
    · exact this
    · split
      · have hp := T.ok.pos
        unfold RM.tail at this ⊢; simp; omega
      · unfold RM.tail at this ⊢; simp; omega
theorem Rd7.pub {M : RM} {k a : Nat} (T : Rd7 M k a) (x : Int) : Rd7 (M.pubM x) k a := by
  refine ⟨T.ok.pub x, ?_, ?_⟩
  · unfold RM.pubM
    split
    · exact T.refs
    · intro i p h
      dsimp only at h ⊢
      by_cases e : M.cut x = i
      · subst e
        have hl : M.cut x < M.l.length := by
          have := (List.getElem?_eq_some_iff.1 h).1
          simpa using this
        rw [List.getElem?_set_self hl] at h
        cases h
        dsimp only
        obtain ⟨q, hq⟩ : ∃ q, M.l[M.cut x]? = some q := ⟨_, List.getElem?_eq_getElem hl⟩
        have : M.pl x = q := by unfold RM.pl; rw [hq]; rfl
        rw [this]
        exact T.refs _ _ hq
      · rw [List.getElem?_set_ne e] at h
        exact T.refs _ _ h
  · have := T.at_
    unfold RM.pubM
    split
    · exact this
    · unfold RM.tail at this ⊢; simpa using this
theorem Rd7.mono {M : RM} {k k' a : Nat} (T : Rd7 M k a) (h : k ≤ k') : Rd7 M k' a := ⟨T.ok.mono h, T.refs, T.at_⟩

/-- What a reader finds. -/
def Found7 (M : RM) (a from_ : Nat) : Prop :=
  M.mvE a = 0 ∧ M.h ≤ from_ ∧ from_ ≤ M.tail ∧
  ((a < M.h ∧ M.lsF a = a ∧ M.lsT a = from_ ∧ from_ = M.h) ∨ (M.h ≤ a ∧ M.lsF a = 0 ∧ M.lsT a = 0 ∧ from_ = a)) ∧
  ((M.nxE a = 0 ∧ M.nxR a = from_ + 1 ∧ M.nxT a = from_ + 1 ∧ from_ < M.tail) ∨ (M.nxE a = 5 ∧ M.nxR a = 0 ∧ M.nxT a = from_ ∧ from_ = M.tail) ∨ (M.nxE a = 8 ∧ M.nxR a = 0 ∧ M.nxT a = from_ ∧ from_ < M.tail))

theorem Rd7.found {M : RM} {k a : Nat} (T : Rd7 M k a) (hk : k ≤ 1000) : ∃ f, Found7 M a f := by
  have hl := T.ok.low
  have hat := T.at_
  have hht : M.h ≤ M.tail := by unfold RM.tail; omega
  have hE : M.mvE a = 0 := mvE_ok_iff.2 ⟨by omega, by omega, by omega, by omega, by omega⟩
  have next : ∀ f : Nat, M.mv a = f → M.h ≤ f → f ≤ M.tail → ((M.nxE a = 0 ∧ M.nxR a = f + 1 ∧ M.nxT a = f + 1 ∧ f < M.tail) ∨ (M.nxE a = 5 ∧ M.nxR a = 0 ∧ M.nxT a = f ∧ f = M.tail) ∨ (M.nxE a = 8 ∧ M.nxR a = 0 ∧ M.nxT a = f ∧ f < M.tail)) := by
    intro f hf h1 h2
    by_cases he : f = M.tail
    · have hg : M.getE (M.mv a) = 5 := by
        have : M.findE (f : Int) = 5 := by unfold RM.findE; rw [if_neg (by omega), if_neg (by omega), if_pos (by omega)]
        rw [hf]; unfold RM.getE; rw [this]; rfl
      obtain ⟨e1, e2, e3⟩ := nx_stay hE (by rw [hg]; simp)
      exact .inr (.inl ⟨by rw [e1, hg], e2, by rw [e3, hf], he⟩)
    · have hfi : M.findE (f : Int) = 0 := by unfold RM.findE; rw [if_neg (by omega), if_neg (by omega), if_neg (by omega)]
      have hcut : M.cut (f : Int) = f - M.h := by unfold RM.cut; omega
      have hlen : f - M.h < M.l.length := by unfold RM.tail at h2 he; omega
      obtain ⟨q, hq⟩ : ∃ q, M.l[f - M.h]? = some q := ⟨_, List.getElem?_eq_getElem hlen⟩
      have hpl : M.pl (f : Int) = q := by unfold RM.pl; rw [hcut, hq]; rfl
      have hr := T.refs _ _ hq
      by_cases hd : q.d = true
      · have hg : M.getE (M.mv a) = 0 := by rw [hf]; unfold RM.getE; rw [hfi, if_neg (by simp), hpl, if_pos hd]
        obtain ⟨e1, e2, e3⟩ := nx_on hE hg
        refine .inl ⟨e1, ?_, by rw [e3, hf], by omega⟩
        rw [e2]
        unfold RM.getR
        rw [hg, if_neg (by simp), hf, hpl, hr]
        omega
      · have hg : M.getE (M.mv a) = 8 := by rw [hf]; unfold RM.getE; rw [hfi, if_neg (by simp), hpl, if_neg hd]
        obtain ⟨e1, e2, e3⟩ := nx_stay hE (by rw [hg]; simp)
        exact .inr (.inr ⟨by rw [e1, hg], e2, by rw [e3, hf], by omega⟩)
  by_cases h6 : a < M.h
  · obtain ⟨e1, e2, e3, _⟩ := move_to (a := (a : Int)) (h := (M.h : Int)) (t := (M.tail : Nat)) hE (by omega)
    exact ⟨M.h, hE, Nat.le_refl _, hht, .inl ⟨h6, e2, e3, rfl⟩, next M.h e1 (Nat.le_refl _) hht⟩
  · obtain ⟨e1, e2, e3, _⟩ := move_at (a := (a : Int)) (h := (M.h : Int)) (t := (M.tail : Nat)) hE (by omega)
    exact ⟨a, hE, by omega, hat, .inr ⟨by omega, e2, e3, rfl⟩, next a e1 (by omega) hat⟩
end Go.Proofs.Ytliaaggjefjbeaa
