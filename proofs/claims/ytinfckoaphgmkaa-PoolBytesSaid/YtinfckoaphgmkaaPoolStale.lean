/- PoolStale: the walk. No condition but that the program's pool keeps its words. -/
import Derived.Test.YtinfckoaphgmkaaPoolCounts
namespace Go.Proofs.Ytinfckoaphgmkaa
open Go.RowKit
set_option linter.unusedVariables false
set_option maxRecDepth 100000

/-- A handle that was given is live or stale. -/
theorem PM.Given.err {M : PM} {N : Nat} {h : Int} (hg : M.Given h) (hM : M.Ok N) (hN : N < 1000000) : M.err h = 0 ∨ M.err h = 40 := by
  obtain ⟨k, g, s, rfl, h1, h2⟩ := hg
  have hk := get_lt h1
  have hl := hM.len
  have hlow := (hM.low k s h1).1
  unfold PM.err
  rw [if_neg (by simpa using hIs_of (by omega) (by omega)), hSlot_of g (by omega), h1]
  simp only
  split
  · exact .inl rfl
  · exact .inr rfl

/-- Stale for good: its slot's generation has gone on. -/
def PM.Gone (M : PM) (h : Int) : Prop := ∃ (k g : Nat) (s : Slt), h = (g : Int) * 128 + (k : Nat) + 1 ∧ M.sl[k]? = some s ∧ g < s.g
theorem PM.Gone.le {M M' : PM} {h : Int} (hg : M.Gone h) (hle : M.Le M') : M'.Gone h := by
  obtain ⟨k, g, s, e, h1, h2⟩ := hg
  obtain ⟨s', h3, h4⟩ := hle.gen k s h1
  exact ⟨k, g, s', e, h3, by rcases h4 with h4 | ⟨h4, _⟩ <;> omega⟩
theorem PM.Gone.err {M : PM} {N : Nat} {h : Int} (hg : M.Gone h) (hM : M.Ok N) (hN : N < 1000000) : M.err h = 40 := by
  obtain ⟨k, g, s, rfl, h1, h2⟩ := hg
  have hk := get_lt h1
  have hl := hM.len
  have hlow := (hM.low k s h1).1
  unfold PM.err
  rw [if_neg (by simpa using hIs_of (by omega) (by omega)), hSlot_of g (by omega), h1]
  simp only
  rw [if_neg]
  intro ⟨e, _⟩
  rw [hGen_of g (by omega)] at e
  omega

/-- What dropping a handle that was given comes to. -/
theorem PM.Given.drop {M : PM} {N : Nat} {h : Int} (hg : M.Given h) (hM : M.Ok N) (hN : N < 1000000) :
    (M.err h = 40 ∧ M.Gone h) ∨ (M.err h = 0 ∧ (M.slt h).c = 1 ∧ (M.dropM h).Gone h) ∨ (M.err h = 0 ∧ 2 ≤ (M.slt h).c ∧ (M.dropM h).err h = 0 ∧ ((M.dropM h).slt h).c = (M.slt h).c - 1 ∧ (M.slt h).c ≤ N) := by
  obtain ⟨k, g, s, rfl, h1, h2⟩ := hg
  have hk := get_lt h1
  have hl := hM.len
  have hlow := hM.low k s h1
  have hi : haIs ((g : Int) * 128 + (k : Nat) + 1) := hIs_of (by omega) (by omega)
  have hs : hSlot ((g : Int) * 128 + (k : Nat) + 1) = k := hSlot_of g (by omega)
  have hgn : hGen ((g : Int) * 128 + (k : Nat) + 1) = g := hGen_of g (by omega)
  have hst : M.slt ((g : Int) * 128 + (k : Nat) + 1) = s := by unfold PM.slt; rw [hs, h1]; rfl
  rcases h2 with h2 | ⟨h2, h2'⟩
  · exact .inl ⟨PM.Gone.err ⟨k, g, s, rfl, h1, h2⟩ hM hN, k, g, s, rfl, h1, h2⟩
  · have he : M.err ((g : Int) * 128 + (k : Nat) + 1) = 0 := by
      unfold PM.err
      rw [if_neg (by simpa using hi), hs, h1]
      simp only
      rw [if_pos ⟨by rw [hgn, h2], h2'⟩]
    by_cases hc : s.c = 1
    · refine .inr (.inl ⟨he, by rw [hst]; exact hc, k, g, ⟨s.g + 1, 0, []⟩, rfl, ?_, by simp only; omega⟩)
      unfold PM.dropM
      rw [if_neg (by simp [he]), hst, if_pos hc, hs]
      exact List.getElem?_set_self hk
    · have hd : M.dropM ((g : Int) * 128 + (k : Nat) + 1) = { M with sl := M.sl.set k { s with c := s.c - 1 } } := by
        unfold PM.dropM
        rw [if_neg (by simp [he]), hst, if_neg hc, hs]
      have hx : (M.dropM ((g : Int) * 128 + (k : Nat) + 1)).sl[k]? = some { s with c := s.c - 1 } := by rw [hd]; exact List.getElem?_set_self hk
      refine .inr (.inr ⟨he, by rw [hst]; omega, ?_, ?_, by rw [hst]; exact hlow.2⟩)
      · unfold PM.err
        rw [if_neg (by simpa using hi), hs, hx]
        simp only
        rw [if_pos ⟨by rw [hgn, h2], by omega⟩]
      · rw [hst]
        unfold PM.slt
        rw [hs, hx]; rfl
end Go.Proofs.Ytinfckoaphgmkaa
