/- Texts that lie next to one another, laid into one: each says what it holds. No condition but what each states. -/
import Derived.Test.YtmmkcfiecgpkpaaGreatBdTpM

/- Names of topics: each is found where it lies: plain mathematics. No condition. -/
namespace Go.Proofs.YtmmkcfiecgpkpaaGreat
open Go.RowKit
set_option linter.unusedVariables false
set_option linter.unusedSimpArgs false

/-- Each name is found where it lies, and is short. -/
structure NmD (T : List TpM) : Prop where
  at_ : ∀ (k : Nat) (t : TpM), T[k]? = some t → fdN T t.nm = k
  len : ∀ t ∈ T, t.nm.length ≤ 100
theorem nmD_nil : NmD [] := ⟨fun k t h => (by simp at h), fun t h => (by cases h)⟩
theorem open_ok {T : List TpM} {l : Txt} {n r p : Int} (h : openE T l n r p = 0) : findE T l = 5 ∧ openN T l n r p = (T.length : Nat) ∧ openT T l n r p = T ++ [newT l n r p] ∧ ¬ fdN T l < T.length ∧ T.length < 16 := by
  have h1 : ¬ nmE l ≠ 0 := fun e => by unfold openE at h; rw [if_pos e] at h; cases h
  unfold openE at h
  rw [if_neg h1] at h
  by_cases h2 : n < 1 ∨ 8 < n ∨ r < 1 ∨ 64 < r ∨ (p ≠ 0 ∧ p ≠ 1)
  · rw [if_pos h2] at h; cases h
  · rw [if_neg h2] at h
    by_cases h3 : fdN T l < T.length
    · rw [if_pos h3] at h; cases h
    · rw [if_neg h3] at h
      by_cases h4 : 16 ≤ T.length
      · rw [if_pos h4] at h; cases h
      · have he : openE T l n r p = 0 := by unfold openE; rw [if_neg h1, if_neg h2, if_neg h3, if_neg h4]
        refine ⟨by unfold findE; rw [if_neg h1, if_neg h3], by unfold openN; rw [if_neg (by simp [he])], by unfold openT; rw [if_neg (by simp [he])], h3, by omega⟩
theorem open_no {T : List TpM} {l : Txt} {n r p : Int} (h : openE T l n r p ≠ 0) : openT T l n r p = T := by unfold openT; rw [if_pos h]
theorem open_name {T : List TpM} {l : Txt} {n r p : Int} (h : openE T l n r p = 0) : nmAt (openT T l n r p) (T.length : Nat) = l := by
  rw [(open_ok h).2.2.1]
  unfold nmAt
  rw [if_pos (by omega), Int.toNat_natCast]
  simp [newT]
theorem open_len {T : List TpM} {l : Txt} {n r p : Int} (h : openE T l n r p = 0) : (openT T l n r p).length = T.length + 1 := by
  rw [(open_ok h).2.2.1]; simp
theorem NmD.open {T : List TpM} (h : NmD T) {l : Txt} (hl : l.length ≤ 100) (n r p : Int) : NmD (openT T l n r p) := by
  by_cases he : openE T l n r p = 0
  · obtain ⟨_, _, e, hn, _⟩ := open_ok he
    rw [e]
    refine ⟨fun k t hk => ?_, fun t ht => ?_⟩
    · unfold fdN
      rw [List.findIdx_append]
      by_cases hlt : k < T.length
      · rw [List.getElem?_append_left hlt] at hk
        have h1 := h.at_ k t hk
        unfold fdN at h1
        rw [h1, if_pos hlt]
      · have hkk : k = T.length := by
          have := get_lt hk
          simp at this; omega
        subst hkk
        have ht : t = newT l n r p := by simpa using hk.symm
        have e1 : (newT l n r p).nm = l := rfl
        rw [ht, e1]
        unfold fdN at hn
        rw [if_neg hn]
        simp [newT]
    · rcases List.mem_append.1 ht with ht | ht
      · exact h.len t ht
      · rw [List.mem_singleton.1 ht]; exact hl
  · rw [open_no he]; exact h
theorem NmD.find {T : List TpM} (h : NmD T) (hn : ∀ t ∈ T, nmE t.nm = 0) {k : Nat} (hk : k < T.length) : ∃ l : Txt, nmAt T (k : Nat) = l ∧ l.length ≤ 100 ∧ findE T l = 0 ∧ findN T l = (k : Nat) := by
  obtain ⟨t, ht⟩ := get_some hk
  have hm := List.mem_of_getElem? ht
  have he : findE T t.nm = 0 := by
    unfold findE
    rw [if_neg (by simp [hn t hm]), if_pos (by rw [h.at_ k t ht]; exact hk)]
  refine ⟨t.nm, ?_, h.len t hm, he, ?_⟩
  · unfold nmAt
    rw [if_pos (by omega), Int.toNat_natCast, ht]; rfl
  · unfold findN
    rw [if_neg (by simp [he]), h.at_ k t ht]
end Go.Proofs.YtmmkcfiecgpkpaaGreat
