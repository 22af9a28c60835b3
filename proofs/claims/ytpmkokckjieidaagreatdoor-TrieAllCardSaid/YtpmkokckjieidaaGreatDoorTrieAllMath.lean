/- What a tree tells of a name, number by number. No condition. -/
import Derived.Test.YtpmkokckjieidaaGreatDoorTrieTurnMath
namespace Go.Proofs.YtpmkokckjieidaaGreatDoor
open Go.RowKit
set_option linter.unusedVariables false
set_option linter.unusedSimpArgs false
set_option maxRecDepth 100000

/-- The tree of the acts of one number, under nought. -/
def oneL (l : List A10) (n : Nat) : List Pr := l.foldl (fun L a => if am a.2.2 20 = n then putL L a.2.1 ((0 : Nat) : Int) else L) []
theorem oneL_step {l : List A10} {k : Nat} {a : A10} (h : l[k]? = some a) (n : Nat) : oneL (l.take (k + 1)) n = if am a.2.2 20 = n then putL (oneL (l.take k) n) a.2.1 0 else oneL (l.take k) n := by
  unfold oneL
  rw [List.take_add_one, h, List.foldl_append]; rfl
theorem oneL_ok (l : List A10) (n : Nat) : TOk (oneL l n) := by
  suffices h : ∀ (l : List A10) (L : List Pr), TOk L → TOk (l.foldl (fun L a => if am a.2.2 20 = n then putL L a.2.1 ((0 : Nat) : Int) else L) L) from h l [] TOk.nil
  intro l
  induction l with
  | nil => intro L h; exact h
  | cons a l ih =>
    intro L h
    rw [List.foldl_cons]
    refine ih _ ?_
    split
    · exact h.put _ _
    · exact h
theorem oneL_mem {l : List A10} (h : l.length ≤ 200) (n : Nat) (p : Pr) : p ∈ oneL l n ↔ ∃ a ∈ l, am a.2.2 20 = n ∧ fcE a.2.1 = 0 ∧ p = (a.2.1, 0) := by
  suffices hs : ∀ (l : List A10) (L : List Pr), L.length + l.length ≤ 200 → (p ∈ l.foldl (fun L a => if am a.2.2 20 = n then putL L a.2.1 ((0 : Nat) : Int) else L) L ↔ p ∈ L ∨ ∃ a ∈ l, am a.2.2 20 = n ∧ fcE a.2.1 = 0 ∧ p = (a.2.1, 0)) by
    have := hs l [] (by simpa using h)
    rw [show oneL l n = l.foldl (fun L a => if am a.2.2 20 = n then putL L a.2.1 ((0 : Nat) : Int) else L) [] from rfl, this]
    simp
  intro l
  induction l with
  | nil => intro L _; simp
  | cons a l ih =>
    intro L hl
    simp only [List.length_cons] at hl
    rw [List.foldl_cons]
    by_cases e : am a.2.2 20 = n
    · have h2 := putL_len_le L a.2.1 ((0 : Nat) : Int)
      rw [if_pos e, ih _ (by omega), mem_putL (by omega) (by omega)]
      simp only [List.mem_cons, exists_eq_or_imp, e, true_and]
      constructor
      · rintro ((h | h) | h)
        · exact .inl h
        · exact .inr (.inl h)
        · exact .inr (.inr h)
      · rintro (h | h | h)
        · exact .inl (.inl h)
        · exact .inl (.inr h)
        · exact .inr h
    · rw [if_neg e, ih _ (by omega)]
      simp only [List.mem_cons, exists_eq_or_imp, e, false_and, false_or]
theorem mem_mtL {L : List Pr} {s : Txt} (hs : nmE s = 0) {n : Nat} : n ∈ mtL L s ↔ n < 256 ∧ hitB L s n = true := by
  unfold mtL
  rw [if_pos hs, List.mem_filter, List.mem_range]
/-- Each number that is told of a name has a filter that matches it alone. -/
theorem one_alone {l : List A10} {s : Txt} (hl : l.length ≤ 200) (hs : nmE s = 0) {n : Nat} (hn : n ∈ mtL (bldL l) s) : mtL (oneL l n) s = [0] := by
  obtain ⟨_, hh⟩ := (mem_mtL hs).1 hn
  obtain ⟨f, hf, hi⟩ := hit_iff.1 hh
  obtain ⟨a, ha, hfc, e⟩ := (bldL_mem hl _).1 hf
  cases e
  have h0 : (fun n' : Nat => hitB (oneL l (am a.2.2 20)) s n') = fun n' => decide (n' = 0) := by
    funext n'
    rw [Bool.eq_iff_iff, hit_iff, decide_eq_true_iff]
    constructor
    · rintro ⟨f, hf, _⟩
      obtain ⟨b, _, _, _, e⟩ := (oneL_mem hl _ _).1 hf
      cases e; rfl
    · rintro rfl
      exact ⟨a.2.1, (oneL_mem hl _ _).2 ⟨a, ha, rfl, hfc, rfl⟩, hi⟩
  unfold mtL
  rw [if_pos hs, h0]
  decide
theorem mtL_rise {L : List Pr} {s : Txt} {i a b : Nat} (h1 : (mtL L s)[i]? = some a) (h2 : (mtL L s)[i + 1]? = some b) : a < b := by
  unfold mtL at h1 h2
  split at h1
  · rename_i hs
    rw [if_pos hs] at h2
    have hp : ((List.range 256).filter fun n => hitB L s n).Pairwise (· < ·) := List.pairwise_lt_range.filter _
    rw [List.pairwise_iff_getElem] at hp
    obtain ⟨g1, e1⟩ := List.getElem?_eq_some_iff.1 h1
    obtain ⟨g2, e2⟩ := List.getElem?_eq_some_iff.1 h2
    have := hp i (i + 1) g1 g2 (by omega)
    rw [e1, e2] at this; exact this
  · simp at h1
/-- A number of # is told of each name that is not hidden. -/
theorem hash_put {L : List Pr} (h : ∀ p ∈ L, p.2 < 20) (hl : L.length ≤ 200) {s : Txt} (hs : nmE s = 0) :
    ptE L [35] 200 = 0 ∧ (((200 : Nat) ∈ mtL (putL L [35] 200) s) ↔ s[0]? ≠ some 36) := by
  have h0 : ptE L [35] 200 = 0 := by
    unfold ptE
    rw [if_neg (by decide), if_neg (by decide), if_neg (by
      unfold hasP
      rw [decide_eq_true_iff]
      rintro ⟨_, hm⟩
      have := h _ hm
      simp at this), if_neg (by omega)]
  refine ⟨h0, ?_⟩
  have hp : putL L [35] 200 = L ++ [([35], 200)] := by unfold putL; rw [if_pos h0]; rfl
  obtain ⟨g1, g2⟩ := hash_match hs
  have hi : isB [35] s = !decide (s[0]? = some 36) := by
    unfold mtB at g2
    rw [g1] at g2
    simpa using g2
  rw [hp, mem_mtL hs, hit_iff]
  constructor
  · rintro ⟨_, f, hf, hb⟩
    rcases List.mem_append.1 hf with hf | hf
    · have := h _ hf; simp at this
    · simp at hf
      rw [hf, hi] at hb
      simpa using hb
  · intro hne
    exact ⟨by omega, [35], by simp, by rw [hi]; simpa using hne⟩
end Go.Proofs.YtpmkokckjieidaaGreatDoor
