/- A pool of which all slots are taken, and given back: plain mathematics. No condition. -/
import Derived.Test.YtinfckoaphgmkaaPool
namespace Go.Proofs.Ytinfckoaphgmkaa
open Go.RowKit
set_option linter.unusedVariables false

theorem rep_set {α : Type} (a b : α) {i n : Nat} (h : i < n) : (List.replicate i a ++ List.replicate (n - i) b).set i a = List.replicate (i + 1) a ++ List.replicate (n - (i + 1)) b := by
  rw [List.set_append_right _ _ (by simp), List.length_replicate, Nat.sub_self, show n - i = (n - (i + 1)) + 1 by omega, List.replicate_succ, List.set_cons_zero, List.replicate_succ' (n := i)]
  simp
theorem rep_get {α : Type} (a b : α) {i n : Nat} (h : i < n) : (List.replicate i a ++ List.replicate (n - i) b)[i]? = some b := by
  rw [List.getElem?_append_right (by simp), List.length_replicate, Nat.sub_self, List.getElem?_replicate, if_pos (by omega)]

/-- Behind so many that were taken. -/
def fullS (n s i : Nat) : PM := ⟨List.replicate i ⟨0, 1, List.replicate s 0⟩ ++ List.replicate (n - i) ⟨0, 0, []⟩, (List.range n).drop i, s⟩
theorem full_zero (n s : Nat) : PM.new n s = fullS n s 0 := by simp [PM.new, fullS]

theorem range_drop {n i : Nat} (h : i < n) : (List.range n).drop i = i :: (List.range n).drop (i + 1) := by
  have : i < (List.range n).length := by simpa using h
  rw [List.drop_eq_getElem_cons this]
  simp

theorem full_take {n s i : Nat} (h : i < n) : (fullS n s i).takeM s = fullS n s (i + 1) ∧ (fullS n s i).takeH s = (i : Int) + 1 ∧ (fullS n s i).takeE s = 0 := by
  have hfr : (fullS n s i).fr = i :: (List.range n).drop (i + 1) := by rw [← range_drop h]; rfl
  have hg : (fullS n s i).sl[i]? = some ⟨0, 0, []⟩ := rep_get _ _ h
  have hsz : (fullS n s i).size = s := rfl
  refine ⟨?_, ?_, ?_⟩
  · unfold PM.takeM
    rw [hsz, if_neg (by omega), hfr]
    simp only [hg, Option.getD_some, Int.toNat_natCast]
    show PM.mk _ _ _ = PM.mk _ _ _
    congr 1
    exact rep_set _ _ h
  · unfold PM.takeH
    rw [hsz, if_neg (by omega), hfr]
    simp [hg]
  · unfold PM.takeE
    rw [hsz, if_neg (by omega), if_neg (by omega), hfr]
    simp

theorem full_end (n s : Nat) : (fullS n s n).takeM 0 = fullS n s n ∧ (fullS n s n).takeE 0 = 50 ∧ (fullS n s n).takeM ((s : Int) + 1) = fullS n s n ∧ (fullS n s n).takeE ((s : Int) + 1) = 3 ∧ (fullS n s n).takeH 0 = 0 ∧ (fullS n s n).takeH ((s : Int) + 1) = 0 := by
  have hfr : (fullS n s n).fr = [] := by simp [fullS]
  have hsz : (fullS n s n).size = s := rfl
  refine ⟨?_, ?_, ?_, ?_, ?_, ?_⟩
  · unfold PM.takeM; rw [hsz, if_neg (by omega), hfr]
  · unfold PM.takeE; rw [hsz, if_neg (by omega), if_neg (by omega), if_pos hfr]
  · unfold PM.takeM; rw [hsz, if_pos (by omega)]
  · unfold PM.takeE; rw [hsz, if_neg (by omega), if_pos (by omega)]
  · unfold PM.takeH; rw [hsz, if_neg (by omega), hfr]
  · unfold PM.takeH; rw [hsz, if_pos (by omega)]

theorem full_ok {n s i : Nat} (h1 : 1 ≤ n) (h2 : n ≤ 128) (h3 : 1 ≤ s) (h4 : s ≤ 256) (hi : i ≤ n) : (fullS n s i).Ok 1 := by
  induction i with
  | zero => rw [← full_zero]; exact (PM.new_ok h1 h2 h3 h4).mono (by omega)
  | succ i ih => rw [← (full_take (n := n) (s := s) (by omega : i < n)).1]; exact (ih (by omega)).take (by omega) s

theorem full_free {n s i : Nat} (hi : i ≤ n) : (fullS n s i).fr.length = n - i := by simp [fullS]

/-- Behind so many that were given back. -/
def backS (n s j : Nat) : PM := ⟨List.replicate j ⟨1, 0, []⟩ ++ List.replicate (n - j) ⟨0, 1, List.replicate s 0⟩, (List.range j).reverse, s⟩
theorem back_zero (n s : Nat) : fullS n s n = backS n s 0 := by simp [fullS, backS]

theorem back_drop {n s j : Nat} (h : j < n) (hn : n ≤ 128) : (backS n s j).err ((j : Int) + 1) = 0 ∧ (backS n s j).dropN ((j : Int) + 1) = 0 ∧ (backS n s j).dropM ((j : Int) + 1) = backS n s (j + 1) := by
  have hs : hSlot ((j : Int) + 1) = j := by unfold hSlot; omega
  have hg : hGen ((j : Int) + 1) = 0 := by unfold hGen; omega
  have hi : haIs ((j : Int) + 1) := ⟨by omega, by omega⟩
  have hx : (backS n s j).sl[j]? = some ⟨0, 1, List.replicate s 0⟩ := rep_get _ _ h
  have he : (backS n s j).err ((j : Int) + 1) = 0 := by
    unfold PM.err
    rw [if_neg (by simpa using hi), hs, hx]
    simp [hg]
  have hst : (backS n s j).slt ((j : Int) + 1) = ⟨0, 1, List.replicate s 0⟩ := by unfold PM.slt; rw [hs, hx]; rfl
  refine ⟨he, ?_, ?_⟩
  · unfold PM.dropN
    rw [if_neg (by simp [he]), hst]; rfl
  · unfold PM.dropM
    rw [if_neg (by simp [he]), hst, if_pos rfl, hs]
    show PM.mk _ _ _ = PM.mk _ _ _
    congr 1
    · exact rep_set _ _ h
    · rw [List.range_succ, List.reverse_append]; rfl

theorem back_ok {n s j : Nat} (h1 : 1 ≤ n) (h2 : n ≤ 128) (h3 : 1 ≤ s) (h4 : s ≤ 256) (hj : j ≤ n) : (backS n s j).Ok (j + 1) := by
  induction j with
  | zero => rw [← back_zero]; exact full_ok h1 h2 h3 h4 (Nat.le_refl _)
  | succ j ih => rw [← (back_drop (n := n) (s := s) (by omega : j < n) h2).2.2]; exact (ih (by omega)).drop _

theorem back_free (n s : Nat) : (backS n s n).fr.length = n := by simp [backS]

/-- The handles that were given. -/
def hadL (i : Nat) : List Int := (List.range i).map fun k : Nat => (k : Int) + 1
theorem hadL_length (i : Nat) : (hadL i).length = i := by simp [hadL]
theorem hadL_succ (i : Nat) : hadL (i + 1) = hadL i ++ [(i : Int) + 1] := by simp [hadL, List.range_succ]
theorem hadL_get {n i : Nat} (h : i < n) : (hadL n)[i]? = some ((i : Int) + 1) := by simp [hadL, h]
theorem hadL_new (i : Nat) : decide ((i : Int) + 1 ∈ hadL i) = false := by
  rw [decide_eq_false_iff_not]
  simp only [hadL, List.mem_map, List.mem_range, not_exists, not_and]
  intro k hk e
  omega
end Go.Proofs.Ytinfckoaphgmkaa
