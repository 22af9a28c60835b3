/- How often a list of handles has each slot: plain mathematics. No condition. -/
import Derived.Test.YtbljjmehjkmjaaaGreatPtInv
import Derived.Test.YtbljjmehjkmjaaaGreatPtApi
namespace Go.Proofs.YtbljjmehjkmjaaaGreat
open Go.RowKit
set_option linter.unusedVariables false

theorem nums_in {l : List Nat} {k : Nat} : (k : Int) ∈ nums l ↔ k ∈ l := by
  unfold nums
  rw [List.mem_map]
  constructor
  · rintro ⟨a, ha, e⟩; have : a = k := by omega
    exact this ▸ ha
  · intro h; exact ⟨k, h, rfl⟩
theorem cntOf_at (M : PM) {k : Nat} (hk : k < M.sl.length) : cntOf M (k : Int) = (M.cnt k : Nat) := by
  unfold cntOf PM.cnt
  rw [if_pos ⟨by omega, by omega⟩, Int.toNat_natCast]
/-- How often the list has a handle of a slot. -/
def slCnt (R : List Int) (s : Nat) : Nat := R.countP (fun h => hSlot h == s)
/-- The counts behind k of them. -/
def cts (n : Nat) (R : List Int) (k : Nat) : List Int := (List.range n).map fun s => ((slCnt (R.take k) s : Nat) : Int)
theorem cts_length (n : Nat) (R : List Int) (k : Nat) : (cts n R k).length = n := by simp [cts]
theorem cts_zero (n : Nat) (R : List Int) : cts n R 0 = List.replicate n 0 := by
  apply List.ext_getElem?
  intro s
  unfold cts
  rw [List.getElem?_map, List.getElem?_replicate]
  by_cases hs : s < n
  · rw [if_pos hs, List.getElem?_range hs]; rfl
  · rw [if_neg hs, List.getElem?_eq_none (by simp; omega)]; rfl
theorem cts_get {n : Nat} {R : List Int} {k s : Nat} (hs : s < n) : (cts n R k)[s]? = some ((slCnt (R.take k) s : Nat) : Int) := by
  unfold cts
  rw [List.getElem?_map, List.getElem?_range hs]; rfl
theorem cts_succ {n : Nat} {R : List Int} {k : Nat} {h : Int} (hk : R[k]? = some h) (hn : hSlot h < n) : cts n R (k + 1) = (cts n R k).set (hSlot h) ((slCnt (R.take k) (hSlot h) : Nat) + 1 : Int) := by
  have ht : R.take (k + 1) = R.take k ++ [h] := by
    rw [List.take_add_one, hk]; rfl
  apply List.ext_getElem?
  intro s
  by_cases hs : s < n
  · rw [cts_get hs, ht]
    by_cases e : hSlot h = s
    · subst e
      rw [List.getElem?_set_self (by rw [cts_length]; exact hs)]
      simp [slCnt, List.countP_append]
    · rw [List.getElem?_set_ne e, cts_get hs]
      simp [slCnt, List.countP_append, e]
  · rw [List.getElem?_eq_none (by rw [cts_length]; omega), List.getElem?_eq_none (by rw [List.length_set, cts_length]; omega)]
theorem cts_all {n : Nat} {P : PM} {R : List Int} (h : PtInv P R) (hn : P.sl.length = n) {s : Nat} (hs : s < n) : (cts n R R.length)[s]? = some ((P.cnt s : Nat) : Int) := by
  rw [cts_get hs, List.take_length]
  obtain ⟨t, ht⟩ := get_some (l := P.sl) (i := s) (by omega)
  have := h.cnt s t ht
  unfold slCnt
  rw [← this]
  unfold PM.cnt
  rw [ht]; rfl
theorem live_slot {n : Nat} {P : PM} {R : List Int} (h : PtInv P R) (hn : P.sl.length = n) {k : Nat} {x : Int} (hk : R[k]? = some x) : 1 ≤ x ∧ x ≤ 140737488355328 ∧ hSlot x < n ∧ (x - 1).tmod 128 = (hSlot x : Nat) := by
  obtain ⟨⟨h1, h2⟩, h3, _⟩ := PM.live (h.live x (List.mem_of_getElem? hk))
  refine ⟨h1, h2, by omega, ?_⟩
  rw [Int.tmod_eq_emod_of_nonneg (by omega)]
  unfold hSlot
  omega
end Go.Proofs.YtbljjmehjkmjaaaGreat
