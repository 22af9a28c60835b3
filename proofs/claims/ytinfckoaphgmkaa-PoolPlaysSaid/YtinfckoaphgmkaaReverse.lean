/- slices.Reverse of numbers. No condition. -/
import Derived.Test.YtinfckoaphgmkaaSlices
namespace Go.Proofs.Ytinfckoaphgmkaa
open Go.RowKit
set_option linter.unusedVariables false
set_option linter.unusedSimpArgs false
set_option maxRecDepth 100000

/-- So many of both ends have changed places. -/
def rv (l : List Int) : Nat → List Int
  | 0 => l
  | k + 1 => ((rv l k).set k (l[l.length - 1 - k]?.getD 0)).set (l.length - 1 - k) (l[k]?.getD 0)
theorem rv_length (l : List Int) : ∀ k, (rv l k).length = l.length
  | 0 => rfl
  | k + 1 => by simp [rv, rv_length l k]
theorem rv_get (l : List Int) : ∀ k t, k + k ≤ l.length → t < l.length → (rv l k)[t]? = if t < k ∨ l.length - k ≤ t then l.reverse[t]? else l[t]?
  | 0, t, _, ht => by rw [if_neg (by omega)]; rfl
  | k + 1, t, hk, ht => by
    have ih := rv_get l k t (by omega) ht
    unfold rv
    by_cases e1 : t = l.length - 1 - k
    · subst e1
      rw [List.getElem?_set_self (by simp [rv_length]; omega), if_pos (.inr (by omega)), List.getElem?_reverse (by omega), show l.length - 1 - (l.length - 1 - k) = k by omega]
      rw [List.getElem?_eq_getElem (show k < l.length by omega)]; rfl
    · rw [List.getElem?_set_ne (fun h => e1 h.symm)]
      by_cases e2 : t = k
      · subst e2
        rw [List.getElem?_set_self (by rw [rv_length]; omega), if_pos (.inl (by omega)), List.getElem?_reverse (by omega)]
        rw [List.getElem?_eq_getElem (show l.length - 1 - t < l.length by omega)]; rfl
      · rw [List.getElem?_set_ne (fun h => e2 h.symm), ih]
        by_cases h : t < k ∨ l.length - k ≤ t
        · rw [if_pos h, if_pos (by omega)]
        · rw [if_neg h, if_neg (by omega)]
theorem rv_end (l : List Int) (k : Nat) (h1 : k + k ≤ l.length) (h2 : l.length ≤ k + k + 1) : rv l k = l.reverse := by
  apply List.ext_getElem?
  intro t
  by_cases ht : t < l.length
  · rw [rv_get l k t h1 ht]
    split
    · rfl
    · rename_i h
      rw [List.getElem?_reverse ht, show l.length - 1 - t = t by omega]
  · rw [List.getElem?_eq_none (by rw [rv_length]; omega), List.getElem?_eq_none (by simp; omega)]

set_option maxHeartbeats 2000000 in
theorem reverse_any {w : World} {g n c : Nat} {l : List Int} {r : List Value} (hb : Blk w g (ints l ++ r) 3) (hn : n = l.length) (hmax : n ≤ 1000000) :
    Calls Try.prog 46 #[.slice (some ⟨g, 0, none⟩) n c] w fun e w' => (∃ v, e = .returned v) ∧ Blk w' g (ints l.reverse ++ r) 3 ∧ Turned (· = g) w w' := by
  have HB := Lib.hid hb
  have HN := Lib.hid hn
  clear hb hn
  go_enter Try.func46, Try.ntmps46
  go_wp2
  go_loopw [2, 3] (fun i j wr => ∃ k : Nat, k + k ≤ n ∧ i = .int .i64 k ∧ j = .int .i64 ((n : Int) - 1 - k) ∧ Blk wr g (ints (rv l k) ++ r) 3 ∧ Turned (· = g) w wr) (fun i _ _ => n - (intOf i).toNat)
  case atStart => exact ⟨0, Nat.zero_le _, rfl, by go_num, HB.out, Turned.refl _ _⟩
  case round =>
    obtain ⟨k, hk, rfl, rfl, hbr, htr⟩ := hrel
    by_cases hlt : k + k + 1 < n
    · have hlt1 : (k : Int) < (n : Int) - 1 - k := by omega
      obtain ⟨m, hm⟩ : ∃ m : Nat, (n : Int) - 1 - k = m := ⟨n - 1 - k, by omega⟩
      rw [hm] at hlt1 ⊢
      have hmn : m < n := by omega
      have hkn : k < n := by omega
      have hkm : k ≠ m := by omega
      have hmk : m ≠ k := by omega
      obtain ⟨x, hx⟩ := get_some (l := l) (i := k) (by rw [← HN.out]; exact hkn)
      obtain ⟨y, hy⟩ := get_some (l := l) (i := m) (by rw [← HN.out]; exact hmn)
      have gx : (rv l k)[k]? = some x := by rw [rv_get l k k (by rw [← HN.out]; exact hk) (by rw [← HN.out]; exact hkn), if_neg (by rw [← HN.out]; omega), hx]
      have gy : (rv l k)[m]? = some y := by rw [rv_get l k m (by rw [← HN.out]; exact hk) (by rw [← HN.out]; exact hmn), if_neg (by rw [← HN.out]; omega), hy]
      have cx : wr.cell? ⟨g, k, none⟩ = some (.int .i64 x) := hbr.cell (by rw [List.getElem?_append_left (by rw [ints_length]; exact get_lt gx)]; exact ints_get gx)
      have cy : wr.cell? ⟨g, m, none⟩ = some (.int .i64 y) := hbr.cell (by rw [List.getElem?_append_left (by rw [ints_length]; exact get_lt gy)]; exact ints_get gy)
      have fx := hbr.free k
      have fy := hbr.free m
      have HE := Lib.hid (show Blk ((wr.setCell ⟨g, k, none⟩ (.int .i64 y)).setCell ⟨g, m, none⟩ (.int .i64 x)) g (ints (rv l (k + 1)) ++ r) 3 ∧ Turned (· = g) w ((wr.setCell ⟨g, k, none⟩ (.int .i64 y)).setCell ⟨g, m, none⟩ (.int .i64 x)) by
        refine ⟨?_, turned_set (turned_set htr _ _) _ _⟩
        have h1 := (hbr.set k (.int .i64 y)).set m (.int .i64 x)
        have e : ints (rv l (k + 1)) ++ r = ((ints (rv l k) ++ r).set k (.int .i64 y)).set m (.int .i64 x) := by
          rw [rv, show l.length - 1 - k = m by rw [← HN.out]; omega, hx, hy]
          rw [List.set_append_left _ _ (by rw [ints_length]; exact get_lt gx), ints_set, List.set_append_left _ _ (by rw [ints_length]; simpa using get_lt gy), ints_set]
          rfl
        rw [e]
        exact h1)
      have HM := Lib.hid hm
      have HLT := Lib.hid hlt
      clear hbr htr hx hy gx gy hm hlt
      go_wp2
      go_region
      all_goals (go_wp2; go_roundw)
      case rel => exact ⟨k + 1, by have := HLT.out; omega, by go_num, by have := HM.out; go_num, HE.out.1.drew, HE.out.2.drew⟩
      case measure => simp [intOf]; omega
    · have hge : ¬ ((k : Int) < (n : Int) - 1 - k) := by omega
      have HE := Lib.hid (rv_end l k (by rw [← HN.out]; exact hk) (by rw [← HN.out]; omega))
      rw [HE.out] at hbr
      clear hlt
      go_wp2
      go_end0
      exact ⟨⟨_, rfl⟩, hbr, htr⟩
end Go.Proofs.Ytinfckoaphgmkaa
