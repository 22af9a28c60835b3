/- The programs of sessions that add by swapping, as the statement makes them. No condition but that the numbers read as a list. -/
import Derived.Test.YtkeacdhjkhojhaaMakeSched
import Derived.Test.YtkeacdhjkhojhaaSwapMath
namespace Go.Proofs.Ytkeacdhjkhojhaa
open Go.RowKit
set_option linter.unusedVariables false
set_option linter.unusedSimpArgs false
set_option maxRecDepth 100000

theorem new_cells (w : World) (l : List Value) (t : TypeId) : ∀ (j : Nat) (u : Value), l[j]? = some u → (w.alloc (.cells l.toArray t)).cell? ((⟨w.heap.size, 0, none⟩ : Addr).add j) = some u := by
  intro j u h
  rw [Addr.add_lit, Nat.zero_add]
  exact (Blk.new w l t).cell h

def isIntV : Value → Bool
  | .int _ _ => true
  | _ => false
theorem ints_all {l : List Value} (h : l.all isIntV = true) : ∀ u ∈ l, u.oneCell' = true := fun u hu => by
  rw [List.all_eq_true] at h
  have := h u hu
  cases u <;> first | rfl | cases this

def SwPost (w : World) (k : Nat) (l : List Int) (e : Ending) (w' : World) : Prop :=
  ∃ a c, e = .returned (.slice a (swapFrom k 0 l).length c) ∧ w'.ownsRow w.heap.size 63 4 (.slice a (swapFrom k 0 l).length c) (swapFrom k 0 l).length (rowOf insEnc (swapFrom k 0 l)) ∧ Still w w'

set_option maxHeartbeats 2000000 in
theorem swapper_any (kk : Nat) (hkk : kk < 8) (a : Option Addr) (len cap : Nat) (xs : List Int) (hlen : xs.length = len) (hmax : len ≤ 9223372036854775807) (w : World) (hX : NumsAt w a xs) :
    Calls Try.prog 24 #[.int .i64 kk, .slice a len cap] w (SwPost w kk (xs.take 10)) := by
  have HX := Lib.hid hX
  have HL := Lib.hid hlen
  obtain ⟨i0, hi, hz0, hz1, hz2⟩ := info_parts infoInstr
  clear hX hlen
  go_enter Try.func24, Try.ntmps24
  go_wp2_with fail
  go_loopw [5, 6] (fun p i wr => ∃ (k m : Nat) (ao : Option Addr) (cc : Nat), k ≤ len ∧ k ≤ 10 ∧ m = 6 * k ∧ i = .int .i64 k ∧ p = .slice ao m cc ∧ wr.ownsRow w.heap.size 63 4 (.slice ao m cc) m (rowOf insEnc (swapFrom kk 0 (xs.take k))) ∧ Still w wr) (fun _ i _ => len - (intOf i).toNat)
  case atStart => exact ⟨0, 0, some ⟨w.heap.size, 0, none⟩, 0, Nat.zero_le _, Nat.zero_le _, rfl, rfl, rfl, World.ownsRow_made w #[] 0 (Nat.le_refl _) (by simp) (by simp), (Turned.refl _ _).alloc _⟩
  case round =>
    obtain ⟨k, m, ao, cc, hk, hk10, hm, rfl, rfl, hown, hT⟩ := hrel
    have HM := Lib.hid hm
    have hm60 : m ≤ 60 := by omega
    clear hm
    by_cases hlt : k < len
    · by_cases h10 : k < 10
      · obtain ⟨x, hx⟩ := get_some (l := xs) (i := k) (by rw [HL.out]; exact hlt)
        obtain ⟨b, o, rfl, hc0⟩ := HX.out k x hx
        have hc : wr.cell? ⟨b, o + k, none⟩ = some (.int .i64 x) := still_cell hT hc0 rfl
        have hbl := cell_lt hc
        have hbw : b < w.heap.size := cell_lt hc0
        have hwr : w.heap.size ≤ wr.heap.size := hT.size
        have HO := Lib.hid hown
        have HT := Lib.hid hT
        have HXX := Lib.hid hx
        clear hx hown hT
        go_wp2_with (first | (at_builtin; refine wpList_append_own_at _ rfl (.tmp 21) (.tmp 29) 49 rfl w.heap.size 63 i0 (.agg #[.int .i64 0, .int .i64 0, .int .i64 0, .int .i64 0]) 4 32 Try.underlying49 hi hz0 hz1 hz2 rfl (by decide) (.slice ao m cc) m _ rfl (own_turned HO.out ((Turned.refl (fun _ => False) wr).alloc _) (fun _ _ h => h)) ⟨wr.heap.size, 0, none⟩ 3 3 [.int .i64 2, .int .i64 0, .int .i64 1, .int .i64 0, .int .i64 3, .int .i64 (1 + (kk : Int)), .int .i64 1, .int .i64 0, .int .i64 2, .int .i64 (1 + (kk : Int)), .int .i64 0, .int .i64 0] rfl rfl (new_cells wr _ _) (ints_all rfl) (by unfold maxLen; omega) (by omega) (by simp; omega) ?_; intro v1 w1 hown1 hg1 _ _; obtain ⟨a1, c1, rfl⟩ := own_slice hown1; have hT1 := (HT.out.alloc (.cells #[.int .i64 2, .int .i64 0, .int .i64 1, .int .i64 0, .int .i64 3, .int .i64 (1 + (kk : Int)), .int .i64 1, .int .i64 0, .int .i64 2, .int .i64 (1 + (kk : Int)), .int .i64 0, .int .i64 0] 63)).grown hg1 (fun q e => .inr (HO.out.lt q e).1); have hsz1 := hT1.size; have hc1 : w1.cell? ⟨b, o + k, none⟩ = some (.int .i64 x) := (hT1.cell (p := ⟨b, o + k, none⟩) hbw (fun h => h)).trans hc0; have hO1 := Lib.hid hown1; have HT1 := Lib.hid hT1; clear hown1 hg1 hT1) | (at_builtin; refine wpList_append_own_at _ rfl (.tmp 31) (.tmp 40) 49 rfl w.heap.size 63 i0 (.agg #[.int .i64 0, .int .i64 0, .int .i64 0, .int .i64 0]) 4 32 Try.underlying49 hi hz0 hz1 hz2 rfl (by decide) (.slice a1 (m + 3) c1) (m + 3) _ rfl (own_turned hO1.out ((Turned.refl (fun _ => False) w1).alloc _) (fun _ _ h => h)) ⟨w1.heap.size, 0, none⟩ 3 3 [.int .i64 6, .int .i64 0, .int .i64 0, .int .i64 x, .int .i64 4, .int .i64 0, .int .i64 0, .int .i64 1, .int .i64 7, .int .i64 0, .int .i64 1, .int .i64 m] rfl rfl (new_cells w1 _ _) (ints_all rfl) (by unfold maxLen; omega) (by omega) (by simp; omega) ?_; intro v2 w2 hown2 hg2 _ _; obtain ⟨a2, c2, rfl⟩ := own_slice hown2; have hT2 := (HT1.out.alloc (.cells #[.int .i64 6, .int .i64 0, .int .i64 0, .int .i64 x, .int .i64 4, .int .i64 0, .int .i64 0, .int .i64 1, .int .i64 7, .int .i64 0, .int .i64 1, .int .i64 m] 63)).grown hg2 (fun q e => .inr (hO1.out.lt q e).1); have hO2 := Lib.hid hown2; have HT2 := Lib.hid hT2; clear hown2 hg2 hT2))
        go_roundw
        case rel =>
          refine ⟨k + 1, m + 3 + 3, a2, c2, by omega, by omega, by have := HM.out; omega, by go_num, rfl, ?_, HT2.out⟩
          have h := hO2.out
          rw [List.take_add_one, HXX.out]
          have hs := swapFrom_snoc kk 0 (xs.take k) x
          have hlk : (xs.take k).length = k := by rw [List.length_take, HL.out]; omega
          rw [hlk, Nat.zero_add] at hs
          have e : rowOf insEnc (swapFrom kk 0 (xs.take k ++ [x])) = rowOf insEnc (swapFrom kk 0 (xs.take k)) ++ [.int .i64 2, .int .i64 0, .int .i64 1, .int .i64 0, .int .i64 3, .int .i64 (1 + (kk : Int)), .int .i64 1, .int .i64 0, .int .i64 2, .int .i64 (1 + (kk : Int)), .int .i64 0, .int .i64 0] ++ [.int .i64 6, .int .i64 0, .int .i64 0, .int .i64 x, .int .i64 4, .int .i64 0, .int .i64 0, .int .i64 1, .int .i64 7, .int .i64 0, .int .i64 1, .int .i64 m] := by
            rw [hs, rowOf_append, show (m : Int) = 6 * (k : Int) by have := HM.out; omega, List.append_assoc]; rfl
          show w2.ownsRow w.heap.size 63 4 (.slice a2 (m + 3 + 3) c2) (m + 3 + 3) (rowOf insEnc (swapFrom kk 0 (xs.take k ++ [x])))
          rw [e]
          exact h
        case measure => simp [intOf]; omega
      · have HO := Lib.hid hown
        have HT := Lib.hid hT
        clear hown hT
        go_wp2_with fail
        go_ret
        have e : xs.take 10 = xs.take k := by rw [show k = 10 by omega]
        have hlk : (swapFrom kk 0 (xs.take k)).length = m := by
          rw [swapFrom_len, List.length_take, HL.out]; have := HM.out; omega
        refine ⟨ao, cc, ?_, ?_, HT.out⟩
        · first | (rw [e, hlk]; rfl) | rw [e, hlk]
        · rw [e, hlk]; exact HO.out
    · have HO := Lib.hid hown
      have HT := Lib.hid hT
      clear hown hT
      go_wp2_with fail
      go_ret
      have e : xs.take 10 = xs.take k := by rw [List.take_of_length_le (by rw [HL.out]; omega), List.take_of_length_le (by rw [HL.out]; omega)]
      have hlk : (swapFrom kk 0 (xs.take k)).length = m := by
        rw [swapFrom_len, List.length_take, HL.out]; have := HM.out; omega
      refine ⟨ao, cc, ?_, ?_, HT.out⟩
      · first | (rw [e, hlk]; rfl) | rw [e, hlk]
      · rw [e, hlk]; exact HO.out
end Go.Proofs.Ytkeacdhjkhojhaa
