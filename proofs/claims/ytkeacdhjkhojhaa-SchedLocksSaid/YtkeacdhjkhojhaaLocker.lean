/- The programs of sessions that add under a lock, as the statement makes them. No condition but that the numbers read as a list. -/
import Derived.Test.YtkeacdhjkhojhaaSwapper
import Derived.Test.YtkeacdhjkhojhaaLockMath
namespace Go.Proofs.Ytkeacdhjkhojhaa
open Go.RowKit
set_option linter.unusedVariables false
set_option linter.unusedSimpArgs false
set_option maxRecDepth 100000

def LkPost (w : World) (l : List Int) (e : Ending) (w' : World) : Prop :=
  ∃ a c, e = .returned (.slice a (lockFrom l).length c) ∧ w'.ownsRow w.heap.size 63 4 (.slice a (lockFrom l).length c) (lockFrom l).length (rowOf insEnc (lockFrom l)) ∧ Still w w'

set_option maxHeartbeats 2000000 in
theorem locker_any (a : Option Addr) (len cap : Nat) (xs : List Int) (hlen : xs.length = len) (hmax : len ≤ 9223372036854775807) (w : World) (hX : NumsAt w a xs) :
    Calls Try.prog 25 #[.slice a len cap] w (LkPost w (xs.take 10)) := by
  have HX := Lib.hid hX
  have HL := Lib.hid hlen
  obtain ⟨i0, hi, hz0, hz1, hz2⟩ := info_parts infoInstr
  clear hX hlen
  go_enter Try.func25, Try.ntmps25
  go_wp2_with fail
  go_loopw [3, 4] (fun p i wr => ∃ (k m : Nat) (ao : Option Addr) (cc : Nat), k ≤ len ∧ k ≤ 10 ∧ m = 5 * k ∧ i = .int .i64 k ∧ p = .slice ao m cc ∧ wr.ownsRow w.heap.size 63 4 (.slice ao m cc) m (rowOf insEnc (lockFrom (xs.take k))) ∧ Still w wr) (fun _ i _ => len - (intOf i).toNat)
  case atStart => exact ⟨0, 0, some ⟨w.heap.size, 0, none⟩, 0, Nat.zero_le _, Nat.zero_le _, rfl, rfl, rfl, World.ownsRow_made w #[] 0 (Nat.le_refl _) (by simp) (by simp), (Turned.refl _ _).alloc _⟩
  case round =>
    obtain ⟨k, m, ao, cc, hk, hk10, hm, rfl, rfl, hown, hT⟩ := hrel
    have HM := Lib.hid hm
    have hm60 : m ≤ 60 := by omega
    clear hm
    by_cases hlt : k < len
    · by_cases h10 : k < 10
      · obtain ⟨x, hx⟩ := get_some (l := xs) (i := k) (by rw [HL.out]; exact hlt)
        obtain ⟨b, o, rfl, hc0⟩ := HX.out k x hx
        have hc : wr.cell? ⟨b, o + k, none⟩ = some (.int .i64 x) := still_cell hT hc0 rfl
        have hbl := cell_lt hc
        have hbw : b < w.heap.size := cell_lt hc0
        have hwr : w.heap.size ≤ wr.heap.size := hT.size
        have HO := Lib.hid hown
        have HT := Lib.hid hT
        have HXX := Lib.hid hx
        clear hx hown hT
        go_wp2_with (at_builtin; refine wpList_append_own_at _ rfl (.tmp 16) (.tmp 26) 49 rfl w.heap.size 63 i0 (.agg #[.int .i64 0, .int .i64 0, .int .i64 0, .int .i64 0]) 4 32 Try.underlying49 hi hz0 hz1 hz2 rfl (by decide) (.slice ao m cc) m _ rfl (own_turned HO.out ((Turned.refl (fun _ => False) wr).alloc _) (fun _ _ h => h)) ⟨wr.heap.size, 0, none⟩ 5 5 [.int .i64 9, .int .i64 0, .int .i64 0, .int .i64 0, .int .i64 2, .int .i64 1, .int .i64 0, .int .i64 0, .int .i64 6, .int .i64 0, .int .i64 0, .int .i64 x, .int .i64 3, .int .i64 1, .int .i64 0, .int .i64 0, .int .i64 10, .int .i64 0, .int .i64 0, .int .i64 0] rfl rfl (new_cells wr _ _) (ints_all rfl) (by unfold maxLen; omega) (by omega) (by simp; omega) ?_; intro v2 w2 hown2 hg2 _ _; obtain ⟨a2, c2, rfl⟩ := own_slice hown2; have hT2 := (HT.out.alloc (.cells #[.int .i64 9, .int .i64 0, .int .i64 0, .int .i64 0, .int .i64 2, .int .i64 1, .int .i64 0, .int .i64 0, .int .i64 6, .int .i64 0, .int .i64 0, .int .i64 x, .int .i64 3, .int .i64 1, .int .i64 0, .int .i64 0, .int .i64 10, .int .i64 0, .int .i64 0, .int .i64 0] 63)).grown hg2 (fun q e => .inr (HO.out.lt q e).1); have hO2 := Lib.hid hown2; have HT2 := Lib.hid hT2; clear hown2 hg2 hT2)
        go_roundw
        case rel =>
          refine ⟨k + 1, m + 5, a2, c2, by omega, by omega, by have := HM.out; omega, by go_num, rfl, ?_, HT2.out⟩
          have h := hO2.out
          rw [List.take_add_one, HXX.out]
          have e : rowOf insEnc (lockFrom (xs.take k ++ [x])) = rowOf insEnc (lockFrom (xs.take k)) ++ [.int .i64 9, .int .i64 0, .int .i64 0, .int .i64 0, .int .i64 2, .int .i64 1, .int .i64 0, .int .i64 0, .int .i64 6, .int .i64 0, .int .i64 0, .int .i64 x, .int .i64 3, .int .i64 1, .int .i64 0, .int .i64 0, .int .i64 10, .int .i64 0, .int .i64 0, .int .i64 0] := by
            rw [lockFrom_snoc, rowOf_append]; rfl
          show w2.ownsRow w.heap.size 63 4 (.slice a2 (m + 5) c2) (m + 5) (rowOf insEnc (lockFrom (xs.take k ++ [x])))
          rw [e]
          exact h
        case measure => simp [intOf]; omega
      · have HO := Lib.hid hown
        have HT := Lib.hid hT
        clear hown hT
        go_wp2_with fail
        go_ret
        have e : xs.take 10 = xs.take k := by rw [show k = 10 by omega]
        have hlk : (lockFrom (xs.take k)).length = m := by
          rw [lockFrom_len, List.length_take, HL.out]; have := HM.out; omega
        refine ⟨ao, cc, ?_, ?_, HT.out⟩
        · first | (rw [e, hlk]; rfl) | rw [e, hlk]
        · rw [e, hlk]; exact HO.out
    · have HO := Lib.hid hown
      have HT := Lib.hid hT
      clear hown hT
      go_wp2_with fail
      go_ret
      have e : xs.take 10 = xs.take k := by rw [List.take_of_length_le (by rw [HL.out]; omega), List.take_of_length_le (by rw [HL.out]; omega)]
      have hlk : (lockFrom (xs.take k)).length = m := by
        rw [lockFrom_len, List.length_take, HL.out]; have := HM.out; omega
      refine ⟨ao, cc, ?_, ?_, HT.out⟩
      · first | (rw [e, hlk]; rfl) | rw [e, hlk]
      · rw [e, hlk]; exact HO.out
end Go.Proofs.Ytkeacdhjkhojhaa
