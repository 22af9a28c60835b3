/- What cell.Make does: for 1 to 64 it hands out a new memory, whose cells are 0 and had by nobody; for all other numbers no memory, and ErrArg. No condition. -/
import Derived.Test.YtdbmieofcdafkaaCell
namespace Go.Proofs.Ytdbmieofcdafkaa
open Go.RowKit
set_option linter.unusedVariables false
set_option maxRecDepth 100000

theorem infoState : (Try.prog.info? 107).map (fun i => (i.zero, i.size, i.bytes)) = some (some (.agg #[.int .i64 0, .int .i64 0, .int .i64 0]), 3, 24) := by kernel_rfl

def stK (n k : Nat) : List Cel := List.replicate k ⟨0, -1, 0⟩ ++ List.replicate (n - k) ⟨0, 0, 0⟩
def newSt (n : Nat) : List Cel := List.replicate n ⟨0, -1, 0⟩
theorem stK_len (n k : Nat) (h : k ≤ n) : (stK n k).length = n := by simp [stK]; omega
theorem stK_zero (n : Nat) : stK n 0 = List.replicate n ⟨0, 0, 0⟩ := by simp [stK]
theorem stK_end (n : Nat) : stK n n = newSt n := by simp [stK, newSt]
theorem stK_get (n k : Nat) (h : k < n) : (stK n k)[k]? = some ⟨0, 0, 0⟩ := by
  obtain ⟨m, rfl⟩ : ∃ m, n = k + 1 + m := ⟨n - (k + 1), by omega⟩
  unfold stK
  rw [show k + 1 + m - k = m + 1 from by omega, List.getElem?_append_right (by simp)]
  simp [List.replicate_succ]
theorem stK_step (n k : Nat) (h : k < n) : (stK n k).set k ⟨0, -1, 0⟩ = stK n (k + 1) := by
  obtain ⟨m, rfl⟩ : ∃ m, n = k + 1 + m := ⟨n - (k + 1), by omega⟩
  unfold stK
  rw [show k + 1 + m - k = m + 1 from by omega, show k + 1 + m - (k + 1) = m from by omega, List.set_append_right _ _ (by simp)]
  rw [List.replicate_succ' (n := k), List.append_assoc]
  simp [List.replicate_succ]

theorem make_arg (n : Int) (w : World) (h : ¬ (1 ≤ n ∧ n ≤ 64)) :
    Calls Try.prog 33 #[.int .i64 n] w fun e w' => e = .returned (.tuple #[.pointer none, .int .i64 2]) ∧ w = w' := by
  by_cases h1 : n < 1
  all_goals
    go_enter Try.func33, Try.ntmps33
    go_wp2
    go_ret2
    exact ⟨rfl, rfl⟩

theorem make_ok (n : Nat) (w : World) (h1 : 1 ≤ n) (h2 : n ≤ 64) :
    Calls Try.prog 33 #[.int .i64 n] w fun e w' => ∃ mb ab, e = .returned (.tuple #[.pointer (some ⟨mb, 0, none⟩), .int .i64 0]) ∧ Mem w' mb ab (newSt n) ∧ w.heap.size ≤ mb ∧ w.heap.size ≤ ab ∧ Still w w' := by
  obtain ⟨i0, hi, hz0, hz1, hz2⟩ := info_parts infoState
  have hmk := run_make (P := Try.prog) w 103 107 i0 _ Try.underlying103 hi hz0 .i64 .i64 n n (by omega) (by omega) (by rw [hz2]; omega) (by omega)
  rw [hz1, Int.toNat_natCast, show Value.cells (.agg #[.int .i64 0, .int .i64 0, .int .i64 0]) = #[.int .i64 0, .int .i64 0, .int .i64 0] from rfl, made_row (enc := celEnc) ⟨0, 0, 0⟩ rfl celEnc_len (by omega), ← stK_zero] at hmk
  have hM : Mem ((w.alloc (.cells (rowOf celEnc (stK n 0)).toArray 107)).alloc (.cells #[.slice (some ⟨w.heap.size, 0, none⟩) n n] 105)) (w.heap.size + 1) w.heap.size (stK n 0) :=
    ⟨by rw [stK_len n 0 (by omega)]; exact Blk.newAt _ _ _ (by simp) rfl, (Blk.new _ _ _).alloc _, by omega, by rw [stK_len n 0 (by omega)]; omega, by rw [stK_len n 0 (by omega)]; omega⟩
  have hT : Still w ((w.alloc (.cells (rowOf celEnc (stK n 0)).toArray 107)).alloc (.cells #[.slice (some ⟨w.heap.size, 0, none⟩) n n] 105)) := ((Turned.refl _ _).alloc _).alloc _
  have hhd := hM.cellHd
  rw [stK_len n 0 (by omega)] at hhd
  clear hi hz0 hz1 hz2
  have HM := Lib.hid hM
  clear hM
  go_enter Try.func33, Try.ntmps33
  go_wp2
  go_loopw [21] (fun i wr => ∃ k : Nat, k ≤ n ∧ i = .int .i64 k ∧ Mem wr (w.heap.size + 1) w.heap.size (stK n k) ∧ Still w wr) (fun i _ => n - (intOf i).toNat)
  case atStart => exact ⟨0, Nat.zero_le _, rfl, HM.out, hT⟩
  case round =>
    clear hhd hmk hT HM
    obtain ⟨k, hk, rfl, hM, hT⟩ := hrel
    have hhd := hM.cellHd
    rw [stK_len n k hk] at hhd
    by_cases hlt : k < n
    · have hf := hM.row.free (k * 3 + 1)
      have hc := hM.cellH (stK_get n k hlt)
      have HN := Lib.hid (hM.setH (stK_get n k hlt) (-1))
      have HT := Lib.hid (hT.setCell (p := ⟨w.heap.size, k * 3 + 1, none⟩) (.inr (Nat.le_refl _)) (.int .i64 (-1)))
      clear hM hT
      go_wp2
      go_roundw
      case rel => exact ⟨k + 1, by omega, by go_num, by have := HN.out; rwa [stK_step n k hlt] at this, HT.out⟩
      case measure => simp [intOf]; omega
    · obtain rfl : k = n := by omega
      have HM := Lib.hid hM
      clear hM
      go_wp2
      go_ret2
      exact ⟨_, _, rfl, by rw [← stK_end]; exact HM.out, by omega, Nat.le_refl _, hT⟩
end Go.Proofs.Ytdbmieofcdafkaa
