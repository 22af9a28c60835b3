/- What postriderref01.Make does: for 1 to 64 a new plain memory, whose cells are 0 and had by nobody; for all other numbers none, and ErrArg. No condition. -/
import Derived.Test.YtdbmieofcdafkaaRef01
import Derived.BigRegion
import Derived.Deep.DeepCutAuto
namespace Go.Proofs.Ytdbmieofcdafkaa
open Go.RowKit
set_option linter.unusedVariables false
set_option maxRecDepth 100000

theorem infoInt : (Try.prog.info? 3).map (fun i => (i.zero, i.size, i.bytes)) = some (some (.int .i64 0), 1, 8) := by kernel_rfl

theorem rmake_arg (n : Int) (w : World) (h : ¬ (1 ≤ n ∧ n ≤ 64)) :
    Calls Try.prog 36 #[.int .i64 n] w fun e w' => e = .returned (.tuple #[.pointer none, .int .i64 2]) ∧ w = w' := by
  by_cases h1 : n < 1
  all_goals
    go_enter Try.func36, Try.ntmps36
    go_wp2
    go_ret2
    exact ⟨rfl, rfl⟩

theorem made_zero (n : Nat) : madeCells #[.int .i64 0] (n * 1) = (ints (List.replicate n 0)).toArray := by
  rw [made_row (enc := fun x : Int => [Value.int .i64 x]) 0 rfl (m := 1) (fun _ => rfl) (by omega)]
  congr 1
  induction n with
  | zero => rfl
  | succ n ih => rw [List.replicate_succ, rowOf_cons, ih]; rfl

def rA (n : Nat) : Obj := .cells (ints (List.replicate n 0)).toArray 3
theorem rinit (w : World) (n : Nat) (h1 : 1 ≤ n) (h2 : n ≤ 64) (x y z : Nat) (hx : x < 3) (hy : y < 3) (hz : z < 3) (hxy : x ≠ y) (hxz : x ≠ z) (hyz : y ≠ z) {S : Nat} (hS : S = w.heap.size) :
    ∃ rb vb bb wb, Value.pointer (some ⟨S + 3, 0, none⟩) = .pointer (some ⟨rb, 0, none⟩) ∧
      Ref ((((w.alloc (rA n)).alloc (rA n)).alloc (rA n)).alloc (.cells #[.slice (some ⟨S + x, 0, none⟩) n n, .slice (some ⟨S + y, 0, none⟩) n n, .slice (some ⟨S + z, 0, none⟩) n n] 96)).drew rb vb bb wb (stK n 0) ∧
      S ≤ rb ∧ S ≤ vb ∧ S ≤ bb ∧ S ≤ wb ∧ Still w ((((w.alloc (rA n)).alloc (rA n)).alloc (rA n)).alloc (.cells #[.slice (some ⟨S + x, 0, none⟩) n n, .slice (some ⟨S + y, 0, none⟩) n n, .slice (some ⟨S + z, 0, none⟩) n n] 96)).drew := by
  subst hS
  have hl := stK_len n 0 (by omega)
  have hz0 : vs (stK n 0) = List.replicate n 0 ∧ bys (stK n 0) = List.replicate n 0 ∧ wrs (stK n 0) = List.replicate n 0 := by simp [vs, bys, wrs, stK]
  have key : ∀ t, t < 3 → ∀ o : Obj, Blk ((((w.alloc (rA n)).alloc (rA n)).alloc (rA n)).alloc o) (w.heap.size + t) (ints (List.replicate n 0)) 3 := by
    intro t ht o
    obtain rfl | rfl | rfl : t = 0 ∨ t = 1 ∨ t = 2 := by omega
    · exact (((Blk.newAt _ _ _ rfl rfl).alloc _).alloc _).alloc _
    · exact ((Blk.newAt _ _ _ (by simp) rfl).alloc _).alloc _
    · exact (Blk.newAt _ _ _ (by simp) rfl).alloc _
  refine ⟨_, w.heap.size + x, w.heap.size + y, w.heap.size + z, rfl, ⟨?_, ?_, ?_, ?_, by omega, by omega, by omega, by omega, by omega, by omega, by omega, by omega⟩, by omega, by omega, by omega, by omega, ((((Turned.refl _ _).alloc _).alloc _).alloc _).alloc _ |>.drew⟩
  · rw [hl]; exact (Blk.newAt _ _ _ (by simp) rfl).drew
  · rw [hz0.1]; exact (key x hx _).drew
  · rw [hz0.2.1]; exact (key y hy _).drew
  · rw [hz0.2.2]; exact (key z hz _).drew

theorem rmake_ok (n : Nat) (w : World) (h1 : 1 ≤ n) (h2 : n ≤ 64) :
    Calls Try.prog 36 #[.int .i64 n] w fun e w' => ∃ rb vb bb wb, e = .returned (.tuple #[.pointer (some ⟨rb, 0, none⟩), .int .i64 0]) ∧ Ref w' rb vb bb wb (newSt n) ∧ w.heap.size ≤ rb ∧ w.heap.size ≤ vb ∧ w.heap.size ≤ bb ∧ w.heap.size ≤ wb ∧ Still w w' := by
  obtain ⟨i0, hi, hz0, hz1, hz2⟩ := info_parts infoInt
  have hb : (i0.bytes : Int) * (n : Int) ≤ 281474976710656 := by rw [hz2]; omega
  have hmk := fun W : World => run_make (P := Try.prog) W 23 3 i0 _ Try.underlying23 hi hz0 .i64 .i64 (n : Int) (n : Int) (Int.natCast_nonneg n) (Int.le_refl _) hb (by omega)
  simp only [hz1, Int.toNat_natCast, show Value.cells (.int .i64 0) = #[.int .i64 0] from rfl, made_zero] at hmk
  clear hi hz0 hz1 hz2 hb
  go_enter Try.func36, Try.ntmps36
  go_upto_region 3 with fail
  go_cut [4] (fun s4 wx => ∃ rb vb bb wb, s4 = .pointer (some ⟨rb, 0, none⟩) ∧ Ref wx rb vb bb wb (stK n 0) ∧ w.heap.size ≤ rb ∧ w.heap.size ≤ vb ∧ w.heap.size ≤ bb ∧ w.heap.size ≤ wb ∧ Still w wx)
  case first =>
    go_region
    all_goals (go_wp2_with fail; go_meet)
    all_goals first
      | exact rinit w n h1 h2 0 1 2 (by omega) (by omega) (by omega) (by omega) (by omega) (by omega) rfl
      | exact rinit w n h1 h2 0 2 1 (by omega) (by omega) (by omega) (by omega) (by omega) (by omega) rfl
      | exact rinit w n h1 h2 1 0 2 (by omega) (by omega) (by omega) (by omega) (by omega) (by omega) rfl
      | exact rinit w n h1 h2 1 2 0 (by omega) (by omega) (by omega) (by omega) (by omega) (by omega) rfl
      | exact rinit w n h1 h2 2 0 1 (by omega) (by omega) (by omega) (by omega) (by omega) (by omega) rfl
      | exact rinit w n h1 h2 2 1 0 (by omega) (by omega) (by omega) (by omega) (by omega) (by omega) rfl
  case rest =>
    obtain ⟨rb, vb, bb, wb, rfl, hR, g1, g2, g3, g4, hT⟩ := hcut
    clear hmk
    go_wp2
    go_loopw [5] (fun i wr => ∃ k : Nat, k ≤ n ∧ i = .int .i64 k ∧ Ref wr rb vb bb wb (stK n k) ∧ Still w wr) (fun i _ => n - (intOf i).toNat)
    case atStart => exact ⟨0, Nat.zero_le _, rfl, hR, hT⟩
    case round =>
      clear hR hT
      obtain ⟨k, hk, rfl, hR, hT⟩ := hrel
      have hhd := hR.hdB
      rw [stK_len n k hk] at hhd
      by_cases hlt : k < n
      · have hf := hR.rowB.free k
        have hc := hR.cellH (stK_get n k hlt)
        have HN := Lib.hid (hR.setH (stK_get n k hlt) (-1))
        have HT := Lib.hid (hT.setCell (p := ⟨bb, k, none⟩) (.inr g3) (.int .i64 (-1)))
        clear hR hT
        go_wp2
        go_roundw
        case rel => exact ⟨k + 1, by omega, by go_num, by have := HN.out; rwa [stK_step n k hlt] at this, HT.out⟩
        case measure => simp [intOf]; omega
      · obtain rfl : k = n := by omega
        have HM := Lib.hid hR
        clear hR
        go_wp2
        go_ret2
        exact ⟨_, _, _, _, rfl, by rw [← stK_end]; exact HM.out, g1, g2, g3, g4, hT⟩
end Go.Proofs.Ytdbmieofcdafkaa
