/- HandleRises: the walk. No condition. -/
import Derived.Test.YtefjlanibemdaaaHandleLive
namespace Go.Proofs.Ytefjlanibemdaaa
open Go.RowKit
set_option linter.unusedVariables false
set_option maxRecDepth 100000

set_option maxHeartbeats 1000000 in
theorem walk_HandleRises (a b g m : Int) (w : World) (h0 : (Lit.int .i64 a).wf = true) (h1 : (Lit.int .i64 b).wf = true) (h2 : (Lit.int .i64 g).wf = true) (h3 : (Lit.int .i64 m).wf = true) :
    Calls Try.prog 6 #[.int .i64 a, .int .i64 b, .int .i64 g, .int .i64 m] w fun e w' => e = .returned (.bool true) ∧ Still w w' := by
  obtain ⟨A, hA⟩ : ∃ A, A = am a 128 := ⟨_, rfl⟩
  obtain ⟨B, hB⟩ : ∃ A, A = am b 128 := ⟨_, rfl⟩
  obtain ⟨G, hG⟩ : ∃ A, A = am g 1099511627775 := ⟨_, rfl⟩
  have hA1 : A < 128 := by rw [hA]; exact am_lt _ (by omega)
  have hB1 : B < 128 := by rw [hB]; exact am_lt _ (by omega)
  have hG1 : G < 1099511627775 := by rw [hG]; exact am_lt _ (by omega)
  obtain ⟨M, hM⟩ : ∃ A, A = am m (1099511627775 - G) := ⟨_, rfl⟩
  have hM1 : M < 1099511627775 - G := by rw [hM]; exact am_lt _ (by omega)
  have H1 := Lib.hid (fun W => among_lit a 128 128 A rfl hA (by omega) (by omega) W)
  have H2 := Lib.hid (fun W => among_lit b 128 128 B rfl hB (by omega) (by omega) W)
  have H3 := Lib.hid (fun W => among_lit g 1099511627775 1099511627775 G rfl hG (by omega) (by omega) W)
  have H4 := Lib.hid (fun W => among_lit m (1099511627775 - (G : Int)) (1099511627775 - G) M (by omega) hM (by omega) (by omega) W)
  have H5 := Lib.hid (fun W => of_any A G W)
  have H6 := Lib.hid (fun W => of_any B G W)
  have H7 := Lib.hid (fun W => of_any A ((G : Int) + 1 + M) W)
  rw [haV_ok (by unfold sgOk; omega)] at H5
  rw [haV_ok (by unfold sgOk; omega)] at H6
  rw [haV_ok (by unfold sgOk; omega)] at H7
  clear hA hB hG hM h0 h1 h2 h3
  go_enter Try.func6, Try.ntmps6
  go_wp2_with fail
  refine (works4 _).mono ?_
  rintro e w1 ⟨rfl, hst⟩
  have HST := Lib.hid hst
  clear hst
  go_wp2_with fail
  refine (H1.out _).mono ?_
  rintro e w' ⟨rfl, rfl⟩
  go_wp2_with fail
  refine (H2.out _).mono ?_
  rintro e w' ⟨rfl, rfl⟩
  go_wp2_with fail
  refine (H3.out _).mono ?_
  rintro e w' ⟨rfl, rfl⟩
  go_wp2_with fail
  refine (H4.out _).mono ?_
  rintro e w' ⟨rfl, rfl⟩
  go_wp2_with fail
  refine (H5.out _).mono ?_
  rintro e w' ⟨rfl, rfl⟩
  go_wp2_with fail
  refine (H6.out _).mono ?_
  rintro e w' ⟨rfl, rfl⟩
  go_wp2_with fail
  refine (H7.out _).mono ?_
  rintro e w' ⟨rfl, rfl⟩
  go_wp2_with fail
  all_goals first | (exfalso; omega) | (go_ret; exact ⟨by simp <;> omega, HST.out⟩)
end Go.Proofs.Ytefjlanibemdaaa
