/- The chapter's example holds, and leaves all that was there as it was. No condition. -/
import Derived.Test.YtgdpalefhikbfaaCellMake
namespace Go.Proofs.Ytgdpalefhikbfaa
open Go.RowKit
set_option linter.unusedVariables false

theorem works1 (w : World) : Calls Try.prog 10 #[] w fun e w' => e = .returned (.bool true) ∧ Still w w' := by
  go_enter Try.func10, Try.ntmps10
  go_wp2_with fail
  refine (make_ok 2 _ (by omega) (by omega)).mono ?_
  rintro e w1 ⟨mb, ab, rfl, hM, hmb, hab, hT⟩
  have hA := Lib.hid (add_ok hM (i := 0) (c := ⟨0, -1, 0⟩) rfl 5)
  go_wp2_with fail
  refine hA.out.mono ?_
  rintro e w2 ⟨rfl, hM2, hT2⟩
  rw [show wrap64 (0 + 5) = 5 from IntWalk.wrap64_in _ (by omega), show wrap64 (0 + 1) = 1 from IntWalk.wrap64_in _ (by omega)] at hM2
  clear hA hM
  have hA := Lib.hid (swap_yes hM2 (i := 0) (c := ⟨5, -1, 1⟩) rfl 7)
  go_wp2_with fail
  refine hA.out.mono ?_
  rintro e w3 ⟨rfl, hM3, hT3⟩
  rw [show wrap64 (1 + 1) = 2 from IntWalk.wrap64_in _ (by omega)] at hM3
  clear hA hM2
  have hA := Lib.hid (load_ok hM3 (i := 0) (c := ⟨7, -1, 2⟩) rfl)
  have hB := Lib.hid (writes_ok hM3 (i := 0) (c := ⟨7, -1, 2⟩) rfl)
  have hC := Lib.hid (holder_ok hM3 (i := 0) (c := ⟨7, -1, 2⟩) rfl)
  clear hM3
  go_wp2_with fail
  refine hA.out.mono ?_
  rintro e w4 ⟨rfl, rfl⟩
  go_wp2_with fail
  refine hB.out.mono ?_
  rintro e w4 ⟨rfl, rfl⟩
  go_wp2_with fail
  refine hC.out.mono ?_
  rintro e w4 ⟨rfl, rfl⟩
  go_wp2_with fail
  go_ret
  exact ⟨rfl, (hT.pastOne hT2 hab).pastOne hT3 hab⟩
end Go.Proofs.Ytgdpalefhikbfaa
