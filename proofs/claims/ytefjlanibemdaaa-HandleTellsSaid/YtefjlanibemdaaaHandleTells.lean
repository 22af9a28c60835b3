/- HandleTells: the walk. No condition. -/
import Derived.Test.YtefjlanibemdaaaHandleLive
namespace Go.Proofs.Ytefjlanibemdaaa
open Go.RowKit
set_option linter.unusedVariables false
set_option maxRecDepth 100000

set_option maxHeartbeats 1000000 in
theorem walk_HandleTells (s g h : Int) (w : World) (h0 : (Lit.int .i64 s).wf = true) (h1 : (Lit.int .i64 g).wf = true) (h2 : (Lit.int .i64 h).wf = true) :
    Calls Try.prog 3 #[.int .i64 s, .int .i64 g, .int .i64 h] w fun e w' => e = .returned (.bool true) ∧ Still w w' := by
  have H1 := Lib.hid (fun W => of_any s g W)
  have H2 := Lib.hid (fun W => refOf_any s g W)
  have H3 := Lib.hid (fun W => slot_any h W)
  have H4 := Lib.hid (fun W => refSlot_any h W)
  have H5 := Lib.hid (fun W => gen_any h W)
  have H6 := Lib.hid (fun W => refGen_any h W)
  have H7 := Lib.hid (fun W => next_any h W)
  have H8 := Lib.hid (fun W => refNext_any h W)
  unfold haV at H1 H2
  unfold slV at H3 H4
  unfold geV at H5 H6
  unfold neV at H7 H8
  generalize haOf s g = x1 at *
  generalize haErr s g = x2 at *
  generalize slOf h = x3 at *
  generalize geOf h = x4 at *
  generalize isE h = x5 at *
  generalize neOf h = x6 at *
  generalize neErr h = x7 at *
  clear h0 h1 h2
  go_enter Try.func3, Try.ntmps3
  go_wp2_with fail
  refine (H1.out _).mono ?_
  rintro e w' ⟨rfl, rfl⟩
  go_wp2_with fail
  refine (H2.out _).mono ?_
  rintro e w' ⟨rfl, rfl⟩
  go_wp2_with fail
  refine (H3.out _).mono ?_
  rintro e w' ⟨rfl, rfl⟩
  go_wp2_with fail
  refine (H4.out _).mono ?_
  rintro e w' ⟨rfl, rfl⟩
  go_wp2_with fail
  refine (H5.out _).mono ?_
  rintro e w' ⟨rfl, rfl⟩
  go_wp2_with fail
  refine (H6.out _).mono ?_
  rintro e w' ⟨rfl, rfl⟩
  go_wp2_with fail
  refine (H7.out _).mono ?_
  rintro e w' ⟨rfl, rfl⟩
  go_wp2_with fail
  refine (H8.out _).mono ?_
  rintro e w' ⟨rfl, rfl⟩
  go_wp2_with fail
  refine (works4 _).mono ?_
  rintro e w3 ⟨rfl, hst⟩
  have HST3 := Lib.hid hst
  clear hst
  go_wp2_with fail
  go_ret
  exact ⟨by simp, HST3.out⟩
end Go.Proofs.Ytefjlanibemdaaa
