/- The chapter's examples of layer 7. No condition but that the program's cursor keeps its words. -/
import Derived.Test.YtliaaggjefjbeaaCursorApi
import Derived.Deep.RegionHeld3
namespace Go.Proofs.Ytliaaggjefjbeaa
open Go.RowKit
set_option linter.unusedVariables false
set_option linter.unusedSimpArgs false
set_option maxRecDepth 100000

set_option maxHeartbeats 1000000 in
theorem works7 (A : CursorApi) (w : World) : Calls Try.prog 20 #[] w fun e w' => e = .returned (.bool true) ∧ Still w w' := by
  have C1 := Lib.hid (fun W => A.move 3 5 9 W (w64_lit (by omega) (by omega)) (w64_lit (by omega) (by omega)) (w64_lit (by omega) (by omega)))
  have C2 := Lib.hid (fun W => A.behind 3 5 9 W (w64_lit (by omega) (by omega)) (w64_lit (by omega) (by omega)) (w64_lit (by omega) (by omega)))
  have C3 := Lib.hid (fun W ao h => A.slow W ao [4, 2, 3] 3 3 rfl h (by omega))
  rw [show mvA 3 5 9 = 5 by decide, show mvF 3 5 9 = 3 by decide, show mvT 3 5 9 = 5 by decide, show mvE 3 5 9 = 0 by decide] at C1
  rw [show bhN 3 5 9 = 4 by decide, show mvE 3 5 9 = 0 by decide] at C2
  rw [show slow [4, 2, 3] = 2 by decide] at C3
  go_enter Try.func20, Try.ntmps20
  go_wp2_with fail
  refine (C1.out _).mono ?_
  rintro e w1 ⟨rfl, h1⟩
  go_wp2_with fail
  refine (C2.out _).mono ?_
  rintro e w2 ⟨rfl, h2⟩
  obtain ⟨c0, c1⟩ := box_span h2
  have hB := Lib.hid (((h1.alloc (.cells #[.int .i64 3, .int .i64 5] 24)).trans h2).alloc (.cells #[.int .i64 4, .int .i64 2, .int .i64 3] 3))
  clear h1 h2 C1 C2
  go_wp2_with fail
  refine (C3.out _ _ (NumsAt.of_blk (Blk.new w2 (ints [4, 2, 3]) 3))).mono ?_
  rintro e w3 ⟨rfl, h3⟩
  go_wp2_with fail
  go_ret
  exact ⟨by simp, hB.out.trans h3⟩
end Go.Proofs.Ytliaaggjefjbeaa
