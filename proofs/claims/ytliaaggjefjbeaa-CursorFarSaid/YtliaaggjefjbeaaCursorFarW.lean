/- CursorFar: the walk. No condition but that the program's cursor keeps its words. -/
import Derived.Test.YtliaaggjefjbeaaWorks7
namespace Go.Proofs.Ytliaaggjefjbeaa
open Go.RowKit
set_option linter.unusedVariables false
set_option linter.unusedSimpArgs false
set_option maxRecDepth 100000

set_option maxHeartbeats 2000000 in
theorem far_walk (A : CursorApi) (a h t m : Int) (w : World) (wa : w64 a) (wh : w64 h) (wt : w64 t) :
    Calls Try.prog 7 #[.int .i64 a, .int .i64 h, .int .i64 t, .int .i64 m] w fun e w' => e = .returned (.bool true) ∧ Still w w' := by
  have C2 := Lib.hid (fun W => A.behind a h t W wa wh wt)
  have W7 := Lib.hid (fun W => works7 A W)
  by_cases h0 : mvE a h t = 0
  · obtain ⟨g1, g2, g3, g4, g5⟩ := mvE_ok_iff.1 h0
    obtain ⟨k, hk⟩ : ∃ k : Nat, k = (1099511627776 - t + 1).toNat := ⟨_, rfl⟩
    have hk' : (1099511627776 : Int) - t + 1 = (k : Nat) := by omega
    obtain ⟨y, hy⟩ : ∃ y, y = am m k := ⟨_, rfl⟩
    have hyk : y < k := by rw [hy]; exact am_lt _ (by omega)
    have B1 := Lib.hid (fun W => among_lit m (1099511627776 - t + 1) k y hk' hy (by omega) (by omega) W)
    have e1 : mvE a h (t + (y : Int)) = 0 := mvE_ok_iff.2 ⟨g1, by omega, by omega, g4, by omega⟩
    have C3 := Lib.hid (fun W => A.behind a h (t + (y : Int)) W wa wh ⟨by omega, by omega⟩)
    have b1 : bhN a h (t + (y : Int)) = bhN a h t + y ∧ 0 ≤ bhN a h t ∧ bhN a h t ≤ 1099511627776 := by
      rcases Int.lt_or_le a h with h6 | h6
      · rw [(move_to h0 h6).2.2.2, (move_to e1 h6).2.2.2]; omega
      · rw [(move_at h0 h6).2.2.2, (move_at e1 h6).2.2.2]; omega
    obtain ⟨b1, b2, b3⟩ := b1
    rw [e1, b1] at C3
    rw [h0] at C2
    generalize bhN a h t = n at *
    have hy2 : (y : Int) ≤ 1099511627776 - t := by omega
    have hy3 : (0 : Int) ≤ y := by omega
    clear hk hk' hy hyk h0 e1 b1
    generalize (y : Int) = z at *
    go_enter Try.func7, Try.ntmps7
    go_wp2_with fail
    refine (W7.out _).mono ?_
    rintro e w0 ⟨rfl, h0⟩
    go_wp2_with fail
    refine (C2.out _).mono ?_
    rintro e w1 ⟨rfl, h1⟩
    have h1 := h0.trans h1
    go_wp2_with fail
    refine (B1.out _).mono ?_
    rintro e w' ⟨rfl, rfl⟩
    go_wp2_with fail
    refine (C3.out _).mono ?_
    rintro e w3 ⟨rfl, h3⟩
    go_wp2_with fail
    go_ret
    exact ⟨by simp, h1.trans h3⟩
  · obtain ⟨p1, p2, p3, p4, p5⟩ := move_no h0
    rw [p4, p5] at C2
    clear h0 p1 p2 p3 p4 p5
    go_enter Try.func7, Try.ntmps7
    go_wp2_with fail
    refine (W7.out _).mono ?_
    rintro e w0 ⟨rfl, h0⟩
    go_wp2_with fail
    refine (C2.out _).mono ?_
    rintro e w1 ⟨rfl, h1⟩
    go_wp2_with fail
    go_ret
    exact ⟨by simp, h0.trans h1⟩
end Go.Proofs.Ytliaaggjefjbeaa
