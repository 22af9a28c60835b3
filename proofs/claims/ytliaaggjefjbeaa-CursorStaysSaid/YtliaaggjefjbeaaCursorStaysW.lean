/- CursorStays: the walk. No condition but that the program's cursor keeps its words. -/
import Derived.Test.YtliaaggjefjbeaaWorks7
namespace Go.Proofs.Ytliaaggjefjbeaa
open Go.RowKit
set_option linter.unusedVariables false
set_option linter.unusedSimpArgs false
set_option maxRecDepth 100000

set_option maxHeartbeats 2000000 in
theorem stays_walk (A : CursorApi) (a h t : Int) (w : World) (wa : w64 a) (wh : w64 h) (wt : w64 t) :
    Calls Try.prog 5 #[.int .i64 a, .int .i64 h, .int .i64 t] w fun e w' => e = .returned (.bool true) ∧ Still w w' := by
  have C1 := Lib.hid (fun W => A.move a h t W wa wh wt)
  have C2 := Lib.hid (fun W => A.behind a h t W wa wh wt)
  have W7 := Lib.hid (fun W => works7 A W)
  by_cases h0 : mvE a h t = 0
  · obtain ⟨g1, g2, g3, g4, g5⟩ := mvE_ok_iff.1 h0
    obtain ⟨x, hx⟩ : ∃ x, x = mvA a h t := ⟨_, rfl⟩
    obtain ⟨m1, m2, m3, _⟩ := moved_in h0
    rw [← hx] at m1 m2 m3
    have hx64 : w64 x := ⟨by omega, by omega⟩
    have e0 : mvE x h t = 0 := mvE_ok_iff.2 ⟨g1, by omega, g3, m3, m2⟩
    have C3 := Lib.hid (fun W => A.move x h t W hx64 wh wt)
    have C4 := Lib.hid (fun W => A.behind x h t W hx64 wh wt)
    have C5 := Lib.hid (fun W => A.seek x h t W hx64 wh wt)
    obtain ⟨p1, p2, p3, p4⟩ := move_at e0 m1
    have s0 : skE x h t = 0 := by unfold skE; rw [if_pos (ckE_ok g1 (by omega) g3), if_neg (by omega)]
    have s1 : skA x h t = x := if_pos s0
    have b1 : bhN a h t = t - x := by unfold bhN; rw [if_pos h0, hx]
    rw [p1, p2, p3, e0] at C3
    rw [p4, e0] at C4
    rw [s0, s1] at C5
    rw [b1, h0] at C2
    rw [← hx, h0] at C1
    have hsp : (mvF a h t = 0 ∧ mvT a h t = 0) ∨ (mvF a h t = a ∧ mvT a h t = h ∧ a < h) := by
      rcases Int.lt_or_le a h with h6 | h6
      · exact .inr ⟨(move_to h0 h6).2.1, (move_to h0 h6).2.2.1, h6⟩
      · exact .inl ⟨(move_at h0 h6).2.1, (move_at h0 h6).2.2.1⟩
    generalize mvF a h t = f at *
    generalize mvT a h t = g at *
    clear hx wa wh wt hx64 h0 e0 p1 p2 p3 p4 s0 s1 b1
    have HSP := Lib.hid hsp
    clear hsp
    go_enter Try.func5, Try.ntmps5
    go_wp2_with fail
    refine (W7.out _).mono ?_
    rintro e w0 ⟨rfl, h0⟩
    go_wp2_with fail
    refine (C1.out _).mono ?_
    rintro e w1 ⟨rfl, h1⟩
    have h1 := h0.trans h1
    go_wp2_with fail
    refine (C3.out _).mono ?_
    rintro e w2 ⟨rfl, h2⟩
    go_wp2_with fail
    refine (C2.out _).mono ?_
    rintro e w3 ⟨rfl, h3⟩
    go_wp2_with fail
    refine (C4.out _).mono ?_
    rintro e w4 ⟨rfl, h4⟩
    go_wp2_with fail
    refine (C5.out _).mono ?_
    rintro e w5 ⟨rfl, h5⟩
    have h25 := (h3.trans h4).trans h5
    obtain ⟨c0, c1⟩ := box_span ((h2.alloc (.cells #[.int .i64 0, .int .i64 0] 24)).trans h25)
    obtain ⟨d0, d1⟩ := box_span h25
    have HF := Lib.hid (((h1.alloc (.cells #[.int .i64 f, .int .i64 g] 24)).trans (h2.alloc (.cells #[.int .i64 0, .int .i64 0] 24))).trans h25)
    clear C1 C2 C3 C4 C5 W7 h0 h1 h2 h3 h4 h5 h25
    rcases HSP.out with ⟨rfl, rfl⟩ | ⟨rfl, rfl, h6⟩
    · clear HSP
      go_wp2_with fail
      all_goals
        go_ret
        exact ⟨by simp, HF.out⟩
    · clear HSP
      go_wp2_with fail
      all_goals
        go_ret
        refine ⟨?_, HF.out⟩
        first
        | (simp; done)
        | (simp; omega)
  · obtain ⟨p1, p2, p3, p4, p5⟩ := move_no h0
    rw [p1, p2, p3, p4] at C1
    clear C2 h0 p1 p2 p3 p4 p5
    go_enter Try.func5, Try.ntmps5
    go_wp2_with fail
    refine (W7.out _).mono ?_
    rintro e w0 ⟨rfl, h0⟩
    go_wp2_with fail
    refine (C1.out _).mono ?_
    rintro e w1 ⟨rfl, h1⟩
    go_wp2_with fail
    go_ret
    exact ⟨by simp, (h0.trans h1).alloc _⟩
end Go.Proofs.Ytliaaggjefjbeaa
