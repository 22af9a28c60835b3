/- HandleBack: the walk. No condition. -/
import Derived.Test.YtefjlanibemdaaaHandleLive
namespace Go.Proofs.Ytefjlanibemdaaa
open Go.RowKit
set_option linter.unusedVariables false
set_option maxRecDepth 100000

set_option maxHeartbeats 1000000 in
theorem walk_HandleBack (h s g : Int) (w : World) (h0 : (Lit.int .i64 h).wf = true) (h1 : (Lit.int .i64 s).wf = true) (h2 : (Lit.int .i64 g).wf = true) :
    Calls Try.prog 4 #[.int .i64 h, .int .i64 s, .int .i64 g] w fun e w' => e = .returned (.bool true) ∧ Still w w' := by
  have H1 := Lib.hid (fun W => of_any s g W)
  have H2 := Lib.hid (fun W => slot_any h W)
  have H3 := Lib.hid (fun W => gen_any h W)
  clear h0 h1 h2
  by_cases hi : haIs h
  · rw [slV_ok hi] at H2
    rw [geV_ok hi] at H3
    have H4 := Lib.hid (fun W => of_any ((h - 1) % 128) ((h - 1) / 128) W)
    rw [haV_ok (by obtain ⟨h1, h2⟩ := hi; unfold sgOk; omega), show (h - 1) / 128 * 128 + (h - 1) % 128 + 1 = h by omega] at H4
    obtain ⟨S, hS⟩ : ∃ S, S = (h - 1) % 128 := ⟨_, rfl⟩
    obtain ⟨G, hG⟩ : ∃ S, S = (h - 1) / 128 := ⟨_, rfl⟩
    have hh : h = G * 128 + S + 1 := by omega
    have hS0 : 0 ≤ S ∧ S < 128 := by omega
    rw [← hS] at H2 H4
    rw [← hG] at H3 H4
    clear hS hG hi
    by_cases ho : sgOk s g
    · rw [haV_ok ho] at H1
      obtain ⟨a1, a2, a3, a4⟩ := ho
      have H5 := Lib.hid (fun W => slot_any (g * 128 + s + 1) W)
      have H6 := Lib.hid (fun W => gen_any (g * 128 + s + 1) W)
      rw [slV_ok (by unfold haIs; omega), show (g * 128 + s + 1 - 1) % 128 = s by omega] at H5
      rw [geV_ok (by unfold haIs; omega), show (g * 128 + s + 1 - 1) / 128 = g by omega] at H6
      have HE := Lib.hid (show g * 128 + s + 1 = h ↔ S = s ∧ G = g by omega)
      generalize g * 128 + s + 1 = x at *
      clear hh
      go_enter Try.func4, Try.ntmps4
      go_wp2_with fail
      refine (works4 _).mono ?_
      rintro e w1 ⟨rfl, hst⟩
      have HST := Lib.hid hst
      clear hst
      go_wp2_with fail
      refine (H1.out _).mono ?_
      rintro e w' ⟨rfl, rfl⟩
      go_wp2_with fail
      refine (H5.out _).mono ?_
      rintro e w' ⟨rfl, rfl⟩
      go_wp2_with fail
      refine (H6.out _).mono ?_
      rintro e w' ⟨rfl, rfl⟩
      go_wp2_with fail
      refine (H2.out _).mono ?_
      rintro e w' ⟨rfl, rfl⟩
      go_wp2_with fail
      refine (H3.out _).mono ?_
      rintro e w' ⟨rfl, rfl⟩
      go_wp2_with fail
      refine (H4.out _).mono ?_
      rintro e w' ⟨rfl, rfl⟩
      go_wp2_with fail
      all_goals (go_ret; refine ⟨ret_bool ?_, HST.out⟩; have HF := HE.out; first | (simp; rw [Bool.eq_iff_iff]; simp; omega) | (simp; omega))
    · rw [haV_no ho] at H1
      clear hh ho
      go_enter Try.func4, Try.ntmps4
      go_wp2_with fail
      refine (works4 _).mono ?_
      rintro e w1 ⟨rfl, hst⟩
      have HST := Lib.hid hst
      clear hst
      go_wp2_with fail
      refine (H1.out _).mono ?_
      rintro e w' ⟨rfl, rfl⟩
      go_wp2_with fail
      refine (H2.out _).mono ?_
      rintro e w' ⟨rfl, rfl⟩
      go_wp2_with fail
      refine (H3.out _).mono ?_
      rintro e w' ⟨rfl, rfl⟩
      go_wp2_with fail
      refine (H4.out _).mono ?_
      rintro e w' ⟨rfl, rfl⟩
      go_wp2_with fail
      go_ret
      exact ⟨by simp, HST.out⟩
  · rw [slV_no hi] at H2
    clear H3 hi
    by_cases ho : sgOk s g
    · rw [haV_ok ho] at H1
      obtain ⟨a1, a2, a3, a4⟩ := ho
      have H5 := Lib.hid (fun W => slot_any (g * 128 + s + 1) W)
      have H6 := Lib.hid (fun W => gen_any (g * 128 + s + 1) W)
      rw [slV_ok (by unfold haIs; omega), show (g * 128 + s + 1 - 1) % 128 = s by omega] at H5
      rw [geV_ok (by unfold haIs; omega), show (g * 128 + s + 1 - 1) / 128 = g by omega] at H6
      generalize g * 128 + s + 1 = x at *
      go_enter Try.func4, Try.ntmps4
      go_wp2_with fail
      refine (works4 _).mono ?_
      rintro e w1 ⟨rfl, hst⟩
      have HST := Lib.hid hst
      clear hst
      go_wp2_with fail
      refine (H1.out _).mono ?_
      rintro e w' ⟨rfl, rfl⟩
      go_wp2_with fail
      refine (H5.out _).mono ?_
      rintro e w' ⟨rfl, rfl⟩
      go_wp2_with fail
      refine (H6.out _).mono ?_
      rintro e w' ⟨rfl, rfl⟩
      go_wp2_with fail
      refine (H2.out _).mono ?_
      rintro e w' ⟨rfl, rfl⟩
      go_wp2_with fail
      go_ret
      exact ⟨by simp, HST.out⟩
    · rw [haV_no ho] at H1
      clear ho
      go_enter Try.func4, Try.ntmps4
      go_wp2_with fail
      refine (works4 _).mono ?_
      rintro e w1 ⟨rfl, hst⟩
      have HST := Lib.hid hst
      clear hst
      go_wp2_with fail
      refine (H1.out _).mono ?_
      rintro e w' ⟨rfl, rfl⟩
      go_wp2_with fail
      refine (H2.out _).mono ?_
      rintro e w' ⟨rfl, rfl⟩
      go_wp2_with fail
      go_ret
      exact ⟨by simp, HST.out⟩
end Go.Proofs.Ytefjlanibemdaaa
