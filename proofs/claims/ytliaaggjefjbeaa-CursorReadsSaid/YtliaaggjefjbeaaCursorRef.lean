/- What the calls of the document's cursor do: Check, Move, Behind, Seek, Slowest. No condition. -/
import Derived.Test.YtliaaggjefjbeaaCursor
import Derived.Deep.RegionHeld3
namespace Go.Proofs.Ytliaaggjefjbeaa
open Go.RowKit
set_option linter.unusedVariables false
set_option linter.unusedSimpArgs false
set_option maxRecDepth 100000

theorem zcheck_any (h t : Int) (w : World) : Calls Try.prog 16 #[.int .i64 h, .int .i64 t] w fun e w' => e = .returned (.int .i64 (ckE h t)) ∧ w' = w := by
  by_cases h0 : h < 0 ∨ t < h ∨ 1099511627776 < t
  · rw [ckE_no h0]
    go_enter Try.func16, Try.ntmps16
    go_wp2_with fail
    all_goals (go_ret; exact ⟨rfl, rfl⟩)
  · have h1 : ¬ h < 0 := by omega
    have h2 : ¬ t < h := by omega
    have h3 : ¬ 1099511627776 < t := by omega
    rw [ckE_ok (by omega) (by omega) (by omega)]
    clear h0
    go_enter Try.func16, Try.ntmps16
    go_wp2_with fail
    go_ret
    exact ⟨rfl, rfl⟩

theorem zmove_any (a h t : Int) (w : World) : Calls Try.prog 10 #[.int .i64 a, .int .i64 h, .int .i64 t] w fun e w' => e = .returned (moveV a h t) ∧ Still w w' := by
  have HC := Lib.hid (fun W => zcheck_any h t W)
  by_cases h0 : mvE a h t = 0
  · obtain ⟨g1, g2, g3, g4, g5⟩ := mvE_ok_iff.1 h0
    rw [ckE_ok g1 g2 g3] at HC
    rcases Int.lt_or_le a h with h6 | h6
    · obtain ⟨e1, e2, e3, _⟩ := move_to h0 h6
      unfold moveV
      rw [e1, e2, e3, h0]
      clear h0 e1 e2 e3
      go_enter Try.func10, Try.ntmps10
      go_wp2_with (go_at_call 16; with_reducible refine (HC.out _).mono ?_; rintro e w' ⟨rfl, rfl⟩)
      refine bodyPost_ret (v := .tuple #[.int .i64 h, spanV a h, .int .i64 0]) (by simp [results, Try.results10, go_sem, spanV]) rfl ⟨rfl, ?_⟩
      exact (Turned.refl _ _).alloc _
    · obtain ⟨e1, e2, e3, _⟩ := move_at h0 h6
      unfold moveV
      rw [e1, e2, e3, h0]
      clear h0 e1 e2 e3
      go_enter Try.func10, Try.ntmps10
      go_wp2_with (go_at_call 16; with_reducible refine (HC.out _).mono ?_; rintro e w' ⟨rfl, rfl⟩)
      refine bodyPost_ret (v := .tuple #[.int .i64 a, spanV 0 0, .int .i64 0]) (by simp [results, Try.results10, go_sem, spanV]) rfl ⟨rfl, ?_⟩
      exact (Turned.refl _ _).alloc _
  · have h1 : ckE h t = 2 ∨ (ckE h t = 0 ∧ (a < 0 ∨ t < a)) := by
      rcases ckE_or h t with h1 | h1
      · refine .inr ⟨h1, ?_⟩
        unfold mvE at h0
        rw [h1] at h0
        simp at h0
        omega
      · exact .inl h1
    obtain ⟨e1, e2, e3, e4, _⟩ := move_no h0
    unfold moveV
    rw [e1, e2, e3, e4]
    clear h0 e1 e2 e3 e4
    rcases h1 with h1 | ⟨h1, h2⟩
    · rw [h1] at HC
      clear h1
      go_enter Try.func10, Try.ntmps10
      go_wp2_with (go_at_call 16; with_reducible refine (HC.out _).mono ?_; rintro e w' ⟨rfl, rfl⟩)
      refine bodyPost_ret (v := .tuple #[.int .i64 0, spanV 0 0, .int .i64 2]) (by simp [results, Try.results10, go_sem, spanV]) rfl ⟨rfl, ?_⟩
      exact (Turned.refl _ _).alloc _
    · rw [h1] at HC
      clear h1
      go_enter Try.func10, Try.ntmps10
      go_wp2_with (go_at_call 16; with_reducible refine (HC.out _).mono ?_; rintro e w' ⟨rfl, rfl⟩)
      all_goals
        refine bodyPost_ret (v := .tuple #[.int .i64 0, spanV 0 0, .int .i64 2]) (by simp [results, Try.results10, go_sem, spanV]) rfl ⟨rfl, ?_⟩
        exact (Turned.refl _ _).alloc _

theorem zbehind_any (a h t : Int) (w : World) : Calls Try.prog 12 #[.int .i64 a, .int .i64 h, .int .i64 t] w fun e w' => e = .returned (.tuple #[.int .i64 (bhN a h t), .int .i64 (mvE a h t)]) ∧ Still w w' := by
  have HM := Lib.hid (fun W => zmove_any a h t W)
  unfold moveV spanV at HM
  by_cases h0 : mvE a h t = 0
  · obtain ⟨g1, g2, g3, g4, g5⟩ := mvE_ok_iff.1 h0
    obtain ⟨m1, m2, m3, m4⟩ := moved_in h0
    have e1 : bhN a h t = t - mvA a h t := if_pos h0
    rw [e1, h0]
    rw [h0] at HM
    generalize mvA a h t = x at *
    generalize mvF a h t = f at *
    generalize mvT a h t = g at *
    clear h0 e1
    go_enter Try.func12, Try.ntmps12
    go_wp2_with (go_at_call 10; with_reducible refine (HM.out _).mono ?_; rintro e w' ⟨rfl, hst⟩)
    go_ret2
    exact ⟨by simp, hst.alloc _⟩
  · obtain ⟨e1, e2, e3, e4, e5⟩ := move_no h0
    rw [e5, e4]
    rw [e1, e2, e3, e4] at HM
    clear h0 e1 e2 e3 e4 e5
    go_enter Try.func12, Try.ntmps12
    go_wp2_with (go_at_call 10; with_reducible refine (HM.out _).mono ?_; rintro e w' ⟨rfl, hst⟩)
    go_ret2
    exact ⟨by simp, hst.alloc _⟩

theorem zseek_any (a h t : Int) (w : World) : Calls Try.prog 14 #[.int .i64 a, .int .i64 h, .int .i64 t] w fun e w' => e = .returned (.tuple #[.int .i64 (skA a h t), .int .i64 (skE a h t)]) ∧ w' = w := by
  have HC := Lib.hid (fun W => zcheck_any h t W)
  rcases ckE_or h t with h0 | h0
  · rw [h0] at HC
    by_cases h1 : a < h ∨ t < a
    · have e : skE a h t = 61 := by unfold skE; rw [if_pos h0, if_pos h1]
      have e' : skA a h t = 0 := by unfold skA; rw [e]; rfl
      rw [e', e]
      clear h0 e e'
      rcases Int.lt_or_le a h with h2 | h2
      all_goals
        go_enter Try.func14, Try.ntmps14
        go_wp2_with (go_at_call 16; with_reducible refine (HC.out _).mono ?_; rintro e w' ⟨rfl, rfl⟩)
        all_goals (go_ret2; exact ⟨by simp, by rfl⟩)
    · have e : skE a h t = 0 := by unfold skE; rw [if_pos h0, if_neg h1]
      have e' : skA a h t = a := by unfold skA; rw [if_pos e]
      have h2 : ¬ a < h := by omega
      have h3 : ¬ t < a := by omega
      rw [e', e]
      clear h0 h1 e e'
      go_enter Try.func14, Try.ntmps14
      go_wp2_with (go_at_call 16; with_reducible refine (HC.out _).mono ?_; rintro e w' ⟨rfl, rfl⟩)
      go_ret2
      exact ⟨by simp, by rfl⟩
  · have e : skE a h t = 2 := by unfold skE; rw [if_neg (by omega)]
    have e' : skA a h t = 0 := by unfold skA; rw [if_neg (by omega)]
    rw [e', e]
    rw [h0] at HC
    clear h0 e e'
    go_enter Try.func14, Try.ntmps14
    go_wp2_with (go_at_call 16; with_reducible refine (HC.out _).mono ?_; rintro e w' ⟨rfl, rfl⟩)
    go_ret2
    exact ⟨by simp, by rfl⟩

set_option maxHeartbeats 1000000 in
theorem zslow_any (w : World) (ao : Option Addr) (l : List Int) (n cap : Nat) (hn : n = l.length) (hA : NumsAt w ao l) (hmax : n ≤ 1000) :
    Calls Try.prog 19 #[.slice ao n cap] w fun e w' => e = .returned (.int .i64 (slow l)) ∧ w' = w := by
  have HN := Lib.hid hn
  have HA := Lib.hid hA
  have hmax' : (n : Int) ≤ 1000 := by omega
  clear hn hA hmax
  go_enter Try.func19, Try.ntmps19
  go_wp2_with fail
  go_loopw [3, 4] (fun m i wr => ∃ k : Nat, k ≤ n ∧ i = .int .i64 k ∧ m = .int .i64 (slow (l.take k)) ∧ wr = w) (fun _ i _ => n - (intOf i).toNat)
  case atStart => exact ⟨0, Nat.zero_le _, rfl, rfl, rfl⟩
  case round =>
    obtain ⟨k, hk, rfl, rfl, rfl⟩ := hrel
    by_cases hlt : k < n
    · obtain ⟨x, hx⟩ := get_some (l := l) (i := k) (by rw [← HN.out]; exact hlt)
      obtain ⟨b, o, rfl, hc⟩ := HA.out k x hx
      have HS := Lib.hid (slow_take hx)
      clear hx HA
      generalize hs1 : slow (l.take (k + 1)) = s1 at *
      generalize hs : slow (l.take k) = s at *
      by_cases h0 : k = 0
      · have e1 : s1 = x := by rw [HS.out, if_pos h0]
        subst h0
        rw [Nat.add_zero] at hc
        simp only [Int.natCast_zero]
        clear HS
        go_wp2_with fail
        go_roundw
        case rel => exact ⟨1, by omega, by go_num, by rw [hs1, e1], by trivial⟩
        case measure => simp [intOf]; omega
      · by_cases hxs : x < s
        · have e1 : s1 = x := by rw [HS.out, if_neg h0, lesser_lt hxs]
          clear HS
          go_wp2_with fail
          go_roundw
          case rel => exact ⟨k + 1, by omega, by go_num, by rw [hs1, e1], by trivial⟩
          case measure => simp [intOf]; omega
        · have e1 : s1 = s := by rw [HS.out, if_neg h0, lesser_ge hxs]
          clear HS
          go_wp2_with fail
          go_roundw
          case rel => exact ⟨k + 1, by omega, by go_num, by rw [hs1, e1], by trivial⟩
          case measure => simp [intOf]; omega
    · have e : slow (l.take k) = slow l := slow_all (by rw [← HN.out]; omega)
      rw [e]
      go_wp2_with fail
      go_ret
      exact ⟨rfl, rfl⟩
end Go.Proofs.Ytliaaggjefjbeaa
