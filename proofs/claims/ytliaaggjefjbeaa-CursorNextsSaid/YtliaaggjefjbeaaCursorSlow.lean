/- What the program's Slowest answers: the least of its arguments, or 0. No condition but that there are not too many. -/
import Derived.Test.YtliaaggjefjbeaaCursor
import Derived.Test.YtliaaggjefjbeaaBase
namespace Go.Proofs.Ytliaaggjefjbeaa
open Go.RowKit
set_option linter.unusedVariables false
set_option linter.unusedSimpArgs false
set_option maxRecDepth 100000

set_option maxHeartbeats 1000000 in
theorem smin_any (w : World) (ao : Option Addr) (l : List Int) (n cap : Nat) (hn : n = l.length) (hA : NumsAt w ao l) (hpos : 1 ≤ n) (hmax : n ≤ 1000) :
    Calls Try.prog 32 #[.slice ao n cap] w fun e w' => e = .returned (.int .i64 (slow l)) ∧ w' = w := by
  have HN := Lib.hid hn
  have HA := Lib.hid hA
  have hmax' : (n : Int) ≤ 1000 := by omega
  have hpos' : (1 : Int) ≤ (n : Int) := by omega
  obtain ⟨x0, hx0⟩ := get_some (l := l) (i := 0) (by omega)
  obtain ⟨b, o, rfl, hc0⟩ := hA 0 x0 hx0
  have HS1 := Lib.hid (show slow (l.take 1) = x0 by rw [slow_take hx0, if_pos rfl])
  rw [Nat.add_zero] at hc0
  clear hn hA hmax hpos hx0
  go_enter Try.func32, Try.ntmps32
  go_wp2_with fail
  go_loopw [3, 4] (fun m i wr => ∃ k : Nat, 1 ≤ k ∧ k ≤ n ∧ i = .int .i64 k ∧ m = .int .i64 (slow (l.take k)) ∧ wr = w) (fun _ i _ => n - (intOf i).toNat)
  case atStart => exact ⟨1, Nat.le_refl _, by omega, rfl, by rw [HS1.out], rfl⟩
  case round =>
    obtain ⟨k, hk1, hk, rfl, rfl, rfl⟩ := hrel
    clear hc0 HS1
    by_cases hlt : k < n
    · obtain ⟨x, hx⟩ := get_some (l := l) (i := k) (by rw [← HN.out]; exact hlt)
      obtain ⟨b', o', hbo, hc⟩ := HA.out k x hx
      cases hbo
      have HS := Lib.hid (slow_take hx)
      clear hx HA
      generalize hs1 : slow (l.take (k + 1)) = s1 at *
      generalize hs : slow (l.take k) = s at *
      have h0 : k ≠ 0 := by omega
      by_cases hxs : x < s
      · have hif : (if (x : Int) < s then x else s) = x := if_pos hxs
        have e1 : s1 = x := by rw [HS.out, if_neg h0, lesser_lt hxs]
        clear HS
        go_wp2_with fail
        go_roundw
        case rel => exact ⟨k + 1, by omega, by omega, by go_num, by rw [hs1, e1], by trivial⟩
        case measure => simp [intOf]; omega
      · have hif : (if (x : Int) < s then x else s) = s := if_neg hxs
        have e1 : s1 = s := by rw [HS.out, if_neg h0, lesser_ge hxs]
        clear HS
        go_wp2_with fail
        go_roundw
        case rel => exact ⟨k + 1, by omega, by omega, by go_num, by rw [hs1, e1], by trivial⟩
        case measure => simp [intOf]; omega
    · have e : slow (l.take k) = slow l := slow_all (by rw [← HN.out]; omega)
      rw [e]
      go_wp2_with fail
      go_ret
      exact ⟨rfl, rfl⟩

theorem cslow7_any (w : World) (ao : Option Addr) (l : List Int) (n cap : Nat) (hn : n = l.length) (hA : NumsAt w ao l) (hmax : n ≤ 1000) :
    Calls Try.prog 17 #[.slice ao n cap] w fun e w' => e = .returned (.int .i64 (slow l)) ∧ w' = w := by
  by_cases h0 : n = 0
  · have e : slow l = 0 := by
      have : l = [] := List.eq_nil_of_length_eq_zero (by omega)
      rw [this]; rfl
    rw [e]
    subst h0
    clear hA hmax hn e
    go_enter Try.func17, Try.ntmps17
    go_wp2_with fail
    go_ret
    exact ⟨rfl, rfl⟩
  · have HM := Lib.hid (smin_any w ao l n cap hn hA (by omega) hmax)
    have hn0 : ¬ ((n : Int) = 0) := by omega
    clear hn hA hmax
    generalize slow l = s at *
    go_enter Try.func17, Try.ntmps17
    go_wp2_with (go_at_call 32; with_reducible refine HM.out.mono ?_; rintro e w' ⟨rfl, rfl⟩)
    go_ret
    exact ⟨rfl, rfl⟩
end Go.Proofs.Ytliaaggjefjbeaa
