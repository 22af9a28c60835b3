/- Which programs package sched takes: instruction by instruction, as the plain machine's rule tells. No condition but that the program reads as its instructions. -/
import Derived.Test.YtdbmieofcdafkaaClone
namespace Go.Proofs.Ytdbmieofcdafkaa
open Go.RowKit
set_option linter.unusedVariables false
set_option linter.unusedSimpArgs false
set_option maxRecDepth 100000

theorem within_lit (n m : Int) (b : Bool) (h : inB n m = b) (w : World) : Calls Try.prog 77 #[.int .i64 n, .int .i64 m] w fun e w' => e = .returned (.bool b) ∧ w = w' := h ▸ within_any n m w
theorem isRegister_lit (n : Int) (b : Bool) (h : regB n = b) (w : World) : Calls Try.prog 76 #[.int .i64 n] w fun e w' => e = .returned (.bool b) ∧ w = w' := h ▸ isRegister_any n w

set_option maxHeartbeats 2000000 in
theorem right_any (i : Ins) (c : Int) (n : Nat) (hn : n ≤ 64) (w : World) :
    Calls Try.prog 59 #[i.val, .int .i64 c, .int .i64 n] w fun e w' => e = .returned (.bool (rightB i c n)) ∧ Still w w' := by
  obtain ⟨op, ce, a, b⟩ := i
  unfold Ins.val
  dsimp only
  have HA := Lib.hid (isRegister_any a)
  have HB := Lib.hid (isRegister_any b)
  have HC := Lib.hid (within_any ce c)
  have HD := Lib.hid (within_any b ((n : Int) + 1))
  have hT := Lib.hid (fun x : Obj => (Turned.refl (fun _ => False) w).alloc x)
  by_cases hop : 1 ≤ op ∧ op ≤ 10
  · rcases (show op = 1 ∨ op = 2 ∨ op = 3 ∨ op = 4 ∨ op = 5 ∨ op = 6 ∨ op = 7 ∨ op = 8 ∨ op = 9 ∨ op = 10 by omega) with rfl | rfl | rfl | rfl | rfl | rfl | rfl | rfl | rfl | rfl
    all_goals clear hop
    all_goals simp only [rightB, Int.reduceEq, false_or, or_false, if_true, if_false, or_self, true_or, or_true]
    all_goals generalize regB a = ra at *
    all_goals generalize regB b = rb at *
    all_goals generalize inB ce c = ic at *
    all_goals generalize inB b ((n : Int) + 1) = ib at *
    · skip
      all_goals
        go_enter Try.func59, Try.ntmps59
        go_wp2_with (first
          | (go_at_call 76; ((with_reducible refine (HA.out _).mono ?_); rintro e w' ⟨rfl, rfl⟩))
          | (go_at_call 76; ((with_reducible refine (HB.out _).mono ?_); rintro e w' ⟨rfl, rfl⟩))
          | (go_at_call 77; ((with_reducible refine (HC.out _).mono ?_); rintro e w' ⟨rfl, rfl⟩))
          | (go_at_call 77; ((with_reducible refine (HD.out _).mono ?_); rintro e w' ⟨rfl, rfl⟩)))
        go_ret
        exact ⟨by simp, hT.out _⟩
    · cases ic
      all_goals
        go_enter Try.func59, Try.ntmps59
        go_wp2_with (first
          | (go_at_call 76; ((with_reducible refine (HA.out _).mono ?_); rintro e w' ⟨rfl, rfl⟩))
          | (go_at_call 76; ((with_reducible refine (HB.out _).mono ?_); rintro e w' ⟨rfl, rfl⟩))
          | (go_at_call 77; ((with_reducible refine (HC.out _).mono ?_); rintro e w' ⟨rfl, rfl⟩))
          | (go_at_call 77; ((with_reducible refine (HD.out _).mono ?_); rintro e w' ⟨rfl, rfl⟩)))
        go_ret
        exact ⟨by simp, hT.out _⟩
    · cases ic
      all_goals
        go_enter Try.func59, Try.ntmps59
        go_wp2_with (first
          | (go_at_call 76; ((with_reducible refine (HA.out _).mono ?_); rintro e w' ⟨rfl, rfl⟩))
          | (go_at_call 76; ((with_reducible refine (HB.out _).mono ?_); rintro e w' ⟨rfl, rfl⟩))
          | (go_at_call 77; ((with_reducible refine (HC.out _).mono ?_); rintro e w' ⟨rfl, rfl⟩))
          | (go_at_call 77; ((with_reducible refine (HD.out _).mono ?_); rintro e w' ⟨rfl, rfl⟩)))
        go_ret
        exact ⟨by simp, hT.out _⟩
    · cases ic <;> cases ra
      all_goals
        go_enter Try.func59, Try.ntmps59
        go_wp2_with (first
          | (go_at_call 76; ((with_reducible refine (HA.out _).mono ?_); rintro e w' ⟨rfl, rfl⟩))
          | (go_at_call 76; ((with_reducible refine (HB.out _).mono ?_); rintro e w' ⟨rfl, rfl⟩))
          | (go_at_call 77; ((with_reducible refine (HC.out _).mono ?_); rintro e w' ⟨rfl, rfl⟩))
          | (go_at_call 77; ((with_reducible refine (HD.out _).mono ?_); rintro e w' ⟨rfl, rfl⟩)))
        go_ret
        exact ⟨by simp, hT.out _⟩
    · cases ic
      all_goals
        go_enter Try.func59, Try.ntmps59
        go_wp2_with (first
          | (go_at_call 76; ((with_reducible refine (HA.out _).mono ?_); rintro e w' ⟨rfl, rfl⟩))
          | (go_at_call 76; ((with_reducible refine (HB.out _).mono ?_); rintro e w' ⟨rfl, rfl⟩))
          | (go_at_call 77; ((with_reducible refine (HC.out _).mono ?_); rintro e w' ⟨rfl, rfl⟩))
          | (go_at_call 77; ((with_reducible refine (HD.out _).mono ?_); rintro e w' ⟨rfl, rfl⟩)))
        go_ret
        exact ⟨by simp, hT.out _⟩
    · skip
      all_goals
        go_enter Try.func59, Try.ntmps59
        go_wp2_with (first
          | (go_at_call 76; ((with_reducible refine (HA.out _).mono ?_); rintro e w' ⟨rfl, rfl⟩))
          | (go_at_call 76; ((with_reducible refine (HB.out _).mono ?_); rintro e w' ⟨rfl, rfl⟩))
          | (go_at_call 77; ((with_reducible refine (HC.out _).mono ?_); rintro e w' ⟨rfl, rfl⟩))
          | (go_at_call 77; ((with_reducible refine (HD.out _).mono ?_); rintro e w' ⟨rfl, rfl⟩)))
        go_ret
        exact ⟨by simp, hT.out _⟩
    · cases ra
      all_goals
        go_enter Try.func59, Try.ntmps59
        go_wp2_with (first
          | (go_at_call 76; ((with_reducible refine (HA.out _).mono ?_); rintro e w' ⟨rfl, rfl⟩))
          | (go_at_call 76; ((with_reducible refine (HB.out _).mono ?_); rintro e w' ⟨rfl, rfl⟩))
          | (go_at_call 77; ((with_reducible refine (HC.out _).mono ?_); rintro e w' ⟨rfl, rfl⟩))
          | (go_at_call 77; ((with_reducible refine (HD.out _).mono ?_); rintro e w' ⟨rfl, rfl⟩)))
        go_ret
        exact ⟨by simp, hT.out _⟩
    · skip
      all_goals
        go_enter Try.func59, Try.ntmps59
        go_wp2_with (first
          | (go_at_call 76; ((with_reducible refine (HA.out _).mono ?_); rintro e w' ⟨rfl, rfl⟩))
          | (go_at_call 76; ((with_reducible refine (HB.out _).mono ?_); rintro e w' ⟨rfl, rfl⟩))
          | (go_at_call 77; ((with_reducible refine (HC.out _).mono ?_); rintro e w' ⟨rfl, rfl⟩))
          | (go_at_call 77; ((with_reducible refine (HD.out _).mono ?_); rintro e w' ⟨rfl, rfl⟩)))
        go_ret
        exact ⟨by simp, hT.out _⟩
    · skip
      all_goals
        go_enter Try.func59, Try.ntmps59
        go_wp2_with (first
          | (go_at_call 76; ((with_reducible refine (HA.out _).mono ?_); rintro e w' ⟨rfl, rfl⟩))
          | (go_at_call 76; ((with_reducible refine (HB.out _).mono ?_); rintro e w' ⟨rfl, rfl⟩))
          | (go_at_call 77; ((with_reducible refine (HC.out _).mono ?_); rintro e w' ⟨rfl, rfl⟩))
          | (go_at_call 77; ((with_reducible refine (HD.out _).mono ?_); rintro e w' ⟨rfl, rfl⟩)))
        go_ret
        exact ⟨by simp, hT.out _⟩
    · skip
      all_goals
        go_enter Try.func59, Try.ntmps59
        go_wp2_with (first
          | (go_at_call 76; ((with_reducible refine (HA.out _).mono ?_); rintro e w' ⟨rfl, rfl⟩))
          | (go_at_call 76; ((with_reducible refine (HB.out _).mono ?_); rintro e w' ⟨rfl, rfl⟩))
          | (go_at_call 77; ((with_reducible refine (HC.out _).mono ?_); rintro e w' ⟨rfl, rfl⟩))
          | (go_at_call 77; ((with_reducible refine (HD.out _).mono ?_); rintro e w' ⟨rfl, rfl⟩)))
        go_ret
        exact ⟨by simp, hT.out _⟩
  · have e : ∀ k : Int, 1 ≤ k → k ≤ 10 → op ≠ k := fun k h1 h2 h3 => hop (by omega)
    have e' : ∀ k : Int, 1 ≤ k → k ≤ 10 → (op == k) = false := fun k h1 h2 => by simpa using e k h1 h2
    have f1 := e' 1 (by omega) (by omega)
    have f2 := e' 2 (by omega) (by omega)
    have f3 := e' 3 (by omega) (by omega)
    have f4 := e' 4 (by omega) (by omega)
    have f5 := e' 5 (by omega) (by omega)
    have f6 := e' 6 (by omega) (by omega)
    have f7 := e' 7 (by omega) (by omega)
    have f8 := e' 8 (by omega) (by omega)
    have f9 := e' 9 (by omega) (by omega)
    have f10 := e' 10 (by omega) (by omega)
    have hr : rightB ⟨op, ce, a, b⟩ c n = false := by
      cases h : rightB ⟨op, ce, a, b⟩ c n with
      | false => rfl
      | true => exact absurd (rightB_op h) hop
    rw [hr]
    clear e e' hop hr HA HB HC HD
    go_enter Try.func59, Try.ntmps59
    go_wp2_with fail
    go_ret
    exact ⟨rfl, hT.out _⟩
end Go.Proofs.Ytdbmieofcdafkaa
