/- Which instructions the document's own machine takes: as the plain machine's rule tells. No condition. -/
import Derived.Test.YtdbmieofcdafkaaQMach
import Derived.Deep.DeepCutAuto
namespace Go.Proofs.Ytdbmieofcdafkaa
open Go.RowKit
set_option linter.unusedVariables false
set_option linter.unusedSimpArgs false
set_option maxRecDepth 100000

set_option maxHeartbeats 4000000 in
theorem qright_any (i : Ins) (c : Int) (n : Nat) (hn : n ≤ 64) (w : World) :
    Calls Try.prog 37 #[i.val, .int .i64 c, .int .i64 n] w fun e w' => e = .returned (.bool (rightB i c n)) ∧ Still w w' := by
  obtain ⟨op, ce, a, b⟩ := i
  unfold Ins.val
  dsimp only
  have HA := Lib.hid (qregister_any a)
  have HB := Lib.hid (qregister_any b)
  have hT := Lib.hid (fun x : Obj => (Turned.refl (fun _ => False) w).alloc x)
  have hb0 := Blk.new w [.int .i64 op, .int .i64 ce, .int .i64 a, .int .i64 b] 70
  have c0 := hb0.cell (o := 0) rfl
  have c2 := hb0.cell (o := 2) rfl
  have c3 := hb0.cell (o := 3) rfl
  have HC0 := Lib.hid c0
  have HC2 := Lib.hid c2
  have HC3 := Lib.hid c3
  clear hb0 c0 c2 c3
  have HI : Hid (∀ x y : Int, inB x y = (decide (0 ≤ x) && decide (x < y))) := Lib.hid (fun _ _ => rfl)
  go_enter Try.func37, Try.ntmps37
  go_upto_region 1 with fail
  go_cut [7] (fun s7 wx => s7 = .bool (inB ce c) ∧ wx = w.alloc (.cells #[.int .i64 op, .int .i64 ce, .int .i64 a, .int .i64 b] 70))
  case first =>
    by_cases h0 : 0 ≤ ce
    · by_cases h1 : ce < c
      · go_wp2_with fail
        go_meet
        exact ⟨by rw [HI.out]; simp [h0, h1], rfl⟩
      · go_wp2_with fail
        go_meet
        exact ⟨congrArg Value.bool (by rw [HI.out, decide_eq_true h0, decide_eq_false (show ¬ ce < c by omega)]; rfl), rfl⟩
    · go_wp2_with fail
      go_meet
      exact ⟨congrArg Value.bool (by rw [HI.out, decide_eq_false (show ¬ 0 ≤ ce by omega)]; rfl), rfl⟩
  case rest =>
    obtain ⟨rfl, rfl⟩ := hcut
    go_upto_region 2 with fail
    go_cut [8] (fun s8 wx => s8 = .bool (inB b ((n : Int) + 1)) ∧ wx = w.alloc (.cells #[.int .i64 op, .int .i64 ce, .int .i64 a, .int .i64 b] 70))
    case first =>
      by_cases h0 : 0 ≤ b
      · by_cases h1 : b ≤ n
        · go_wp2_with fail
          go_meet
          exact ⟨by rw [HI.out]; simp [h0]; omega, rfl⟩
        · go_wp2_with fail
          go_meet
          exact ⟨congrArg Value.bool (by rw [HI.out, decide_eq_true h0, decide_eq_false (show ¬ b < (n : Int) + 1 by omega)]; rfl), rfl⟩
      · go_wp2_with fail
        go_meet
        exact ⟨congrArg Value.bool (by rw [HI.out, decide_eq_false (show ¬ 0 ≤ b by omega)]; rfl), rfl⟩
    case rest =>
      obtain ⟨rfl, rfl⟩ := hcut
      by_cases hop : 1 ≤ op ∧ op ≤ 10
      · rcases (show op = 1 ∨ op = 2 ∨ op = 3 ∨ op = 4 ∨ op = 5 ∨ op = 6 ∨ op = 7 ∨ op = 8 ∨ op = 9 ∨ op = 10 by omega) with rfl | rfl | rfl | rfl | rfl | rfl | rfl | rfl | rfl | rfl
        all_goals clear hop
        all_goals first
          | (go_wp2_with (first
              | (go_at_call 60; ((with_reducible refine (HA.out _).mono ?_); rintro e w' ⟨rfl, rfl⟩))
              | (go_at_call 60; ((with_reducible refine (HB.out _).mono ?_); rintro e w' ⟨rfl, rfl⟩)))
             go_ret
             refine ⟨ret_bool ?_, hT.out _⟩
             (simp [rightB]; done))
          | (cases hic : inB ce c <;> cases hra : regB a
             all_goals
              (rw [hra] at HA
               go_wp2_with (first
                | (go_at_call 60; ((with_reducible refine (HA.out _).mono ?_); rintro e w' ⟨rfl, rfl⟩))
                | (go_at_call 60; ((with_reducible refine (HB.out _).mono ?_); rintro e w' ⟨rfl, rfl⟩)))
               go_ret
               refine ⟨ret_bool ?_, hT.out _⟩
               simp [rightB, hic, hra]))
      · have e : ∀ k : Int, 1 ≤ k → k ≤ 10 → op ≠ k := fun k h1 h2 h3 => hop (by omega)
        have e' : ∀ k : Int, 1 ≤ k → k ≤ 10 → (op == k) = false := fun k h1 h2 => by simpa using e k h1 h2
        have f1 := e' 1 (by omega) (by omega)
        have f2 := e' 2 (by omega) (by omega)
        have f3 := e' 3 (by omega) (by omega)
        have f4 := e' 4 (by omega) (by omega)
        have f5 := e' 5 (by omega) (by omega)
        have f6 := e' 6 (by omega) (by omega)
        have f7 := e' 7 (by omega) (by omega)
        have f8 := e' 8 (by omega) (by omega)
        have f9 := e' 9 (by omega) (by omega)
        have f10 := e' 10 (by omega) (by omega)
        have hr : rightB ⟨op, ce, a, b⟩ c n = false := by
          cases h : rightB ⟨op, ce, a, b⟩ c n with
          | false => rfl
          | true => exact absurd (rightB_op h) hop
        have HR := Lib.hid hr
        clear e e' hop hr HA HB
        go_wp2_with fail
        go_ret
        exact ⟨ret_bool HR.out.symm, hT.out _⟩
end Go.Proofs.Ytdbmieofcdafkaa
