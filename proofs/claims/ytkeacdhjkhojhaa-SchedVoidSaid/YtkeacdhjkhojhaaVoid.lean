/- What a machine of sessions answers that no call made, or none: it has and does nothing. No condition. -/
import Derived.Test.YtkeacdhjkhojhaaSchedFair
namespace Go.Proofs.Ytkeacdhjkhojhaa
open Go.RowKit Go.Shelf
attribute [local go_sem] Oper.semAt_some
set_option linter.unusedVariables false
set_option maxRecDepth 100000

/-- No machine, or one that no call made. -/
def Vd (w : World) (p : Option Addr) : Prop := p = none ∨ ∃ zb, p = some ⟨zb, 0, none⟩ ∧ Blk w zb [.pointer none, .slice none 0 0] 56
theorem Vd.turned {S : Nat → Prop} {w w' : World} {p : Option Addr} (h : Vd w p) (ht : Turned S w w') (hs : ∀ x, p = some x → ¬ S x.block) : Vd w' p := by
  rcases h with rfl | ⟨zb, rfl, hb⟩
  · exact .inl rfl
  · exact .inr ⟨zb, rfl, hb.turned ht (hs ⟨zb, 0, none⟩ rfl)⟩
theorem Vd.still {w w' : World} {p : Option Addr} (h : Vd w p) (ht : Still w w') : Vd w' p := h.turned ht (fun _ _ h => h)

variable {w : World} {p : Option Addr}

theorem session_vd (H : Vd w p) (k : Int) : Calls Try.prog 46 #[.pointer p, .int .i64 k] w fun e w' => e = .returned (.pointer none) ∧ w = w' := by
  rcases H with rfl | ⟨zb, rfl, hb⟩
  · go_enter Try.func46, Try.ntmps46
    go_wp2_with fail
    go_ret
    exact ⟨rfl, rfl⟩
  · have h1 : w.cell? ⟨zb, 1, none⟩ = some (.slice none 0 0) := hb.cell rfl
    have hi : inB k 0 = false := by
      unfold inB
      by_cases h0 : 0 ≤ k
      · rw [show decide (k < (0 : Int)) = false from decide_eq_false (by omega), Bool.and_false]
      · rw [show decide (0 ≤ k) = false from decide_eq_false h0, Bool.false_and]
    have HW := Lib.hid (within_any k 0 w)
    rw [hi] at HW
    clear hb hi
    go_enter Try.func46, Try.ntmps46
    go_wp2_with fail
    refine HW.out.mono ?_
    rintro e w' ⟨rfl, rfl⟩
    go_wp2_with fail
    go_ret
    exact ⟨rfl, rfl⟩

theorem index_vd (w : World) : Calls Try.prog 71 #[.slice none 0 0, .func (.func 49) #[] #[]] w fun e w' => e = .returned (.int .i64 (-1)) ∧ w = w' := by
  go_enter Try.func71, Try.ntmps71
  go_wp2_with fail
  go_loop [8] (fun i => i = .int .i64 0) (fun i => 0)
  case atStart => rfl
  case round =>
    subst hrel
    go_wp2_with fail
    go_ret
    exact ⟨rfl, rfl⟩

theorem contains_vd (w : World) : Calls Try.prog 61 #[.slice none 0 0, .func (.func 49) #[] #[]] w fun e w' => e = .returned (.bool false) ∧ w = w' := by
  go_enter Try.func61, Try.ntmps61
  go_wp2_with fail
  refine (index_vd _).mono ?_
  rintro e w' ⟨rfl, rfl⟩
  go_wp2_with fail
  go_ret
  exact ⟨rfl, rfl⟩

theorem allOver_vd (H : Vd w p) : Calls Try.prog 43 #[.pointer p] w fun e w' => e = .returned (.bool true) ∧ w = w' := by
  rcases H with rfl | ⟨zb, rfl, hb⟩
  · go_enter Try.func43, Try.ntmps43
    go_wp2_with fail
    go_ret
    exact ⟨rfl, rfl⟩
  · have h1 : w.cell? ⟨zb, 1, none⟩ = some (.slice none 0 0) := hb.cell rfl
    clear hb
    go_enter Try.func43, Try.ntmps43
    go_wp2_with fail
    refine (contains_vd _).mono ?_
    rintro e w' ⟨rfl, rfl⟩
    go_wp2_with fail
    go_ret
    exact ⟨rfl, rfl⟩

theorem over_vd (H : Vd w p) (k : Int) : Calls Try.prog 27 #[.pointer p, .int .i64 k] w fun e w' => e = .returned (.bool true) ∧ w = w' := by
  have HS := Lib.hid (session_vd H k)
  clear H
  go_enter Try.func27, Try.ntmps27
  go_wp2_with fail
  refine HS.out.mono ?_
  rintro e w' ⟨rfl, rfl⟩
  go_wp2_with fail
  go_ret
  exact ⟨rfl, rfl⟩

theorem at_vd (H : Vd w p) (k : Int) : Calls Try.prog 20 #[.pointer p, .int .i64 k] w fun e w' => e = .returned (.int .i64 0) ∧ w = w' := by
  have HS := Lib.hid (session_vd H k)
  clear H
  go_enter Try.func20, Try.ntmps20
  go_wp2_with fail
  refine HS.out.mono ?_
  rintro e w' ⟨rfl, rfl⟩
  go_wp2_with fail
  go_ret
  exact ⟨rfl, rfl⟩

theorem registers_vd (H : Vd w p) (k : Int) : Calls Try.prog 21 #[.pointer p, .int .i64 k] w fun e w' => e = .returned (.agg #[.int .i64 0, .int .i64 0, .int .i64 0, .int .i64 0]) ∧ Still w w' := by
  have HS := Lib.hid (session_vd (H.still ((Turned.refl _ w).alloc (.cells #[.int .i64 0, .int .i64 0, .int .i64 0, .int .i64 0] 41))) k)
  clear H
  go_enter Try.func21, Try.ntmps21
  go_wp2_with fail
  refine HS.out.mono ?_
  rintro e w' ⟨rfl, rfl⟩
  go_wp2_with fail
  exact bodyPost_ret (v := .agg #[.int .i64 0, .int .i64 0, .int .i64 0, .int .i64 0]) (by simp [results, Try.results21, go_sem]) rfl ⟨rfl, (Turned.refl _ _).alloc _⟩

theorem made_nil (w : World) : Calls Try.prog 64 #[.pointer none] w fun e w' => e = .returned (.bool false) ∧ w = w' := by
  go_enter Try.func64, Try.ntmps64
  go_wp2_with fail
  go_ret
  exact ⟨rfl, rfl⟩

theorem all_nil (w : World) : Calls Try.prog 47 #[.pointer none] w fun e w' => e = .returned (.slice none 0 0) ∧ w = w' := by
  go_enter Try.func47, Try.ntmps47
  go_wp2_with fail
  refine (made_nil _).mono ?_
  rintro e w' ⟨rfl, rfl⟩
  go_wp2_with fail
  go_ret
  exact ⟨rfl, rfl⟩

theorem cells_vd (H : Vd w p) : Calls Try.prog 23 #[.pointer p] w fun e w' => e = .returned (.slice none 0 0) ∧ w = w' := by
  rcases H with rfl | ⟨zb, rfl, hb⟩
  · go_enter Try.func23, Try.ntmps23
    go_wp2_with fail
    go_ret
    exact ⟨rfl, rfl⟩
  · have h1 : w.cell? ⟨zb, 0, none⟩ = some (.pointer none) := hb.cell rfl
    clear hb
    go_enter Try.func23, Try.ntmps23
    go_wp2_with fail
    refine (all_nil _).mono ?_
    rintro e w' ⟨rfl, rfl⟩
    go_wp2_with fail
    go_ret
    exact ⟨rfl, rfl⟩

theorem holder_vd (H : Vd w p) (k : Int) : Calls Try.prog 26 #[.pointer p, .int .i64 k] w fun e w' => e = .returned (.int .i64 (-1)) ∧ w = w' := by
  rcases H with rfl | ⟨zb, rfl, hb⟩
  · go_enter Try.func26, Try.ntmps26
    go_wp2_with fail
    go_ret
    exact ⟨rfl, rfl⟩
  · have h1 : w.cell? ⟨zb, 0, none⟩ = some (.pointer none) := hb.cell rfl
    clear hb
    go_enter Try.func26, Try.ntmps26
    go_wp2_with fail
    go_ret
    exact ⟨rfl, rfl⟩

theorem step_vd (H : Vd w p) (k : Int) : Calls Try.prog 14 #[.pointer p, .int .i64 k] w fun e w' => e = .returned (.bool false) ∧ w = w' := by
  have HS := Lib.hid (over_vd H k)
  clear H
  go_enter Try.func14, Try.ntmps14
  go_wp2_with fail
  refine HS.out.mono ?_
  rintro e w' ⟨rfl, rfl⟩
  go_wp2_with fail
  go_ret
  exact ⟨rfl, rfl⟩
end Go.Proofs.Ytkeacdhjkhojhaa
