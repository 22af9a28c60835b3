/- What the program's cursor does in a ring's window: moveIn, Lost. No condition but that the ring is one. -/
import Derived.Test.YtliaaggjefjbeaaCursorDo
import Derived.Test.YtliaaggjefjbeaaRingApi7
import Derived.Test.YtliaaggjefjbeaaRingDo
namespace Go.Proofs.Ytliaaggjefjbeaa
open Go.RowKit
set_option linter.unusedVariables false
set_option linter.unusedSimpArgs false
set_option maxRecDepth 100000

theorem movein_any {w : World} {W : Nat → Prop} {q : Nat} {M : RM} {N : Nat} (H0 : (rT q M).at_ w W) (hM : M.Ok N) (hN : N < 1000000) (a : Int) :
    Calls Try.prog 36 #[.int .i64 a, .pointer (some ⟨q, 0, none⟩)] w fun e w' => e = .returned (moveV a (M.h : Int) (M.tail : Nat)) ∧ Still w w' := by
  obtain ⟨la, lc, pa, pc, H⟩ := H0
  have hw1 : Still w (w.alloc (.cells #[.int .i64 0, .int .i64 0] 24)) := (Turned.refl _ _).alloc _
  have HB := Lib.hid (fun V (hst : Still (w.alloc (.cells #[.int .i64 0, .int .i64 0] 24)) V) => box_cells (box_new hst))
  have HB2 := Lib.hid (fun V (hst : Still (w.alloc (.cells #[.int .i64 0, .int .i64 0] 24)) V) (x y : Int) => show (V.setCell ⟨w.heap.size, 0, none⟩ (.int .i64 x)).cell? ⟨w.heap.size, 0, none⟩ = some (.int .i64 x) ∧ ((V.setCell ⟨w.heap.size, 0, none⟩ (.int .i64 x)).setCell ⟨w.heap.size, 1, none⟩ (.int .i64 y)).cell? ⟨w.heap.size, 1, none⟩ = some (.int .i64 y) from
    ⟨((box_new hst).set 0 (.int .i64 x)).cell (o := 0) rfl, (((box_new hst).set 0 (.int .i64 x)).set 1 (.int .i64 y)).cell (o := 1) rfl⟩)
  have HW := Lib.hid (fun V (hst : Still (w.alloc (.cells #[.int .i64 0, .int .i64 0] 24)) V) (u u' : Value) => show Still w ((V.setCell ⟨w.heap.size, 0, none⟩ u).setCell ⟨w.heap.size, 1, none⟩ u') from ((hw1.trans hst).setCell (.inr (Nat.le_refl _)) _).setCell (.inr (Nat.le_refl _)) _)
  have h11 : Still (w.alloc (.cells #[.int .i64 0, .int .i64 0] 24)) (w.alloc (.cells #[.int .i64 0, .int .i64 0] 24)) := Turned.refl _ _
  have HR := Lib.hid (fun V (hst : Still (w.alloc (.cells #[.int .i64 0, .int .i64 0] 24)) V) => rroom_any (H.still (hw1.trans hst)) hM.pos)
  have HH := Lib.hid (fun V (hst : Still (w.alloc (.cells #[.int .i64 0, .int .i64 0] 24)) V) => rhead_any (H.still (hw1.trans hst)) hM.pos)
  have HT := Lib.hid (fun V (hst : Still (w.alloc (.cells #[.int .i64 0, .int .i64 0] 24)) V) => show Calls Try.prog 29 #[.pointer (some ⟨q, 0, none⟩)] V fun e w' => e = .returned (.int .i64 ((M.tail : Nat) : Int)) ∧ Still (w.alloc (.cells #[.int .i64 0, .int .i64 0] 24)) w' from (rtail_any (H.still (hw1.trans hst)) hM.pos M.tail (by rw [RM.refs_len]; rfl) (by have := hM.low; omega)).mono fun e w' ⟨he, hs⟩ => ⟨he, hst.trans hs⟩)
  have HM := Lib.hid (fun V (hst : Still (w.alloc (.cells #[.int .i64 0, .int .i64 0] 24)) V) => show Calls Try.prog 9 #[.int .i64 a, .int .i64 (M.h : Int), .int .i64 ((M.tail : Nat) : Int)] V fun e w' => e = .returned (moveV a (M.h : Int) (M.tail : Nat)) ∧ Still (w.alloc (.cells #[.int .i64 0, .int .i64 0] 24)) w' from (cmove7_any a (M.h : Int) (M.tail : Nat) V).mono fun e w' ⟨he, hs⟩ => ⟨he, hst.trans hs⟩)
  have hpos := hM.pos
  have hn0 : ¬ ((M.n : Int) = 0) := by omega
  unfold moveV spanV at HM ⊢
  generalize mvA a (M.h : Int) (M.tail : Nat) = x at *
  generalize mvF a (M.h : Int) (M.tail : Nat) = f at *
  generalize mvT a (M.h : Int) (M.tail : Nat) = g at *
  generalize mvE a (M.h : Int) (M.tail : Nat) = ee at *
  generalize ((M.tail : Nat) : Int) = t at *
  generalize (M.h : Int) = hh at *
  generalize M.n = nn at *
  clear H hM hN
  go_enter Try.func36, Try.ntmps36
  go_wp2_with (first
    | (go_at_call 46; ((with_reducible refine (HR.out _ (by assumption)).mono ?_)); rintro e w2 ⟨rfl, rfl⟩)
    | (go_at_call 31; ((with_reducible refine (HH.out _ (by assumption)).mono ?_)); rintro e w3 ⟨rfl, rfl⟩)
    | (go_at_call 29; ((with_reducible refine (HT.out _ (by assumption)).mono ?_)); rintro e w4 ⟨rfl, hT4⟩)
    | (go_at_call 9; ((with_reducible refine (HM.out _ (by assumption)).mono ?_)); rintro e w5 ⟨rfl, hT5⟩; obtain ⟨b1, b2, b3, b4⟩ := HB.out w5 hT5))
  obtain ⟨d1, d2⟩ := HB2.out w5 hT5 f g
  refine bodyPost_ret (v := .tuple #[.int .i64 x, spanV f g, .int .i64 ee]) (by simp [results, Try.results36, go_sem, spanV, d1, d2]) rfl ⟨rfl, ?_⟩
  exact HW.out _ hT5 _ _

theorem lost_any {w : World} {W : Nat → Prop} {q : Nat} {M : RM} {N : Nat} (H0 : (rT q M).at_ w W) (hM : M.Ok N) (hN : N < 1000000) (a : Int) :
    Calls Try.prog 24 #[.int .i64 a, .pointer (some ⟨q, 0, none⟩)] w fun e w' => e = .returned (.tuple #[.agg #[.int .i64 (M.lsF a), .int .i64 (M.lsT a)], .int .i64 (M.mvE a)]) ∧ Still w w' := by
  have hw1 : Still w (w.alloc (.cells #[.int .i64 0, .int .i64 0] 24)) := (Turned.refl _ _).alloc _
  have HI := Lib.hid (show Calls Try.prog 36 #[.int .i64 a, .pointer (some ⟨q, 0, none⟩)] (w.alloc (.cells #[.int .i64 0, .int .i64 0] 24)) fun e w' => e = .returned (moveV a (M.h : Int) (M.tail : Nat)) ∧ Still (w.alloc (.cells #[.int .i64 0, .int .i64 0] 24)) w' from movein_any (by obtain ⟨la, lc, pa, pc, H⟩ := H0; exact ⟨la, lc, pa, pc, H.still hw1⟩) hM hN a)
  have HB := Lib.hid (fun V (hst : Still (w.alloc (.cells #[.int .i64 0, .int .i64 0] 24)) V) => box_cells (box_new hst))
  have HB2 := Lib.hid (fun V (hst : Still (w.alloc (.cells #[.int .i64 0, .int .i64 0] 24)) V) (x y : Int) => show (V.setCell ⟨w.heap.size, 0, none⟩ (.int .i64 x)).cell? ⟨w.heap.size, 0, none⟩ = some (.int .i64 x) ∧ ((V.setCell ⟨w.heap.size, 0, none⟩ (.int .i64 x)).setCell ⟨w.heap.size, 1, none⟩ (.int .i64 y)).cell? ⟨w.heap.size, 1, none⟩ = some (.int .i64 y) from
    ⟨((box_new hst).set 0 (.int .i64 x)).cell (o := 0) rfl, (((box_new hst).set 0 (.int .i64 x)).set 1 (.int .i64 y)).cell (o := 1) rfl⟩)
  have HW := Lib.hid (fun V (hst : Still (w.alloc (.cells #[.int .i64 0, .int .i64 0] 24)) V) (u u' : Value) => show Still w ((V.setCell ⟨w.heap.size, 0, none⟩ u).setCell ⟨w.heap.size, 1, none⟩ u') from ((hw1.trans hst).setCell (.inr (Nat.le_refl _)) _).setCell (.inr (Nat.le_refl _)) _)
  unfold moveV spanV at HI
  unfold RM.lsF RM.lsT RM.mvE
  generalize mvA a (M.h : Int) (M.tail : Nat) = x at *
  generalize mvF a (M.h : Int) (M.tail : Nat) = f at *
  generalize mvT a (M.h : Int) (M.tail : Nat) = g at *
  generalize Go.Proofs.Ytliaaggjefjbeaa.mvE a (M.h : Int) (M.tail : Nat) = ee at *
  clear H0 hM hN hw1
  go_enter Try.func24, Try.ntmps24
  go_wp2_with (go_at_call 36; ((with_reducible refine HI.out.mono ?_)); rintro e w5 ⟨rfl, hT5⟩; obtain ⟨b1, b2, b3, b4⟩ := HB.out w5 hT5; have hT6 := hT5.alloc (.cells #[.int .i64 f, .int .i64 g] 24); obtain ⟨b5, b6, b7, b8⟩ := HB.out _ hT6)
  obtain ⟨d1, d2⟩ := HB2.out _ hT6 f g
  refine bodyPost_ret (v := .tuple #[.agg #[.int .i64 f, .int .i64 g], .int .i64 ee]) (by simp [results, Try.results24, go_sem, d1, d2]) rfl ⟨rfl, ?_⟩
  exact HW.out _ hT6 _ _
end Go.Proofs.Ytliaaggjefjbeaa
