/- The program's readers of a ring that no call made. No condition. -/
import Derived.Test.YtliaaggjefjbeaaRingNil7
import Derived.Test.YtliaaggjefjbeaaCursorVoidW
import Derived.Test.YtliaaggjefjbeaaCursorNext
import Derived.Test.YtliaaggjefjbeaaBx3
namespace Go.Proofs.Ytliaaggjefjbeaa
open Go.RowKit Go.Shelf
attribute [local go_sem] Oper.semAt_some
set_option linter.unusedVariables false
set_option linter.unusedSimpArgs false
set_option maxRecDepth 100000

section
variable {p : Option Addr} {W : World}

theorem nmovein (n : Int) (hp : NilR p W) : Calls Try.prog 36 #[.int .i64 n, .pointer p] W fun e w' => e = .returned (.tuple #[.int .i64 0, .agg #[.int .i64 0, .int .i64 0], .int .i64 1]) ∧ Still W w' := by
  have HR := Lib.hid (nrroom (hp.still ((Turned.refl _ W).alloc (.cells #[.int .i64 0, .int .i64 0] 24))))
  have hw1 : Still W (W.alloc (.cells #[.int .i64 0, .int .i64 0] 24)) := (Turned.refl _ _).alloc _
  have HB := Lib.hid (fun V (hst : Still (W.alloc (.cells #[.int .i64 0, .int .i64 0] 24)) V) => box_cells (box_new hst))
  have HB2 := Lib.hid (fun V (hst : Still (W.alloc (.cells #[.int .i64 0, .int .i64 0] 24)) V) (x y : Int) => show (V.setCell ⟨W.heap.size, 0, none⟩ (.int .i64 x)).cell? ⟨W.heap.size, 0, none⟩ = some (.int .i64 x) ∧ ((V.setCell ⟨W.heap.size, 0, none⟩ (.int .i64 x)).setCell ⟨W.heap.size, 1, none⟩ (.int .i64 y)).cell? ⟨W.heap.size, 1, none⟩ = some (.int .i64 y) from
    ⟨((box_new hst).set 0 (.int .i64 x)).cell (o := 0) rfl, (((box_new hst).set 0 (.int .i64 x)).set 1 (.int .i64 y)).cell (o := 1) rfl⟩)
  have HW := Lib.hid (fun V (hst : Still (W.alloc (.cells #[.int .i64 0, .int .i64 0] 24)) V) (u u' : Value) => show Still W ((V.setCell ⟨W.heap.size, 0, none⟩ u).setCell ⟨W.heap.size, 1, none⟩ u') from ((hw1.trans hst).setCell (.inr (Nat.le_refl _)) _).setCell (.inr (Nat.le_refl _)) _)
  clear hp hw1
  go_enter Try.func36, Try.ntmps36
  go_wp2_with (go_at_call 46; ((with_reducible refine HR.out.mono ?_)); rintro e w2 ⟨rfl, hT2⟩; obtain ⟨b1, b2, b3, b4⟩ := HB.out w2 hT2)
  obtain ⟨d1, d2⟩ := HB2.out w2 hT2 0 0
  refine bodyPost_ret (v := .tuple #[.int .i64 0, .agg #[.int .i64 0, .int .i64 0], .int .i64 1]) (by simp [results, Try.results36, go_sem, d1, d2]) rfl ⟨rfl, ?_⟩
  exact HW.out _ hT2 _ _

theorem nlost (n : Int) (hp : NilR p W) : Calls Try.prog 24 #[.int .i64 n, .pointer p] W fun e w' => e = .returned (.tuple #[.agg #[.int .i64 0, .int .i64 0], .int .i64 1]) ∧ Still W w' := by
  have HI := Lib.hid (nmovein n (hp.still ((Turned.refl _ W).alloc (.cells #[.int .i64 0, .int .i64 0] 24))))
  have hw1 : Still W (W.alloc (.cells #[.int .i64 0, .int .i64 0] 24)) := (Turned.refl _ _).alloc _
  have HB := Lib.hid (fun V (hst : Still (W.alloc (.cells #[.int .i64 0, .int .i64 0] 24)) V) => box_cells (box_new hst))
  have HB2 := Lib.hid (fun V (hst : Still (W.alloc (.cells #[.int .i64 0, .int .i64 0] 24)) V) (x y : Int) => show (V.setCell ⟨W.heap.size, 0, none⟩ (.int .i64 x)).cell? ⟨W.heap.size, 0, none⟩ = some (.int .i64 x) ∧ ((V.setCell ⟨W.heap.size, 0, none⟩ (.int .i64 x)).setCell ⟨W.heap.size, 1, none⟩ (.int .i64 y)).cell? ⟨W.heap.size, 1, none⟩ = some (.int .i64 y) from
    ⟨((box_new hst).set 0 (.int .i64 x)).cell (o := 0) rfl, (((box_new hst).set 0 (.int .i64 x)).set 1 (.int .i64 y)).cell (o := 1) rfl⟩)
  have HW := Lib.hid (fun V (hst : Still (W.alloc (.cells #[.int .i64 0, .int .i64 0] 24)) V) (u u' : Value) => show Still W ((V.setCell ⟨W.heap.size, 0, none⟩ u).setCell ⟨W.heap.size, 1, none⟩ u') from ((hw1.trans hst).setCell (.inr (Nat.le_refl _)) _).setCell (.inr (Nat.le_refl _)) _)
  clear hp hw1
  go_enter Try.func24, Try.ntmps24
  go_wp2_with (go_at_call 36; ((with_reducible refine HI.out.mono ?_)); rintro e w5 ⟨rfl, hT5⟩; obtain ⟨b1, b2, b3, b4⟩ := HB.out w5 hT5; have hT6 := hT5.alloc (.cells #[.int .i64 0, .int .i64 0] 24); obtain ⟨b5, b6, b7, b8⟩ := HB.out _ hT6)
  obtain ⟨d1, d2⟩ := HB2.out _ hT6 0 0
  refine bodyPost_ret (v := .tuple #[.agg #[.int .i64 0, .int .i64 0], .int .i64 1]) (by simp [results, Try.results24, go_sem, d1, d2]) rfl ⟨rfl, ?_⟩
  exact HW.out _ hT6 _ _

theorem nnext (n : Int) (hp : NilR p W) : Calls Try.prog 22 #[.int .i64 n, .pointer p] W fun e w' => e = .returned (.tuple #[.int .i64 0, .int .i64 0, .int .i64 1]) ∧ Still W w' := by
  obtain ⟨W3, hW3⟩ : ∃ W3, W3 = ((W.alloc (.cells #[.int .i64 0] 3)).alloc (.cells #[.int .i64 0] 3)).alloc (.cells #[.int .i64 0] 25) := ⟨_, rfl⟩
  have hs3 : Still W W3 := by rw [hW3]; exact (((Turned.refl _ _).alloc _).alloc _).alloc _
  have hB3 : Bx3 W.heap.size 0 0 0 W3 := by rw [hW3]; exact Bx3.new W
  have HI := Lib.hid (nmovein n (hp.still hs3))
  have HB := Lib.hid (fun V (hst : Still W3 V) => show Bx3 W.heap.size 0 0 0 V from hB3.turned hst (fun k h1 h2 h => h))
  clear hp hB3
  go_enter Try.func22, Try.ntmps22
  go_wp2_with (go_at_call 36; rw [← hW3]; ((with_reducible refine HI.out.mono ?_)); rintro e w5 ⟨rfl, hT5⟩; have z1 := HB.out _ (hT5.alloc (.cells #[.int .i64 0, .int .i64 0] 24)); obtain ⟨b1, b2, b3, f1, f2, f3⟩ := z1.cells)
  obtain ⟨d1, d2, d3, _⟩ := (z1.set 0 0 1).cells
  refine bodyPost_ret (v := .tuple #[.int .i64 0, .int .i64 0, .int .i64 1]) (by simp [results, Try.results22, go_sem, d1, d2, d3]) rfl ⟨rfl, ?_⟩
  exact below_turned ((still_below ((hs3.trans hT5).alloc _) (Nat.le_refl _)).trans (set3_below _ _ _)) (Nat.le_refl _)
end

theorem void_cursor : VoidCursor NilR zeroRing7 where
  nil_ := fun W => .inl rfl
  zero := fun W => .inr ⟨W.heap.size, rfl, Blk.new W _ _⟩
  still := fun h ht => h.still ht
  lost := fun n _ hp => (nlost n hp).mono fun e w' ⟨h1, h2⟩ => ⟨⟨0, 0, h1⟩, h2⟩
  next := fun n _ hp => (nnext n hp).mono fun e w' ⟨h1, h2⟩ => ⟨⟨0, h1⟩, h2⟩
end Go.Proofs.Ytliaaggjefjbeaa
