/- CursorNexts: the walk. No condition but that the program's ring and its readers keep their words. -/
import Derived.Test.YtliaaggjefjbeaaBoth7
import Derived.Test.YtliaaggjefjbeaaWorks7
import Derived.Deep.CutBlock
namespace Go.Proofs.Ytliaaggjefjbeaa
open Go.RowKit
set_option linter.unusedVariables false
set_option linter.unusedSimpArgs false
set_option maxRecDepth 100000

def Mid7 (w : World) (b15 : Nat) (f g e2 : Int) (u18 u19 : Value) (wx : World) : Prop :=
  ∃ b18, u18 = .pointer (some ⟨b18, 0, none⟩) ∧ u19 = .int .i64 e2 ∧ Blk wx b15 [.int .i64 f, .int .i64 g] 24 ∧ Blk wx b18 [.int .i64 f, .int .i64 g] 24 ∧ Still w wx
theorem mid_new {w w6 : World} {b15 : Nat} {f g e2 : Int} (h : Still w w6) (hb : Blk w6 b15 [.int .i64 f, .int .i64 g] 24) :
    Mid7 w b15 f g e2 (.pointer (some ⟨w6.heap.size, 0, none⟩)) (.int .i64 e2) (w6.alloc (.cells #[.int .i64 f, .int .i64 g] 24)) :=
  ⟨_, rfl, rfl, hb.alloc _, Blk.new w6 [.int .i64 f, .int .i64 g] 24, h.alloc _⟩
theorem mid_set {w w6 : World} {b15 b : Nat} {f g a0 a1 e2 : Int} (h : Still w w6) (hb : Blk w6 b15 [.int .i64 f, .int .i64 g] 24) (hz : Blk w6 b [.int .i64 a0, .int .i64 a1] 24) (hn : b15 < b) (hw : w.heap.size ≤ b) :
    Mid7 w b15 f g e2 (.pointer (some ⟨b, 0, none⟩)) (.int .i64 e2) ((w6.setCell ⟨b, 0, none⟩ (.int .i64 f)).setCell ⟨b, 1, none⟩ (.int .i64 g)) :=
  ⟨_, rfl, rfl, (hb.other (p := ⟨b, 0, none⟩) (by simp; omega) _).other (p := ⟨b, 1, none⟩) (by simp; omega) _, (hz.set 0 (.int .i64 f)).set 1 (.int .i64 g), (h.setCell (.inr hw) _).setCell (.inr hw) _⟩

set_option maxHeartbeats 4000000 in
theorem nexts_walk {RT : Nat → RM → Thing} (A : RingApi7 RT) (K : CursorApi) (r0 : Int) (s : Sl Act7) (a : Int) (w : World) (h1 : SlOk encAct7 okAct7 2 w s) (wa : w64 a) :
    Calls Try.prog 4 #[.int .i64 r0, .slice s.a s.len s.cap, .int .i64 a] w fun e w' => e = .returned (.bool true) ∧ Still w w' := by
  have B := Lib.hid (both_any A r0 s w h1)
  have W7 := Lib.hid (fun W => works7 K W)
  have X1 := Lib.hid (fun (V : World) (x y : Nat) (M : RM) (T : Two7 RT w V x y 150 M) => show Calls Try.prog 22 #[.int .i64 a, .pointer (some ⟨x, 0, none⟩)] V fun e w' => e = .returned (.tuple #[.int .i64 (M.nxR a), .int .i64 (M.nxT a), .int .i64 (M.nxE a)]) ∧ Still V w' from by
    obtain ⟨_, h, _⟩ := T.1.fst
    exact A.next h T.2 (by omega) a wa)
  have X2 := Lib.hid (fun (V : World) (x y : Nat) (M : RM) (T : Two7 RT w V x y 150 M) => show Calls Try.prog 24 #[.int .i64 a, .pointer (some ⟨x, 0, none⟩)] V fun e w' => e = .returned (.tuple #[.agg #[.int .i64 (M.lsF a), .int .i64 (M.lsT a)], .int .i64 (M.mvE a)]) ∧ Still V w' from by
    obtain ⟨_, h, _⟩ := T.1.fst
    exact A.lost h T.2 (by omega) a wa)
  have Y1 := Lib.hid (fun (V : World) (x y : Nat) (M : RM) (T : Two7 RT w V x y 150 M) => show Calls Try.prog 23 #[.int .i64 a, .pointer (some ⟨y, 0, none⟩)] V fun e w' => e = .returned (.tuple #[.int .i64 (M.nxR a), .int .i64 (M.nxT a), .int .i64 (M.nxE a)]) ∧ Still V w' from by
    obtain ⟨_, h, _⟩ := T.1.swap.fst
    exact zcnext_any h T.2 (by omega) a)
  have YT := Lib.hid (fun (V : World) (x y : Nat) (M : RM) (T : Two7 RT w V x y 150 M) => show Calls Try.prog 25 #[.pointer (some ⟨y, 0, none⟩)] V fun e w' => e = .returned (.int .i64 (M.tail : Nat)) ∧ Still V w' from by
    obtain ⟨_, h, _⟩ := T.1.swap.fst
    exact zrtail_t h T.2 (by omega))
  have YH := Lib.hid (fun (V : World) (x y : Nat) (M : RM) (T : Two7 RT w V x y 150 M) => show V.cell? ⟨y, 2, none⟩ = some (.int .i64 (M.h : Nat)) from by
    obtain ⟨_, ⟨_, _, h⟩, _⟩ := T.1.swap.fst
    exact h.cells.2.2.1)
  clear h1 wa
  go_enter Try.func4, Try.ntmps4
  go_wp2_with fail
  refine B.out.mono ?_
  rintro e w1 ⟨x, y, M, rfl, T⟩
  have T1 := Lib.hid T
  clear T B
  have X1 := Lib.hid (fun V (h : Still w1 V) => X1.out V x y M ⟨T1.out.1.still h, T1.out.2⟩)
  have X2 := Lib.hid (fun V (h : Still w1 V) => X2.out V x y M ⟨T1.out.1.still h, T1.out.2⟩)
  have Y1 := Lib.hid (fun V (h : Still w1 V) => Y1.out V x y M ⟨T1.out.1.still h, T1.out.2⟩)
  have YT := Lib.hid (fun V (h : Still w1 V) => YT.out V x y M ⟨T1.out.1.still h, T1.out.2⟩)
  have YH := Lib.hid (fun V (h : Still w1 V) => YH.out V x y M ⟨T1.out.1.still h, T1.out.2⟩)
  have HG := Lib.hid T1.out.1.ground
  obtain ⟨f, hf⟩ : ∃ f, f = M.lsF a := ⟨_, rfl⟩
  obtain ⟨g, hg⟩ : ∃ g, g = M.lsT a := ⟨_, rfl⟩
  obtain ⟨xm, hxm⟩ : ∃ x, x = M.mv a := ⟨_, rfl⟩
  have HM := Lib.hid (fun V => show Calls Try.prog 10 #[.int .i64 a, .int .i64 ((M.h : Nat) : Int), .int .i64 ((M.tail : Nat) : Int)] V fun e w' => e = .returned (.tuple #[.int .i64 xm, .agg #[.int .i64 f, .int .i64 g], .int .i64 (M.mvE a)]) ∧ Still V w' from by
    rw [hf, hg, hxm]; exact zmove_any a (M.h : Int) (M.tail : Nat) V)
  rw [← hf, ← hg] at X2
  generalize M.nxR a = nr at *
  generalize M.nxT a = nt at *
  generalize M.nxE a = ne at *
  generalize M.mvE a = me at *
  generalize ((M.tail : Nat) : Int) = tn at *
  generalize ((M.h : Nat) : Int) = hn at *
  clear hf hg hxm T1
  go_wp2_with fail
  refine (X1.out _ (Turned.refl _ _)).mono ?_
  rintro e w2 ⟨rfl, h2⟩
  go_wp2_with fail
  refine (Y1.out _ h2).mono ?_
  rintro e w3 ⟨rfl, h3⟩
  have h3 := h2.trans h3
  clear X1 Y1 h2
  go_wp2_with fail
  refine (X2.out _ h3).mono ?_
  rintro e w4 ⟨rfl, h4⟩
  have h4 := h3.trans h4
  clear X2 h3
  go_upto_region 7 with fail
  obtain ⟨wr, hwr⟩ : ∃ wr, wr = w4.alloc (.cells #[.int .i64 f, .int .i64 g] 24) := ⟨_, rfl⟩
  obtain ⟨b15, hb15⟩ : ∃ b, b = w4.heap.size := ⟨_, rfl⟩
  rw [← hwr, ← hb15]
  have hk15 : Blk wr b15 [.int .i64 f, .int .i64 g] 24 := by rw [hwr, hb15]; exact Blk.new w4 [.int .i64 f, .int .i64 g] 24
  have h15 : b15 < wr.heap.size := hk15.lt
  have hR : Still w1 wr := by rw [hwr]; exact h4.alloc _
  have HRR := Lib.hid (HG.out.trans hR)
  clear hwr hb15 h4 HG
  go_cut [18, 19] (fun u18 u19 wx => Mid7 w b15 f g me u18 u19 wx)
  case first =>
    clear W7
    have c2 := YH.out wr hR
    have HC := Lib.hid (fun V (h : Still wr V) => YH.out V (hR.trans h))
    have HT := Lib.hid (fun V (h : Still wr V) => show Calls Try.prog 25 #[.pointer (some ⟨y, 0, none⟩)] V fun e w' => e = .returned (.int .i64 tn) ∧ Still wr w' ∧ Still V w' from (YT.out V (hR.trans h)).mono fun e w' ⟨he, hs⟩ => ⟨he, h.trans hs, hs⟩)
    have HM := Lib.hid (fun V (h : Still wr V) => show Calls Try.prog 10 #[.int .i64 a, .int .i64 hn, .int .i64 tn] V fun e w' => e = .returned (.tuple #[.int .i64 xm, .agg #[.int .i64 f, .int .i64 g], .int .i64 me]) ∧ Still wr w' ∧ Still V w' from (HM.out V).mono fun e w' ⟨he, hs⟩ => ⟨he, h.trans hs, hs⟩)
    have hTd : Still wr wr.drew := (Turned.refl _ _).drew
    have hAd : Still wr (wr.alloc (.cells #[.int .i64 0, .int .i64 0] 24)).drew := ((Turned.refl _ _).alloc _).drew
    have hAb : Blk (wr.alloc (.cells #[.int .i64 0, .int .i64 0] 24)).drew wr.heap.size [.int .i64 0, .int .i64 0] 24 := (Blk.new wr [.int .i64 0, .int .i64 0] 24).drew
    have n0 := World.new_ne wr ⟨y, 2, none⟩ c2
    have HK := Lib.hid hk15
    have HL := Lib.hid h15
    clear YH YT hk15 h15 hR
    go_region_held3 (fun V => V.cell? ⟨y, 2, none⟩ = some (.int .i64 hn)) (first | assumption | go_keep) (first
      | (go_at_call 25; ((with_reducible refine (HT.out _ (by first | assumption | exact Turned.alloc (by assumption) _)).mono ?_)); rintro e w5 ⟨rfl, hT5, hV5⟩; have g5 := HC.out w5 hT5; have n5 := World.new_ne w5 ⟨y, 2, none⟩ g5; first | (have z5 := box_new hV5; obtain ⟨z51, z52, z53, z54⟩ := box_cells z5) | (have z5 := box_pass hV5 hAb; obtain ⟨z51, z52, z53, z54⟩ := box_cells z5) | skip)
      | (go_at_call 10; ((with_reducible refine (HM.out _ (by first | assumption | exact Turned.alloc (by assumption) _)).mono ?_)); rintro e w6 ⟨rfl, hT6, hV6⟩; have g6 := HC.out w6 hT6; have n6 := World.new_ne w6 ⟨y, 2, none⟩ g6; first | (have z6 := box_new hV6; obtain ⟨z61, z62, z63, z64⟩ := box_cells z6) | (have z6 := box_pass hV6 (by assumption); obtain ⟨z61, z62, z63, z64⟩ := box_cells z6) | skip))
    all_goals
      have HK6 := HK.out.turned hT6 (fun h => h)
      have HF6 := HRR.out.trans hT6
      clear HT HC
      go_wp2_with fail
      first
      | (go_meet; exact mid_new HF6 HK6)
      | (go_meet; exact mid_set HF6 HK6 z6 HL.out HRR.out.size)
      | (go_meet; exact mid_set HF6 HK6 z6 (Nat.lt_of_lt_of_le HL.out hT5.size) (Nat.le_trans HRR.out.size hT5.size))
  case rest =>
    obtain ⟨b18, rfl, rfl, k15, k18, hs⟩ := hcut
    have HS := Lib.hid hs
    have d0 := k15.cell (o := 0) (v := .int .i64 f) rfl
    have d1 := k15.cell (o := 1) (v := .int .i64 g) rfl
    have d2 := k18.cell (o := 0) (v := .int .i64 f) rfl
    have d3 := k18.cell (o := 1) (v := .int .i64 g) rfl
    clear YH YT HM hk15 h15 hR HRR k15 k18 hs
    go_wp2_with fail
    refine (W7.out _).mono ?_
    rintro e w9 ⟨rfl, h9⟩
    go_wp2_with fail
    go_ret
    exact ⟨by simp, HS.out.trans h9⟩
end Go.Proofs.Ytliaaggjefjbeaa
