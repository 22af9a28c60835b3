/- CursorMoves: the walk. No condition but that the program's cursor keeps its words. -/
import Derived.Test.YtliaaggjefjbeaaWorks7
import Derived.Test.YtliaaggjefjbeaaCursorRef
import Derived.Test.YtliaaggjefjbeaaIntsCopy
import Derived.Test.YtliaaggjefjbeaaReadInts
namespace Go.Proofs.Ytliaaggjefjbeaa
open Go.RowKit
set_option linter.unusedVariables false
set_option linter.unusedSimpArgs false
set_option maxRecDepth 100000

theorem nums_take {w : World} {a : Option Addr} {l : List Int} (h : NumsAt w a l) (k : Nat) : NumsAt w a (l.take k) := by
  intro i x hx
  rw [List.getElem?_take] at hx
  split at hx
  · exact h i x hx
  · cases hx

set_option maxHeartbeats 4000000 in
theorem moves_walk (A : CursorApi) (a h t : Int) (s : Sl Int) (w : World) (wa : w64 a) (wh : w64 h) (wt : w64 t) (h1 : SlOk encI (okI .i64) 1 w s) :
    Calls Try.prog 3 #[.int .i64 a, .int .i64 h, .int .i64 t, .slice s.a s.len s.cap] w fun e w' => e = .returned (.bool true) ∧ Still w w' := by
  obtain ⟨ba, bl, bc, bx⟩ := s
  have hbcap : bl ≤ bc := h1.le
  have hbmax : bc ≤ maxLen := h1.max
  unfold maxLen at hbmax
  have hbl : bx.length = bl := h1.len
  have hbn := h1.none
  have hbr := nums_take (nums_row h1.row) 300
  obtain ⟨b, hb⟩ : ∃ b, b = bx.take 300 := ⟨_, rfl⟩
  obtain ⟨m, hm⟩ : ∃ m, m = b.length := ⟨_, rfl⟩
  have hm8 : m ≤ 300 := by rw [hm, hb, List.length_take]; omega
  have hmb : (m = bl ∧ bl ≤ 300) ∨ (m = 300 ∧ 300 < bl) := by rw [hm, hb, List.length_take, hbl]; omega
  dsimp only at hbr hbn
  rw [← hb] at hbr
  have C1 := Lib.hid (fun W => A.move a h t W wa wh wt)
  have C2 := Lib.hid (fun W => A.behind a h t W wa wh wt)
  have C3 := Lib.hid (fun W => A.seek a h t W wa wh wt)
  have C4 := Lib.hid (fun W => A.check h t W wh wt)
  have C5 := Lib.hid (fun W ao c h => A.slow W ao b m c hm h (by omega))
  have D1 := Lib.hid (fun W => zmove_any a h t W)
  unfold moveV spanV at D1
  have D2 := Lib.hid (fun W => zbehind_any a h t W)
  have D3 := Lib.hid (fun W => zseek_any a h t W)
  have D4 := Lib.hid (fun W => zcheck_any h t W)
  have D5 := Lib.hid (fun W (hT : Still w W) => zslow_any W ba b m bc hm (hbr.still hT) (by omega))
  have B1 := Lib.hid (fun W (hT : Still w W) => bints_any W ba b m bc hm (hbr.still hT) (by omega) (fun e => (hbn e).2))
  have W7 := Lib.hid (fun W => works7 A W)
  have HML := Lib.hid hm
  have hif : (if (300 : Int) < (bl : Int) then (300 : Int) else (bl : Int)) = (m : Int) := by
    rcases hmb with ⟨e1, e2⟩ | ⟨e1, e2⟩
    · rw [if_neg (by omega), e1]
    · rw [if_pos (by omega), e1]; rfl
  have hx : (m : Int) ≤ (bc : Int) := by omega
  have hx0 : (0 : Int) ≤ (m : Int) := by omega
  clear hmb hm hb hbn hbr h1 hbl wa wh wt
  generalize mvA a h t = xa at *
  generalize mvF a h t = xf at *
  generalize mvT a h t = xt at *
  generalize mvE a h t = xe at *
  generalize bhN a h t = xn at *
  generalize skA a h t = ya at *
  generalize skE a h t = ye at *
  generalize ckE h t = ze at *
  generalize slow b = sw at *
  dsimp only
  go_enter Try.func3, Try.ntmps3
  go_wp2_with fail
  refine (C1.out _).mono ?_
  rintro e w1 ⟨rfl, h1⟩
  go_wp2_with fail
  refine (D1.out _).mono ?_
  rintro e w2 ⟨rfl, h2⟩
  go_wp2_with fail
  refine (C2.out _).mono ?_
  rintro e w3 ⟨rfl, h3⟩
  go_wp2_with fail
  refine (D2.out _).mono ?_
  rintro e w4 ⟨rfl, h4⟩
  go_wp2_with fail
  refine (C3.out _).mono ?_
  rintro e w5 ⟨rfl, h5⟩
  go_wp2_with fail
  refine (D3.out _).mono ?_
  rintro e w6 ⟨rfl, rfl⟩
  have h25 := (h3.trans h4).trans h5
  have g1 := (h1.alloc (.cells #[.int .i64 xf, .int .i64 xt] 24)).trans h2
  have g2 := g1.alloc (.cells #[.int .i64 xf, .int .i64 xt] 24)
  have g3 := g2.trans h25
  obtain ⟨c0, c1⟩ := box_span ((h2.alloc (.cells #[.int .i64 xf, .int .i64 xt] 24)).trans h25)
  obtain ⟨d0, d1⟩ := box_span h25
  have HF := Lib.hid g3
  clear h1 h2 h3 h4 h5 h25 g1 g2 g3 C1 C2 C3 D1 D2 D3
  go_wp2_with fail
  refine (C4.out _).mono ?_
  rintro e w7 ⟨rfl, h7⟩
  have HF7 := Lib.hid (HF.out.trans h7)
  clear h7 HF C4
  go_wp2_with fail
  refine (D4.out _).mono ?_
  rintro e w8 ⟨rfl, rfl⟩
  clear D4
  go_wp2_with fail
  refine (B1.out _ HF7.out).mono ?_
  rintro e w9 ⟨a9, c9, rfl, hO9, h9⟩
  have HA9 := Lib.hid (NumsAt.of_own hO9 HML.out)
  have HF9 := Lib.hid (HF7.out.trans h9)
  clear h9 HF7 hO9 B1
  go_wp2_with fail
  refine (C5.out _ _ _ HA9.out).mono ?_
  rintro e w10 ⟨rfl, h10⟩
  have HF10 := Lib.hid (HF9.out.trans h10)
  clear h10 HF9 HA9 C5
  go_wp2_with fail
  refine (D5.out _ HF10.out).mono ?_
  rintro e w11 ⟨rfl, rfl⟩
  clear D5
  go_wp2_with fail
  refine (W7.out _).mono ?_
  rintro e w12 ⟨rfl, h12⟩
  have HF12 := Lib.hid (HF10.out.trans h12)
  clear h12 HF10 W7
  go_wp2_with fail
  go_ret
  exact ⟨by simp, HF12.out⟩
end Go.Proofs.Ytliaaggjefjbeaa
