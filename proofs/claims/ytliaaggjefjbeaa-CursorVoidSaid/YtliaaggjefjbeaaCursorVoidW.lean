/- CursorVoid: the walk. No condition but that the program's cursor keeps its words, and its words of a ring that no call made. -/
import Derived.Test.YtliaaggjefjbeaaWorks7
namespace Go.Proofs.Ytliaaggjefjbeaa
open Go.RowKit
set_option linter.unusedVariables false
set_option linter.unusedSimpArgs false
set_option maxRecDepth 100000

/-- The words of a reader of a ring that no call made: V tells which pointers are such ones. zero: what 'var z ring.Ring' lays. -/
structure VoidCursor (V : Option Addr → World → Prop) (zero : Obj) : Prop where
  nil_ : ∀ W, V none W
  zero : ∀ W : World, V (some ⟨W.heap.size, 0, none⟩) (W.alloc zero)
  still : ∀ {p : Option Addr} {W W' : World}, V p W → Still W W' → V p W'
  lost : ∀ {p : Option Addr} {W : World} (n : Int), w64 n → V p W → Calls Try.prog 24 #[.int .i64 n, .pointer p] W fun e w' => (∃ f t, e = .returned (.tuple #[.agg #[.int .i64 f, .int .i64 t], .int .i64 1])) ∧ Still W w'
  next : ∀ {p : Option Addr} {W : World} (n : Int), w64 n → V p W → Calls Try.prog 22 #[.int .i64 n, .pointer p] W fun e w' => (∃ r, e = .returned (.tuple #[.int .i64 r, .int .i64 0, .int .i64 1])) ∧ Still W w'

/-- What 'var z ring.Ring' lays: the landed struct's noughts. -/
def zeroRing7 : Obj := .cells #[.int .i64 0, .int .i64 0, .int .i64 0, .slice none 0 0, .slice none 0 0] 63

set_option maxHeartbeats 2000000 in
theorem cvoid_walk (A : CursorApi) {V : Option Addr → World → Prop} (Z : VoidCursor V zeroRing7) (n : Int) (w : World) (wn : w64 n) :
    Calls Try.prog 8 #[.int .i64 n] w fun e w' => e = .returned (.bool true) ∧ Still w w' := by
  have W7 := Lib.hid (fun W => works7 A W)
  have L0 := Lib.hid (fun W => Z.lost (p := none) (W := W) n wn (Z.nil_ W))
  have N0 := Lib.hid (fun W => Z.next (p := none) (W := W) n wn (Z.nil_ W))
  have L1 := Lib.hid (fun b W h => Z.lost (p := some ⟨b, 0, none⟩) (W := W) n wn h)
  have N1 := Lib.hid (fun b W h => Z.next (p := some ⟨b, 0, none⟩) (W := W) n wn h)
  have S0 := Lib.hid (fun W => A.slow W none [] 0 0 rfl (NumsAt.nil _ _) (by omega))
  rw [show slow [] = 0 from rfl] at S0
  clear wn
  go_enter Try.func8, Try.ntmps8
  go_wp2_with fail
  refine (W7.out _).mono ?_
  rintro e w1 ⟨rfl, hT⟩
  obtain ⟨b, hb⟩ : ∃ b, b = w1.heap.size := ⟨_, rfl⟩
  obtain ⟨Wz, hWz⟩ : ∃ Wz, Wz = w1.alloc zeroRing7 := ⟨_, rfl⟩
  have hV : V (some ⟨b, 0, none⟩) Wz := by rw [hb, hWz]; exact Z.zero w1
  have hTz : Still w Wz := by rw [hWz]; exact hT.alloc _
  have hWz2 : w1.alloc (.cells #[.int .i64 0, .int .i64 0, .int .i64 0, .slice none 0 0, .slice none 0 0] 63) = Wz := hWz.symm
  clear hT hWz W7
  go_wp2_with fail
  rw [← hb]
  clear hWz2 hb
  refine (L0.out _).mono ?_
  rintro e w2 ⟨⟨f2, g2, rfl⟩, h2⟩
  have h2 := h2.alloc (.cells #[.int .i64 f2, .int .i64 g2] 24)
  have hV2 := Z.still hV h2
  have hT2 := hTz.trans h2
  clear L0 hV hTz h2
  go_wp2_with fail
  refine (L1.out _ _ hV2).mono ?_
  rintro e w3 ⟨⟨f3, g3, rfl⟩, h3⟩
  have h3 := h3.alloc (.cells #[.int .i64 f3, .int .i64 g3] 24)
  have hV3 := Z.still hV2 h3
  have hT3 := hT2.trans h3
  clear L1 hV2 hT2 h3
  go_wp2_with fail
  refine (N0.out _).mono ?_
  rintro e w4 ⟨⟨r4, rfl⟩, h4⟩
  have hV4 := Z.still hV3 h4
  have hT4 := hT3.trans h4
  clear N0 hV3 hT3 h4
  go_wp2_with fail
  refine (N1.out _ _ hV4).mono ?_
  rintro e w5 ⟨⟨r5, rfl⟩, h5⟩
  have hT5 := hT4.trans h5
  clear N1 hV4 hT4 h5
  go_wp2_with fail
  refine (S0.out _).mono ?_
  rintro e w6 ⟨rfl, h6⟩
  have hT6 := hT5.trans h6
  clear S0 h6 hT5
  go_wp2_with fail
  go_ret
  exact ⟨by simp, hT6⟩
end Go.Proofs.Ytliaaggjefjbeaa
