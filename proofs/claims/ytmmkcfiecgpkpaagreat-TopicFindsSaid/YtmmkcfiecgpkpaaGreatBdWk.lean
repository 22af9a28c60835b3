/- Texts that lie next to one another, laid into one: each says what it holds. No condition but what each states. -/
import Derived.Test.YtmmkcfiecgpkpaaGreatBdPtA

/- The chapter's example of layer 5. No condition but that the program's pool keeps its words. -/
namespace Go.Proofs.YtmmkcfiecgpkpaaGreat
open Go.RowKit
set_option linter.unusedVariables false
set_option maxRecDepth 100000

theorem i64_lit {a : Int} (h1 : -1000000000000000 ≤ a) (h2 : a ≤ 1000000000000000) : i64 a := ⟨by omega, by omega⟩

theorem Held.made {PT : Nat → PM → Thing} {w0 w w' : World} {n s : Nat} {e : Ending} (H : Still w0 w) (h : PNew PT w n s e w') : ∃ q, e = .returned (.tuple #[.pointer (some ⟨q, 0, none⟩), .int .i64 0]) ∧ Held w0 w' ((PT q (PM.new n s)).sep Thing.none) := by
  obtain ⟨q, he, hW⟩ := h
  exact ⟨q, he, (Held.start H).new hW⟩

end Go.Proofs.YtmmkcfiecgpkpaaGreat

/- The chapter's example of layer 12. No condition but that the program's partitions and pool keep their words. -/
namespace Go.Proofs.YtmmkcfiecgpkpaaGreat
open Go.RowKit
set_option linter.unusedVariables false
set_option linter.unusedSimpArgs false
set_option maxRecDepth 100000

def eP0 : PM := PM.new 2 4
def eM0 : RM := RM.new 1 true
def eP1 : PM := ptClP eP0 eM0 1
def eM1 : RM := ptClM eP0 eM0 1
def eP2 : PM := ptFiP eP1 eM1 0 [9]
def eM2 : RM := eM1.pubM 0
def eP3 : PM := ptRdP eP2 eM2 0
def eP4 : PM := ptClP eP3 eM2 1
def eM4 : RM := ptClM eP3 eM2 1
theorem e_1 : ptClA eP0 eM0 1 = 0 ∧ ptClH eP0 eM0 1 = 1 ∧ ptClE eP0 eM0 1 = 0 := by decide +kernel
theorem e_2 : ptFiE eP1 eM1 0 [9] = 0 := by decide +kernel
theorem e_3 : eM1.pubE 0 = 0 := by decide +kernel
theorem e_4 : eM2.getR 0 = 1 ∧ eM2.getE 0 = 0 := by decide +kernel
theorem e_5 : ptClA eP3 eM2 1 = 1 ∧ ptClH eP3 eM2 1 = 2 ∧ ptClE eP3 eM2 1 = 0 := by decide +kernel
theorem e_6 : ptClE eP4 eM4 1 = 60 ∧ ptClA eP4 eM4 1 = 0 ∧ ptClH eP4 eM4 1 = 0 ∧ ptClP eP4 eM4 1 = eP4 ∧ ptClM eP4 eM4 1 = eM4 := by
  have h : ptClE eP4 eM4 1 = 60 := by decide +kernel
  exact ⟨h, if_pos (by rw [h]; decide), if_pos (by rw [h]; decide), if_pos (by rw [h]; decide), if_pos (by rw [h]; decide)⟩
theorem e_7 : eP4.bytes 1 = [9] ∧ eP4.err 1 = 0 := by decide +kernel
theorem e_o0 : eP0.Ok 0 ∧ eM0.Ok 0 ∧ PtInv eP0 (eM0.refs ++ []) := ⟨PM.new_ok (by decide) (by decide) (by decide) (by decide), RM.new_ok (by decide) (by decide), PtInv.new 2 4⟩
theorem e_o1 : eP1.Ok 2 ∧ eM1.Ok 1 ∧ PtInv eP1 (eM1.refs ++ []) := ⟨(ptCl_ok e_o0.1 e_o0.2.1 1).1, (ptCl_ok e_o0.1 e_o0.2.1 1).2.1, inv_claim e_o0.2.2 e_o0.1 e_o0.2.1 (by decide) 1⟩
theorem e_o2 : eP2.Ok 2 ∧ PtInv eP2 (eM1.refs ++ []) := ⟨ok_fill e_o1.1 _ _, inv_fill e_o1.2.2 _ _⟩
theorem e_o3 : eM2.Ok 1 ∧ PtInv eP2 (eM2.refs ++ []) := ⟨e_o1.2.1.pub _, inv_pub e_o2.2 _⟩
theorem e_o4 : eP3.Ok 3 ∧ PtInv eP3 (eM2.refs ++ [1]) := ⟨ok_read e_o2.1 _, by have := inv_read e_o3.2 0; rw [e_4.2, e_4.1] at this; exact this⟩
theorem e_o5 : eP4.Ok 5 ∧ eM4.Ok 2 ∧ PtInv eP4 (eM4.refs ++ [1]) := ⟨(ptCl_ok e_o4.1 e_o3.1 1).1, (ptCl_ok e_o4.1 e_o3.1 1).2.1, inv_claim e_o4.2 e_o4.1 e_o3.1 (by decide) 1⟩

end Go.Proofs.YtmmkcfiecgpkpaaGreat
