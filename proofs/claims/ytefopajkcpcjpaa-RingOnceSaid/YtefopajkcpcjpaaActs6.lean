/- The acts of the statements of layer 6 as arguments: two numbers each. No condition. -/
import Derived.Test.YtefopajkcpcjpaaReadInts
import Derived.Test.YtefopajkcpcjpaaRingApi
namespace Go.Proofs.Ytefopajkcpcjpaa
open Go.RowKit
set_option linter.unusedVariables false
abbrev Act6 := Int × Int
def encAct6 (a : Act6) : List Value := encI a.1 ++ encI a.2
def okAct6 (w : World) (a : Act6) : Prop := okI .i64 w a.1 ∧ okI .i64 w a.2
theorem encAct6_len (a : Act6) : (encAct6 a).length = 2 := rfl
theorem cellsAct6 : Try.prog.cellsOf 32 = 2 := by kernel_rfl
theorem rdAct6 : Rd Try.prog 32 encAct6 okAct6 :=
  rd_struct2 (m0 := 1) (m1 := 1) Try.underlying32 cellsAct6 cellsInt cellsInt rfl rfl rdInt rdInt
theorem rdActs6 : Rd Try.prog 22 encSl (SlOk encAct6 okAct6 2) := rd_slice Try.underlying22 cellsAct6 (by omega) encAct6_len rdAct6
theorem okAct6_stays : Stays okAct6 := fun w w' a ht h => h
theorem i64_of6 {w : World} {a : Int} (h : okI .i64 w a) : w64 a := by
  have : (Lit.int .i64 a).wf = true := h
  simp [Lit.wf, IntKind.min, IntKind.max, IntKind.signed, IntKind.bits] at this
  exact ⟨by omega, by omega⟩
end Go.Proofs.Ytefopajkcpcjpaa
