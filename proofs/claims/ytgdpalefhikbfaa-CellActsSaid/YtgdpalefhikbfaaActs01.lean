/- The acts of the statements of layer 1 as arguments: four numbers each. No condition. -/
import Derived.Test.YtgdpalefhikbfaaReadInts
namespace Go.Proofs.Ytgdpalefhikbfaa
open Go.RowKit
set_option linter.unusedVariables false
abbrev Act1 := Int × Int × Int × Int
def encAct1 (a : Act1) : List Value := encI a.1 ++ encI a.2.1 ++ encI a.2.2.1 ++ encI a.2.2.2
def okAct1 (w : World) (a : Act1) : Prop := okI .i64 w a.1 ∧ okI .i64 w a.2.1 ∧ okI .i64 w a.2.2.1 ∧ okI .i64 w a.2.2.2
theorem encAct1_len (a : Act1) : (encAct1 a).length = 4 := rfl
theorem cellsAct1 : Try.prog.cellsOf 32 = 4 := by kernel_rfl
theorem rdAct1 : Rd Try.prog 32 encAct1 okAct1 :=
  rd_struct4 (m0 := 1) (m1 := 1) (m2 := 1) (m3 := 1) Try.underlying32 cellsAct1 cellsInt cellsInt cellsInt cellsInt rfl rfl rfl rfl rdInt rdInt rdInt rdInt
theorem rdActs1 : Rd Try.prog 22 encSl (SlOk encAct1 okAct1 4) := rd_slice Try.underlying22 cellsAct1 (by omega) encAct1_len rdAct1
end Go.Proofs.Ytgdpalefhikbfaa
