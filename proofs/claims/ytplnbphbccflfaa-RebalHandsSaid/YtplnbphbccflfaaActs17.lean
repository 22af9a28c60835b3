/- The acts of the statements of layer 17 as arguments: two numbers, and members. No condition. -/
import Derived.Test.YtplnbphbccflfaaStruct3
import Derived.Test.YtplnbphbccflfaaActs16
namespace Go.Proofs.Ytplnbphbccflfaa
open Go.RowKit
set_option linter.unusedVariables false
set_option linter.unusedSimpArgs false
set_option maxRecDepth 100000

abbrev Act17 := Int × Int × Sl Int
def encAct17 (a : Act17) : List Value := encI a.1 ++ encI a.2.1 ++ encSl a.2.2
def okAct17 (w : World) (a : Act17) : Prop := okI .i64 w a.1 ∧ okI .i64 w a.2.1 ∧ SlOk encI (okI .i64) 1 w a.2.2
theorem encAct17_len (a : Act17) : (encAct17 a).length = 3 := rfl
theorem cellsAct17 : Try.prog.cellsOf 30 = 3 := by kernel_rfl
theorem cellsInts17 : Try.prog.cellsOf 28 = 1 := by kernel_rfl
theorem rdAct17 : Rd Try.prog 30 encAct17 okAct17 :=
  rd_struct3 (m0 := 1) (m1 := 1) (m2 := 1) Try.underlying30 cellsAct17 cellsInt cellsInt cellsInts17 rfl rfl rfl rdInt rdInt rdInts
theorem rdActs17 : Rd Try.prog 22 encSl (SlOk encAct17 okAct17 3) := rd_slice Try.underlying22 cellsAct17 (by omega) encAct17_len rdAct17
theorem i64_of17 {w : World} {a : Int} (h : okI .i64 w a) : -9223372036854775808 ≤ a ∧ a ≤ 9223372036854775807 := by
  have : (Lit.int .i64 a).wf = true := h
  simp [Lit.wf, IntKind.min, IntKind.max, IntKind.signed, IntKind.bits] at this
  exact ⟨by omega, by omega⟩
end Go.Proofs.Ytplnbphbccflfaa
