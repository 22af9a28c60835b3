/- The acts of the statements of layer 17 as arguments: two numbers, and members. No condition. -/
import Derived.Test.YtdlkdagmaeapdaaStruct3
import Derived.Test.YtdlkdagmaeapdaaActs16
namespace Go.Proofs.Ytdlkdagmaeapdaa
open Go.RowKit
set_option linter.unusedVariables false
set_option linter.unusedSimpArgs false
set_option maxRecDepth 100000

abbrev Act17 := Int × Int × Sl Int
def encAct17 (a : Act17) : List Value := encI a.1 ++ encI a.2.1 ++ encSl a.2.2
def okAct17 (w : World) (a : Act17) : Prop := okI .i64 w a.1 ∧ okI .i64 w a.2.1 ∧ SlOk encI (okI .i64) 1 w a.2.2
theorem encAct17_len (a : Act17) : (encAct17 a).length = 3 := rfl
theorem cellsInts17 : Try.prog.cellsOf 44 = 1 := by kernel_rfl
theorem i64_of17 {w : World} {a : Int} (h : okI .i64 w a) : -9223372036854775808 ≤ a ∧ a ≤ 9223372036854775807 := by
  have : (Lit.int .i64 a).wf = true := h
  simp [Lit.wf, IntKind.min, IntKind.max, IntKind.signed, IntKind.bits] at this
  exact ⟨by omega, by omega⟩
end Go.Proofs.Ytdlkdagmaeapdaa
