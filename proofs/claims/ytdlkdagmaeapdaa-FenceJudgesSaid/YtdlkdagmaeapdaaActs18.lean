/- The acts of the statements of layer 18 as arguments. No condition. -/
import Derived.Test.YtdlkdagmaeapdaaStruct5
namespace Go.Proofs.Ytdlkdagmaeapdaa
open Go.RowKit
set_option linter.unusedVariables false
set_option linter.unusedSimpArgs false
set_option maxRecDepth 100000

theorem rd_bool18 {P : Program} {t : TypeId} (ht : P.underlying t = some .bool) : Rd P t (fun b : Bool => [.bool b]) (fun _ _ => True) := by
  intro H e w base spare held fuel cs x h
  obtain ⟨b, h1, _⟩ := DataW.trod_bool ht h
  exact ⟨b, h1, trivial⟩
abbrev Act18 := Int × Int × Int × Int × Bool
def encAct18 (a : Act18) : List Value := encI a.1 ++ encI a.2.1 ++ encI a.2.2.1 ++ encI a.2.2.2.1 ++ [.bool a.2.2.2.2]
def okAct18 (w : World) (a : Act18) : Prop := okI .i64 w a.1 ∧ okI .i64 w a.2.1 ∧ okI .i64 w a.2.2.1 ∧ okI .i64 w a.2.2.2.1 ∧ True
theorem encAct18_len (a : Act18) : (encAct18 a).length = 5 := rfl
theorem cellsAct18 : Try.prog.cellsOf 32 = 5 := by kernel_rfl
theorem cellsBool18 : Try.prog.cellsOf 4 = 1 := by kernel_rfl
theorem rdAct18 : Rd Try.prog 32 encAct18 okAct18 :=
  rd_struct5 (m0 := 1) (m1 := 1) (m2 := 1) (m3 := 1) (m4 := 1) Try.underlying32 cellsAct18 cellsInt cellsInt cellsInt cellsInt cellsBool18 rfl rfl rfl rfl rfl rdInt rdInt rdInt rdInt (rd_bool18 Try.underlying4)
theorem rdActs18 : Rd Try.prog 22 encSl (SlOk encAct18 okAct18 5) := rd_slice Try.underlying22 cellsAct18 (by omega) encAct18_len rdAct18
theorem i64_of18 {w : World} {a : Int} (h : okI .i64 w a) : -9223372036854775808 ≤ a ∧ a ≤ 9223372036854775807 := by
  have : (Lit.int .i64 a).wf = true := h
  simp [Lit.wf, IntKind.min, IntKind.max, IntKind.signed, IntKind.bits] at this
  exact ⟨by omega, by omega⟩
end Go.Proofs.Ytdlkdagmaeapdaa
