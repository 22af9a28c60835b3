/- The acts of the statements of layer 15 as arguments. No condition. -/
import Derived.Test.YtepdnclojjeepaaReadInts
namespace Go.Proofs.Ytepdnclojjeepaa
open Go.RowKit
set_option linter.unusedVariables false
set_option linter.unusedSimpArgs false
set_option maxRecDepth 100000

theorem rd_bool15 {P : Program} {t : TypeId} (ht : P.underlying t = some .bool) : Rd P t (fun b : Bool => [.bool b]) (fun _ _ => True) := by
  intro H e w base spare held fuel cs x h
  obtain ⟨b, h1, _⟩ := DataW.trod_bool ht h
  exact ⟨b, h1, trivial⟩
abbrev Act15 := Bool × Int
def encAct15 (a : Act15) : List Value := [.bool a.1] ++ encI a.2
def okAct15 (w : World) (a : Act15) : Prop := True ∧ okI .i64 w a.2
theorem encAct15_len (a : Act15) : (encAct15 a).length = 2 := rfl
theorem cellsAct15 : Try.prog.cellsOf 28 = 2 := by kernel_rfl
theorem cellsBool15 : Try.prog.cellsOf 4 = 1 := by kernel_rfl
theorem rdAct15 : Rd Try.prog 28 encAct15 okAct15 :=
  rd_struct2 (m0 := 1) (m1 := 1) Try.underlying28 cellsAct15 cellsBool15 cellsInt rfl rfl (rd_bool15 Try.underlying4) rdInt
theorem rdActs15 : Rd Try.prog 22 encSl (SlOk encAct15 okAct15 2) := rd_slice Try.underlying22 cellsAct15 (by omega) encAct15_len rdAct15
theorem i64_of15 {w : World} {a : Int} (h : okI .i64 w a) : -9223372036854775808 ≤ a ∧ a ≤ 9223372036854775807 := by
  have : (Lit.int .i64 a).wf = true := h
  simp [Lit.wf, IntKind.min, IntKind.max, IntKind.signed, IntKind.bits] at this
  exact ⟨by omega, by omega⟩
end Go.Proofs.Ytepdnclojjeepaa
