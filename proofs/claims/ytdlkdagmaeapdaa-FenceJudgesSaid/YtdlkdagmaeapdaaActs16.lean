/- Places and owners as arguments. No condition. -/
import Derived.Test.YtdlkdagmaeapdaaReadInts
import Derived.Test.YtdlkdagmaeapdaaBdShI
namespace Go.Proofs.Ytdlkdagmaeapdaa
open Go.RowKit
set_option linter.unusedVariables false
set_option linter.unusedSimpArgs false
set_option maxRecDepth 100000

def encPl (p : Plc) : List Value := encI p.1 ++ encI p.2
def okPl (w : World) (p : Plc) : Prop := okI .i64 w p.1 ∧ okI .i64 w p.2
theorem encPl_len (p : Plc) : (encPl p).length = 2 := rfl
def encOw (o : Own) : List Value := encPl o.1 ++ encI o.2
def okOw (w : World) (o : Own) : Prop := okPl w o.1 ∧ okI .i64 w o.2
theorem encOw_len (o : Own) : (encOw o).length = 3 := rfl
theorem cellsPl16 : Try.prog.cellsOf 54 = 2 := by kernel_rfl
theorem cellsOw16 : Try.prog.cellsOf 99 = 3 := by kernel_rfl
theorem rdPl16 : Rd Try.prog 54 encPl okPl := rd_struct2 (m0 := 1) (m1 := 1) Try.underlying54 cellsPl16 cellsInt cellsInt rfl rfl rdInt rdInt
theorem rdOw16 : Rd Try.prog 99 encOw okOw := rd_struct2 (m0 := 2) (m1 := 1) Try.underlying99 cellsOw16 cellsPl16 cellsInt rfl rfl rdPl16 rdInt
theorem rdPlcs : Rd Try.prog 59 encSl (SlOk encPl okPl 2) := rd_slice Try.underlying59 cellsPl16 (by omega) encPl_len rdPl16
theorem rdOwns : Rd Try.prog 65 encSl (SlOk encOw okOw 3) := rd_slice Try.underlying65 cellsOw16 (by omega) encOw_len rdOw16
end Go.Proofs.Ytdlkdagmaeapdaa
