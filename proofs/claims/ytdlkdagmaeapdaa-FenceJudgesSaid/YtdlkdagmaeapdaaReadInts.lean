/- Slices of numbers as arguments. No condition. -/
import Derived.Test.YtdlkdagmaeapdaaRead
import Derived.Test.YtdlkdagmaeapdaaBase
namespace Go.Proofs.Ytdlkdagmaeapdaa
open Go.RowKit
set_option linter.unusedVariables false
theorem cellsInt : Try.prog.cellsOf 3 = 1 := by kernel_rfl
theorem rdInt : Rd Try.prog 3 encI (okI .i64) := rd_int Try.underlying3
theorem rdInts : Rd Try.prog 44 encSl (SlOk encI (okI .i64) 1) := rd_slice Try.underlying44 cellsInt (by omega) (fun _ => rfl) rdInt
theorem nums_row {w : World} {a : Option Addr} {l : List Int} (h : RowAt encI 1 w a l) : NumsAt w a l := by
  intro i x hx
  obtain ⟨b, o, rfl, hc⟩ := h i x hx
  exact ⟨b, o, rfl, by simpa using hc 0 _ rfl⟩
end Go.Proofs.Ytdlkdagmaeapdaa
