/- Slices of numbers as arguments. No condition. -/
import Derived.Test.YtbljjmehjkmjaaaGreatRead
import Derived.Test.YtbljjmehjkmjaaaGreatBase
namespace Go.Proofs.YtbljjmehjkmjaaaGreat
open Go.RowKit
set_option linter.unusedVariables false
theorem cellsInt : Tryz.prog.cellsOf 3 = 1 := by kernel_rfl
theorem rdInt : Rd Tryz.prog 3 encI (okI .i64) := rd_int Tryz.underlying3
theorem rdInts : Rd Tryz.prog 32 encSl (SlOk encI (okI .i64) 1) := rd_slice Tryz.underlying32 cellsInt (by omega) (fun _ => rfl) rdInt
theorem nums_row {w : World} {a : Option Addr} {l : List Int} (h : RowAt encI 1 w a l) : NumsAt w a l := by
  intro i x hx
  obtain ⟨b, o, rfl, hc⟩ := h i x hx
  exact ⟨b, o, rfl, by simpa using hc 0 _ rfl⟩
end Go.Proofs.YtbljjmehjkmjaaaGreat
