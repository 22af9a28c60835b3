/- Places and owners in memory; what the statements' own helpers say of rows of them. No condition. -/
import Derived.Test.YtdlkdagmaeapdaaActs16
import Derived.Test.YtdlkdagmaeapdaaRowM
import Derived.Laws.StructEq
import Derived.Deep.CutBlock
import Derived.BigQuiet
namespace Go.Proofs.Ytdlkdagmaeapdaa
open Go.RowKit
set_option linter.unusedVariables false
set_option linter.unusedSimpArgs false
set_option maxRecDepth 100000

abbrev PlAt (w : World) (a : Option Addr) (l : List Plc) : Prop := RowAt encPl 2 w a l
abbrev OwAt (w : World) (a : Option Addr) (l : List Own) : Prop := RowAt encOw 3 w a l
theorem row_still {α : Type} {enc : α → List Value} {m : Nat} {w w' : World} {a : Option Addr} {l : List α} (h : RowAt enc m w a l) (hs : Still w w') : RowAt enc m w' a l := by
  intro i x hx
  obtain ⟨b, o, rfl, hc⟩ := h i x hx
  exact ⟨b, o, rfl, fun j v hv => still_cell hs (hc j v hv) rfl⟩
theorem row_take {α : Type} {enc : α → List Value} {m : Nat} {w : World} {a : Option Addr} {l : List α} (h : RowAt enc m w a l) (n : Nat) : RowAt enc m w a (l.take n) := by
  intro i x hx
  rw [List.getElem?_take] at hx
  split at hx
  · exact h i x hx
  · cases hx

@[go_sem] theorem pl16_eqIn (a b c d : Int) (w : World) : (Op.equalIn 10000 54 (.agg #[.int .i64 a, .int .i64 b]) (.agg #[.int .i64 c, .int .i64 d])).run Try.prog w = .ok (decide (a = c ∧ b = d)) w := by
  have u3 := Try.underlying3
  have a3 := Try.isAgg3
  have z3 := Try.sizeOf3
  rw [show (10000 : Nat) = 9999 + 1 from rfl, Op.equalIn]
  simp only [Sem.run_bind, run_underlying Try.underlying54, Result.andThen_ok]
  go_simp
  by_cases h1 : a = c <;> by_cases h2 : b = d <;> simp [h1, h2]

theorem p16_take {α : Type} {l : List α} {k : Nat} {x : α} (h : l[k]? = some x) : l.take (k + 1) = l.take k ++ [x] := by
  rw [List.take_add_one, h]; rfl
@[go_sem] theorem ow16_eqIn (a b c d e f : Int) (w : World) : (Op.equalIn 10000 99 (.agg #[.int .i64 a, .int .i64 b, .int .i64 c]) (.agg #[.int .i64 d, .int .i64 e, .int .i64 f])).run Try.prog w = .ok (decide ((a = d ∧ b = e) ∧ c = f)) w := by
  have u3 := Try.underlying3
  have a3 := Try.isAgg3
  have z3 := Try.sizeOf3
  have u4 := Try.underlying54
  rw [show (10000 : Nat) = 9998 + 2 from rfl, Op.equalIn]
  simp only [Sem.run_bind, run_underlying Try.underlying99, Result.andThen_ok]
  go_simp
  by_cases h1 : a = d <;> by_cases h2 : b = e <;> by_cases h3 : c = f <;> simp [h1, h2, h3]
end Go.Proofs.Ytdlkdagmaeapdaa
