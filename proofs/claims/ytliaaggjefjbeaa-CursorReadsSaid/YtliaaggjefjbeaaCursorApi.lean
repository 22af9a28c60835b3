/- What the statements of layer 7 want of the program's calls on windows, told of the plain cursor; what '==' says of two spans. The words are shown of the program in another text. No condition. -/
import Derived.Test.YtliaaggjefjbeaaCursor
import Derived.Test.YtliaaggjefjbeaaRing
import Derived.Laws.StructEq
namespace Go.Proofs.Ytliaaggjefjbeaa
open Go.RowKit
set_option linter.unusedVariables false
set_option maxRecDepth 100000

structure CursorApi : Prop where
  check : ∀ (h t : Int) (w : World), w64 h → w64 t → Calls Try.prog 15 #[.int .i64 h, .int .i64 t] w fun e w' => e = .returned (.int .i64 (ckE h t)) ∧ Still w w'
  move : ∀ (a h t : Int) (w : World), w64 a → w64 h → w64 t → Calls Try.prog 9 #[.int .i64 a, .int .i64 h, .int .i64 t] w fun e w' => e = .returned (.tuple #[.int .i64 (mvA a h t), .agg #[.int .i64 (mvF a h t), .int .i64 (mvT a h t)], .int .i64 (mvE a h t)]) ∧ Still w w'
  behind : ∀ (a h t : Int) (w : World), w64 a → w64 h → w64 t → Calls Try.prog 11 #[.int .i64 a, .int .i64 h, .int .i64 t] w fun e w' => e = .returned (.tuple #[.int .i64 (bhN a h t), .int .i64 (mvE a h t)]) ∧ Still w w'
  seek : ∀ (a h t : Int) (w : World), w64 a → w64 h → w64 t → Calls Try.prog 13 #[.int .i64 a, .int .i64 h, .int .i64 t] w fun e w' => e = .returned (.tuple #[.int .i64 (skA a h t), .int .i64 (skE a h t)]) ∧ Still w w'
  slow : ∀ (w : World) (ao : Option Addr) (l : List Int) (n cap : Nat), n = l.length → NumsAt w ao l → n ≤ 1000 → Calls Try.prog 17 #[.slice ao n cap] w fun e w' => e = .returned (.int .i64 (slow l)) ∧ Still w w'

/-- A span's box, behind whatever left it alone. -/
theorem box_span {w1 w2 : World} {f t : Int} (h : Still (w1.alloc (.cells #[.int .i64 f, .int .i64 t] 24)) w2) :
    w2.cell? ⟨w1.heap.size, 0, none⟩ = some (.int .i64 f) ∧ w2.cell? ⟨w1.heap.size, 1, none⟩ = some (.int .i64 t) := by
  have := (Blk.new w1 [.int .i64 f, .int .i64 t] 24).turned h (fun h => h)
  exact ⟨this.cell rfl, this.cell rfl⟩

@[go_sem] theorem span_eqIn (a b c d : Int) (w : World) : (Op.equalIn 10000 24 (.agg #[.int .i64 a, .int .i64 b]) (.agg #[.int .i64 c, .int .i64 d])).run Try.prog w = .ok (decide ([a, b] = [c, d])) w := by
  have u3 := Try.underlying3
  have a3 := Try.isAgg3
  have z3 := Try.sizeOf3
  rw [show (10000 : Nat) = 9999 + 1 from rfl, Op.equalIn]
  simp only [Sem.run_bind, run_underlying Try.underlying24, Result.andThen_ok]
  go_simp
  by_cases h1 : a = c <;> by_cases h2 : b = d <;> simp [h1, h2]
end Go.Proofs.Ytliaaggjefjbeaa
