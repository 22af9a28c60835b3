/- PoolVoid: the walk. No condition but that the program's pool keeps its words, and its words of a pool that no call made. -/
import Derived.Test.YtbljjmehjkmjaaaWorks5
namespace Go.Proofs.Ytbljjmehjkmjaaa
open Go.RowKit
set_option linter.unusedVariables false
set_option maxRecDepth 100000

/-- The words of a pool that no call made: V tells which pointers are such ones. zero: what 'var z pool.Pool' lays. -/
structure VoidApi (V : Option Addr → World → Prop) (zero : Obj) : Prop where
  nil_ : ∀ W, V none W
  zero : ∀ W : World, V (some ⟨W.heap.size, 0, none⟩) (W.alloc zero)
  still : ∀ {p : Option Addr} {W W' : World}, V p W → Still W W' → V p W'
  take : ∀ {p : Option Addr} {W : World} (n : Int), V p W → Calls Try.prog 26 #[.pointer p, .int .i64 n] W fun e w' => e = .returned (.tuple #[.int .i64 0, .int .i64 1]) ∧ Still W w'
  drop : ∀ {p : Option Addr} {W : World} (n : Int), V p W → Calls Try.prog 39 #[.pointer p, .int .i64 n] W fun e w' => e = .returned (.tuple #[.int .i64 0, .int .i64 1]) ∧ Still W w'
  bytes : ∀ {p : Option Addr} {W : World} (n : Int), V p W → Calls Try.prog 18 #[.pointer p, .int .i64 n] W fun e w' => (∃ a c, e = .returned (.tuple #[.slice a 0 c, .int .i64 1])) ∧ Still W w'
  fill : ∀ {p : Option Addr} {W : World} (n : Int), V p W → Calls Try.prog 30 #[.pointer p, .int .i64 n, .slice none 0 0] W fun e w' => e = .returned (.int .i64 1) ∧ Still W w'
  keep : ∀ {p : Option Addr} {W : World} (n : Int), V p W → Calls Try.prog 33 #[.pointer p, .int .i64 n] W fun e w' => e = .returned (.int .i64 1) ∧ Still W w'
  count : ∀ {p : Option Addr} {W : World} (n : Int), V p W → Calls Try.prog 78 #[.pointer p, .int .i64 n] W fun e w' => e = .returned (.int .i64 0) ∧ Still W w'
  gen : ∀ {p : Option Addr} {W : World} (n : Int), V p W → Calls Try.prog 75 #[.pointer p, .int .i64 n] W fun e w' => e = .returned (.int .i64 0) ∧ Still W w'
  free : ∀ {p : Option Addr} {W : World}, V p W → Calls Try.prog 64 #[.pointer p] W fun e w' => (∃ a c, e = .returned (.slice a 0 c)) ∧ Still W w'
  slots : ∀ {p : Option Addr} {W : World}, V p W → Calls Try.prog 22 #[.pointer p] W fun e w' => e = .returned (.int .i64 0) ∧ Still W w'
  size : ∀ {p : Option Addr} {W : World}, V p W → Calls Try.prog 44 #[.pointer p] W fun e w' => e = .returned (.int .i64 0) ∧ Still W w'

/-- What 'var z pool.Pool' lays: TO BE SET TO THE LANDED STRUCT's noughts. -/
def zeroPool : Obj := .cells #[.int .i64 0, .slice none 0 0, .slice none 0 0, .slice none 0 0] 54

def VStep (V : Option Addr → World → Prop) (w : World) (b : Nat) (W : World) : Prop := V (some ⟨b, 0, none⟩) W ∧ V none W ∧ Still w W
theorem VStep.go {V : Option Addr → World → Prop} {zero : Obj} (A : VoidApi V zero) {w W W' : World} {b : Nat} (h : VStep V w b W) (ht : Still W W') : VStep V w b W' := ⟨A.still h.1 ht, A.nil_ _, h.2.2.trans ht⟩

end Go.Proofs.Ytbljjmehjkmjaaa