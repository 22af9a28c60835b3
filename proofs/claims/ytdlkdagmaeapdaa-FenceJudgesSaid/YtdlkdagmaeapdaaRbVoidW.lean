/- RebalVoid: the walk. No condition but that the program's table keeps its words, and its words of a table that no call made. -/
import Derived.Test.YtdlkdagmaeapdaaBdRbM
namespace Go.Proofs.Ytdlkdagmaeapdaa
open Go.RowKit
set_option linter.unusedVariables false
set_option linter.unusedSimpArgs false
set_option maxRecDepth 100000

/-- The words of a table that no call made: V tells which pointers are such ones. zero: what 'var z rebal.Table' lays. -/
structure VoidRebal (V : Option Addr → World → Prop) (zero : Obj) : Prop where
  nil_ : ∀ W, V none W
  zero : ∀ W : World, V (some ⟨W.heap.size, 0, none⟩) (W.alloc zero)
  still : ∀ {p : Option Addr} {W W' : World}, V p W → Still W W' → V p W'
  begin_ : ∀ {p bo ao : Option Addr} {W : World} {n m c1 c2 : Nat}, V p W → Calls Try.prog 33 #[.pointer p, .slice bo n c1, .slice ao m c2] W fun e w' => e = .returned (.tuple #[.bool false, .int .i64 1]) ∧ Still W w'
  ack : ∀ {p : Option Addr} {W : World} (n : Int), V p W → Calls Try.prog 35 #[.pointer p, .int .i64 n] W fun e w' => e = .returned (.tuple #[.bool false, .int .i64 1]) ∧ Still W w'
  has : ∀ {p : Option Addr} {W : World} (n a b : Int), V p W → Calls Try.prog 66 #[.pointer p, .int .i64 n, .agg #[.int .i64 a, .int .i64 b]] W fun e w' => e = .returned (.int .i64 1) ∧ Still W w'
  gen : ∀ {p : Option Addr} {W : World}, V p W → Calls Try.prog 67 #[.pointer p] W fun e w' => e = .returned (.int .i64 0) ∧ Still W w'
  revoked : ∀ {p : Option Addr} {W : World} (n : Int), V p W → Calls Try.prog 64 #[.pointer p, .int .i64 n] W fun e w' => (∃ a c, e = .returned (.slice a 0 c)) ∧ Still W w'
  waits : ∀ {p : Option Addr} {W : World}, V p W → Calls Try.prog 85 #[.pointer p] W fun e w' => (∃ a c, e = .returned (.slice a 0 c)) ∧ Still W w'
/-- What 'var z rebal.Table' lays: the struct's noughts. -/
def zeroRb : Obj := .cells #[.slice none 0 0, .slice none 0 0, .int .i64 0, .bool false] 93

def VRb (V : Option Addr → World → Prop) (w : World) (b : Nat) (W : World) : Prop := V (some ⟨b, 0, none⟩) W ∧ V none W ∧ Still w W
theorem VRb.go {V : Option Addr → World → Prop} {zero : Obj} (A : VoidRebal V zero) {w W W' : World} {b : Nat} (h : VRb V w b W) (ht : Still W W') : VRb V w b W' := ⟨A.still h.1 ht, A.nil_ _, h.2.2.trans ht⟩

end Go.Proofs.Ytdlkdagmaeapdaa
