/- RingVoid: the walk. No condition but that the program's ring keeps its words, and its words of a ring that no call made. -/
import Derived.Test.YtbljjmehjkmjaaaWorks6
namespace Go.Proofs.Ytbljjmehjkmjaaa
open Go.RowKit
set_option linter.unusedVariables false
set_option maxRecDepth 100000

/-- The words of a ring that no call made: V tells which pointers are such ones. zero: what 'var z ring.Ring' lays. -/
structure VoidRing (V : Option Addr → World → Prop) (zero : Obj) : Prop where
  nil_ : ∀ W, V none W
  zero : ∀ W : World, V (some ⟨W.heap.size, 0, none⟩) (W.alloc zero)
  still : ∀ {p : Option Addr} {W W' : World}, V p W → Still W W' → V p W'
  claim : ∀ {p : Option Addr} {W : World} (n : Int), V p W → Calls Try.prog 27 #[.pointer p, .int .i64 n] W fun e w' => e = .returned (.tuple #[.int .i64 0, .int .i64 0, .int .i64 1]) ∧ Still W w'
  pub : ∀ {p : Option Addr} {W : World} (n : Int), V p W → Calls Try.prog 32 #[.pointer p, .int .i64 n] W fun e w' => e = .returned (.int .i64 1) ∧ Still W w'
  get : ∀ {p : Option Addr} {W : World} (n : Int), V p W → Calls Try.prog 29 #[.pointer p, .int .i64 n] W fun e w' => e = .returned (.tuple #[.int .i64 0, .int .i64 1]) ∧ Still W w'
  trim : ∀ {p : Option Addr} {W : World} (n : Int), V p W → Calls Try.prog 38 #[.pointer p, .int .i64 n] W fun e w' => (∃ a c, e = .returned (.tuple #[.slice a 0 c, .int .i64 1])) ∧ Still W w'
  ready : ∀ {p : Option Addr} {W : World} (n : Int), V p W → Calls Try.prog 40 #[.pointer p, .int .i64 n] W fun e w' => e = .returned (.int .i64 0) ∧ Still W w'
  head : ∀ {p : Option Addr} {W : World}, V p W → Calls Try.prog 34 #[.pointer p] W fun e w' => e = .returned (.int .i64 0) ∧ Still W w'
  tail : ∀ {p : Option Addr} {W : World}, V p W → Calls Try.prog 35 #[.pointer p] W fun e w' => e = .returned (.int .i64 0) ∧ Still W w'
  room : ∀ {p : Option Addr} {W : World}, V p W → Calls Try.prog 47 #[.pointer p] W fun e w' => e = .returned (.int .i64 0) ∧ Still W w'
  refs : ∀ {p : Option Addr} {W : World}, V p W → Calls Try.prog 62 #[.pointer p] W fun e w' => (∃ a c, e = .returned (.slice a 0 c)) ∧ Still W w'

/-- What 'var z ring.Ring' lays: the landed struct's noughts. -/
def zeroRing : Obj := .cells #[.int .i64 0, .int .i64 0, .int .i64 0, .slice none 0 0, .slice none 0 0] 73

def VRing (V : Option Addr → World → Prop) (w : World) (b : Nat) (W : World) : Prop := V (some ⟨b, 0, none⟩) W ∧ V none W ∧ Still w W
theorem VRing.go {V : Option Addr → World → Prop} {zero : Obj} (A : VoidRing V zero) {w W W' : World} {b : Nat} (h : VRing V w b W) (ht : Still W W') : VRing V w b W' := ⟨A.still h.1 ht, A.nil_ _, h.2.2.trans ht⟩

end Go.Proofs.Ytbljjmehjkmjaaa