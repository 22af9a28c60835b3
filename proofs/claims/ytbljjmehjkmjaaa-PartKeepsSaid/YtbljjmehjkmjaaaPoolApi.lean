/- What the statements of layer 5 want of the program's pool, told of the plain pool: one word for each call. The words are shown of the program in another text. No condition. -/
import Derived.Test.YtbljjmehjkmjaaaBdPoolZ
import Derived.Test.YtbljjmehjkmjaaaHeld
namespace Go.Proofs.Ytbljjmehjkmjaaa
open Go.RowKit
set_option linter.unusedVariables false
set_option maxRecDepth 100000

/-- A new pool. -/
def PNew (PT : Nat → PM → Thing) (w : World) (n size : Nat) (e : Ending) (w' : World) : Prop :=
  ∃ q, e = .returned (.tuple #[.pointer (some ⟨q, 0, none⟩), .int .i64 0]) ∧ ∃ W, (PT q (PM.new n size)).at_ w' W ∧ Still w w' ∧ ∀ k, W k → w.heap.size ≤ k

/-- Numbers that are handed out. -/
def GotNums (w : World) (l : List Int) (n : Nat) (e : Ending) (w' : World) : Prop := ∃ a c, e = .returned (.slice a n c) ∧ w'.ownsRow w.heap.size 3 1 (.slice a n c) n (ints l) ∧ Still w w'

def cntOf (M : PM) (k : Int) : Int := if 0 ≤ k ∧ k < M.sl.length then ((M.sl[k.toNat]?.getD ⟨0, 0, []⟩).c : Int) else 0
def genOf (M : PM) (k : Int) : Int := if 0 ≤ k ∧ k < M.sl.length then ((M.sl[k.toNat]?.getD ⟨0, 0, []⟩).g : Int) else 0

structure PoolApi (PT : Nat → PM → Thing) : Prop where
  make_no : ∀ (n s : Int) (w : World), i64 n → i64 s → ¬ (1 ≤ n ∧ n ≤ 128 ∧ 1 ≤ s ∧ s ≤ 256) → Calls Try.prog 7 #[.int .i64 n, .int .i64 s] w fun e w' => e = .returned (.tuple #[.pointer none, .int .i64 2]) ∧ Still w w'
  make_ok : ∀ (n s : Nat) (w : World), 1 ≤ n → n ≤ 128 → 1 ≤ s → s ≤ 256 → Calls Try.prog 7 #[.int .i64 n, .int .i64 s] w (PNew PT w n s)
  take : ∀ {w : World} {W : Nat → Prop} {q : Nat} {M : PM} {N : Nat}, (PT q M).at_ w W → M.Ok N → N < 1000000 → ∀ n : Int, i64 n →
    Calls Try.prog 26 #[.pointer (some ⟨q, 0, none⟩), .int .i64 n] w fun e w' => e = .returned (.tuple #[.int .i64 (M.takeH n), .int .i64 (M.takeE n)]) ∧ Goes (PT q (M.takeM n)) W w w'
  fill : ∀ {w : World} {W : Nat → Prop} {q : Nat} {M : PM} {N : Nat}, (PT q M).at_ w W → M.Ok N → N < 1000000 → ∀ (h : Int), i64 h → ∀ (ao : Option Addr) (b : List UInt8) (m cap : Nat), m = b.length → BytesAt w ao b → b.length ≤ 70368744177664 → m ≤ cap → cap ≤ maxLen → (ao = none → cap = 0) →
    Calls Try.prog 30 #[.pointer (some ⟨q, 0, none⟩), .int .i64 h, .slice ao m cap] w fun e w' => e = .returned (.int .i64 (M.fillE h b)) ∧ Goes (PT q (M.fillM h b)) W w w'
  keep : ∀ {w : World} {W : Nat → Prop} {q : Nat} {M : PM} {N : Nat}, (PT q M).at_ w W → M.Ok N → N < 1000000 → ∀ h : Int, i64 h →
    Calls Try.prog 33 #[.pointer (some ⟨q, 0, none⟩), .int .i64 h] w fun e w' => e = .returned (.int .i64 (M.err h)) ∧ Goes (PT q (M.keepM h)) W w w'
  drop : ∀ {w : World} {W : Nat → Prop} {q : Nat} {M : PM} {N : Nat}, (PT q M).at_ w W → M.Ok N → N < 1000000 → ∀ h : Int, i64 h →
    Calls Try.prog 39 #[.pointer (some ⟨q, 0, none⟩), .int .i64 h] w fun e w' => e = .returned (.tuple #[.int .i64 (M.dropN h), .int .i64 (M.err h)]) ∧ Goes (PT q (M.dropM h)) W w w'
  bytes : ∀ {w : World} {W : Nat → Prop} {q : Nat} {M : PM} {N : Nat}, (PT q M).at_ w W → M.Ok N → N < 1000000 → ∀ h : Int, i64 h →
    Calls Try.prog 18 #[.pointer (some ⟨q, 0, none⟩), .int .i64 h] w (GotBytes w (M.bytes h) (M.err h))
  count : ∀ {w : World} {W : Nat → Prop} {q : Nat} {M : PM} {N : Nat}, (PT q M).at_ w W → M.Ok N → N < 1000000 → ∀ k : Int, i64 k →
    Calls Try.prog 78 #[.pointer (some ⟨q, 0, none⟩), .int .i64 k] w fun e w' => e = .returned (.int .i64 (cntOf M k)) ∧ Still w w'
  gen : ∀ {w : World} {W : Nat → Prop} {q : Nat} {M : PM} {N : Nat}, (PT q M).at_ w W → M.Ok N → N < 1000000 → ∀ k : Int, i64 k →
    Calls Try.prog 75 #[.pointer (some ⟨q, 0, none⟩), .int .i64 k] w fun e w' => e = .returned (.int .i64 (genOf M k)) ∧ Still w w'
  free : ∀ {w : World} {W : Nat → Prop} {q : Nat} {M : PM} {N : Nat}, (PT q M).at_ w W → M.Ok N → N < 1000000 → ∀ n : Nat, n = M.fr.length →
    Calls Try.prog 64 #[.pointer (some ⟨q, 0, none⟩)] w (GotNums w (nums M.fr) n)
  slots : ∀ {w : World} {W : Nat → Prop} {q : Nat} {M : PM} {N : Nat}, (PT q M).at_ w W → M.Ok N → N < 1000000 →
    Calls Try.prog 22 #[.pointer (some ⟨q, 0, none⟩)] w fun e w' => e = .returned (.int .i64 M.sl.length) ∧ Still w w'
  size : ∀ {w : World} {W : Nat → Prop} {q : Nat} {M : PM} {N : Nat}, (PT q M).at_ w W → M.Ok N → N < 1000000 →
    Calls Try.prog 44 #[.pointer (some ⟨q, 0, none⟩)] w fun e w' => e = .returned (.int .i64 M.size) ∧ Still w w'

end Go.Proofs.Ytbljjmehjkmjaaa