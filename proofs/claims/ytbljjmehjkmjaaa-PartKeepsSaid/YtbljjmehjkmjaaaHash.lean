/- Package hash: what each of its functions answers, as plain functions on bytes. No condition but the lengths that memory allows. -/
import Derived.Test.YtbljjmehjkmjaaaBytes
import Derived.LoopTactic
namespace Go.Proofs.Ytbljjmehjkmjaaa
open Go.RowKit
set_option linter.unusedVariables false
set_option maxRecDepth 100000

/-- A sum of 64 bits taken through a byte; through bytes. -/
def st64 (f s : Nat) (x : UInt8) : Nat := (s ^^^ x.toNat) * f % 18446744073709551616
def th64 (f s : Nat) (l : List UInt8) : Nat := l.foldl (st64 f) s
def st32 (f s : Nat) (x : UInt8) : Nat := (s ^^^ x.toNat) * f % 4294967296
def th32 (f s : Nat) (l : List UInt8) : Nat := l.foldl (st32 f) s
abbrev on64 (s : Nat) (l : List UInt8) : Nat := th64 1099511628211 s l
abbrev sum64 (l : List UInt8) : Nat := on64 14695981039346656037 l
abbrev sum32 (l : List UInt8) : Nat := th32 16777619 2166136261 l

theorem u8_lt (x : UInt8) : x.toNat < 256 := x.toNat_lt
theorem th64_lt (f : Nat) : ∀ (l : List UInt8) (s : Nat), s < 18446744073709551616 → th64 f s l < 18446744073709551616
  | [], s, h => h
  | x :: r, s, h => th64_lt f r _ (Nat.mod_lt _ (by omega))
theorem th32_lt (f : Nat) : ∀ (l : List UInt8) (s : Nat), s < 4294967296 → th32 f s l < 4294967296
  | [], s, h => h
  | x :: r, s, h => th32_lt f r _ (Nat.mod_lt _ (by omega))
theorem th64_snoc (f s : Nat) (l : List UInt8) (x : UInt8) : th64 f s (l ++ [x]) = st64 f (th64 f s l) x := by simp [th64]
theorem th32_snoc (f s : Nat) (l : List UInt8) (x : UInt8) : th32 f s (l ++ [x]) = st32 f (th32 f s l) x := by simp [th32]

theorem wrap_byte64 (x : UInt8) : IntKind.u64.wrap (x.toNat : Int) = x.toNat := by
  rw [IntKind.wrap_u64]; have := u8_lt x; omega
theorem wrap_byte32 (x : UInt8) : IntKind.u32.wrap (x.toNat : Int) = x.toNat := by
  rw [IntKind.wrap_u32']; have := u8_lt x; omega
theorem xor_byte64 (s : Nat) (x : UInt8) (h : s < 18446744073709551616) : bits .xor .u64 (s : Int) (x.toNat : Int) = ((s ^^^ x.toNat : Nat) : Int) :=
  bits_xor_u64_nat _ _ h (by have := u8_lt x; omega)
theorem xor_byte32 (s : Nat) (x : UInt8) (h : s < 4294967296) : bits .xor .u32 (s : Int) (x.toNat : Int) = ((s ^^^ x.toNat : Nat) : Int) :=
  u32_xor_nat _ _ h (by have := u8_lt x; omega)
theorem mul64 (a b : Nat) : IntKind.u64.wrap ((a : Int) * (b : Int)) = ((a * b % 18446744073709551616 : Nat) : Int) := by
  rw [IntKind.wrap_u64]; simp
theorem mul32 (a b : Nat) : IntKind.u32.wrap ((a : Int) * (b : Int)) = ((a * b % 4294967296 : Nat) : Int) := by
  rw [IntKind.wrap_u32']; simp

/-- Which part a key belongs to. -/
def partOf (n : Int) (l : List UInt8) : Int := if n < 1 then 0 else ((sum64 l % n.toNat : Nat) : Int)
def partErr (n : Int) : Int := if n < 1 then 2 else 0
def partV (n : Int) (l : List UInt8) : Value := .tuple #[.int .i64 (partOf n l), .int .i64 (partErr n)]

def TextPost (w : World) (s : ByteArray) (e : Ending) (w' : World) : Prop := e = .returned (.int .u64 (sum64 s.data.toList : Nat)) ∧ Still w w'

end Go.Proofs.Ytbljjmehjkmjaaa