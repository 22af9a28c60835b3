/- Package hash: what each of its functions answers, as plain functions on bytes. No condition but the lengths that memory allows. -/
import Derived.Test.YtdblhflebaffcaaBytes
import Derived.LoopTactic
namespace Go.Proofs.Ytdblhflebaffcaa
open Go.RowKit
set_option linter.unusedVariables false
set_option maxRecDepth 100000

/-- A sum of 64 bits taken through a byte; through bytes. -/
def st64 (f s : Nat) (x : UInt8) : Nat := (s ^^^ x.toNat) * f % 18446744073709551616
def th64 (f s : Nat) (l : List UInt8) : Nat := l.foldl (st64 f) s
def st32 (f s : Nat) (x : UInt8) : Nat := (s ^^^ x.toNat) * f % 4294967296
def th32 (f s : Nat) (l : List UInt8) : Nat := l.foldl (st32 f) s
abbrev on64 (s : Nat) (l : List UInt8) : Nat := th64 1099511628211 s l
abbrev sum64 (l : List UInt8) : Nat := on64 14695981039346656037 l
abbrev sum32 (l : List UInt8) : Nat := th32 16777619 2166136261 l

theorem u8_lt (x : UInt8) : x.toNat < 256 := x.toNat_lt
theorem th64_lt (f : Nat) : ∀ (l : List UInt8) (s : Nat), s < 18446744073709551616 → th64 f s l < 18446744073709551616
  | [], s, h => h
  | x :: r, s, h => th64_lt f r _ (Nat.mod_lt _ (by omega))
theorem th32_lt (f : Nat) : ∀ (l : List UInt8) (s : Nat), s < 4294967296 → th32 f s l < 4294967296
  | [], s, h => h
  | x :: r, s, h => th32_lt f r _ (Nat.mod_lt _ (by omega))
theorem th64_snoc (f s : Nat) (l : List UInt8) (x : UInt8) : th64 f s (l ++ [x]) = st64 f (th64 f s l) x := by simp [th64]
theorem th32_snoc (f s : Nat) (l : List UInt8) (x : UInt8) : th32 f s (l ++ [x]) = st32 f (th32 f s l) x := by simp [th32]

theorem wrap_byte64 (x : UInt8) : IntKind.u64.wrap (x.toNat : Int) = x.toNat := by
  rw [IntKind.wrap_u64]; have := u8_lt x; omega
theorem wrap_byte32 (x : UInt8) : IntKind.u32.wrap (x.toNat : Int) = x.toNat := by
  rw [IntKind.wrap_u32']; have := u8_lt x; omega
theorem xor_byte64 (s : Nat) (x : UInt8) (h : s < 18446744073709551616) : bits .xor .u64 (s : Int) (x.toNat : Int) = ((s ^^^ x.toNat : Nat) : Int) :=
  bits_xor_u64_nat _ _ h (by have := u8_lt x; omega)
theorem xor_byte32 (s : Nat) (x : UInt8) (h : s < 4294967296) : bits .xor .u32 (s : Int) (x.toNat : Int) = ((s ^^^ x.toNat : Nat) : Int) :=
  u32_xor_nat _ _ h (by have := u8_lt x; omega)
theorem mul64 (a b : Nat) : IntKind.u64.wrap ((a : Int) * (b : Int)) = ((a * b % 18446744073709551616 : Nat) : Int) := by
  rw [IntKind.wrap_u64]; simp
theorem mul32 (a b : Nat) : IntKind.u32.wrap ((a : Int) * (b : Int)) = ((a * b % 4294967296 : Nat) : Int) := by
  rw [IntKind.wrap_u32']; simp

theorem through64_any (f s : Nat) (w : World) (ao : Option Addr) (l : List UInt8) (cap : Nat) (hs : s < 18446744073709551616) (hA : BytesAt w ao l) (hl : l.length ≤ 4611686018427387904) :
    Calls Try.prog 37 #[.int .u64 s, .int .u64 f, .slice ao l.length cap] w fun e w' => e = .returned (.int .u64 (th64 f s l : Nat)) ∧ w = w' := by
  have HA := Lib.hid hA
  clear hA
  obtain ⟨n, hn⟩ : ∃ n, n = l.length := ⟨_, rfl⟩
  rw [← hn] at hl ⊢
  have HN := Lib.hid hn
  clear hn
  go_enter Try.func37, Try.ntmps37
  go_wp2
  go_loop [0, 11] (fun t i => ∃ k : Nat, k ≤ n ∧ i = .int .i64 k ∧ t = .int .u64 (th64 f s (l.take k) : Nat)) (fun _ i => n - (intOf i).toNat)
  case atStart => exact ⟨0, Nat.zero_le _, rfl, rfl⟩
  case round =>
    obtain ⟨k, hk, rfl, rfl⟩ := hrel
    by_cases hlt : k < n
    · obtain ⟨x, hx⟩ := get_some (l := l) (i := k) (by rw [← HN.out]; exact hlt)
      obtain ⟨b, o, rfl, hc⟩ := HA.out k x hx
      have HX := Lib.hid (List.take_add_one (l := l) (i := k))
      have HS := Lib.hid (th64_snoc f s (l.take k) x)
      have HT := Lib.hid hx
      clear hx
      have h1 := wrap_byte64 x
      have h2 := xor_byte64 (th64 f s (l.take k)) x (th64_lt f _ _ hs)
      have h3 := mul64 (th64 f s (l.take k) ^^^ x.toNat) f
      go_wp2
      go_round
      case rel => exact ⟨k + 1, by omega, by go_num, by rw [HX.out, HT.out]; exact congrArg (fun z : Nat => Value.int .u64 (z : Int)) HS.out.symm⟩
      case measure => simp [intOf]; omega
    · obtain rfl : k = n := by omega
      go_wp2
      go_ret
      exact ⟨ret_int (by rw [List.take_of_length_le (by rw [HN.out]; omega)]), rfl⟩

theorem on_any (s : Nat) (w : World) (ao : Option Addr) (l : List UInt8) (cap : Nat) (hs : s < 18446744073709551616) (hA : BytesAt w ao l) (hl : l.length ≤ 4611686018427387904) :
    Calls Try.prog 35 #[.int .u64 s, .slice ao l.length cap] w fun e w' => e = .returned (.int .u64 (on64 s l : Nat)) ∧ w = w' := by
  have H := fun cap => through64_any 1099511628211 s w ao l cap hs hA hl
  generalize l.length = n at *
  clear hs hA hl
  go_enter Try.func35, Try.ntmps35
  go_wp2_with (go_at_call 37; refine (H _).mono ?_; rintro e w' ⟨rfl, rfl⟩)
  go_ret
  exact ⟨rfl, rfl⟩

theorem sum_any (w : World) (ao : Option Addr) (l : List UInt8) (cap : Nat) (hA : BytesAt w ao l) (hl : l.length ≤ 4611686018427387904) :
    Calls Try.prog 31 #[.slice ao l.length cap] w fun e w' => e = .returned (.int .u64 (sum64 l : Nat)) ∧ w = w' := by
  have H := fun cap => on_any 14695981039346656037 w ao l cap (by omega) hA hl
  generalize l.length = n at *
  clear hA hl
  go_enter Try.func31, Try.ntmps31
  go_wp2_with (go_at_call 35; refine (H _).mono ?_; rintro e w' ⟨rfl, rfl⟩)
  go_ret
  exact ⟨rfl, rfl⟩

/-- Which part a key belongs to. -/
def partOf (n : Int) (l : List UInt8) : Int := if n < 1 then 0 else ((sum64 l % n.toNat : Nat) : Int)
def partErr (n : Int) : Int := if n < 1 then 2 else 0
def partV (n : Int) (l : List UInt8) : Value := .tuple #[.int .i64 (partOf n l), .int .i64 (partErr n)]

theorem part_any (n : Int) (w : World) (ao : Option Addr) (l : List UInt8) (cap : Nat) (hn : n ≤ 9223372036854775807) (hA : BytesAt w ao l) (hl : l.length ≤ 4611686018427387904) :
    Calls Try.prog 25 #[.int .i64 n, .slice ao l.length cap] w fun e w' => e = .returned (partV n l) ∧ w = w' := by
  have H := fun cap => sum_any w ao l cap hA hl
  generalize l.length = m at *
  clear hA hl
  by_cases h : n < 1
  · have HV := Lib.hid (show partV n l = .tuple #[.int .i64 0, .int .i64 2] by simp [partV, partOf, partErr, h])
    go_enter Try.func25, Try.ntmps25
    go_wp2
    go_ret2
    exact ⟨by rw [HV.out]; rfl, rfl⟩
  · obtain ⟨k, rfl⟩ : ∃ k : Nat, n = k := ⟨n.toNat, by omega⟩
    have h0 : 1 ≤ k := by omega
    have HV := Lib.hid (show partV k l = .tuple #[.int .i64 ((sum64 l % k : Nat) : Int), .int .i64 0] by simp [partV, partOf, partErr, h])
    have hs := th64_lt 1099511628211 l 14695981039346656037 (by omega)
    have hw : IntKind.u64.wrap (k : Int) = k := by rw [IntKind.wrap_u64]; omega
    have hlt : sum64 l % k < k := Nat.mod_lt _ h0
    have HLT := Lib.hid hlt
    clear hs hlt
    go_enter Try.func25, Try.ntmps25
    go_wp2_with (go_at_call 31; refine (H _).mono ?_; rintro e w' ⟨rfl, rfl⟩)
    go_ret2
    refine ⟨?_, rfl⟩
    rw [HV.out]
    show Ending.returned (.tuple #[.int .i64 (wrap64 (((sum64 l : Nat) : Int) % (k : Int))), .int .i64 0]) = _
    have := HLT.out
    rw [← Int.natCast_emod, IntWalk.wrap64_in _ (by omega)]

def TextPost (w : World) (s : ByteArray) (e : Ending) (w' : World) : Prop := e = .returned (.int .u64 (sum64 s.data.toList : Nat)) ∧ Still w w'

end Go.Proofs.Ytdblhflebaffcaa