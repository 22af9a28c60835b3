/- Texts that lie next to one another, laid into one: each says what it holds. No condition but what each states. -/
import Derived.Test.YtmmkcfiecgpkpaaGreatBdRead
import Derived.LoopTactic
import Derived.Laws.BitsAllLaws
import Derived.Deep.QuietTactic

/- Package hash: what each of its functions answers, as plain functions on bytes. No condition but the lengths that memory allows. -/
namespace Go.Proofs.YtmmkcfiecgpkpaaGreat
open Go.RowKit
set_option linter.unusedVariables false
set_option maxRecDepth 100000

/-- A sum of 64 bits taken through a byte; through bytes. -/
def st64 (f s : Nat) (x : UInt8) : Nat := (s ^^^ x.toNat) * f % 18446744073709551616
def th64 (f s : Nat) (l : List UInt8) : Nat := l.foldl (st64 f) s
def st32 (f s : Nat) (x : UInt8) : Nat := (s ^^^ x.toNat) * f % 4294967296
def th32 (f s : Nat) (l : List UInt8) : Nat := l.foldl (st32 f) s
abbrev on64 (s : Nat) (l : List UInt8) : Nat := th64 1099511628211 s l
abbrev sum64 (l : List UInt8) : Nat := on64 14695981039346656037 l
abbrev sum32 (l : List UInt8) : Nat := th32 16777619 2166136261 l

theorem u8_lt (x : UInt8) : x.toNat < 256 := x.toNat_lt
theorem th64_lt (f : Nat) : ∀ (l : List UInt8) (s : Nat), s < 18446744073709551616 → th64 f s l < 18446744073709551616
  | [], s, h => h
  | x :: r, s, h => th64_lt f r _ (Nat.mod_lt _ (by omega))
theorem th32_lt (f : Nat) : ∀ (l : List UInt8) (s : Nat), s < 4294967296 → th32 f s l < 4294967296
  | [], s, h => h
  | x :: r, s, h => th32_lt f r _ (Nat.mod_lt _ (by omega))
theorem th64_snoc (f s : Nat) (l : List UInt8) (x : UInt8) : th64 f s (l ++ [x]) = st64 f (th64 f s l) x := by simp [th64]
theorem th32_snoc (f s : Nat) (l : List UInt8) (x : UInt8) : th32 f s (l ++ [x]) = st32 f (th32 f s l) x := by simp [th32]

theorem wrap_byte64 (x : UInt8) : IntKind.u64.wrap (x.toNat : Int) = x.toNat := by
  rw [IntKind.wrap_u64]; have := u8_lt x; omega
theorem wrap_byte32 (x : UInt8) : IntKind.u32.wrap (x.toNat : Int) = x.toNat := by
  rw [IntKind.wrap_u32']; have := u8_lt x; omega
theorem xor_byte64 (s : Nat) (x : UInt8) (h : s < 18446744073709551616) : bits .xor .u64 (s : Int) (x.toNat : Int) = ((s ^^^ x.toNat : Nat) : Int) :=
  bits_xor_u64_nat _ _ h (by have := u8_lt x; omega)
theorem xor_byte32 (s : Nat) (x : UInt8) (h : s < 4294967296) : bits .xor .u32 (s : Int) (x.toNat : Int) = ((s ^^^ x.toNat : Nat) : Int) :=
  u32_xor_nat _ _ h (by have := u8_lt x; omega)
theorem mul64 (a b : Nat) : IntKind.u64.wrap ((a : Int) * (b : Int)) = ((a * b % 18446744073709551616 : Nat) : Int) := by
  rw [IntKind.wrap_u64]; simp
theorem mul32 (a b : Nat) : IntKind.u32.wrap ((a : Int) * (b : Int)) = ((a * b % 4294967296 : Nat) : Int) := by
  rw [IntKind.wrap_u32']; simp

theorem through64_any (f s : Nat) (w : World) (ao : Option Addr) (l : List UInt8) (cap : Nat) (hs : s < 18446744073709551616) (hA : BytesAt w ao l) (hl : l.length ≤ 4611686018427387904) :
    Calls Tryz.prog 133 #[.int .u64 s, .int .u64 f, .slice ao l.length cap] w fun e w' => e = .returned (.int .u64 (th64 f s l : Nat)) ∧ w = w' := by
  have HA := Lib.hid hA
  clear hA
  obtain ⟨n, hn⟩ : ∃ n, n = l.length := ⟨_, rfl⟩
  rw [← hn] at hl ⊢
  have HN := Lib.hid hn
  clear hn
  go_enter Tryz.func133, Tryz.ntmps133
  go_wp2
  go_loop [0, 11] (fun t i => ∃ k : Nat, k ≤ n ∧ i = .int .i64 k ∧ t = .int .u64 (th64 f s (l.take k) : Nat)) (fun _ i => n - (intOf i).toNat)
  case atStart => exact ⟨0, Nat.zero_le _, rfl, rfl⟩
  case round =>
    obtain ⟨k, hk, rfl, rfl⟩ := hrel
    by_cases hlt : k < n
    · obtain ⟨x, hx⟩ := get_some (l := l) (i := k) (by rw [← HN.out]; exact hlt)
      obtain ⟨b, o, rfl, hc⟩ := HA.out k x hx
      have HX := Lib.hid (List.take_add_one (l := l) (i := k))
      have HS := Lib.hid (th64_snoc f s (l.take k) x)
      have HT := Lib.hid hx
      clear hx
      have h1 := wrap_byte64 x
      have h2 := xor_byte64 (th64 f s (l.take k)) x (th64_lt f _ _ hs)
      have h3 := mul64 (th64 f s (l.take k) ^^^ x.toNat) f
      go_wp2
      go_round
      case rel => exact ⟨k + 1, by omega, by go_num, by rw [HX.out, HT.out]; exact congrArg (fun z : Nat => Value.int .u64 (z : Int)) HS.out.symm⟩
      case measure => simp [intOf]; omega
    · obtain rfl : k = n := by omega
      go_wp2
      go_ret
      exact ⟨ret_int (by rw [List.take_of_length_le (by rw [HN.out]; omega)]), rfl⟩

theorem on_any (s : Nat) (w : World) (ao : Option Addr) (l : List UInt8) (cap : Nat) (hs : s < 18446744073709551616) (hA : BytesAt w ao l) (hl : l.length ≤ 4611686018427387904) :
    Calls Tryz.prog 116 #[.int .u64 s, .slice ao l.length cap] w fun e w' => e = .returned (.int .u64 (on64 s l : Nat)) ∧ w = w' := by
  have H := fun cap => through64_any 1099511628211 s w ao l cap hs hA hl
  generalize l.length = n at *
  clear hs hA hl
  go_enter Tryz.func116, Tryz.ntmps116
  go_wp2_with (go_at_call 133; refine (H _).mono ?_; rintro e w' ⟨rfl, rfl⟩)
  go_ret
  exact ⟨rfl, rfl⟩

theorem sum_any (w : World) (ao : Option Addr) (l : List UInt8) (cap : Nat) (hA : BytesAt w ao l) (hl : l.length ≤ 4611686018427387904) :
    Calls Tryz.prog 94 #[.slice ao l.length cap] w fun e w' => e = .returned (.int .u64 (sum64 l : Nat)) ∧ w = w' := by
  have H := fun cap => on_any 14695981039346656037 w ao l cap (by omega) hA hl
  generalize l.length = n at *
  clear hA hl
  go_enter Tryz.func94, Tryz.ntmps94
  go_wp2_with (go_at_call 116; refine (H _).mono ?_; rintro e w' ⟨rfl, rfl⟩)
  go_ret
  exact ⟨rfl, rfl⟩

/-- Which part a key belongs to. -/
def partOf (n : Int) (l : List UInt8) : Int := if n < 1 then 0 else ((sum64 l % n.toNat : Nat) : Int)
def partErr (n : Int) : Int := if n < 1 then 2 else 0
def partV (n : Int) (l : List UInt8) : Value := .tuple #[.int .i64 (partOf n l), .int .i64 (partErr n)]

theorem part_any (n : Int) (w : World) (ao : Option Addr) (l : List UInt8) (cap : Nat) (hn : n ≤ 9223372036854775807) (hA : BytesAt w ao l) (hl : l.length ≤ 4611686018427387904) :
    Calls Tryz.prog 67 #[.int .i64 n, .slice ao l.length cap] w fun e w' => e = .returned (partV n l) ∧ w = w' := by
  have H := fun cap => sum_any w ao l cap hA hl
  generalize l.length = m at *
  clear hA hl
  by_cases h : n < 1
  · have HV := Lib.hid (show partV n l = .tuple #[.int .i64 0, .int .i64 2] by simp [partV, partOf, partErr, h])
    go_enter Tryz.func67, Tryz.ntmps67
    go_wp2
    go_ret2
    exact ⟨by rw [HV.out]; rfl, rfl⟩
  · obtain ⟨k, rfl⟩ : ∃ k : Nat, n = k := ⟨n.toNat, by omega⟩
    have h0 : 1 ≤ k := by omega
    have HV := Lib.hid (show partV k l = .tuple #[.int .i64 ((sum64 l % k : Nat) : Int), .int .i64 0] by simp [partV, partOf, partErr, h])
    have hs := th64_lt 1099511628211 l 14695981039346656037 (by omega)
    have hw : IntKind.u64.wrap (k : Int) = k := by rw [IntKind.wrap_u64]; omega
    have hlt : sum64 l % k < k := Nat.mod_lt _ h0
    have HLT := Lib.hid hlt
    clear hs hlt
    go_enter Tryz.func67, Tryz.ntmps67
    go_wp2_with (go_at_call 94; refine (H _).mono ?_; rintro e w' ⟨rfl, rfl⟩)
    go_ret2
    refine ⟨?_, rfl⟩
    rw [HV.out]
    show Ending.returned (.tuple #[.int .i64 (wrap64 (((sum64 l : Nat) : Int) % (k : Int))), .int .i64 0]) = _
    have := HLT.out
    rw [← Int.natCast_emod, IntWalk.wrap64_in _ (by omega)]

def TextPost (w : World) (s : ByteArray) (e : Ending) (w' : World) : Prop := e = .returned (.int .u64 (sum64 s.data.toList : Nat)) ∧ Still w w'

end Go.Proofs.YtmmkcfiecgpkpaaGreat

/- Plain mathematics of sums: xor by bits, the factor in two parts, and what an odd factor keeps apart. No condition. -/
namespace Go.Proofs.YtmmkcfiecgpkpaaGreat
set_option linter.unusedVariables false

theorem mod_bits (n k : Nat) : n % 2 ^ (k + 1) = n % 2 ^ k + 2 ^ k * (n / 2 ^ k % 2) := Nat.mod_pow_succ

theorem xor_bit (a b k : Nat) : (a ^^^ b) / 2 ^ k % 2 = if a / 2 ^ k % 2 = b / 2 ^ k % 2 then 0 else 1 := by
  have h := Nat.testBit_xor a b k
  simp only [Nat.testBit_eq_decide_div_mod_eq] at h
  have h1 := Nat.mod_two_eq_zero_or_one (a / 2 ^ k)
  have h2 := Nat.mod_two_eq_zero_or_one (b / 2 ^ k)
  have h3 := Nat.mod_two_eq_zero_or_one ((a ^^^ b) / 2 ^ k)
  rcases h1 with h1 | h1 <;> rcases h2 with h2 | h2 <;> rw [h1, h2] at h ⊢ <;> rcases h3 with h3 | h3 <;> rw [h3] at h ⊢ <;> simp at h ⊢

/-- The bits of a xor, one more. -/
theorem xor_step (a b k : Nat) : (a ^^^ b) % 2 ^ (k + 1) = (a ^^^ b) % 2 ^ k + (if a / 2 ^ k % 2 = b / 2 ^ k % 2 then 0 else 2 ^ k) := by
  rw [mod_bits, xor_bit]
  split <;> simp

theorem xor_mod256 (s b : Nat) (hb : b < 256) : (s ^^^ b) % 256 = (s % 256) ^^^ b := by
  have h := Nat.xor_mod_two_pow (a := s) (b := b) (n := 8)
  rw [show (2 : Nat) ^ 8 = 256 from rfl] at h
  rw [h, Nat.mod_eq_of_lt hb]
theorem xor_div256 (s b : Nat) (hb : b < 256) : (s ^^^ b) / 256 = s / 256 := by
  have h := Nat.xor_div_two_pow (a := s) (b := b) (n := 8)
  rw [show (2 : Nat) ^ 8 = 256 from rfl] at h
  rw [h, Nat.div_eq_of_lt hb, Nat.xor_zero]
theorem xor_low (s b : Nat) (hb : b < 256) : s - s % 256 + ((s % 256) ^^^ b) = s ^^^ b := by
  have h1 := xor_mod256 s b hb
  have h2 := xor_div256 s b hb
  have h3 : s % 256 ^^^ b < 256 := by rw [← h1]; exact Nat.mod_lt _ (by omega)
  omega

/-- The loop over bits: what is left of both numbers, what is put together, and the next bit's weight. -/
def BitSt (L X j a b c p : Nat) : Prop := j ≤ 8 ∧ a = L / 2 ^ j ∧ b = X / 2 ^ j ∧ c = (L ^^^ X) % 2 ^ j ∧ p = 2 ^ j

theorem BitSt.start (L X : Nat) : BitSt L X 0 L X 0 1 := ⟨by omega, by simp, by simp, by simp [Nat.mod_one], by simp⟩
theorem BitSt.small {L X j a b c p : Nat} (h : BitSt L X j a b c p) (hL : L < 256) (hX : X < 256) : j ≤ 8 ∧ a < 256 ∧ b < 256 ∧ c < p ∧ p ≤ 256 := by
  obtain ⟨hj, rfl, rfl, rfl, rfl⟩ := h
  have h0 : 0 < 2 ^ j := Nat.pow_pos (by omega)
  have h8 : 2 ^ j ≤ 2 ^ 8 := Nat.pow_le_pow_right (by omega) hj
  exact ⟨hj, Nat.lt_of_le_of_lt (Nat.div_le_self _ _) hL, Nat.lt_of_le_of_lt (Nat.div_le_self _ _) hX, Nat.mod_lt _ h0, h8⟩
theorem BitSt.same {L X j a b c p : Nat} (h : BitSt L X j a b c p) (hj : j < 8) (he : a % 2 = b % 2) : BitSt L X (j + 1) (a / 2) (b / 2) c (2 * p) := by
  obtain ⟨_, rfl, rfl, rfl, rfl⟩ := h
  exact ⟨by omega, by rw [Nat.div_div_eq_div_mul, Nat.pow_succ], by rw [Nat.div_div_eq_div_mul, Nat.pow_succ], by rw [xor_step, if_pos he, Nat.add_zero], by rw [Nat.pow_succ]; omega⟩
theorem BitSt.other {L X j a b c p : Nat} (h : BitSt L X j a b c p) (hj : j < 8) (he : ¬ a % 2 = b % 2) : BitSt L X (j + 1) (a / 2) (b / 2) (c + p) (2 * p) := by
  obtain ⟨_, rfl, rfl, rfl, rfl⟩ := h
  exact ⟨by omega, by rw [Nat.div_div_eq_div_mul, Nat.pow_succ], by rw [Nat.div_div_eq_div_mul, Nat.pow_succ], by rw [xor_step, if_neg he], by rw [Nat.pow_succ]; omega⟩
theorem BitSt.done {L X a b c p : Nat} (h : BitSt L X 8 a b c p) (hL : L < 256) (hX : X < 256) : c = L ^^^ X := by
  obtain ⟨_, _, _, rfl, _⟩ := h
  have : L ^^^ X < 2 ^ 8 := Nat.xor_lt_two_pow (by omega) (by omega)
  exact Nat.mod_eq_of_lt this

/-- The factor in two parts. -/
theorem two_parts (n : Nat) : ((n * 1099511627776 % 18446744073709551616) + (n * 435 % 18446744073709551616)) % 18446744073709551616 = n * 1099511628211 % 18446744073709551616 := by omega
theorem two_parts32 (n : Nat) : ((n * 16777216 % 4294967296) + (n * 403 % 4294967296)) % 4294967296 = n * 16777619 % 4294967296 := by omega

end Go.Proofs.YtmmkcfiecgpkpaaGreat

/- Package postriderref03: its answers are the same plain functions. No condition but the lengths that memory allows. -/
namespace Go.Proofs.YtmmkcfiecgpkpaaGreat
open Go.RowKit
set_option linter.unusedVariables false
set_option maxRecDepth 100000

/-- The state of the loop over bits. -/
theorem u64_tmod (a b : Nat) : ((a : Int)).tmod (b : Int) = ((a % b : Nat) : Int) := by rw [Int.tmod_eq_emod_of_nonneg (by omega)]; simp
theorem u64_tdiv (a b : Nat) : ((a : Int)).tdiv (b : Int) = ((a / b : Nat) : Int) := by rw [Int.tdiv_eq_ediv_of_nonneg (by omega)]; simp
theorem add64 (a b : Nat) (h : a + b < 18446744073709551616) : IntKind.u64.wrap ((a : Int) + (b : Int)) = ((a + b : Nat) : Int) := by
  rw [IntKind.wrap_u64]; omega
theorem sub64 (a b : Nat) (h : b ≤ a) (ha : a < 18446744073709551616) : IntKind.u64.wrap ((a : Int) - (b : Int)) = ((a - b : Nat) : Int) := by
  rw [IntKind.wrap_u64]; omega
theorem wadd64 (a b : Nat) : IntKind.u64.wrap ((a : Int) + (b : Int)) = (((a + b) % 18446744073709551616 : Nat) : Int) := by
  rw [IntKind.wrap_u64]; omega
set_option maxHeartbeats 2000000 in
theorem refOn_any (s : Nat) (w : World) (ao : Option Addr) (l : List UInt8) (cap : Nat) (hs : s < 18446744073709551616) (hA : BytesAt w ao l) (hl : l.length ≤ 4611686018427387904) :
    Calls Tryz.prog 117 #[.int .u64 s, .slice ao l.length cap] w fun e w' => e = .returned (.int .u64 (on64 s l : Nat)) ∧ ∃ n, w' = w.drewN n := by
  have HA := Lib.hid hA
  clear hA
  obtain ⟨n, hn⟩ : ∃ n, n = l.length := ⟨_, rfl⟩
  rw [← hn] at hl ⊢
  have HN := Lib.hid hn
  clear hn
  go_enter Tryz.func117, Tryz.ntmps117
  go_wp2
  go_loopw [0, 5] (fun t i wr => ∃ k : Nat, k ≤ n ∧ i = .int .i64 k ∧ t = .int .u64 (on64 s (l.take k) : Nat) ∧ ∃ q, wr = w.drewN q) (fun _ i _ => n - (intOf i).toNat)
  case atStart => exact ⟨0, Nat.zero_le _, rfl, rfl, 0, rfl⟩
  case round =>
    obtain ⟨k, hk, rfl, rfl, q, rfl⟩ := hrel
    by_cases hlt : k < n
    · obtain ⟨x, hx⟩ := get_some (l := l) (i := k) (by rw [← HN.out]; exact hlt)
      obtain ⟨b, o, rfl, hc⟩ := HA.out k x hx
      have HX := Lib.hid (List.take_add_one (l := l) (i := k))
      have HS := Lib.hid (th64_snoc 1099511628211 s (l.take k) x)
      have HT := Lib.hid hx
      clear hx
      have h1 := wrap_byte64 x
      obtain ⟨S, hS⟩ : ∃ S, S = on64 s (l.take k) := ⟨_, rfl⟩
      have hSl : S < 18446744073709551616 := by rw [hS]; exact th64_lt _ _ _ hs
      rw [← hS]
      have HSS := Lib.hid hS
      clear hS
      obtain ⟨L, hL⟩ : ∃ L, L = S % 256 := ⟨_, rfl⟩
      have hLi : (S : Int) % 256 = (L : Int) := by omega
      have hL1 : L < 256 := by omega
      have hL2 : L ≤ S := by omega
      have HLS := Lib.hid hL
      have HLI := Lib.hid hLi
      clear hL hLi
      obtain ⟨X, hXX⟩ : ∃ X, X = x.toNat := ⟨_, rfl⟩
      have hXl : X < 256 := by rw [hXX]; exact u8_lt x
      rw [← hXX] at h1 hc
      have HXX := Lib.hid hXX
      clear hXX
      go_wp2
      go_quiet (fail)
      clear h1 hc
      go_wp2
      go_loop [7, 8, 9, 10, 11] (fun t7 t8 t9 t10 t11 => ∃ j a b c p : Nat, BitSt L X j a b c p ∧ t7 = .int .u64 (a : Nat) ∧ t8 = .int .u64 (b : Nat) ∧ t9 = .int .u64 (c : Nat) ∧ t10 = .int .u64 (p : Nat) ∧ t11 = .int .i64 (j : Nat)) (fun _ _ _ _ j => 8 - (intOf j).toNat)
      case atStart => exact ⟨0, L, X, 0, 1, BitSt.start L X, congrArg (Value.int .u64) HLI.out, rfl, rfl, rfl, rfl⟩
      case round =>
        obtain ⟨j, a, b, c, p, hst, rfl, rfl, rfl, rfl, rfl⟩ := hrel
        obtain ⟨hj, ha, hb, hcp, hp⟩ := hst.small hL1 hXl
        have HST := Lib.hid hst
        clear hst
        by_cases hj8 : j < 8
        · skip
          by_cases hab : a % 2 = b % 2
          · have hne : ((a : Int) % 2 != (b : Int) % 2) = false := by rw [bne_eq_false_iff_eq]; omega
            have HAB := Lib.hid hab
            clear hab
            go_wp2
            go_round
            case rel => (refine ⟨_, _, _, _, _, ?_, rfl, rfl, rfl, rfl, rfl⟩; exact ⟨j + 1, a / 2, b / 2, c, 2 * p, HST.out.same hj8 HAB.out, congrArg (Value.int .u64) (by omega), congrArg (Value.int .u64) (by omega), rfl, congrArg (Value.int .u64) (by omega), by go_num⟩)
            case measure => simp [intOf]; omega
          · have hne : ((a : Int) % 2 != (b : Int) % 2) = true := by rw [bne_iff_ne]; omega
            have HAB := Lib.hid hab
            clear hab
            go_wp2
            go_round
            case rel => (refine ⟨_, _, _, _, _, ?_, rfl, rfl, rfl, rfl, rfl⟩; exact ⟨j + 1, a / 2, b / 2, c + p, 2 * p, HST.out.other hj8 HAB.out, congrArg (Value.int .u64) (by omega), congrArg (Value.int .u64) (by omega), congrArg (Value.int .u64) (by omega), congrArg (Value.int .u64) (by omega), by go_num⟩)
            case measure => simp [intOf]; omega
        · obtain rfl : j = 8 := by omega
          have hx : S - L + c = S ^^^ X := by
            have h1 := HST.out.done hL1 hXl
            have h2 := xor_low S X hXl
            have h3 := HLS.out
            rw [h1, h3]; exact h2
          have hxl : S ^^^ X < 18446744073709551616 := Nat.xor_lt_two_pow (n := 64) (by omega) (by omega)
          have e1 : IntKind.u64.wrap ((S : Int) - (S : Int) % 256) = ((S - L : Nat) : Int) := by rw [HLI.out]; exact sub64 S L hL2 hSl
          have e2 : IntKind.u64.wrap (((S - L : Nat) : Int) + (c : Int)) = ((S ^^^ X : Nat) : Int) := by rw [add64 _ _ (by omega), hx]
          obtain ⟨T, hT⟩ : ∃ T, T = S ^^^ X := ⟨_, rfl⟩
          rw [← hT] at e2
          have e3 := mul64 T 1099511627776
          have e4 := mul64 T 435
          have e5 := wadd64 (T * 1099511627776 % 18446744073709551616) (T * 435 % 18446744073709551616)
          rw [two_parts] at e5
          have HTT := Lib.hid hT
          clear hx hxl hT
          go_wp2
          go_roundw
          case rel => exact ⟨k + 1, by omega, by go_num, by rw [HX.out, HT.out]; exact congrArg (fun z : Nat => Value.int .u64 (z : Int)) (by rw [HTT.out, HSS.out, HXX.out]; exact (two_parts _).trans HS.out.symm), _, rfl⟩
          case measure => simp [intOf]; omega
    · obtain rfl : k = n := by omega
      go_wp2
      go_ret
      exact ⟨ret_int (by rw [List.take_of_length_le (by rw [HN.out]; omega)]), _, rfl⟩
theorem refSum_any (w : World) (ao : Option Addr) (l : List UInt8) (cap : Nat) (hA : BytesAt w ao l) (hl : l.length ≤ 4611686018427387904) :
    Calls Tryz.prog 95 #[.slice ao l.length cap] w fun e w' => e = .returned (.int .u64 (sum64 l : Nat)) ∧ ∃ n, w' = w.drewN n := by
  have H := fun cap => refOn_any 14695981039346656037 w ao l cap (by omega) hA hl
  generalize l.length = n at *
  clear hA hl
  go_enter Tryz.func95, Tryz.ntmps95
  go_wp2_with (go_at_call 117; refine (H _).mono ?_; rintro e w' ⟨rfl, n, rfl⟩)
  go_ret
  exact ⟨rfl, _, rfl⟩

theorem refPart_any (n : Int) (w : World) (ao : Option Addr) (l : List UInt8) (cap : Nat) (hn : n ≤ 9223372036854775807) (hA : BytesAt w ao l) (hl : l.length ≤ 4611686018427387904) :
    Calls Tryz.prog 68 #[.int .i64 n, .slice ao l.length cap] w fun e w' => e = .returned (partV n l) ∧ ∃ q, w' = w.drewN q := by
  have H := fun cap => refSum_any w ao l cap hA hl
  generalize l.length = m at *
  clear hA hl
  by_cases h : n < 1
  · have HV := Lib.hid (show partV n l = .tuple #[.int .i64 0, .int .i64 2] by simp [partV, partOf, partErr, h])
    go_enter Tryz.func68, Tryz.ntmps68
    go_wp2
    go_ret2
    exact ⟨by rw [HV.out]; rfl, 0, rfl⟩
  · obtain ⟨k, rfl⟩ : ∃ k : Nat, n = k := ⟨n.toNat, by omega⟩
    have h0 : 1 ≤ k := by omega
    have HV := Lib.hid (show partV k l = .tuple #[.int .i64 ((sum64 l % k : Nat) : Int), .int .i64 0] by simp [partV, partOf, partErr, h])
    have hw : IntKind.u64.wrap (k : Int) = k := by rw [IntKind.wrap_u64]; omega
    have hlt : sum64 l % k < k := Nat.mod_lt _ h0
    have HLT := Lib.hid hlt
    clear hlt
    go_enter Tryz.func68, Tryz.ntmps68
    go_wp2_with (go_at_call 95; refine (H _).mono ?_; rintro e w' ⟨rfl, q, rfl⟩)
    go_ret2
    refine ⟨?_, _, rfl⟩
    rw [HV.out]
    show Ending.returned (.tuple #[.int .i64 (wrap64 (((sum64 l : Nat) : Int) % (k : Int))), .int .i64 0]) = _
    have := HLT.out
    rw [← Int.natCast_emod, IntWalk.wrap64_in _ (by omega)]

end Go.Proofs.YtmmkcfiecgpkpaaGreat
