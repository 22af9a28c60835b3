/- Package postriderref03: its answers are the same plain functions. No condition but the lengths that memory allows. -/
import Derived.Test.YtdblhflebaffcaaHash
import Derived.Test.YtdblhflebaffcaaHashMath
import Derived.Deep.QuietTactic
namespace Go.Proofs.Ytdblhflebaffcaa
open Go.RowKit
set_option linter.unusedVariables false
set_option maxRecDepth 100000

/-- The state of the loop over bits. -/
theorem u64_tmod (a b : Nat) : ((a : Int)).tmod (b : Int) = ((a % b : Nat) : Int) := by rw [Int.tmod_eq_emod_of_nonneg (by omega)]; simp
theorem u64_tdiv (a b : Nat) : ((a : Int)).tdiv (b : Int) = ((a / b : Nat) : Int) := by rw [Int.tdiv_eq_ediv_of_nonneg (by omega)]; simp
theorem add64 (a b : Nat) (h : a + b < 18446744073709551616) : IntKind.u64.wrap ((a : Int) + (b : Int)) = ((a + b : Nat) : Int) := by
  rw [IntKind.wrap_u64]; omega
theorem sub64 (a b : Nat) (h : b ≤ a) (ha : a < 18446744073709551616) : IntKind.u64.wrap ((a : Int) - (b : Int)) = ((a - b : Nat) : Int) := by
  rw [IntKind.wrap_u64]; omega
theorem wadd64 (a b : Nat) : IntKind.u64.wrap ((a : Int) + (b : Int)) = (((a + b) % 18446744073709551616 : Nat) : Int) := by
  rw [IntKind.wrap_u64]; omega
set_option maxHeartbeats 2000000 in
theorem refOn_any (s : Nat) (w : World) (ao : Option Addr) (l : List UInt8) (cap : Nat) (hs : s < 18446744073709551616) (hA : BytesAt w ao l) (hl : l.length ≤ 4611686018427387904) :
    Calls Try.prog 36 #[.int .u64 s, .slice ao l.length cap] w fun e w' => e = .returned (.int .u64 (on64 s l : Nat)) ∧ ∃ n, w' = w.drewN n := by
  have HA := Lib.hid hA
  clear hA
  obtain ⟨n, hn⟩ : ∃ n, n = l.length := ⟨_, rfl⟩
  rw [← hn] at hl ⊢
  have HN := Lib.hid hn
  clear hn
  go_enter Try.func36, Try.ntmps36
  go_wp2
  go_loopw [0, 5] (fun t i wr => ∃ k : Nat, k ≤ n ∧ i = .int .i64 k ∧ t = .int .u64 (on64 s (l.take k) : Nat) ∧ ∃ q, wr = w.drewN q) (fun _ i _ => n - (intOf i).toNat)
  case atStart => exact ⟨0, Nat.zero_le _, rfl, rfl, 0, rfl⟩
  case round =>
    obtain ⟨k, hk, rfl, rfl, q, rfl⟩ := hrel
    by_cases hlt : k < n
    · obtain ⟨x, hx⟩ := get_some (l := l) (i := k) (by rw [← HN.out]; exact hlt)
      obtain ⟨b, o, rfl, hc⟩ := HA.out k x hx
      have HX := Lib.hid (List.take_add_one (l := l) (i := k))
      have HS := Lib.hid (th64_snoc 1099511628211 s (l.take k) x)
      have HT := Lib.hid hx
      clear hx
      have h1 := wrap_byte64 x
      obtain ⟨S, hS⟩ : ∃ S, S = on64 s (l.take k) := ⟨_, rfl⟩
      have hSl : S < 18446744073709551616 := by rw [hS]; exact th64_lt _ _ _ hs
      rw [← hS]
      have HSS := Lib.hid hS
      clear hS
      obtain ⟨L, hL⟩ : ∃ L, L = S % 256 := ⟨_, rfl⟩
      have hLi : (S : Int) % 256 = (L : Int) := by omega
      have hL1 : L < 256 := by omega
      have hL2 : L ≤ S := by omega
      have HLS := Lib.hid hL
      have HLI := Lib.hid hLi
      clear hL hLi
      obtain ⟨X, hXX⟩ : ∃ X, X = x.toNat := ⟨_, rfl⟩
      have hXl : X < 256 := by rw [hXX]; exact u8_lt x
      rw [← hXX] at h1 hc
      have HXX := Lib.hid hXX
      clear hXX
      go_wp2
      go_quiet (fail)
      clear h1 hc
      go_wp2
      go_loop [7, 8, 9, 10, 11] (fun t7 t8 t9 t10 t11 => ∃ j a b c p : Nat, BitSt L X j a b c p ∧ t7 = .int .u64 (a : Nat) ∧ t8 = .int .u64 (b : Nat) ∧ t9 = .int .u64 (c : Nat) ∧ t10 = .int .u64 (p : Nat) ∧ t11 = .int .i64 (j : Nat)) (fun _ _ _ _ j => 8 - (intOf j).toNat)
      case atStart => exact ⟨0, L, X, 0, 1, BitSt.start L X, congrArg (Value.int .u64) HLI.out, rfl, rfl, rfl, rfl⟩
      case round =>
        obtain ⟨j, a, b, c, p, hst, rfl, rfl, rfl, rfl, rfl⟩ := hrel
        obtain ⟨hj, ha, hb, hcp, hp⟩ := hst.small hL1 hXl
        have HST := Lib.hid hst
        clear hst
        by_cases hj8 : j < 8
        · skip
          by_cases hab : a % 2 = b % 2
          · have hne : ((a : Int) % 2 != (b : Int) % 2) = false := by rw [bne_eq_false_iff_eq]; omega
            have HAB := Lib.hid hab
            clear hab
            go_wp2
            go_round
            case rel => (refine ⟨_, _, _, _, _, ?_, rfl, rfl, rfl, rfl, rfl⟩; exact ⟨j + 1, a / 2, b / 2, c, 2 * p, HST.out.same hj8 HAB.out, congrArg (Value.int .u64) (by omega), congrArg (Value.int .u64) (by omega), rfl, congrArg (Value.int .u64) (by omega), by go_num⟩)
            case measure => simp [intOf]; omega
          · have hne : ((a : Int) % 2 != (b : Int) % 2) = true := by rw [bne_iff_ne]; omega
            have HAB := Lib.hid hab
            clear hab
            go_wp2
            go_round
            case rel => (refine ⟨_, _, _, _, _, ?_, rfl, rfl, rfl, rfl, rfl⟩; exact ⟨j + 1, a / 2, b / 2, c + p, 2 * p, HST.out.other hj8 HAB.out, congrArg (Value.int .u64) (by omega), congrArg (Value.int .u64) (by omega), congrArg (Value.int .u64) (by omega), congrArg (Value.int .u64) (by omega), by go_num⟩)
            case measure => simp [intOf]; omega
        · obtain rfl : j = 8 := by omega
          have hx : S - L + c = S ^^^ X := by
            have h1 := HST.out.done hL1 hXl
            have h2 := xor_low S X hXl
            have h3 := HLS.out
            rw [h1, h3]; exact h2
          have hxl : S ^^^ X < 18446744073709551616 := Nat.xor_lt_two_pow (n := 64) (by omega) (by omega)
          have e1 : IntKind.u64.wrap ((S : Int) - (S : Int) % 256) = ((S - L : Nat) : Int) := by rw [HLI.out]; exact sub64 S L hL2 hSl
          have e2 : IntKind.u64.wrap (((S - L : Nat) : Int) + (c : Int)) = ((S ^^^ X : Nat) : Int) := by rw [add64 _ _ (by omega), hx]
          obtain ⟨T, hT⟩ : ∃ T, T = S ^^^ X := ⟨_, rfl⟩
          rw [← hT] at e2
          have e3 := mul64 T 1099511627776
          have e4 := mul64 T 435
          have e5 := wadd64 (T * 1099511627776 % 18446744073709551616) (T * 435 % 18446744073709551616)
          rw [two_parts] at e5
          have HTT := Lib.hid hT
          clear hx hxl hT
          go_wp2
          go_roundw
          case rel => exact ⟨k + 1, by omega, by go_num, by rw [HX.out, HT.out]; exact congrArg (fun z : Nat => Value.int .u64 (z : Int)) (by rw [HTT.out, HSS.out, HXX.out]; exact (two_parts _).trans HS.out.symm), _, rfl⟩
          case measure => simp [intOf]; omega
    · obtain rfl : k = n := by omega
      go_wp2
      go_ret
      exact ⟨ret_int (by rw [List.take_of_length_le (by rw [HN.out]; omega)]), _, rfl⟩
theorem refSum_any (w : World) (ao : Option Addr) (l : List UInt8) (cap : Nat) (hA : BytesAt w ao l) (hl : l.length ≤ 4611686018427387904) :
    Calls Try.prog 32 #[.slice ao l.length cap] w fun e w' => e = .returned (.int .u64 (sum64 l : Nat)) ∧ ∃ n, w' = w.drewN n := by
  have H := fun cap => refOn_any 14695981039346656037 w ao l cap (by omega) hA hl
  generalize l.length = n at *
  clear hA hl
  go_enter Try.func32, Try.ntmps32
  go_wp2_with (go_at_call 36; refine (H _).mono ?_; rintro e w' ⟨rfl, n, rfl⟩)
  go_ret
  exact ⟨rfl, _, rfl⟩

theorem refPart_any (n : Int) (w : World) (ao : Option Addr) (l : List UInt8) (cap : Nat) (hn : n ≤ 9223372036854775807) (hA : BytesAt w ao l) (hl : l.length ≤ 4611686018427387904) :
    Calls Try.prog 26 #[.int .i64 n, .slice ao l.length cap] w fun e w' => e = .returned (partV n l) ∧ ∃ q, w' = w.drewN q := by
  have H := fun cap => refSum_any w ao l cap hA hl
  generalize l.length = m at *
  clear hA hl
  by_cases h : n < 1
  · have HV := Lib.hid (show partV n l = .tuple #[.int .i64 0, .int .i64 2] by simp [partV, partOf, partErr, h])
    go_enter Try.func26, Try.ntmps26
    go_wp2
    go_ret2
    exact ⟨by rw [HV.out]; rfl, 0, rfl⟩
  · obtain ⟨k, rfl⟩ : ∃ k : Nat, n = k := ⟨n.toNat, by omega⟩
    have h0 : 1 ≤ k := by omega
    have HV := Lib.hid (show partV k l = .tuple #[.int .i64 ((sum64 l % k : Nat) : Int), .int .i64 0] by simp [partV, partOf, partErr, h])
    have hw : IntKind.u64.wrap (k : Int) = k := by rw [IntKind.wrap_u64]; omega
    have hlt : sum64 l % k < k := Nat.mod_lt _ h0
    have HLT := Lib.hid hlt
    clear hlt
    go_enter Try.func26, Try.ntmps26
    go_wp2_with (go_at_call 32; refine (H _).mono ?_; rintro e w' ⟨rfl, q, rfl⟩)
    go_ret2
    refine ⟨?_, _, rfl⟩
    rw [HV.out]
    show Ending.returned (.tuple #[.int .i64 (wrap64 (((sum64 l : Nat) : Int) % (k : Int))), .int .i64 0]) = _
    have := HLT.out
    rw [← Int.natCast_emod, IntWalk.wrap64_in _ (by omega)]

end Go.Proofs.Ytdblhflebaffcaa
