/- PoolFull: the walk. No condition but that the program's pool keeps its words. -/
import Derived.Test.YtinfckoaphgmkaaWorks5
import Derived.Test.YtinfckoaphgmkaaFullMath
namespace Go.Proofs.Ytinfckoaphgmkaa
open Go.RowKit
set_option linter.unusedVariables false
set_option maxRecDepth 100000

set_option maxHeartbeats 4000000 in
theorem full_walk {PT : Nat → PM → Thing} (A : PoolApi PT) (n0 s0 : Int) (w : World) :
    Calls Try.prog 7 #[.int .i64 n0, .int .i64 s0] w fun e w' => e = .returned (.bool true) ∧ Still w w' := by
  obtain ⟨N1, hN1⟩ : ∃ x, x = am n0 128 := ⟨_, rfl⟩
  obtain ⟨S1, hS1⟩ : ∃ x, x = am s0 256 := ⟨_, rfl⟩
  have hn1 : N1 < 128 := by rw [hN1]; exact am_lt _ (by omega)
  have hs1 : S1 < 256 := by rw [hS1]; exact am_lt _ (by omega)
  have B1 := Lib.hid (fun W => among_lit n0 128 128 N1 rfl hN1 (by omega) (by omega) W)
  have B2 := Lib.hid (fun W => among_lit s0 256 256 S1 rfl hS1 (by omega) (by omega) W)
  clear hN1 hS1
  obtain ⟨n, hn⟩ : ∃ n, n = N1 + 1 := ⟨_, rfl⟩
  obtain ⟨s, hs⟩ : ∃ s, s = S1 + 1 := ⟨_, rfl⟩
  have en : (1 : Int) + (N1 : Int) = n := by omega
  have es : (1 : Int) + (S1 : Int) = s := by omega
  have n1 : 1 ≤ n := by omega
  have n2 : n ≤ 128 := by omega
  have s1 : 1 ≤ s := by omega
  have s2 : s ≤ 256 := by omega
  clear hn hs
  have C0 := Lib.hid (fun W => A.make_ok n s W n1 n2 s1 s2)
  have C1 := Lib.hid (fun (w0 W : World) (q i : Nat) (hi : i < n) (R : Thing) (H : Held w0 W ((PT q (fullS n s i)).sep R)) => show Calls Try.prog 14 #[.pointer (some ⟨q, 0, none⟩), .int .i64 s] W fun e w' => e = .returned (.tuple #[.int .i64 ((i : Int) + 1), .int .i64 0]) ∧ Held w0 w' ((PT q (fullS n s (i + 1))).sep R) from by
    have := H.call (fun _ h => A.take h (full_ok n1 n2 s1 s2 (Nat.le_of_lt hi)) (by omega) s (i64_lit (by omega) (by omega)))
    rwa [(full_take hi).1, (full_take hi).2.1, (full_take hi).2.2] at this)
  have C2 := Lib.hid (fun (w0 W : World) (q i : Nat) (hi : i ≤ n) (R : Thing) (H : Held w0 W ((PT q (fullS n s i)).sep R)) => show Calls Try.prog 27 #[.pointer (some ⟨q, 0, none⟩)] W (GotNums W (nums (fullS n s i).fr) (n - i)) from by
    obtain ⟨_, h, _⟩ := H.fst
    exact A.free h (full_ok n1 n2 s1 s2 hi) (by omega) (n - i) (full_free hi).symm)
  have C3 := Lib.hid (fun (w0 W : World) (q : Nat) (R : Thing) (H : Held w0 W ((PT q (fullS n s n)).sep R)) => show Calls Try.prog 14 #[.pointer (some ⟨q, 0, none⟩), .int .i64 0] W fun e w' => e = .returned (.tuple #[.int .i64 0, .int .i64 50]) ∧ Held w0 w' ((PT q (fullS n s n)).sep R) from by
    have := H.call (fun _ h => A.take h (full_ok n1 n2 s1 s2 (Nat.le_refl _)) (by omega) 0 (i64_lit (by omega) (by omega)))
    rwa [(full_end n s).1, (full_end n s).2.1, (full_end n s).2.2.2.2.1] at this)
  have C4 := Lib.hid (fun (w0 W : World) (q : Nat) (R : Thing) (H : Held w0 W ((PT q (fullS n s n)).sep R)) => show Calls Try.prog 14 #[.pointer (some ⟨q, 0, none⟩), .int .i64 ((s : Int) + 1)] W fun e w' => e = .returned (.tuple #[.int .i64 0, .int .i64 3]) ∧ Held w0 w' ((PT q (backS n s 0)).sep R) from by
    have := H.call (fun _ h => A.take h (full_ok n1 n2 s1 s2 (Nat.le_refl _)) (by omega) ((s : Int) + 1) (i64_lit (by omega) (by omega)))
    rw [(full_end n s).2.2.1, (full_end n s).2.2.2.1, (full_end n s).2.2.2.2.2] at this
    rwa [back_zero] at this)
  have C5 := Lib.hid (fun (w0 W : World) (q j : Nat) (hj : j < n) (R : Thing) (H : Held w0 W ((PT q (backS n s j)).sep R)) => show Calls Try.prog 21 #[.pointer (some ⟨q, 0, none⟩), .int .i64 ((j : Int) + 1)] W fun e w' => e = .returned (.tuple #[.int .i64 0, .int .i64 0]) ∧ Held w0 w' ((PT q (backS n s (j + 1))).sep R) from by
    have := H.call (fun _ h => A.drop h (back_ok n1 n2 s1 s2 (Nat.le_of_lt hj)) (by omega) ((j : Int) + 1) (i64_lit (by omega) (by omega)))
    rwa [(back_drop hj n2).1, (back_drop hj n2).2.1, (back_drop hj n2).2.2] at this)
  have C6 := Lib.hid (fun (w0 W : World) (q : Nat) (R : Thing) (H : Held w0 W ((PT q (backS n s n)).sep R)) => show Calls Try.prog 27 #[.pointer (some ⟨q, 0, none⟩)] W (GotNums W (nums (backS n s n).fr) n) from by
    obtain ⟨_, h, _⟩ := H.fst
    exact A.free h (back_ok n1 n2 s1 s2 (Nat.le_refl _)) (by omega) n (back_free n s).symm)
  obtain ⟨i0, hi, hz0, hz1, hz2⟩ := info_parts infoIntW
  go_enter Try.func7, Try.ntmps7
  go_wp2_with fail
  refine (works5 A _).mono ?_
  rintro e w1 ⟨rfl, hT⟩
  have HT := Lib.hid hT
  clear hT
  go_wp2_with fail
  refine (B1.out _).mono ?_
  rintro e w' ⟨rfl, rfl⟩
  go_wp2_with fail
  refine (B2.out _).mono ?_
  rintro e w' ⟨rfl, rfl⟩
  go_wp2_with fail
  refine (C0.out _).mono ?_
  intro e w2 hN
  obtain ⟨q, rfl, H⟩ := Held.made HT.out hN
  rw [full_zero] at H
  have HH := Lib.hid (show Held w (w2.alloc (.cells #[] 3)) ((PT q (fullS n s 0)).sep (ownT 3 1 (some ⟨w2.heap.size, 0, none⟩) 0 0 (ints (hadL 0)))) from (H.drop).new2 3 1)
  clear hN C0 H HT B1 B2 en es hn1 hs1
  go_wp2_with fail
  go_loopw [7, 8] (fun p i wr => ∃ (k : Nat) (ao : Option Addr) (cc : Nat), k ≤ n ∧ i = .int .i64 k ∧ p = .slice ao k cc ∧ Held w wr ((PT q (fullS n s k)).sep (ownT 3 1 ao k cc (ints (hadL k))))) (fun _ i _ => n - (intOf i).toNat)
  case atStart => exact ⟨0, _, 0, Nat.zero_le _, rfl, rfl, HH.out⟩
  case round =>
    clear HH
    obtain ⟨k, ao, cc, hk, rfl, rfl, H⟩ := hrel
    have HH := Lib.hid H
    clear H
    by_cases hlt : k < n
    · obtain ⟨m, hm⟩ : ∃ m, m = n - (k + 1) := ⟨_, rfl⟩
      have hne : ((m : Int) != (n : Int) - (k : Int) - 1) = false := by rw [bne_eq_false_iff_eq]; omega
      have D1 := Lib.hid (C1.out w wr q k hlt _ HH.out)
      have D2 := Lib.hid (fun (W : World) (H : Held w W ((PT q (fullS n s (k + 1))).sep (ownT 3 1 ao k cc (ints (hadL k))))) => show Calls Try.prog 33 #[.slice ao k cc, .int .i64 ((k : Int) + 1)] W fun e w' => e = .returned (.bool false) ∧ W = w' from by
        have := hasInt_any W ao (hadL k) k cc ((k : Int) + 1) (hadL_length k).symm (by omega) (H.ints (hadL_length k).symm)
        rwa [hadL_new] at this)
      have D3 := Lib.hid (fun W => C2.out w W q (k + 1) (by omega) (ownT 3 1 ao k cc (ints (hadL k))))
      rw [← hm] at D3
      clear C1 C2 C3 C4 C5 C6 hm
      go_wp2_with fail
      refine D1.out.mono ?_
      rintro e w3 ⟨rfl, H⟩
      have HH3 := Lib.hid H
      clear H D1 HH
      go_wp2_with fail
      refine (D2.out _ HH3.out).mono ?_
      rintro e w' ⟨rfl, rfl⟩
      go_wp2_with fail
      refine (D3.out _ HH3.out).mono ?_
      rintro e w4 ⟨a4, c4, rfl, _, hst⟩
      have HH4 := Lib.hid (HH3.out.still hst)
      clear hst D2 D3 HH3
      go_wp2_with (at_builtin; refine wpList_append_own_at _ rfl (.tmp 67) (.tmp 69) 31 rfl 0 3 i0 (.int .i64 0) 1 8 Try.underlying31 hi hz0 hz1 hz2 rfl (by decide) (.slice ao k cc) k (ints (hadL k)) rfl (ow_still HH4.out.own ((Turned.refl _ _).alloc _)) ⟨w4.heap.size, 0, none⟩ 1 1 [.int .i64 ((k : Int) + 1)] rfl rfl (ow_cells w4 _ _) (ow_ints rfl) (by unfold maxLen; omega) (by omega) (Nat.zero_le _) ?_; intro v6 w6 hown6 hg6 _ hat6; obtain ⟨a6, c6, rfl⟩ := ow_slice hown6; have HH6 := Lib.hid (HH4.out.grown hown6 hg6 hat6); clear hown6 hg6 hat6)
      go_roundw
      case rel => exact ⟨k + 1, a6, c6, by omega, by go_num, rfl, by have := HH6.out; rw [hadL_succ]; simpa [ints] using this⟩
      case measure => simp [intOf]; omega
    · obtain rfl : k = n := by omega
      have D3 := Lib.hid (fun W => C3.out w W q)
      clear C1 C2 C3
      go_wp2_with fail
      refine (D3.out _ _ HH.out).mono ?_
      rintro e w3 ⟨rfl, H⟩
      have HH3 := Lib.hid H
      clear H D3 HH
      go_wp2_with fail
      refine (C4.out _ _ _ _ HH3.out).mono ?_
      rintro e w4 ⟨rfl, H⟩
      have HH4 := Lib.hid H
      clear H HH3 C4
      go_wp2_with fail
      go_loopw [15] (fun i wr => ∃ j : Nat, j ≤ k ∧ i = .int .i64 j ∧ Held w wr ((PT q (backS k s j)).sep (ownT 3 1 ao k cc (ints (hadL k))))) (fun i _ => k - (intOf i).toNat)
      case atStart => exact ⟨0, Nat.zero_le _, rfl, HH4.out⟩
      case round =>
        clear HH4
        obtain ⟨j, hj, rfl, H⟩ := hrel
        have HH := Lib.hid H
        obtain ⟨bx, ox, hao, hcx⟩ : ∃ b o, ao = some ⟨b, o, none⟩ ∧ (j < k → wr.cell? ⟨b, o + j, none⟩ = some (.int .i64 ((j : Int) + 1))) := by
          have hA := H.ints (hadL_length k).symm
          obtain ⟨b, o, e, _⟩ := hA 0 _ (hadL_get (by omega : 0 < k))
          refine ⟨b, o, e, fun h => ?_⟩
          obtain ⟨b', o', e', hc⟩ := hA j _ (hadL_get h)
          rw [e] at e'; cases e'
          exact hc
        subst hao
        clear H
        by_cases hjk : j < k
        · have hc := hcx hjk
          have D5 := Lib.hid (C5.out w wr q j hjk _ HH.out)
          clear hcx HH
          go_wp2_with fail
          refine D5.out.mono ?_
          rintro e w5 ⟨rfl, H⟩
          have HH5 := Lib.hid H
          clear H D5
          go_wp2_with fail
          go_roundw
          case rel => exact ⟨j + 1, by omega, by go_num, HH5.out⟩
          case measure => simp [intOf]; omega
        · obtain rfl : j = k := by omega
          clear hcx
          go_wp2_with fail
          refine (C6.out _ _ _ _ HH.out).mono ?_
          rintro e w6 ⟨a6, c6, rfl, _, hst⟩
          have HH6 := Lib.hid (HH.out.still hst)
          clear hst
          go_wp2_with fail
          go_ret
          exact ⟨by simp, HH6.out.ground⟩
end Go.Proofs.Ytinfckoaphgmkaa
