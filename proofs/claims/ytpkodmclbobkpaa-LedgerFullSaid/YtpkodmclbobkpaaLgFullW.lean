/- LedgerFull: the walk. No condition but the words. -/
import Derived.Test.YtpkodmclbobkpaaLgApi
import Derived.Test.YtpkodmclbobkpaaLgMath
namespace Go.Proofs.Ytpkodmclbobkpaa
open Go.RowKit
set_option linter.unusedVariables false
set_option linter.unusedSimpArgs false
set_option maxRecDepth 100000

set_option maxHeartbeats 4000000 in
theorem lfull_walk {LT : Nat → LgM → Thing} (A : LedgerApi LT) (n0 : Int) (w : World) :
    Calls Try.prog 6 #[.int .i64 n0] w fun e w' => e = .returned (.bool true) ∧ Still w w' := by
  have HWk := Lib.hid (works14 A w)
  obtain ⟨f, hf⟩ : ∃ f, f = am n0 1000 := ⟨_, rfl⟩
  have hf2 : f < 1000 := by rw [hf]; exact am_lt _ (by omega)
  have hf0 : (0 : Int) ≤ (f : Int) ∧ (f : Int) < 1000 := by omega
  obtain ⟨hfa, hfb⟩ := hf0
  have B0 := Lib.hid (fun W => among_lit n0 1000 1000 f rfl hf (by omega) (by omega) W)
  have C0 := Lib.hid (fun V (hs : Still w V) => show Calls Try.prog 9 #[.int .i64 (f : Int)] V fun e w' => ∃ q, e = .returned (.tuple #[.pointer (some ⟨q, 0, none⟩), .int .i64 0]) ∧ Held w w' ((LT q ⟨f, fullL f 0⟩).sep Thing.none) from
    (A.make_ok (f : Int) V (by omega) (by omega)).mono fun e w' ⟨q, he, hn⟩ => ⟨q, he, (Held.start hs).new hn⟩)
  have HOk := Lib.hid (fun (i : Nat) (hi : i ≤ 256) => full_ok hfa (by omega) hi)
  have HSt := Lib.hid (fun (i : Nat) (hi : i < 256) => full_step (f := (f : Int)) hfa (by omega) hi)
  clear hf
  go_enter Try.func6, Try.ntmps6
  go_wp2_with (first
    | (go_at_call 11; ((with_reducible refine HWk.out.mono ?_)); rintro e w1 ⟨rfl, hs⟩; have S1 := Lib.hid hs; clear hs)
    | (go_at_call 14; ((with_reducible refine (B0.out _).mono ?_)); rintro e wa ⟨rfl, rfl⟩)
    | (go_at_call 9; ((with_reducible refine (C0.out _ S1.out).mono ?_)); rintro e w2 ⟨q, rfl, h⟩; have K1 := Lib.hid h; clear h))
  go_loopw [5, 6] (fun en i wr => ∃ k : Nat, k ≤ 256 ∧ i = .int .i64 k ∧ en = .int .i64 ((f : Int) + k) ∧ Held w wr ((LT q ⟨f, fullL f k⟩).sep Thing.none)) (fun _ i _ => 256 - (intOf i).toNat)
  case atStart => exact ⟨0, by omega, rfl, by simp, K1.out⟩
  case round =>
    clear K1
    obtain ⟨k, hk, rfl, rfl, hH⟩ := hrel
    have K := Lib.hid hH
    by_cases hlt : k < 256
    · have hki : (k : Int) < 256 := by omega
      obtain ⟨e1, e2⟩ := HSt.out k hlt
      have HSp := Lib.hid (fun V (h : Held w V ((LT q ⟨f, fullL f (k + 1)⟩).sep Thing.none)) => Held.acdL A h (HOk.out (k + 1) (by omega)) rfl rfl)
      have HSq := Lib.hid (fun V (h : Held w V ((LT q ⟨f, fullL f (k + 1)⟩).sep Thing.none)) => Held.skdL A h (HOk.out (k + 1) (by omega)) rfl rfl)
      obtain ⟨na, hna⟩ : ∃ na, na = (spOf (LgM.mk f (fullL f (k + 1))).L true).length := ⟨_, rfl⟩
      obtain ⟨nb, hnb⟩ : ∃ nb, nb = (spOf (LgM.mk f (fullL f (k + 1))).L false).length := ⟨_, rfl⟩
      have hsum : na + nb = k + 1 := by rw [hna, hnb, sp_both]; exact fullL_len _ _
      have hsumI : (na : Int) + (nb : Int) = (k : Int) + 1 := by omega
      rw [← hna] at HSp
      rw [← hnb] at HSq
      clear hH hna hnb
      rcases Nat.mod_two_eq_zero_or_one k with hp | hp
      · have e0 : (k % 2 == 0) = true := by rw [hp]; rfl
        rw [e0] at e1 e2
        have hpi : ((k : Int) % 2 == 1) = false := by rw [beq_eq_false_iff_ne]; omega
        have HAd := Lib.hid (fun V (h : Held w V ((LT q ⟨f, fullL f k⟩).sep Thing.none)) => Held.accL A h (HOk.out k (by omega)) (x := (f : Int) + k + 1) (by omega) (by omega) e1 e2)
        clear e1 e2 e0 hp
        go_wp2_with (first
          | (go_at_call 15; ((with_reducible refine (HAd.out _ K.out).mono ?_)); rintro e w3 ⟨rfl, h⟩; have K3 := Lib.hid h; clear h)
          | (go_at_call 25; ((with_reducible refine (HSp.out _ K3.out).mono ?_)); rintro e w4 ⟨a4, c4, rfl, _, hs⟩; have K4 := Lib.hid (K3.out.still hs); clear hs)
          | (go_at_call 27; ((with_reducible refine (HSq.out _ K4.out).mono ?_)); rintro e w5 ⟨a5, c5, rfl, _, hs⟩; have K5 := Lib.hid (K4.out.still hs); clear hs))
        go_roundw
        case rel => exact ⟨k + 1, by omega, by go_num, by first | rfl | (simp; omega), K5.out⟩
        case measure => simp [intOf]; omega
      · have e0 : (k % 2 == 0) = false := by rw [hp]; rfl
        rw [e0] at e1 e2
        have hpi : ((k : Int) % 2 == 1) = true := by rw [beq_iff_eq]; omega
        have HAd := Lib.hid (fun V (h : Held w V ((LT q ⟨f, fullL f k⟩).sep Thing.none)) => Held.skpL A h (HOk.out k (by omega)) (x := (f : Int) + k + 1) (by omega) (by omega) e1 e2)
        clear e1 e2 e0 hp
        go_wp2_with (first
          | (go_at_call 17; ((with_reducible refine (HAd.out _ K.out).mono ?_)); rintro e w3 ⟨rfl, h⟩; have K3 := Lib.hid h; clear h)
          | (go_at_call 25; ((with_reducible refine (HSp.out _ K3.out).mono ?_)); rintro e w4 ⟨a4, c4, rfl, _, hs⟩; have K4 := Lib.hid (K3.out.still hs); clear hs)
          | (go_at_call 27; ((with_reducible refine (HSq.out _ K4.out).mono ?_)); rintro e w5 ⟨a5, c5, rfl, _, hs⟩; have K5 := Lib.hid (K4.out.still hs); clear hs))
        go_roundw
        case rel => exact ⟨k + 1, by omega, by go_num, by first | rfl | (simp; omega), K5.out⟩
        case measure => simp [intOf]; omega
    · obtain rfl : k = 256 := by omega
      have hM := HOk.out 256 (by omega)
      have hfin : (LgM.mk f (fullL f 256)).fin = (f : Int) + 256 := fullL_end _ _
      have hla : lastK none (fullL (f : Int) 256) = some false := fullL_last _ 255
      have g1 : addE ⟨f, fullL f 256⟩ ((f : Int) + 256 + 1) true = 4 := by
        unfold addE
        rw [hfin, if_neg (by omega), hla, if_neg (by simp), if_pos (by show 256 ≤ (fullL (f : Int) 256).length; rw [fullL_len]; omega)]
      have g2 : addE ⟨f, fullL f 256⟩ ((f : Int) + 256 + 2) false = 0 := by
        unfold addE
        rw [hfin, if_neg (by omega), hla, if_pos rfl]
      have H1 := Lib.hid (fun V (h : Held w V ((LT q ⟨f, fullL f 256⟩).sep Thing.none)) => Held.accL A h hM (x := (f : Int) + 256 + 1) (by omega) (by omega) g1 (add_no g1 (by omega)))
      have H2 := Lib.hid (fun V (h : Held w V ((LT q ⟨f, fullL f 256⟩).sep Thing.none)) => Held.skpL A h hM (x := (f : Int) + 256 + 2) (by omega) (by omega) g2 rfl)
      have H3 := Lib.hid (fun V (h : Held w V ((LT q ((LgM.mk f (fullL f 256)).add ((f : Int) + 256 + 2) false)).sep Thing.none)) => Held.endL A h (hM.add _ _) (fin_add g2))
      clear hH hM hfin hla g1 g2 hlt
      go_wp2_with (first
        | (go_at_call 15; ((with_reducible refine (H1.out _ K.out).mono ?_)); rintro e w3 ⟨rfl, h⟩; have K3 := Lib.hid h; clear h)
        | (go_at_call 17; ((with_reducible refine (H2.out _ K3.out).mono ?_)); rintro e w4 ⟨rfl, h⟩; have K4 := Lib.hid h; clear h)
        | (go_at_call 23; ((with_reducible refine (H3.out _ K4.out).mono ?_)); rintro e w5 ⟨rfl, hs⟩; have K5 := Lib.hid (K4.out.still hs); clear hs))
      go_ret
      exact ⟨by first | rfl | simp, K5.out.ground⟩
end Go.Proofs.Ytpkodmclbobkpaa
