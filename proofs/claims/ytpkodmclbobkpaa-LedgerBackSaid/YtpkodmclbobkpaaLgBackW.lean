/- LedgerBack: the walk. No condition but the words. -/
import Derived.Test.YtpkodmclbobkpaaLgHeld
import Derived.Test.YtpkodmclbobkpaaLgMath
namespace Go.Proofs.Ytpkodmclbobkpaa
open Go.RowKit
set_option linter.unusedVariables false
set_option linter.unusedSimpArgs false
set_option maxRecDepth 100000

set_option maxHeartbeats 4000000 in
theorem lback_walk {LT : Nat → LgM → Thing} (A : LedgerApi LT) (n0 : Int) (t : Sl Act14) (n1 : Int) (w : World) (h1 : SlOk encAct14 okAct14 3 w t) :
    Calls Try.prog 5 #[.int .i64 n0, .slice t.a t.len t.cap, .int .i64 n1] w fun e w' => e = .returned (.bool true) ∧ Still w w' := by
  have HWk := Lib.hid (works14 A w)
  have HBt := Lib.hid (fun V (hs : Still w V) => built14_at A n0 t w V h1 hs)
  obtain ⟨ta, tl, tc, tx⟩ := t
  dsimp only at *
  clear h1
  go_enter Try.func5, Try.ntmps5
  go_wp2_with (first
    | (go_at_call 11; ((with_reducible refine HWk.out.mono ?_)); rintro e w1 ⟨rfl, hs⟩; have S1 := Lib.hid hs; clear hs)
    | (go_at_call 28; ((with_reducible refine (HBt.out _ S1.out).mono ?_)); rintro e w2 ⟨q, rfl, M, m1, m2, m3⟩; have K2 := Lib.hid m3; have HM := Lib.hid m1; clear m3))
  have HCp := Lib.hid (show Calls Try.prog 29 #[.pointer (some ⟨q, 0, none⟩)] w2 fun e w' => ∃ q', e = .returned (.pointer (some ⟨q', 0, none⟩)) ∧ Held w w' ((LT q M).sep ((LT q' M).sep Thing.none)) from by
    obtain ⟨_, h, _⟩ := K2.out.fst
    exact (A.copy h m1).mono fun e w' ⟨q', he, hn⟩ => ⟨q', he, (K2.out.new hn).turn⟩)
  obtain ⟨f, hf⟩ : ∃ f, f = M.fin := ⟨_, rfl⟩
  obtain ⟨b, hb⟩ : ∃ b, b = M.b := ⟨_, rfl⟩
  obtain ⟨b0, b1, b2⟩ := m1.bnd
  rw [← hf] at b1 b2
  rw [← hb] at b0 b1
  have b3 : b < 1000 := by omega
  obtain ⟨N, hN⟩ : ∃ N : Nat, (N : Int) = f - b + 1 := ⟨(f - b + 1).toNat, by omega⟩
  obtain ⟨u, hu⟩ : ∃ u, u = am n1 N := ⟨_, rfl⟩
  have hul : u < N := by rw [hu]; exact am_lt _ (by omega)
  have B1 := Lib.hid (fun W => among_lit n1 (f - b + 1) N u hN.symm hu (by omega) (by omega) W)
  obtain ⟨x, hx⟩ : ∃ x : Int, x = b + u := ⟨_, rfl⟩
  have hx1 : b ≤ x := by omega
  have hx2 : x ≤ f := by omega
  obtain ⟨e1, e2⟩ := back_to m1 (x := x) (by omega) (by omega)
  obtain ⟨M', hM'⟩ : ∃ M', M' = (⟨M.b, backL M.L x⟩ : LgM) := ⟨_, rfl⟩
  rw [← hM'] at e2
  obtain ⟨ok', fin'⟩ := back_end m1 (x := x) (by omega) (by omega)
  rw [← hM'] at ok' fin'
  have hb' : M'.b = b := by rw [hM', hb]
  obtain ⟨e3, e4⟩ := back_fin m1
  rw [← hf] at e3 e4
  -- what each call answers
  have HFr := Lib.hid (fun (V : World) (q' : Nat) (X : LgM) (hX : X.Ok ∧ X.b = b) (Y : Thing) (H : Held w V ((LT q X).sep Y)) => Held.fromL A H hX.1 hX.2)
  have HEn := Lib.hid (fun (V : World) (Y : Thing) (H : Held w V ((LT q M).sep Y)) => Held.endL A H m1 hf.symm)
  have HEn' := Lib.hid (fun (V : World) (Y : Thing) (H : Held w V ((LT q M').sep Y)) => Held.endL A H ok' fin')
  have HBk := Lib.hid (fun (V : World) (Y : Thing) (H : Held w V ((LT q M).sep Y)) => Held.backL A H m1 (x := x) (by omega) (by omega) e1 e2)
  have HEc := Lib.hid (fun (V : World) (q' : Nat) (H : Held w V ((LT q M').sep ((LT q' M).sep Thing.none))) => Held.endL A H.turn m1 hf.symm)
  have HBc := Lib.hid (fun (V : World) (q' : Nat) (H : Held w V ((LT q M').sep ((LT q' M).sep Thing.none))) => show Calls Try.prog 18 #[.pointer (some ⟨q', 0, none⟩), .int .i64 f] V fun e w' => e = .returned (.int .i64 0) ∧ Held w w' ((LT q M').sep ((LT q' M).sep Thing.none)) from
    (Held.backL A H.turn m1 (x := f) (by omega) (by omega) e3 e4).mono fun e w' ⟨he, hh⟩ => ⟨he, hh.turn⟩)
  have HIq := Lib.hid (fun (V : World) (Y : Thing) (k : Int) (hk1 : b ≤ k) (hk2 : k < x) (H : Held w V ((LT q M').sep Y)) => show Calls Try.prog 20 #[.pointer (some ⟨q, 0, none⟩), .int .i64 k] V fun e w' => e = .returned (.tuple #[.bool (lgiV M.L k), .int .i64 0]) ∧ Still V w' from
    Held.isL A H ok' (x := k) (by omega) (by omega) (by rw [hM']; exact (back_iv hk2 M.L).1) (by rw [hM']; show lgiE (backL M.L x) k = 0; rw [(back_iv hk2 M.L).2]; exact lgiE_in m1.ch (by omega) (by show k < M.fin; omega)))
  have HIc := Lib.hid (fun (V : World) (q' : Nat) (k : Int) (hk1 : b ≤ k) (hk2 : k < x) (H : Held w V ((LT q M').sep ((LT q' M).sep Thing.none))) => show Calls Try.prog 20 #[.pointer (some ⟨q', 0, none⟩), .int .i64 k] V fun e w' => e = .returned (.tuple #[.bool (lgiV M.L k), .int .i64 0]) ∧ Still V w' from
    Held.isL A H.turn m1 (x := k) (by omega) (by omega) rfl (lgiE_in m1.ch (by omega) (by show k < M.fin; omega)))
  have h5 : lgiE M'.L x = 5 := lgiE_out ok'.ch (by show M'.fin ≤ x; omega)
  have HIx := Lib.hid (fun (V : World) (Y : Thing) (H : Held w V ((LT q M').sep Y)) => Held.isL A H ok' (x := x) (by omega) (by omega) (lgiV_no h5) h5)
  have g1 : backE M' (x + 1) = 61 := by unfold backE; rw [if_neg (by omega), if_pos (by omega)]
  have HB1 := Lib.hid (fun (V : World) (Y : Thing) (H : Held w V ((LT q M').sep Y)) => Held.backL A H ok' (x := x + 1) (by omega) (by omega) g1 (back_no g1 (by omega)))
  obtain ⟨r, hr⟩ : ∃ r, r = backE M' (b - 1) := ⟨_, rfl⟩
  have hr2 : r = 2 ∨ r = 61 := by
    rw [hr]; unfold backE
    by_cases h0 : b - 1 < 0
    · exact .inl (if_pos h0)
    · rw [if_neg h0, if_pos (by omega)]; exact .inr rfl
  have HB2 := Lib.hid (fun (V : World) (Y : Thing) (H : Held w V ((LT q M').sep Y)) => Held.backL A H ok' (x := b - 1) (by omega) (by omega) hr.symm rfl)
  have HOk := Lib.hid (show (M.Ok ∧ M.b = b) ∧ (M'.Ok ∧ M'.b = b) from ⟨⟨m1, hb.symm⟩, ok', hb'⟩)
  have hne : (r != (0 : Int)) = true := by rcases hr2 with h | h <;> rw [h] <;> rfl
  clear hN hu m1 m2 hf hb e1 e2 e3 e4 ok' fin' hb' hM' h5 g1 hr hr2 K2 HM
  subst hx
  go_wp2_with (first
    | (go_at_call 29; ((with_reducible refine HCp.out.mono ?_)); rintro e w3 ⟨q', rfl, h⟩; have K3 := Lib.hid h; clear h)
    | (go_at_call 22; ((with_reducible refine (HFr.out _ q' _ HOk.out.1 _ K3.out).mono ?_)); rintro e w4 ⟨rfl, hs⟩; have K4 := Lib.hid (K3.out.still hs); clear hs K3)
    | (go_at_call 23; ((with_reducible refine (HEn.out _ _ K4.out).mono ?_)); rintro e w5 ⟨rfl, hs⟩; have K5 := Lib.hid (K4.out.still hs); clear hs K4)
    | (go_at_call 22; ((with_reducible refine (HFr.out _ q' _ HOk.out.1 _ K5.out).mono ?_)); rintro e w6 ⟨rfl, hs⟩; have K6 := Lib.hid (K5.out.still hs); clear hs K5)
    | (go_at_call 14; ((with_reducible refine (B1.out _).mono ?_)); rintro e w7 ⟨rfl, hw7⟩; subst hw7)
    | (go_at_call 18; ((with_reducible refine (HBk.out _ _ K6.out).mono ?_)); rintro e w8 ⟨rfl, h⟩; have K8 := Lib.hid h; clear h K6)
    | (go_at_call 23; ((with_reducible refine (HEn'.out _ _ K8.out).mono ?_)); rintro e w9 ⟨rfl, hs⟩; have K9 := Lib.hid (K8.out.still hs); clear hs K8)
    | (go_at_call 23; ((with_reducible refine (HEc.out _ _ K9.out).mono ?_)); rintro e wa ⟨rfl, hs⟩; have Ka := Lib.hid (K9.out.still hs); clear hs K9)
    | (go_at_call 18; ((with_reducible refine (HBc.out _ _ Ka.out).mono ?_)); rintro e wb ⟨rfl, h⟩; have Kb := Lib.hid h; clear h Ka)
    | (go_at_call 22; ((with_reducible refine (HFr.out _ q' _ HOk.out.2 _ Kb.out).mono ?_)); rintro e wc ⟨rfl, hs⟩; have Kc := Lib.hid (Kb.out.still hs); clear hs Kb))
  go_loopw [9] (fun i wr => ∃ k : Int, b ≤ k ∧ k ≤ b + u ∧ k ≤ b + 1000 ∧ i = .int .i64 k ∧ Held w wr ((LT q M').sep ((LT q' M).sep Thing.none))) (fun i _ => ((b + u) - intOf i).toNat)
  case atStart => exact ⟨b, Int.le_refl _, hx1, by omega, rfl, Kc.out⟩
  case round =>
    clear Kc
    obtain ⟨k, hk1, hk2, hk3, rfl, hH⟩ := hrel
    have K := Lib.hid hH
    clear hH
    by_cases hlt : k < b + u
    · by_cases hlt2 : k < b + 1000
      · have HI1 := Lib.hid (fun V Y H => HIq.out V Y k hk1 hlt H)
        have HI2 := Lib.hid (fun V q' H => HIc.out V q' k hk1 hlt H)
        generalize lgiV M.L k = v at *
        go_wp2_with (first
          | (go_at_call 22; ((with_reducible refine (HFr.out _ q' _ HOk.out.2 _ K.out).mono ?_)); rintro e wd ⟨rfl, hs⟩; have Kd := Lib.hid (K.out.still hs); clear hs)
          | (go_at_call 20; ((with_reducible refine (HI1.out _ _ Kd.out).mono ?_)); rintro e we ⟨rfl, hs⟩; have Ke := Lib.hid (Kd.out.still hs); clear hs)
          | (go_at_call 20; ((with_reducible refine (HI2.out _ _ Ke.out).mono ?_)); rintro e wf ⟨rfl, hs⟩; have Kf := Lib.hid (Ke.out.still hs); clear hs))
        go_roundw
        case rel => exact ⟨k + 1, by omega, by omega, by omega, rfl, Kf.out⟩
        case measure => simp [intOf]; omega
      · go_wp2_with (first
          | (go_at_call 22; ((with_reducible refine (HFr.out _ q' _ HOk.out.2 _ K.out).mono ?_)); rintro e wd ⟨rfl, hs⟩; have Kd := Lib.hid (K.out.still hs); clear hs)
          | (go_at_call 20; ((with_reducible refine (HIx.out _ _ Kd.out).mono ?_)); rintro e we ⟨rfl, hs⟩; have Ke := Lib.hid (Kd.out.still hs); clear hs)
          | (go_at_call 18; ((with_reducible refine (HB1.out _ _ Ke.out).mono ?_)); rintro e wf ⟨rfl, h⟩; have Kf := Lib.hid h; clear h)
          | (go_at_call 22; ((with_reducible refine (HFr.out _ q' _ HOk.out.2 _ Kf.out).mono ?_)); rintro e wg ⟨rfl, hs⟩; have Kg := Lib.hid (Kf.out.still hs); clear hs)
          | (go_at_call 18; ((with_reducible refine (HB2.out _ _ Kg.out).mono ?_)); rintro e wh ⟨rfl, h⟩; have Kh := Lib.hid h; clear h))
        go_ret
        exact ⟨by first | rfl | (simp; done) | simp [hne], Kh.out.ground⟩
    · go_wp2_with (first
        | (go_at_call 20; ((with_reducible refine (HIx.out _ _ K.out).mono ?_)); rintro e we ⟨rfl, hs⟩; have Ke := Lib.hid (K.out.still hs); clear hs)
        | (go_at_call 18; ((with_reducible refine (HB1.out _ _ Ke.out).mono ?_)); rintro e wf ⟨rfl, h⟩; have Kf := Lib.hid h; clear h)
        | (go_at_call 22; ((with_reducible refine (HFr.out _ q' _ HOk.out.2 _ Kf.out).mono ?_)); rintro e wg ⟨rfl, hs⟩; have Kg := Lib.hid (Kf.out.still hs); clear hs)
        | (go_at_call 18; ((with_reducible refine (HB2.out _ _ Kg.out).mono ?_)); rintro e wh ⟨rfl, h⟩; have Kh := Lib.hid h; clear h))
      go_ret
      exact ⟨by first | rfl | (simp; done) | simp [hne], Kh.out.ground⟩
end Go.Proofs.Ytpkodmclbobkpaa
