/- LedgerCopies: the walk. No condition but the words. -/
import Derived.Test.YtpkodmclbobkpaaLgBuilt
namespace Go.Proofs.Ytpkodmclbobkpaa
open Go.RowKit
set_option linter.unusedVariables false
set_option linter.unusedSimpArgs false
set_option maxRecDepth 100000

theorem Held.lower {w0 w1 w2 : World} {Q : Thing} (h : Held w1 w2 Q) (hs : Still w0 w1) : Held w0 w2 Q := by
  obtain ⟨W, h1, h2, h3⟩ := h
  exact ⟨W, h1, fun k hk => Nat.le_trans hs.size (h2 k hk), hs.trans h3⟩
theorem Held.none {w0 w : World} {A : Thing} (h : Held w0 w A) : Held w0 w (A.sep Thing.none) := by
  obtain ⟨W, h1, h2, h3⟩ := h
  exact ⟨W, ⟨W, fun _ => False, h1, fun _ h => h, fun _ _ h => h, fun k => ⟨.inl, fun h => h.elim id (fun h => h.elim)⟩⟩, h2, h3⟩
theorem okAct14_stays : Stays okAct14 := fun w w' a ht h => h
/-- built, behind whatever left the arguments alone. -/
theorem built14_at {LT : Nat → LgM → Thing} (A : LedgerApi LT) (n0 : Int) (t : Sl Act14) (w V : World) (h1 : SlOk encAct14 okAct14 3 w t) (hs : Still w V) :
    Calls Try.prog 28 #[.int .i64 n0, .slice t.a t.len t.cap] V fun e w' => ∃ q, e = .returned (.pointer (some ⟨q, 0, none⟩)) ∧ ∃ M : LgM, M.Ok ∧ M.b < 1000 ∧ Held w w' ((LT q M).sep Thing.none) :=
  (built14_any A n0 t V (SlOk.stays okAct14_stays w V _ hs h1)).mono fun e w' ⟨q, he, b, _, hb, M, m1, m2, m3⟩ => ⟨q, he, M, m1, by omega, m3.lower hs⟩

theorem LgM.Ok.bnd {M : LgM} (h : M.Ok) : 0 ≤ M.b ∧ M.b ≤ M.fin ∧ M.fin ≤ 1099511627776 := ⟨h.lo, (endF_le h.ch).1, h.hi⟩
theorem back_to {M : LgM} (h : M.Ok) {x : Int} (h1 : M.b ≤ x) (h2 : x ≤ M.fin) : backE M x = 0 ∧ M.back x = ⟨M.b, backL M.L x⟩ := by
  have := h.bnd
  have h0 : backE M x = 0 := by unfold backE; rw [if_neg (by omega), if_neg (by omega)]
  exact ⟨h0, by unfold LgM.back; rw [if_neg (by simp [h0])]⟩
theorem back_all {M : LgM} (h : M.Ok) : backE M M.b = 0 ∧ M.back M.b = ⟨M.b, []⟩ := by
  obtain ⟨h0, h1⟩ := back_to h (x := M.b) (Int.le_refl _) h.bnd.2.1
  exact ⟨h0, by rw [h1, backL_nil (fun x hx => ((endF_le h.ch).2 x hx).1)]⟩

set_option maxHeartbeats 4000000 in
theorem lcopies_walk {LT : Nat → LgM → Thing} (A : LedgerApi LT) (n0 : Int) (t : Sl Act14) (w : World) (h1 : SlOk encAct14 okAct14 3 w t) :
    Calls Try.prog 7 #[.int .i64 n0, .slice t.a t.len t.cap] w fun e w' => e = .returned (.bool true) ∧ Still w w' := by
  have HWk := Lib.hid (works14 A w)
  have HBt := Lib.hid (fun V (hs : Still w V) => built14_at A n0 t w V h1 hs)
  obtain ⟨ta, tl, tc, tx⟩ := t
  dsimp only at *
  clear h1
  go_enter Try.func7, Try.ntmps7
  go_wp2_with (first
    | (go_at_call 11; ((with_reducible refine HWk.out.mono ?_)); rintro e w1 ⟨rfl, hs⟩; have S1 := Lib.hid hs; clear hs)
    | (go_at_call 28; ((with_reducible refine (HBt.out _ S1.out).mono ?_)); rintro e w2 ⟨q, rfl, M, m1, m2, m3⟩; have K2 := Lib.hid m3; have HM := Lib.hid m1; clear m3))
  have HCp := Lib.hid (show Calls Try.prog 29 #[.pointer (some ⟨q, 0, none⟩)] w2 fun e w' => ∃ q', e = .returned (.pointer (some ⟨q', 0, none⟩)) ∧ Held w w' ((LT q' M).sep ((LT q M).sep Thing.none)) from by
    obtain ⟨_, h, _⟩ := K2.out.fst
    exact (A.copy h m1).mono fun e w' ⟨q', he, hn⟩ => ⟨q', he, K2.out.new hn⟩)
  obtain ⟨n, hn⟩ : ∃ n, n = (spOf M.L true).length := ⟨_, rfl⟩
  obtain ⟨f, hf⟩ : ∃ f, f = M.fin := ⟨_, rfl⟩
  obtain ⟨b, hb⟩ : ∃ b, b = M.b := ⟨_, rfl⟩
  obtain ⟨b0, b1, b2⟩ := m1.bnd
  rw [← hf] at b1 b2
  rw [← hb] at b0 b1
  have HEn := Lib.hid (fun (V : World) (q' : Nat) (Mc : LgM) (R : Thing) (H : Held w V ((LT q' Mc).sep (((LT q M).sep Thing.none).sep R))) => show Calls Try.prog 23 #[.pointer (some ⟨q, 0, none⟩)] V fun e w' => e = .returned (.int .i64 f) ∧ Still V w' from
    Held.endL A (H.snd.drop) m1 hf.symm)
  have HFr := Lib.hid (fun (V : World) (q' : Nat) (Mc : LgM) (R : Thing) (H : Held w V ((LT q' Mc).sep (((LT q M).sep Thing.none).sep R))) => show Calls Try.prog 22 #[.pointer (some ⟨q, 0, none⟩)] V fun e w' => e = .returned (.int .i64 b) ∧ Still V w' from
    Held.fromL A (H.snd.drop) m1 hb.symm)
  have HAc1 := Lib.hid (fun (V : World) (q' : Nat) (H : Held w V ((LT q' M).sep (((LT q M).sep Thing.none).sep Thing.none))) => show Calls Try.prog 25 #[.pointer (some ⟨q, 0, none⟩)] V fun e w' => ∃ a c, e = .returned (.slice a n c) ∧ Held w w' ((LT q' M).sep (((LT q M).sep Thing.none).sep (ownT 47 2 a n c (rowOf sp2V (spOf M.L true))))) from by
    obtain ⟨_, h, _⟩ := H.snd.drop.fst
    exact (A.accepted h m1 n hn).mono fun e w' ⟨a, c, he, ho, hs⟩ => ⟨a, c, he, ((H.assoc'.drop).got ho hs).assoc⟩)
  have HAc2 := Lib.hid (fun (V : World) (q' : Nat) (Mc : LgM) (R : Thing) (H : Held w V ((LT q' Mc).sep (((LT q M).sep Thing.none).sep R))) => show Calls Try.prog 25 #[.pointer (some ⟨q, 0, none⟩)] V fun e w' => ∃ a c, e = .returned (.slice a n c) ∧ SpAt w' a (spOf M.L true) ∧ Still V w' from
    Held.acdL A (H.snd.drop) m1 rfl hn)
  have HSp := Lib.hid (fun (V : World) (q' : Nat) (Mc : LgM) (a : Option Addr) (c : Nat) (H : Held w V ((LT q' Mc).sep (((LT q M).sep Thing.none).sep (ownT 47 2 a n c (rowOf sp2V (spOf M.L true)))))) => show SpAt V a (spOf M.L true) from
    SpAt.of_own H.snd.own hn)
  have HSm := Lib.hid (fun (V : World) (a a' : Option Addr) (c c' : Nat) (h : SpAt V a (spOf M.L true)) (h' : SpAt V a' (spOf M.L true)) => show Calls Try.prog 24 #[.slice a n c, .slice a' n c'] V fun e w' => e = .returned (.bool true) ∧ Still V w' from by
    have hl : n ≤ 4611686018427387904 := by have := spOf_len M.L true; have := m1.len; omega
    exact (sameSpans_any V a a' _ _ n n c c' hn hn hl h h').mono fun e w' ⟨he, hs⟩ => ⟨by rw [he]; simp, hs⟩)
  have HMc : (M.add (f + 5) true).Ok := m1.add _ _
  have HCa := Lib.hid (fun (V : World) (q' : Nat) (R : Thing) (H : Held w V ((LT q' M).sep R)) => show Calls Try.prog 15 #[.pointer (some ⟨q', 0, none⟩), .int .i64 (f + 5)] V fun e w' => (∃ v, e = .returned v) ∧ Held w w' ((LT q' (M.add (f + 5) true)).sep R) from
    (H.call (fun _ h => A.accept h m1 (f + 5) (by omega) (by omega))).mono fun e w' ⟨he, hh⟩ => ⟨⟨_, he⟩, hh⟩)
  have HCf := Lib.hid (fun (V : World) (q' : Nat) (R : Thing) (H : Held w V ((LT q' (M.add (f + 5) true)).sep R)) => Held.fromL A H HMc (f := b) (by rw [hb]; rfl))
  obtain ⟨e0, e1⟩ := back_all HMc
  have hMb : (M.add (f + 5) true).b = b := by rw [hb]; rfl
  rw [hMb] at e0 e1
  have HCb := Lib.hid (fun (V : World) (q' : Nat) (R : Thing) (H : Held w V ((LT q' (M.add (f + 5) true)).sep R)) => Held.backL A H HMc (x := b) (by omega) (by omega) e0 e1)
  have HM2 : LgM.Ok ⟨b, []⟩ := by rw [← e1]; exact HMc.back b
  have HCe := Lib.hid (fun (V : World) (q' : Nat) (R : Thing) (H : Held w V ((LT q' ⟨b, []⟩).sep R)) => Held.endL A H HM2 (f := b) rfl)
  have HC1 := Lib.hid (fun (V : World) (q' : Nat) (R : Thing) (H : Held w V ((LT q' ⟨b, []⟩).sep R)) => Held.acdL A H HM2 (l := []) (m := 0) rfl rfl)
  have HC2 := Lib.hid (fun (V : World) (q' : Nat) (R : Thing) (H : Held w V ((LT q' ⟨b, []⟩).sep R)) => Held.skdL A H HM2 (l := []) (m := 0) rfl rfl)
  have b3 : b < 1000 := by omega
  clear e0 e1 hMb HMc HM2 hn hf hb m1 m2
  go_wp2_with (first
    | (go_at_call 29; ((with_reducible refine HCp.out.mono ?_)); rintro e w3 ⟨q', rfl, h⟩; have K3 := Lib.hid h.none.assoc; clear h)
    | (go_at_call 23; ((with_reducible refine (HEn.out _ _ _ _ K3.out).mono ?_)); rintro e w4 ⟨rfl, hs⟩; have K4 := Lib.hid (K3.out.still hs); clear hs K3)
    | (go_at_call 25; ((with_reducible refine (HAc1.out _ _ K4.out).mono ?_)); rintro e w5 ⟨a5, c5, rfl, h⟩; have K5 := Lib.hid h; clear h K4)
    | (go_at_call 15; ((with_reducible refine (HCa.out _ _ _ K5.out).mono ?_)); rintro e w6 ⟨⟨v6, rfl⟩, h⟩; have K6 := Lib.hid h; clear h K5)
    | (go_at_call 22; ((with_reducible refine (HCf.out _ _ _ K6.out).mono ?_)); rintro e w7 ⟨rfl, hs⟩; have K7 := Lib.hid (K6.out.still hs); clear hs K6)
    | (go_at_call 18; ((with_reducible refine (HCb.out _ _ _ K7.out).mono ?_)); rintro e w8 ⟨rfl, h⟩; have K8 := Lib.hid h; clear h K7)
    | (go_at_call 23; ((with_reducible refine (HEn.out _ _ _ _ K8.out).mono ?_)); rintro e w9 ⟨rfl, hs⟩; have K9 := Lib.hid (K8.out.still hs); clear hs K8)
    | (go_at_call 25; ((with_reducible refine (HAc2.out _ _ _ _ K9.out).mono ?_)); rintro e wa ⟨aa, ca, rfl, h, hs⟩; have Sa := Lib.hid h; have Ka := Lib.hid (K9.out.still hs); clear h hs K9)
    | (go_at_call 24; ((with_reducible refine (HSm.out _ _ _ _ _ Sa.out (HSp.out _ _ _ _ _ Ka.out)).mono ?_)); rintro e wb ⟨rfl, hs⟩; have Kb := Lib.hid (Ka.out.still hs); clear hs Ka)
    | (go_at_call 23; ((with_reducible refine (HCe.out _ _ _ Kb.out).mono ?_)); rintro e wc ⟨rfl, hs⟩; have Kc := Lib.hid (Kb.out.still hs); clear hs Kb)
    | (go_at_call 22; ((with_reducible refine (HFr.out _ _ _ _ Kc.out).mono ?_)); rintro e wd ⟨rfl, hs⟩; have Kd := Lib.hid (Kc.out.still hs); clear hs Kc)
    | (go_at_call 25; ((with_reducible refine (HC1.out _ _ _ Kd.out).mono ?_)); rintro e we ⟨ae, ce, rfl, _, hs⟩; have Ke := Lib.hid (Kd.out.still hs); clear hs Kd)
    | (go_at_call 27; ((with_reducible refine (HC2.out _ _ _ Ke.out).mono ?_)); rintro e wf ⟨af, cf, rfl, _, hs⟩; have Kf := Lib.hid (Ke.out.still hs); clear hs Ke))
  go_ret
  exact ⟨by first | rfl | simp, Kf.out.ground⟩
end Go.Proofs.Ytpkodmclbobkpaa
