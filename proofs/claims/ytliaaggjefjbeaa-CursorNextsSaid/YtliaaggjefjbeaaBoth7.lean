/- What 'both' of layer 7's statements does: a ring of the program's and one of the document's behind the same acts. No condition but that the program's ring keeps its words. -/
import Derived.Test.YtliaaggjefjbeaaRingApi7
import Derived.Deep.RegionHeld3
import Derived.Deep.DeepCutAuto
namespace Go.Proofs.Ytliaaggjefjbeaa
open Go.RowKit
set_option linter.unusedVariables false
set_option linter.unusedSimpArgs false
set_option maxRecDepth 100000

def Two7 (RT : Nat → RM → Thing) (w wr : World) (x y k : Nat) (M : RM) : Prop := Held w wr ((RT x M).sep (zrT y M)) ∧ M.Ok k
def BothPost (RT : Nat → RM → Thing) (w : World) (e : Ending) (w' : World) : Prop := ∃ (x y : Nat) (M : RM), e = .returned (.tuple #[.pointer (some ⟨x, 0, none⟩), .pointer (some ⟨y, 0, none⟩)]) ∧ Two7 RT w w' x y 150 M

set_option maxHeartbeats 4000000 in
theorem both_any {RT : Nat → RM → Thing} (A : RingApi7 RT) (r0 : Int) (s : Sl Act7) (w : World) (h1 : SlOk encAct7 okAct7 2 w s) :
    Calls Try.prog 21 #[.int .i64 r0, .slice s.a s.len s.cap] w (BothPost RT w) := by
  obtain ⟨ta, tl, tc, tx⟩ := s
  have htcap : tl ≤ tc := h1.le
  have htmax : tc ≤ maxLen := h1.max
  unfold maxLen at htmax
  have HTX := Lib.hid h1
  have HTL : Hid (tx.length = tl) := Lib.hid h1.len
  clear h1
  dsimp only at HTL HTX ⊢
  obtain ⟨R1, hR1⟩ : ∃ x, x = am r0 64 := ⟨_, rfl⟩
  have hr1 : R1 < 64 := by rw [hR1]; exact am_lt _ (by omega)
  have B0 := Lib.hid (fun W => among_lit r0 64 64 R1 rfl hR1 (by omega) (by omega) W)
  obtain ⟨rm, hrm⟩ : ∃ rm, rm = R1 + 1 := ⟨_, rfl⟩
  have erm : (1 : Int) + (R1 : Int) = rm := by omega
  have rm1 : 1 ≤ rm := by omega
  have rm2 : rm ≤ 64 := by omega
  have HO0 := Lib.hid (RM.new_ok (ov := true) rm1 rm2)
  have C0 := Lib.hid (fun W => A.make_ok rm true W rm1 rm2)
  have C1 := Lib.hid (fun W => zrmake_ok rm true W rm1 rm2)
  rw [show polB true = 1 from rfl] at C0 C1
  have X1 := Lib.hid (fun (V : World) (x y k : Nat) (M : RM) (T : Two7 RT w V x y k M) (hk : k ≤ 150) (n : Int) (hn : w64 n) => show Calls Try.prog 28 #[.pointer (some ⟨x, 0, none⟩), .int .i64 n] V fun e w' => (∃ a b c, e = .returned (.tuple #[.int .i64 a, .int .i64 b, .int .i64 c])) ∧ Held w w' ((RT x (M.claimM n)).sep (zrT y M)) from
    (T.1.call (fun _ h => A.claim h T.2 (by omega) n hn)).mono fun e w' ⟨he, hh⟩ => ⟨⟨_, _, _, he⟩, hh⟩)
  have X2 := Lib.hid (fun (V : World) (x y k : Nat) (M : RM) (T : Two7 RT w V x y k M) (hk : k ≤ 150) (n : Int) (hn : w64 n) => show Calls Try.prog 30 #[.pointer (some ⟨x, 0, none⟩), .int .i64 n] V fun e w' => (∃ a, e = .returned (.int .i64 a)) ∧ Held w w' ((RT x (M.pubM n)).sep (zrT y M)) from
    (T.1.call (fun _ h => A.pub h T.2 (by omega) n hn)).mono fun e w' ⟨he, hh⟩ => ⟨⟨_, he⟩, hh⟩)
  have Y1 := Lib.hid (fun (V : World) (x y k : Nat) (M M' : RM) (T : Held w V ((RT x M').sep (zrT y M))) (hM : M.Ok k) (hk : k ≤ 150) (n : Int) => show Calls Try.prog 34 #[.pointer (some ⟨y, 0, none⟩), .int .i64 n] V fun e w' => (∃ a b c, e = .returned (.tuple #[.int .i64 a, .int .i64 b, .int .i64 c])) ∧ Held w w' ((RT x M').sep (zrT y (M.claimM n))) from
    (T.swap.call (fun _ h => zrclaim_any h hM (by omega) n)).mono fun e w' ⟨he, hh⟩ => ⟨⟨_, _, _, he⟩, hh.swap⟩)
  have Y2 := Lib.hid (fun (V : World) (x y k : Nat) (M M' : RM) (T : Held w V ((RT x M').sep (zrT y M))) (hM : M.Ok k) (hk : k ≤ 150) (n : Int) => show Calls Try.prog 35 #[.pointer (some ⟨y, 0, none⟩), .int .i64 n] V fun e w' => (∃ a, e = .returned (.int .i64 a)) ∧ Held w w' ((RT x M').sep (zrT y (M.pubM n))) from
    (T.swap.call (fun _ h => zrpub_any h hM (by omega) n)).mono fun e w' ⟨he, hh⟩ => ⟨⟨_, he⟩, hh.swap⟩)
  have YT := Lib.hid (fun (V : World) (x y k : Nat) (M M' : RM) (T : Held w V ((RT x M').sep (zrT y M))) (hM : M.Ok k) (hk : k ≤ 150) => show Calls Try.prog 25 #[.pointer (some ⟨y, 0, none⟩)] V fun e w' => e = .returned (.int .i64 (M.tail : Nat)) ∧ Still V w' from by
    obtain ⟨_, h, _⟩ := T.swap.fst
    exact zrtail_t h hM (by omega))
  clear hR1 hrm
  go_enter Try.func21, Try.ntmps21
  go_wp2_with fail
  refine (B0.out _).mono ?_
  rintro e w' ⟨rfl, rfl⟩
  go_wp2_with fail
  refine (C0.out _).mono ?_
  intro e w1 hN
  obtain ⟨x, rfl, H⟩ := held_new (Turned.refl _ _) hN
  have HH := Lib.hid H.drop
  clear hN H C0 B0 erm hr1
  go_wp2_with fail
  refine (C1.out _).mono ?_
  rintro e w2 ⟨y, rfl, hW⟩
  have HH2 := Lib.hid (show Two7 RT _ w2 x y 0 (RM.new rm true) from ⟨(HH.out.new hW).swap, HO0.out⟩)
  clear hW HH C1 HO0
  go_wp2_with fail
  go_loopw [10] (fun i wr => ∃ (k : Nat) (M : RM), k ≤ tl ∧ k ≤ 150 ∧ i = .int .i64 k ∧ Two7 RT w wr x y k M) (fun i _ => tl - (intOf i).toNat)
  case atStart => exact ⟨0, _, Nat.zero_le _, Nat.zero_le _, rfl, HH2.out⟩
  case round =>
    clear HH2
    obtain ⟨k, M, hk, hk1, rfl, hI⟩ := hrel
    have HI := Lib.hid hI
    by_cases hin : k < tl ∧ k < 150
    · obtain ⟨hlt, h150⟩ := hin
      obtain ⟨a, hx⟩ := get_some (l := tx) (i := k) (by rw [HTL.out]; exact hlt)
      obtain ⟨b, o, rfl, hc⟩ := HTX.out.row k a hx
      have hT := hI.1.ground
      obtain ⟨d, nn⟩ := a
      have c0 : wr.cell? ⟨b, o + k * 2, none⟩ = some (.int .i64 d) := still_cell hT (hc 0 _ rfl) (by omega)
      have c1 : wr.cell? ⟨b, o + k * 2 + 1, none⟩ = some (.int .i64 nn) := still_cell hT (hc 1 _ rfl) (by omega)
      obtain ⟨v, hv⟩ : ∃ v, v = am d 8 := ⟨_, rfl⟩
      have hvl : v < 8 := by rw [hv]; exact am_lt _ (by omega)
      have B1 := Lib.hid (fun W => among_lit d 8 8 v rfl hv (by omega) (by omega) W)
      obtain ⟨tn, htn⟩ : ∃ x, x = M.tail := ⟨_, rfl⟩
      have htk : tn ≤ k := by rw [htn]; exact hI.2.low
      clear hx hc hT hv HTX
      by_cases hd : v < 3
      · have F1 := Lib.hid (YT.out wr x y k M M hI.1 hI.2 hk1)
        rw [← htn] at F1
        clear c1 X2 Y2 hI
        have G1 := Lib.hid (fun V (h : Still wr V) => X1.out V x y k M ⟨HI.out.1.still h, HI.out.2⟩ hk1 ((tn : Int) + 1) (w64_lit (by omega) (by omega)))
        have G2 := Lib.hid (fun V M' (T : Held w V ((RT x M').sep (zrT y M))) => YT.out V x y k M M' T HI.out.2 hk1)
        rw [← htn] at G2
        have G3 := Lib.hid (fun V M' (T : Held w V ((RT x M').sep (zrT y M))) => Y1.out V x y k M M' T HI.out.2 hk1 ((tn : Int) + 1))
        clear X1 Y1 YT htn
        go_wp2_with fail
        refine (B1.out _).mono ?_
        rintro e w' ⟨rfl, rfl⟩
        clear B1
        go_wp2_with fail
        refine F1.out.mono ?_
        rintro e w3 ⟨rfl, hT3⟩
        go_wp2_with fail
        refine (G1.out _ hT3).mono ?_
        rintro e w4 ⟨⟨a1, b1, d1, rfl⟩, H4⟩
        have HH4 := Lib.hid H4
        clear hT3 H4 G1 F1
        go_wp2_with fail
        refine (G2.out _ _ HH4.out).mono ?_
        rintro e w5 ⟨rfl, hT5⟩
        have HH5 := Lib.hid (HH4.out.still hT5)
        clear hT5 HH4 G2
        go_wp2_with fail
        refine (G3.out _ _ HH5.out).mono ?_
        rintro e w6 ⟨⟨a2, b2, d2, rfl⟩, H6⟩
        have HH6 := Lib.hid (show Two7 RT w w6 x y (k + 1) (M.claimM ((tn : Int) + 1)) from ⟨H6, HI.out.2.claim _⟩)
        clear H6 HH5 G3
        go_wp2_with fail
        go_roundw
        case rel => exact ⟨k + 1, _, by omega, by omega, by go_num, HH6.out⟩
        case measure => simp [intOf]; omega
      · obtain ⟨Y, hY⟩ : ∃ Y, Y = am nn (tn + 1) := ⟨_, rfl⟩
        have hY1 : Y ≤ tn := by have : Y < tn + 1 := by rw [hY]; exact am_lt _ (by omega)
                                omega
        have E1 := Lib.hid (fun W => among_lit nn (IntKind.i64.wrap ((tn : Int) + 1)) (tn + 1) Y (by simp [IntKind.wrap, IntKind.signed, IntKind.bits]; omega) hY (by omega) (by omega) W)
        have F1 := Lib.hid (fun V (hT : Still wr V) => show Calls Try.prog 25 #[.pointer (some ⟨y, 0, none⟩)] V fun e w' => e = .returned (.int .i64 tn) ∧ Still wr w' from by
          rw [htn]
          exact (YT.out V x y k M M (HI.out.1.still hT) HI.out.2 hk1).mono fun e w' ⟨he, hs⟩ => ⟨he, hT.trans hs⟩)
        have HC := Lib.hid (fun V (hT : Still wr V) => still_cell hT c1 rfl)
        have hTd : Still wr wr.drew := (Turned.refl _ _).drew
        have G1 := Lib.hid (fun V (h : Still wr V) => X2.out V x y k M ⟨HI.out.1.still h, HI.out.2⟩ hk1 (Y : Nat) (w64_lit (by omega) (by omega)))
        have G3 := Lib.hid (fun V M' (T : Held w V ((RT x M').sep (zrT y M))) => Y2.out V x y k M M' T HI.out.2 hk1 (Y : Nat))
        clear X1 X2 Y1 Y2 YT htn hY hI
        go_wp2_with fail
        refine (B1.out _).mono ?_
        rintro e w' ⟨rfl, rfl⟩
        clear B1
        go_wp2_with fail
        go_region_held3 (fun V => V.cell? ⟨b, o + k * 2 + 1, none⟩ = some (.int .i64 nn)) (first | assumption | go_keep) (first
          | (go_at_call 25; ((with_reducible refine (F1.out _ (by assumption)).mono ?_)); rintro e w5 ⟨rfl, hT5⟩; have g5 := HC.out w5 hT5)
          | (go_at_call 27; ((with_reducible refine (E1.out _).mono ?_)); rintro e w6 ⟨rfl, rfl⟩))
        all_goals
          clear F1 E1 HC c1
          go_wp2_with fail
          refine (G1.out _ (by assumption)).mono ?_
          rintro e w7 ⟨⟨a7, rfl⟩, H7⟩
          have HH7 := Lib.hid H7
          clear H7 G1
          go_wp2_with fail
          refine (G3.out _ _ HH7.out).mono ?_
          rintro e w8 ⟨⟨a8, rfl⟩, H8⟩
          have HH8 := Lib.hid (show Two7 RT w w8 x y (k + 1) (M.pubM (Y : Nat)) from ⟨H8, (HI.out.2.pub _).mono (by omega)⟩)
          clear H8 G3 HH7
          go_wp2_with fail
          go_roundw
          case rel => exact ⟨k + 1, _, by omega, by omega, by go_num, HH8.out⟩
          case measure => simp [intOf]; omega
    · have hex : (k < tl ∧ 150 ≤ k) ∨ tl ≤ k := by omega
      have HP := Lib.hid (show Two7 RT w wr x y 150 M from ⟨hI.1, hI.2.mono (by omega)⟩)
      clear hin hI HI HTX HTL X1 X2 Y1 Y2 YT
      rcases hex with ⟨hx1, hx2⟩ | hx1
      all_goals
        go_wp2_with fail
        go_ret2
        exact ⟨x, y, M, by simp, HP.out⟩
end Go.Proofs.Ytliaaggjefjbeaa
