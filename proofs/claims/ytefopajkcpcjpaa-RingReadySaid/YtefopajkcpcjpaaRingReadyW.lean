/- RingReady: the walk. No condition but that the program's ring keeps its words. -/
import Derived.Test.YtefopajkcpcjpaaWorks6
import Derived.Test.YtefopajkcpcjpaaActs6
import Derived.Test.YtefopajkcpcjpaaReadyMath
namespace Go.Proofs.Ytefopajkcpcjpaa
open Go.RowKit
set_option linter.unusedVariables false
set_option linter.unusedSimpArgs false
set_option maxRecDepth 100000

set_option maxHeartbeats 800000 in
theorem ready_walk {RT : Nat → RM → Thing} (A : RingApi RT) (r0 : Int) (s : Sl Act6) (t0 : Int) (w : World) (h1 : SlOk encAct6 okAct6 2 w s) :
    Calls Try.prog 6 #[.int .i64 r0, .slice s.a s.len s.cap, .int .i64 t0] w fun e w' => e = .returned (.bool true) ∧ Still w w' := by
  obtain ⟨sa, sl, sc, sx⟩ := s
  have hscap : sl ≤ sc := h1.le
  have hsmax : sc ≤ maxLen := h1.max
  unfold maxLen at hsmax
  have HS := Lib.hid h1
  have HSL : Hid (sx.length = sl) := Lib.hid h1.len
  clear h1
  dsimp only at HSL HS ⊢
  obtain ⟨R1, hR1⟩ : ∃ x, x = am r0 64 := ⟨_, rfl⟩
  have hr1 : R1 < 64 := by rw [hR1]; exact am_lt _ (by omega)
  have B1 := Lib.hid (fun W => among_lit r0 64 64 R1 rfl hR1 (by omega) (by omega) W)
  obtain ⟨rm, hrm⟩ : ∃ rm, rm = R1 + 1 := ⟨_, rfl⟩
  have erm : (1 : Int) + (R1 : Int) = rm := by omega
  have rm1 : 1 ≤ rm := by omega
  have rm2 : rm ≤ 64 := by omega
  have HO0 := Lib.hid (RM.new_ok (ov := true) rm1 rm2)
  have C0 := Lib.hid (fun W => A.make_ok rm true W rm1 rm2)
  rw [show polB true = 1 from rfl] at C0
  have C1 := Lib.hid (fun (w0 W : World) (q k : Nat) (M : RM) (T : M.Ok k) (hk : k ≤ 150) (R : Thing) (H : Held w0 W ((RT q M).sep R)) => show Calls Try.prog 13 #[.pointer (some ⟨q, 0, none⟩), .int .i64 1] W fun e w' => (∃ a b c, e = .returned (.tuple #[.int .i64 a, .int .i64 b, .int .i64 c])) ∧ Held w0 w' ((RT q (M.claimM 1)).sep R) from
    (H.call (fun _ h => A.claim h T (by omega) 1 (w64_lit (by omega) (by omega)))).mono fun e w' ⟨he, hh⟩ => ⟨⟨_, _, _, he⟩, hh⟩)
  have C2 := Lib.hid (fun (w0 W : World) (q k : Nat) (M : RM) (T : M.Ok k) (hk : k ≤ 150) (y : Nat) (hy : y ≤ 150) (R : Thing) (H : Held w0 W ((RT q M).sep R)) => show Calls Try.prog 15 #[.pointer (some ⟨q, 0, none⟩), .int .i64 (y : Nat)] W fun e w' => (∃ a, e = .returned (.int .i64 a)) ∧ Held w0 w' ((RT q (M.pubM (y : Nat))).sep R) from
    (H.call (fun _ h => A.pub h T (by omega) (y : Nat) (w64_lit (by omega) (by omega)))).mono fun e w' ⟨he, hh⟩ => ⟨⟨_, he⟩, hh⟩)
  have C3 := Lib.hid (fun (w0 W : World) (q k : Nat) (M : RM) (T : M.Ok k) (hk : k ≤ 150) (R : Thing) (H : Held w0 W ((RT q M).sep R)) => show Calls Try.prog 25 #[.pointer (some ⟨q, 0, none⟩)] W fun e w' => e = .returned (.int .i64 (M.tail : Nat)) ∧ Still W w' from by
    obtain ⟨_, h, _⟩ := H.fst
    exact A.tail h T (by omega))
  have C4 := Lib.hid (fun (w0 W : World) (q k : Nat) (M : RM) (T : M.Ok k) (hk : k ≤ 150) (R : Thing) (H : Held w0 W ((RT q M).sep R)) => show Calls Try.prog 24 #[.pointer (some ⟨q, 0, none⟩)] W fun e w' => e = .returned (.int .i64 (M.h : Nat)) ∧ Still W w' from by
    obtain ⟨_, h, _⟩ := H.fst
    exact A.head h T (by omega))
  have C5 := Lib.hid (fun (w0 W : World) (q k : Nat) (M : RM) (T : M.Ok k) (hk : k ≤ 150) (y : Nat) (hy : y ≤ 150) (R : Thing) (H : Held w0 W ((RT q M).sep R)) => show Calls Try.prog 22 #[.pointer (some ⟨q, 0, none⟩), .int .i64 (y : Nat)] W fun e w' => e = .returned (.int .i64 (M.ready (y : Nat) : Nat)) ∧ Still W w' from by
    obtain ⟨_, h, _⟩ := H.fst
    exact A.ready h T (by omega) (y : Nat) (w64_lit (by omega) (by omega)))
  have C6 := Lib.hid (fun (w0 W : World) (q k : Nat) (M : RM) (T : M.Ok k) (hk : k ≤ 150) (y : Nat) (hy : y ≤ 150) (R : Thing) (H : Held w0 W ((RT q M).sep R)) => show Calls Try.prog 17 #[.pointer (some ⟨q, 0, none⟩), .int .i64 (y : Nat)] W fun e w' => e = .returned (.tuple #[.int .i64 (M.getR (y : Nat)), .int .i64 (M.getE (y : Nat))]) ∧ Still W w' from by
    obtain ⟨_, h, _⟩ := H.fst
    exact A.get h T (by omega) (y : Nat) (w64_lit (by omega) (by omega)))
  clear hR1 hrm
  go_enter Try.func6, Try.ntmps6
  go_wp2_with fail
  refine (works6 A _).mono ?_
  rintro e w1 ⟨rfl, hT⟩
  have HT := Lib.hid hT
  clear hT
  go_wp2_with fail
  refine (B1.out _).mono ?_
  rintro e w' ⟨rfl, rfl⟩
  go_wp2_with fail
  refine (C0.out _).mono ?_
  intro e w2 hN
  obtain ⟨q, rfl, H⟩ := Held.ring HT.out hN
  have HH := Lib.hid H
  clear hN C0 H B1 erm hr1
  go_wp2_with fail
  go_loopw [9] (fun i wr => ∃ (k : Nat) (M : RM), k ≤ sl ∧ k ≤ 150 ∧ i = .int .i64 k ∧ M.Ok k ∧ Held w wr ((RT q M).sep Thing.none)) (fun i _ => sl - (intOf i).toNat)
  case atStart => exact ⟨0, _, Nat.zero_le _, Nat.zero_le _, rfl, HO0.out, HH.out⟩
  case round =>
    clear HH HO0
    obtain ⟨k, M, hk, hk1, rfl, hM, H⟩ := hrel
    have HM := Lib.hid hM
    have HH := Lib.hid H
    clear hM H
    by_cases hin : k < sl ∧ k < 150
    · obtain ⟨hlt, h150⟩ := hin
      have hX := HS.out
      obtain ⟨x, hx⟩ := get_some (l := sx) (i := k) (by rw [HSL.out]; exact hlt)
      obtain ⟨b, o, rfl, hc⟩ := hX.row k x hx
      have hT := HH.out.ground
      obtain ⟨d, nn⟩ := x
      have c0 : wr.cell? ⟨b, o + k * 2, none⟩ = some (.int .i64 d) := still_cell hT (hc 0 _ rfl) (by omega)
      have c1 : wr.cell? ⟨b, o + k * 2 + 1, none⟩ = some (.int .i64 nn) := still_cell hT (hc 1 _ rfl) (by omega)
      have HW := Lib.hid (fun V (h : Still w V) => (still_cell h (hc 1 _ rfl) (by omega) : V.cell? ⟨b, o + k * 2 + 1, none⟩ = some (.int .i64 nn)))
      clear hX hx hc hT HS
      by_cases hd : Int.tmod d 2 = 0
      · have D1 := Lib.hid (C1.out w wr q k M HM.out hk1 _ HH.out)
        clear C1 C2 C3 C4 C5 C6 c1
        go_wp2_with fail
        refine D1.out.mono ?_
        rintro e w3 ⟨⟨a, b, c, rfl⟩, H⟩
        have HH3 := Lib.hid H
        clear H D1 HH
        go_wp2_with fail
        go_roundw
        case rel => exact ⟨k + 1, _, by omega, by omega, by go_num, HM.out.claim 1, HH3.out⟩
        case measure => simp [intOf]; omega
      · obtain ⟨tl, htl⟩ : ∃ x, x = M.tail := ⟨_, rfl⟩
        have htk : tl ≤ k := by rw [htl]; exact HM.out.low
        obtain ⟨Y, hY⟩ : ∃ Y, Y = am nn (tl + 1) := ⟨_, rfl⟩
        have hY1 : Y ≤ tl := by have : Y < tl + 1 := by rw [hY]; exact am_lt _ (by omega)
                                omega
        have E1 := Lib.hid (fun W => among_lit nn (IntKind.i64.wrap ((tl : Int) + 1)) (tl + 1) Y (by simp [IntKind.wrap, IntKind.signed, IntKind.bits]; omega) hY (by omega) (by omega) W)
        have F1 := Lib.hid (fun V (hT : Still wr V) => show Calls Try.prog 25 #[.pointer (some ⟨q, 0, none⟩)] V fun e w' => e = .returned (.int .i64 tl) ∧ Still wr w' from by
          rw [htl]
          exact (C3.out w V q k M HM.out hk1 _ (HH.out.still hT)).mono fun e w' ⟨he, hs⟩ => ⟨he, hT.trans hs⟩)
        have F2 := Lib.hid (fun V (hT : Still wr V) => C2.out w V q k M HM.out hk1 Y (by omega) _ (HH.out.still hT))
        have HC := Lib.hid (fun V (hT : Still wr V) => still_cell hT c1 rfl)
        have hTd : Still wr wr.drew := (Turned.refl _ _).drew
        clear C1 C2 C3 C4 C5 C6 htl hY HH
        go_wp2_with fail
        go_region_held3 (fun V => V.cell? ⟨b, o + k * 2 + 1, none⟩ = some (.int .i64 nn)) (first | assumption | go_keep) (first
          | (go_at_call 25; ((with_reducible refine (F1.out _ (by assumption)).mono ?_)); rintro e w5 ⟨rfl, hT5⟩; have g5 := HC.out w5 hT5)
          | (go_at_call 12; ((with_reducible refine (E1.out _).mono ?_)); rintro e w6 ⟨rfl, rfl⟩)
          | (go_at_call 15; ((with_reducible refine (F2.out _ (by assumption)).mono ?_)); rintro e w7 ⟨⟨a7, rfl⟩, H7⟩; have g7 := HW.out w7 H7.ground))
        all_goals
          have HH7 := Lib.hid (show Held w w7 ((RT q (M.pubM (Y : Nat))).sep Thing.none) from by assumption)
          clear F1 F2 E1 HC
          go_wp2_with fail
          go_roundw
          case rel => exact ⟨k + 1, _, by omega, by omega, by go_num, (HM.out.pub _).mono (by omega), HH7.out⟩
          case measure => simp [intOf]; omega
    · have hex : (k < sl ∧ 150 ≤ k) ∨ sl ≤ k := by omega
      clear hin HS
      obtain ⟨tl, htl⟩ : ∃ x, x = M.tail := ⟨_, rfl⟩
      have htk : tl ≤ k := by rw [htl]; exact HM.out.low
      obtain ⟨Y, hY⟩ : ∃ Y, Y = am t0 (tl + 1) := ⟨_, rfl⟩
      have hY1 : Y ≤ tl := by have : Y < tl + 1 := by rw [hY]; exact am_lt _ (by omega)
                              omega
      obtain ⟨q1, q2, q3, q4, q5⟩ := M.ready_is Y (by omega)
      obtain ⟨T, hT⟩ : ∃ T, T = M.ready (Y : Nat) := ⟨_, rfl⟩
      obtain ⟨hd, hhd⟩ : ∃ x, x = M.h := ⟨_, rfl⟩
      rw [← hT] at q1 q2 q3 q4 q5
      rw [← hhd] at q1 q3 q5
      rw [← htl] at q2 q4
      obtain ⟨m, hm⟩ : ∃ m, m = if Y < hd then hd else Y := ⟨_, rfl⟩
      rw [← hm] at q3 q5
      have hm1 : Y < hd ∧ m = hd ∨ hd ≤ Y ∧ m = Y := by rw [hm]; split <;> omega
      have E1 := Lib.hid (fun W => among_lit t0 (IntKind.i64.wrap ((tl : Int) + 1)) (tl + 1) Y (by simp [IntKind.wrap, IntKind.signed, IntKind.bits]; omega) hY (by omega) (by omega) W)
      have E2 := Lib.hid (fun W => among_lit t0 ((tl : Int) + 1) (tl + 1) Y (by omega) hY (by omega) (by omega) W)
      have F1 := Lib.hid (fun V (h : Still wr V) => show Calls Try.prog 25 #[.pointer (some ⟨q, 0, none⟩)] V fun e w' => e = .returned (.int .i64 tl) ∧ Still wr w' from by
        rw [htl]
        exact (C3.out w V q k M HM.out hk1 _ (HH.out.still h)).mono fun e w' ⟨he, hs⟩ => ⟨he, h.trans hs⟩)
      have F2 := Lib.hid (fun V (h : Still wr V) => show Calls Try.prog 24 #[.pointer (some ⟨q, 0, none⟩)] V fun e w' => e = .returned (.int .i64 hd) ∧ Still wr w' from by
        rw [hhd]
        exact (C4.out w V q k M HM.out hk1 _ (HH.out.still h)).mono fun e w' ⟨he, hs⟩ => ⟨he, h.trans hs⟩)
      have F3 := Lib.hid (fun V (h : Still wr V) => show Calls Try.prog 22 #[.pointer (some ⟨q, 0, none⟩), .int .i64 Y] V fun e w' => e = .returned (.int .i64 T) ∧ Still wr w' from by
        rw [hT]
        exact (C5.out w V q k M HM.out hk1 Y (by omega) _ (HH.out.still h)).mono fun e w' ⟨he, hs⟩ => ⟨he, h.trans hs⟩)
      have F4 := Lib.hid (fun (j : Nat) (hj1 : m ≤ j) (hj2 : j < T) V (h : Still wr V) => show Calls Try.prog 17 #[.pointer (some ⟨q, 0, none⟩), .int .i64 j] V fun e w' => (∃ a, e = .returned (.tuple #[.int .i64 a, .int .i64 0])) ∧ Still wr w' from by
        have := C6.out w V q k M HM.out hk1 j (by omega) _ (HH.out.still h)
        rw [q3 j hj1 hj2] at this
        exact this.mono fun e w' ⟨he, hs⟩ => ⟨⟨_, he⟩, h.trans hs⟩)
      have F5 := Lib.hid (fun V (h : Still wr V) => show Calls Try.prog 17 #[.pointer (some ⟨q, 0, none⟩), .int .i64 T] V fun e w' => (∃ a, e = .returned (.tuple #[.int .i64 a, .int .i64 8]) ∨ e = .returned (.tuple #[.int .i64 a, .int .i64 5]) ∧ T = tl) ∧ Still wr w' from by
        have := C6.out w V q k M HM.out hk1 T (by omega) _ (HH.out.still h)
        refine this.mono fun e w' ⟨he, hs⟩ => ⟨⟨M.getR (T : Nat), ?_⟩, h.trans hs⟩
        rcases q4 with h4 | ⟨h4, h5⟩
        · rw [h4] at he; exact .inl he
        · rw [h4] at he; exact .inr ⟨he, h5⟩)
      have HG := Lib.hid HH.out.ground
      clear C1 C2 C3 C4 C5 C6 htl hT hhd hY hm q3 q4 HM HH
      have hS0 : Still wr wr := Turned.refl _ _
      have HS0 := Lib.hid hS0
      rcases hex with ⟨hex, hex2⟩ | hex
      all_goals
        go_wp2_with fail
        refine (F1.out _ HS0.out).mono ?_
        rintro e w3 ⟨rfl, h3⟩
        have HS3 := Lib.hid h3
        clear h3 hS0
        go_wp2_with fail
        refine (E2.out _).mono ?_
        rintro e w4 ⟨rfl, rfl⟩
        go_wp2_with fail
        refine (F3.out _ HS3.out).mono ?_
        rintro e w4 ⟨rfl, h4⟩
        have HS4 := Lib.hid h4
        clear h4
        go_wp2_with fail
        refine (F2.out _ HS4.out).mono ?_
        rintro e w5 ⟨rfl, h5⟩
        have HS5 := Lib.hid h5
        clear h5
        go_wp2_with fail
        all_goals
          go_loopw [11] (fun i wz => ∃ j : Nat, m ≤ j ∧ j ≤ T ∧ i = .int .i64 j ∧ Still wr wz) (fun i _ => T - (intOf i).toNat)
          case atStart => exact ⟨m, Nat.le_refl _, q5, congrArg (Value.int .i64) (by omega), HS5.out⟩
          case round =>
            clear HS0 HS3 HS4 HS5
            obtain ⟨j, hj1, hj2, rfl, hS⟩ := hrel
            rename_i wz
            have HS := Lib.hid hS
            clear hS
            by_cases hjt : j < T
            · have G1 := Lib.hid (F4.out j hj1 hjt)
              clear F1 F2 F3 F4 F5
              go_wp2_with fail
              refine (G1.out _ HS.out).mono ?_
              rintro e w6 ⟨⟨a6, rfl⟩, h6⟩
              have HS6 := Lib.hid h6
              clear h6
              go_wp2_with fail
              go_roundw
              case rel => exact ⟨j + 1, by omega, by omega, by go_num, HS6.out⟩
              case measure => simp [intOf]; omega
            · obtain rfl : j = T := by omega
              go_wp2_with fail
              refine (F5.out _ HS.out).mono ?_
              rintro e w6 ⟨⟨a6, h5⟩, h6⟩
              have HS6 := Lib.hid h6
              clear h6
              have HQ := Lib.hid HG.out
              rcases h5 with rfl | ⟨rfl, h7⟩
              · go_wp2_with fail
                refine (F2.out _ HS6.out).mono ?_
                rintro e w7 ⟨rfl, h7⟩
                have HS7 := Lib.hid h7
                clear h7
                go_wp2_with fail
                refine (F1.out _ HS7.out).mono ?_
                rintro e w8 ⟨rfl, h8⟩
                have HS8 := Lib.hid h8
                clear h8
                go_wp2_with fail
                all_goals
                  go_ret
                  exact ⟨by simp, HQ.out.trans HS8.out⟩
              · go_wp2_with fail
                refine (F2.out _ HS6.out).mono ?_
                rintro e w7 ⟨rfl, h7⟩
                have HS7 := Lib.hid h7
                clear h7
                go_wp2_with fail
                refine (F1.out _ HS7.out).mono ?_
                rintro e w8 ⟨rfl, h8⟩
                have HS8 := Lib.hid h8
                clear h8
                go_wp2_with fail
                refine (F1.out _ HS8.out).mono ?_
                rintro e w9 ⟨rfl, h9⟩
                have HS9 := Lib.hid h9
                clear h9
                go_wp2_with fail
                all_goals
                  go_ret
                  exact ⟨by simp, HQ.out.trans HS9.out⟩
end Go.Proofs.Ytefopajkcpcjpaa
