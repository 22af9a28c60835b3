/- CursorReads: the walk. No condition but that the program's ring and its readers keep their words. -/
import Derived.Test.YtliaaggjefjbeaaReadMath
import Derived.Test.YtliaaggjefjbeaaWorks7
import Derived.Deep.RegionHeld3
import Derived.Deep.DeepCutAuto
namespace Go.Proofs.Ytliaaggjefjbeaa
open Go.RowKit
set_option linter.unusedVariables false
set_option linter.unusedSimpArgs false
set_option maxRecDepth 100000

def Goes7 (RT : Nat → RM → Thing) (w wr : World) (q k a : Nat) (M : RM) : Prop := Held w wr ((RT q M).sep Thing.none) ∧ Rd7 M k a

set_option maxHeartbeats 40000000 in
theorem reads_walk {RT : Nat → RM → Thing} (A : RingApi7 RT) (K : CursorApi) (r0 : Int) (s : Sl Act7) (w : World) (h1 : SlOk encAct7 okAct7 2 w s) :
    Calls Try.prog 6 #[.int .i64 r0, .slice s.a s.len s.cap] w fun e w' => e = .returned (.bool true) ∧ Still w w' := by
  obtain ⟨ta, tl, tc, tx⟩ := s
  have htcap : tl ≤ tc := h1.le
  have htmax : tc ≤ maxLen := h1.max
  unfold maxLen at htmax
  have HTX := Lib.hid h1
  have HTL : Hid (tx.length = tl) := Lib.hid h1.len
  clear h1
  dsimp only at HTL HTX ⊢
  obtain ⟨R1, hR1⟩ : ∃ x, x = am r0 64 := ⟨_, rfl⟩
  have hr1 : R1 < 64 := by rw [hR1]; exact am_lt _ (by omega)
  have B0 := Lib.hid (fun W => among_lit r0 64 64 R1 rfl hR1 (by omega) (by omega) W)
  obtain ⟨rm, hrm⟩ : ∃ rm, rm = R1 + 1 := ⟨_, rfl⟩
  have erm : (1 : Int) + (R1 : Int) = rm := by omega
  have rm1 : 1 ≤ rm := by omega
  have rm2 : rm ≤ 64 := by omega
  have HO0 := Lib.hid (Rd7.new rm1 rm2)
  have C0 := Lib.hid (fun W => A.make_ok rm true W rm1 rm2)
  rw [show polB true = 1 from rfl] at C0
  have W7 := Lib.hid (fun W => works7 K W)
  have X1 := Lib.hid (fun (V : World) (q k a : Nat) (M : RM) (T : Goes7 RT w V q k a M) (hk : k ≤ 200) (n : Int) (hn : w64 n) => show Calls Try.prog 28 #[.pointer (some ⟨q, 0, none⟩), .int .i64 n] V fun e w' => (∃ a b c, e = .returned (.tuple #[.int .i64 a, .int .i64 b, .int .i64 c])) ∧ Held w w' ((RT q (M.claimM n)).sep Thing.none) from
    (T.1.call (fun _ h => A.claim h T.2.ok (by omega) n hn)).mono fun e w' ⟨he, hh⟩ => ⟨⟨_, _, _, he⟩, hh⟩)
  have X2 := Lib.hid (fun (V : World) (q k a : Nat) (M : RM) (T : Goes7 RT w V q k a M) (hk : k ≤ 200) (n : Int) (hn : w64 n) => show Calls Try.prog 30 #[.pointer (some ⟨q, 0, none⟩), .int .i64 n] V fun e w' => (∃ a, e = .returned (.int .i64 a)) ∧ Held w w' ((RT q (M.pubM n)).sep Thing.none) from
    (T.1.call (fun _ h => A.pub h T.2.ok (by omega) n hn)).mono fun e w' ⟨he, hh⟩ => ⟨⟨_, he⟩, hh⟩)
  have X3 := Lib.hid (fun (V : World) (q k a : Nat) (M : RM) (T : Goes7 RT w V q k a M) (hk : k ≤ 200) => show Calls Try.prog 29 #[.pointer (some ⟨q, 0, none⟩)] V fun e w' => e = .returned (.int .i64 (M.tail : Nat)) ∧ Still V w' from by
    obtain ⟨_, h, _⟩ := T.1.fst
    exact A.tail h T.2.ok (by omega))
  have X4 := Lib.hid (fun (V : World) (q k a : Nat) (M : RM) (T : Goes7 RT w V q k a M) (hk : k ≤ 200) => show Calls Try.prog 31 #[.pointer (some ⟨q, 0, none⟩)] V fun e w' => e = .returned (.int .i64 (M.h : Nat)) ∧ Still V w' from by
    obtain ⟨_, h, _⟩ := T.1.fst
    exact A.head h T.2.ok (by omega))
  have X5 := Lib.hid (fun (V : World) (q k a : Nat) (M : RM) (T : Goes7 RT w V q k a M) (hk : k ≤ 200) => show Calls Try.prog 24 #[.int .i64 (a : Nat), .pointer (some ⟨q, 0, none⟩)] V fun e w' => e = .returned (.tuple #[.agg #[.int .i64 (M.lsF a), .int .i64 (M.lsT a)], .int .i64 (M.mvE a)]) ∧ Still V w' from by
    obtain ⟨_, h, _⟩ := T.1.fst
    exact A.lost h T.2.ok (by omega) (a : Nat) (w64_lit (by omega) (by have := T.2.at_; have := T.2.ok.low; omega)))
  have X6 := Lib.hid (fun (V : World) (q k a : Nat) (M : RM) (T : Goes7 RT w V q k a M) (hk : k ≤ 200) => show Calls Try.prog 22 #[.int .i64 (a : Nat), .pointer (some ⟨q, 0, none⟩)] V fun e w' => e = .returned (.tuple #[.int .i64 (M.nxR a), .int .i64 (M.nxT a), .int .i64 (M.nxE a)]) ∧ Still V w' from by
    obtain ⟨_, h, _⟩ := T.1.fst
    exact A.next h T.2.ok (by omega) (a : Nat) (w64_lit (by omega) (by have := T.2.at_; have := T.2.ok.low; omega)))
  clear hR1 hrm
  go_enter Try.func6, Try.ntmps6
  go_wp2_with fail
  refine (W7.out _).mono ?_
  rintro e w0 ⟨rfl, hT⟩
  have HT := Lib.hid hT
  clear hT W7
  go_wp2_with fail
  refine (B0.out _).mono ?_
  rintro e w' ⟨rfl, rfl⟩
  go_wp2_with fail
  refine (C0.out _).mono ?_
  intro e w1 hN
  obtain ⟨q, rfl, H⟩ := held_new HT.out hN
  have HH2 := Lib.hid (show Goes7 RT w w1 q 0 0 (RM.new rm true) from ⟨H, HO0.out⟩)
  clear hN H C0 B0 erm hr1 HT HO0
  go_wp2_with fail
  go_loopw [7, 8] (fun u i wr => ∃ (k a : Nat) (M : RM), k ≤ tl ∧ k ≤ 200 ∧ u = .int .i64 a ∧ i = .int .i64 k ∧ Goes7 RT w wr q k a M) (fun _ i _ => tl - (intOf i).toNat)
  case atStart => exact ⟨0, 0, _, Nat.zero_le _, Nat.zero_le _, rfl, rfl, HH2.out⟩
  case round =>
    clear HH2
    obtain ⟨k, a, M, hk, hk1, rfl, rfl, hI⟩ := hrel
    have HI := Lib.hid hI
    by_cases hin : k < tl ∧ k < 200
    · obtain ⟨hlt, h200⟩ := hin
      obtain ⟨ac, hx⟩ := get_some (l := tx) (i := k) (by rw [HTL.out]; exact hlt)
      obtain ⟨b, o, rfl, hc⟩ := HTX.out.row k ac hx
      have hT := hI.1.ground
      obtain ⟨d, nn⟩ := ac
      have c0 : wr.cell? ⟨b, o + k * 2, none⟩ = some (.int .i64 d) := still_cell hT (hc 0 _ rfl) (by omega)
      have c1 : wr.cell? ⟨b, o + k * 2 + 1, none⟩ = some (.int .i64 nn) := still_cell hT (hc 1 _ rfl) (by omega)
      have HW := Lib.hid (fun V (h : Still w V) => (still_cell h (hc 1 _ rfl) (by omega) : V.cell? ⟨b, o + k * 2 + 1, none⟩ = some (.int .i64 nn)))
      obtain ⟨v, hv⟩ : ∃ v, v = am d 8 := ⟨_, rfl⟩
      have hvl : v < 8 := by rw [hv]; exact am_lt _ (by omega)
      have B1 := Lib.hid (fun W => among_lit d 8 8 v rfl hv (by omega) (by omega) W)
      obtain ⟨tn, htn⟩ : ∃ x, x = M.tail := ⟨_, rfl⟩
      have htk : tn ≤ k := by rw [htn]; exact hI.2.ok.low
      have hak : a ≤ tn := by rw [htn]; exact hI.2.at_
      have hok := hI.2
      clear hx hc hT hv HTX hI
      by_cases hd : v < 3
      · have F1 := Lib.hid (X3.out wr q k a M HI.out hk1)
        rw [← htn] at F1
        have G1 := Lib.hid (fun V (h : Still wr V) => X1.out V q k a M ⟨HI.out.1.still h, HI.out.2⟩ hk1 ((tn : Int) + 1) (w64_lit (by omega) (by omega)))
        have HR := Lib.hid (show Rd7 (M.claimM ((tn : Int) + 1)) (k + 1) a from by rw [htn]; exact hok.claim)
        clear X1 X2 X3 X4 X5 X6 c1 HW htn hok HI
        go_wp2_with fail
        refine (B1.out _).mono ?_
        rintro e w' ⟨rfl, rfl⟩
        clear B1
        go_wp2_with fail
        refine F1.out.mono ?_
        rintro e w3 ⟨rfl, hT3⟩
        go_wp2_with fail
        refine (G1.out _ hT3).mono ?_
        rintro e w4 ⟨⟨a1, b1, d1, rfl⟩, H4⟩
        have HH4 := Lib.hid H4
        clear hT3 H4 G1 F1
        go_wp2_with fail
        go_roundw
        case rel => exact ⟨k + 1, a, _, by omega, by omega, rfl, by go_num, HH4.out, HR.out⟩
        case measure => simp [intOf]; omega
      · by_cases hd5 : v < 5
        · obtain ⟨Y, hY⟩ : ∃ Y, Y = am nn (tn + 1) := ⟨_, rfl⟩
          have hY1 : Y ≤ tn := by have : Y < tn + 1 := by rw [hY]; exact am_lt _ (by omega)
                                  omega
          have E1 := Lib.hid (fun W => among_lit nn (IntKind.i64.wrap ((tn : Int) + 1)) (tn + 1) Y (by simp [IntKind.wrap, IntKind.signed, IntKind.bits]; omega) hY (by omega) (by omega) W)
          have F1 := Lib.hid (fun V (hT : Still wr V) => show Calls Try.prog 29 #[.pointer (some ⟨q, 0, none⟩)] V fun e w' => e = .returned (.int .i64 tn) ∧ Still wr w' from by
            rw [htn]
            exact (X3.out V q k a M ⟨HI.out.1.still hT, HI.out.2⟩ hk1).mono fun e w' ⟨he, hs⟩ => ⟨he, hT.trans hs⟩)
          have F2 := Lib.hid (fun V (h : Still wr V) => X2.out V q k a M ⟨HI.out.1.still h, HI.out.2⟩ hk1 (Y : Nat) (w64_lit (by omega) (by omega)))
          have HC := Lib.hid (fun V (hT : Still wr V) => still_cell hT c1 rfl)
          have hTd : Still wr wr.drew := (Turned.refl _ _).drew
          have HR := Lib.hid (show Rd7 (M.pubM (Y : Nat)) (k + 1) a from (hok.pub _).mono (by omega))
          clear X1 X2 X3 X4 X5 X6 htn hok hY HI
          go_wp2_with fail
          refine (B1.out _).mono ?_
          rintro e w' ⟨rfl, rfl⟩
          clear B1
          go_wp2_with fail
          go_region_held3 (fun V => V.cell? ⟨b, o + k * 2 + 1, none⟩ = some (.int .i64 nn)) (first | assumption | go_keep) (first
            | (go_at_call 29; ((with_reducible refine (F1.out _ (by assumption)).mono ?_)); rintro e w5 ⟨rfl, hT5⟩; have g5 := HC.out w5 hT5)
            | (go_at_call 27; ((with_reducible refine (E1.out _).mono ?_)); rintro e w6 ⟨rfl, rfl⟩)
            | (go_at_call 30; ((with_reducible refine (F2.out _ (by assumption)).mono ?_)); rintro e w7 ⟨⟨a7, rfl⟩, H7⟩; have g7 := HW.out w7 H7.ground))
          all_goals
            have HH7 := Lib.hid (show Held w w7 ((RT q (M.pubM (Y : Nat))).sep Thing.none) from by assumption)
            clear F1 F2 E1 HC
            go_wp2_with fail
            go_roundw
            case rel => exact ⟨k + 1, a, _, by omega, by omega, rfl, by go_num, HH7.out, HR.out⟩
            case measure => simp [intOf]; omega
        · obtain ⟨f, hF⟩ := hok.found (by omega)
          obtain ⟨f1, f2, f3, f4, f5⟩ := hF
          obtain ⟨hh, hhh⟩ : ∃ x, x = M.h := ⟨_, rfl⟩
          have F3 := Lib.hid (fun V (h : Still wr V) => X3.out V q k a M ⟨HI.out.1.still h, HI.out.2⟩ hk1)
          have F4 := Lib.hid (fun V (h : Still wr V) => show Calls Try.prog 31 #[.pointer (some ⟨q, 0, none⟩)] V fun e w' => e = .returned (.int .i64 hh) ∧ Still wr w' ∧ Still V w' from by
            rw [hhh]
            exact (X4.out V q k a M ⟨HI.out.1.still h, HI.out.2⟩ hk1).mono fun e w' ⟨he, hs⟩ => ⟨he, h.trans hs, hs⟩)
          have F5 := Lib.hid (X5.out wr q k a M HI.out hk1)
          have F6 := Lib.hid (fun V (h : Still wr V) => X6.out V q k a M ⟨HI.out.1.still h, HI.out.2⟩ hk1)
          rw [f1] at F5
          rw [← htn] at F3
          rw [← hhh] at f2 f4
          rw [← htn] at f3 f5
          have HR := Lib.hid (fun a' (h : a' ≤ tn) => show Rd7 M (k + 1) a' from ⟨hok.ok.mono (by omega), hok.refs, by rw [← htn]; exact h⟩)
          have HE := Lib.hid (fun V (h : Still wr V) => HI.out.1.still h)
          generalize M.lsF a = sf at *
          generalize M.lsT a = st at *
          generalize M.nxE a = ne at *
          generalize M.nxR a = nr at *
          generalize M.nxT a = nt at *
          clear X1 X2 X3 X4 X5 X6 c1 HW htn hok HI hhh f1
          rcases f4 with ⟨g1, rfl, rfl, rfl⟩ | ⟨g1, rfl, rfl, rfl⟩
          · rcases f5 with ⟨rfl, rfl, rfl, e4⟩ | ⟨rfl, rfl, rfl, rfl⟩ | ⟨rfl, rfl, rfl, e4⟩
            · go_wp2_with fail
              refine (B1.out _).mono ?_
              rintro e w' ⟨rfl, rfl⟩
              clear B1
              go_wp2_with fail
              refine F5.out.mono ?_
              rintro e w3 ⟨rfl, h3⟩
              clear F5
              go_upto_region 14 with fail
              obtain ⟨wx, hwx⟩ : ∃ wx, wx = w3.alloc (.cells #[.int .i64 (a : Int), .int .i64 (f : Int)] 24) := ⟨_, rfl⟩
              obtain ⟨b10, hb10⟩ : ∃ b, b = w3.heap.size := ⟨_, rfl⟩
              rw [← hwx, ← hb10]
              have hk10 : Blk wx b10 [.int .i64 (a : Int), .int .i64 (f : Int)] 24 := by rw [hwx, hb10]; exact Blk.new w3 [.int .i64 (a : Int), .int .i64 (f : Int)] 24
              have hX : Still wr wx := by rw [hwx]; exact h3.alloc _
              have hXd : Still wr wx.drew := hX.drew
              obtain ⟨z0, z1, _, _⟩ := box_cells hk10
              have HB := Lib.hid (fun V (h : Still wx V) => (box_cells (box_pass h hk10)))
              have hwd : Still wx wx.drew := (Turned.refl _ _).drew
              clear hwx hb10 hk10 h3
              go_region_held3 (fun V => V.cell? ⟨b10, 0, none⟩ = some (.int .i64 (a : Int)) ∧ V.cell? ⟨b10, 1, none⟩ = some (.int .i64 (f : Int))) (first | exact ⟨by assumption, by assumption⟩ | go_keep) (first
                | (go_at_call 31; ((with_reducible refine (F4.out _ (by assumption)).mono ?_)); rintro e w7 ⟨rfl, hT7, hV7⟩; obtain ⟨y0, y1, _, _⟩ := HB.out w7 ((Turned.refl _ _).drew.trans hV7)))
              all_goals
                have hZ := hT7
                clear hT7 hX hXd hwd HB hV7
                go_wp2_with fail
                refine (F6.out _ hZ).mono ?_
                rintro e w4 ⟨rfl, h4⟩
                have hZ4 := hZ.trans h4
                clear hZ h4 F6
                go_wp2_with fail
                refine (F4.out _ hZ4).mono ?_
                rintro e w5 ⟨rfl, hZ5, h5⟩
                clear hZ4 h5 F4
                go_wp2_with fail
                refine (F3.out _ hZ5).mono ?_
                rintro e w6 ⟨rfl, h6⟩
                have HH6 := Lib.hid (HE.out _ (hZ5.trans h6))
                clear hZ5 h6 F3 HE
                go_wp2_with fail
                go_roundw
                case rel => exact ⟨k + 1, f + 1, M, by omega, by omega, by go_num, by go_num, HH6.out, HR.out _ (by omega)⟩
                case measure => simp [intOf]; omega
            · go_wp2_with fail
              refine (B1.out _).mono ?_
              rintro e w' ⟨rfl, rfl⟩
              clear B1
              go_wp2_with fail
              refine F5.out.mono ?_
              rintro e w3 ⟨rfl, h3⟩
              clear F5
              go_upto_region 14 with fail
              obtain ⟨wx, hwx⟩ : ∃ wx, wx = w3.alloc (.cells #[.int .i64 (a : Int), .int .i64 (f : Int)] 24) := ⟨_, rfl⟩
              obtain ⟨b10, hb10⟩ : ∃ b, b = w3.heap.size := ⟨_, rfl⟩
              rw [← hwx, ← hb10]
              have hk10 : Blk wx b10 [.int .i64 (a : Int), .int .i64 (f : Int)] 24 := by rw [hwx, hb10]; exact Blk.new w3 [.int .i64 (a : Int), .int .i64 (f : Int)] 24
              have hX : Still wr wx := by rw [hwx]; exact h3.alloc _
              have hXd : Still wr wx.drew := hX.drew
              obtain ⟨z0, z1, _, _⟩ := box_cells hk10
              have HB := Lib.hid (fun V (h : Still wx V) => (box_cells (box_pass h hk10)))
              have hwd : Still wx wx.drew := (Turned.refl _ _).drew
              clear hwx hb10 hk10 h3
              go_region_held3 (fun V => V.cell? ⟨b10, 0, none⟩ = some (.int .i64 (a : Int)) ∧ V.cell? ⟨b10, 1, none⟩ = some (.int .i64 (f : Int))) (first | exact ⟨by assumption, by assumption⟩ | go_keep) (first
                | (go_at_call 31; ((with_reducible refine (F4.out _ (by assumption)).mono ?_)); rintro e w7 ⟨rfl, hT7, hV7⟩; obtain ⟨y0, y1, _, _⟩ := HB.out w7 ((Turned.refl _ _).drew.trans hV7)))
              all_goals
                have hZ := hT7
                clear hT7 hX hXd hwd HB hV7
                go_wp2_with fail
                refine (F6.out _ hZ).mono ?_
                rintro e w4 ⟨rfl, h4⟩
                have hZ4 := hZ.trans h4
                clear hZ h4 F6
                go_wp2_with fail
                refine (F4.out _ hZ4).mono ?_
                rintro e w5 ⟨rfl, hZ5, h5⟩
                clear hZ4 h5 F4
                go_wp2_with fail
                refine (F3.out _ hZ5).mono ?_
                rintro e w6 ⟨rfl, h6⟩
                have HH6 := Lib.hid (HE.out _ (hZ5.trans h6))
                clear hZ5 h6 F3 HE
                go_wp2_with fail
                go_roundw
                case rel => exact ⟨k + 1, f, M, by omega, by omega, by go_num, by go_num, HH6.out, HR.out _ (by omega)⟩
                case measure => simp [intOf]; omega
            · go_wp2_with fail
              refine (B1.out _).mono ?_
              rintro e w' ⟨rfl, rfl⟩
              clear B1
              go_wp2_with fail
              refine F5.out.mono ?_
              rintro e w3 ⟨rfl, h3⟩
              clear F5
              go_upto_region 14 with fail
              obtain ⟨wx, hwx⟩ : ∃ wx, wx = w3.alloc (.cells #[.int .i64 (a : Int), .int .i64 (f : Int)] 24) := ⟨_, rfl⟩
              obtain ⟨b10, hb10⟩ : ∃ b, b = w3.heap.size := ⟨_, rfl⟩
              rw [← hwx, ← hb10]
              have hk10 : Blk wx b10 [.int .i64 (a : Int), .int .i64 (f : Int)] 24 := by rw [hwx, hb10]; exact Blk.new w3 [.int .i64 (a : Int), .int .i64 (f : Int)] 24
              have hX : Still wr wx := by rw [hwx]; exact h3.alloc _
              have hXd : Still wr wx.drew := hX.drew
              obtain ⟨z0, z1, _, _⟩ := box_cells hk10
              have HB := Lib.hid (fun V (h : Still wx V) => (box_cells (box_pass h hk10)))
              have hwd : Still wx wx.drew := (Turned.refl _ _).drew
              clear hwx hb10 hk10 h3
              go_region_held3 (fun V => V.cell? ⟨b10, 0, none⟩ = some (.int .i64 (a : Int)) ∧ V.cell? ⟨b10, 1, none⟩ = some (.int .i64 (f : Int))) (first | exact ⟨by assumption, by assumption⟩ | go_keep) (first
                | (go_at_call 31; ((with_reducible refine (F4.out _ (by assumption)).mono ?_)); rintro e w7 ⟨rfl, hT7, hV7⟩; obtain ⟨y0, y1, _, _⟩ := HB.out w7 ((Turned.refl _ _).drew.trans hV7)))
              all_goals
                have hZ := hT7
                clear hT7 hX hXd hwd HB hV7
                go_wp2_with fail
                refine (F6.out _ hZ).mono ?_
                rintro e w4 ⟨rfl, h4⟩
                have hZ4 := hZ.trans h4
                clear hZ h4 F6
                go_wp2_with fail
                refine (F4.out _ hZ4).mono ?_
                rintro e w5 ⟨rfl, hZ5, h5⟩
                clear hZ4 h5 F4
                go_wp2_with fail
                refine (F3.out _ hZ5).mono ?_
                rintro e w6 ⟨rfl, h6⟩
                have HH6 := Lib.hid (HE.out _ (hZ5.trans h6))
                clear hZ5 h6 F3 HE
                go_wp2_with fail
                go_roundw
                case rel => exact ⟨k + 1, f, M, by omega, by omega, by go_num, by go_num, HH6.out, HR.out _ (by omega)⟩
                case measure => simp [intOf]; omega
          · rcases f5 with ⟨rfl, rfl, rfl, e4⟩ | ⟨rfl, rfl, rfl, rfl⟩ | ⟨rfl, rfl, rfl, e4⟩
            · go_wp2_with fail
              refine (B1.out _).mono ?_
              rintro e w' ⟨rfl, rfl⟩
              clear B1
              go_wp2_with fail
              refine F5.out.mono ?_
              rintro e w3 ⟨rfl, h3⟩
              clear F5
              have hZ := h3.alloc (.cells #[.int .i64 0, .int .i64 0] 24)
              clear h3
              go_wp2_with fail
              refine (F6.out _ hZ).mono ?_
              rintro e w4 ⟨rfl, h4⟩
              have hZ4 := hZ.trans h4
              clear hZ h4 F6
              go_wp2_with fail
              refine (F4.out _ hZ4).mono ?_
              rintro e w5 ⟨rfl, hZ5, h5⟩
              clear hZ4 h5 F4
              go_wp2_with fail
              refine (F3.out _ hZ5).mono ?_
              rintro e w6 ⟨rfl, h6⟩
              have HH6 := Lib.hid (HE.out _ (hZ5.trans h6))
              clear hZ5 h6 F3 HE
              go_wp2_with fail
              go_roundw
              case rel => exact ⟨k + 1, f + 1, M, by omega, by omega, by go_num, by go_num, HH6.out, HR.out _ (by omega)⟩
              case measure => simp [intOf]; omega
            · go_wp2_with fail
              refine (B1.out _).mono ?_
              rintro e w' ⟨rfl, rfl⟩
              clear B1
              go_wp2_with fail
              refine F5.out.mono ?_
              rintro e w3 ⟨rfl, h3⟩
              clear F5
              have hZ := h3.alloc (.cells #[.int .i64 0, .int .i64 0] 24)
              clear h3
              go_wp2_with fail
              refine (F6.out _ hZ).mono ?_
              rintro e w4 ⟨rfl, h4⟩
              have hZ4 := hZ.trans h4
              clear hZ h4 F6
              go_wp2_with fail
              refine (F4.out _ hZ4).mono ?_
              rintro e w5 ⟨rfl, hZ5, h5⟩
              clear hZ4 h5 F4
              go_wp2_with fail
              refine (F3.out _ hZ5).mono ?_
              rintro e w6 ⟨rfl, h6⟩
              have HH6 := Lib.hid (HE.out _ (hZ5.trans h6))
              clear hZ5 h6 F3 HE
              go_wp2_with fail
              go_roundw
              case rel => exact ⟨k + 1, f, M, by omega, by omega, by go_num, by go_num, HH6.out, HR.out _ (by omega)⟩
              case measure => simp [intOf]; omega
            · go_wp2_with fail
              refine (B1.out _).mono ?_
              rintro e w' ⟨rfl, rfl⟩
              clear B1
              go_wp2_with fail
              refine F5.out.mono ?_
              rintro e w3 ⟨rfl, h3⟩
              clear F5
              have hZ := h3.alloc (.cells #[.int .i64 0, .int .i64 0] 24)
              clear h3
              go_wp2_with fail
              refine (F6.out _ hZ).mono ?_
              rintro e w4 ⟨rfl, h4⟩
              have hZ4 := hZ.trans h4
              clear hZ h4 F6
              go_wp2_with fail
              refine (F4.out _ hZ4).mono ?_
              rintro e w5 ⟨rfl, hZ5, h5⟩
              clear hZ4 h5 F4
              go_wp2_with fail
              refine (F3.out _ hZ5).mono ?_
              rintro e w6 ⟨rfl, h6⟩
              have HH6 := Lib.hid (HE.out _ (hZ5.trans h6))
              clear hZ5 h6 F3 HE
              go_wp2_with fail
              go_roundw
              case rel => exact ⟨k + 1, f, M, by omega, by omega, by go_num, by go_num, HH6.out, HR.out _ (by omega)⟩
              case measure => simp [intOf]; omega
    · have hex : (k < tl ∧ 200 ≤ k) ∨ tl ≤ k := by omega
      have HG := Lib.hid hI.1.ground
      clear hin hI HI HTX HTL X1 X2 X3 X4 X5 X6
      rcases hex with ⟨hx1, hx2⟩ | hx1
      all_goals
        go_wp2_with fail
        go_ret
        exact ⟨by simp, HG.out⟩
end Go.Proofs.Ytliaaggjefjbeaa
