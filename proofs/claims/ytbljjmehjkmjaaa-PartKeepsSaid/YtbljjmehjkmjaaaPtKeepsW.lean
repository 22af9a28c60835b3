/- PartKeeps: the walk. No condition but that the program's partitions and pool keep their words. -/
import Derived.Test.YtbljjmehjkmjaaaPtKeepCt
namespace Go.Proofs.Ytbljjmehjkmjaaa
open Go.RowKit
set_option linter.unusedVariables false
set_option linter.unusedSimpArgs false
set_option maxRecDepth 100000

theorem kp_start {A T H Wh : Thing} {w : World} {W : Nat → Prop} (h : (Wh.sep (H.sep (T.sep (A.sep Thing.none)))).at_ w W) : (A.sep (T.sep (H.sep Wh))).at_ w W :=
  sep_mono id (fun h => sep_assoc (sep_swap h)) (sep_turn (sep_mono id (fun h => sep_mono id sep_swap (sep_turn (sep_mono id (fun h => sep_swap (sep_mono id sep_none h)) h))) h))

set_option maxHeartbeats 8000000 in
theorem keeps12_walk {PT : Nat → PM → Thing} {XT : Nat → Nat → RM → Thing} (A : PartApi PT XT) (B : PoolApi12 PT) (a b : Int) (s : Sl (Sl UInt8)) (rd : Sl Int) (w : World) (hs : SlOk encSl (SlOk encB okB 1) 1 w s) (hr : SlOk encI (okI .i64) 1 w rd) :
    Calls Try.prog 3 #[.int .i64 a, .int .i64 b, .slice s.a s.len s.cap, .slice rd.a rd.len rd.cap] w fun e w' => e = .returned (.bool true) ∧ Still w w' := by
  obtain ⟨s0, hs0⟩ : ∃ s, s = am a 20 := ⟨_, rfl⟩
  obtain ⟨r0, hr0⟩ : ∃ r, r = am b 9 := ⟨_, rfl⟩
  have hs0l : s0 < 20 := by rw [hs0]; exact am_lt _ (by omega)
  have hr0l : r0 < 9 := by rw [hr0]; exact am_lt _ (by omega)
  have B1 := Lib.hid (fun W => among_lit a 20 20 s0 rfl hs0 (by omega) (by omega) W)
  have B2 := Lib.hid (fun W => among_lit b 9 9 r0 rfl hr0 (by omega) (by omega) W)
  obtain ⟨n, hn⟩ : ∃ s, s = 2 + s0 := ⟨_, rfl⟩
  obtain ⟨r, hr'⟩ : ∃ r, r = 1 + r0 := ⟨_, rfl⟩
  have hn' : (2 : Int) + (s0 : Int) = (n : Int) := by omega
  have hrr : (1 : Int) + (r0 : Int) = (r : Int) := by omega
  have hnr : 1 ≤ n ∧ n ≤ 22 ∧ 1 ≤ r ∧ r ≤ 10 := by omega
  have HOk := Lib.hid (PM.new_ok (n := n) (size := 8) (by omega) (by omega) (by omega) (by omega))
  have HW := Lib.hid (works12 A B w)
  have C0 := Lib.hid (fun V => show Calls Try.prog 7 #[.int .i64 n, .int .i64 8] V (PNew PT V n 8) from B.make_ok n 8 V (by omega) (by omega) (by omega) (by omega))
  have C1 := Lib.hid (fun (W : World) (q : Nat) (R : Thing) (H : Held w W ((PT q (PM.new n 8)).sep R)) => show Calls Try.prog 9 #[.pointer (some ⟨q, 0, none⟩), .int .i64 r, .int .i64 1] W (XNew XT W q r true) from by
    obtain ⟨_, h, _⟩ := H.fst
    exact A.make_ok h HOk.out (by omega) r true (by omega) (by omega))
  obtain ⟨sa, sl, sc, sx⟩ := s
  obtain ⟨ra, rl, rc, rx⟩ := rd
  have hscap : sl ≤ sc := hs.le
  have hsmax : sc ≤ maxLen := hs.max
  have hrcap : rl ≤ rc := hr.le
  have hrmax : rc ≤ maxLen := hr.max
  unfold maxLen at hsmax hrmax
  have HS := Lib.hid hs
  have HR := Lib.hid hr
  have HSL : Hid (sx.length = sl) := Lib.hid hs.len
  have HRL : Hid (rx.length = rl) := Lib.hid hr.len
  dsimp only
  clear hs hr hs0 hr0 hn hr'
  go_enter Try.func3, Try.ntmps3
  go_wp2_with (first
    | (go_at_call 6; ((with_reducible refine HW.out.mono ?_)); rintro e w1 ⟨rfl, hT⟩; have HT1 := Lib.hid hT; clear hT)
    | (go_at_call 8; first | (((with_reducible refine (B1.out _).mono ?_)); rintro e w' ⟨rfl, hw⟩; rw [← hw]; clear hw) | (((with_reducible refine (B2.out _).mono ?_)); rintro e w' ⟨rfl, hw⟩; rw [← hw]; clear hw))
    | (go_at_call 7; ((with_reducible refine (C0.out _).mono ?_)); intro e w2 hN; obtain ⟨q, rfl, H⟩ := Held.made HT1.out hN; have H2 := Lib.hid H; clear H hN)
    | (go_at_call 9; ((with_reducible refine (C1.out _ _ _ H2.out).mono ?_)); rintro e w3 ⟨x, rfl, hV⟩; have H3 := Lib.hid (H2.out.turn_none hV); clear hV))
  have H6 := Lib.hid (show Held w (((w3.alloc (.cells #[] 33)).alloc (.cells #[] 3)).alloc (.cells #[] 3)) (((PT q (PM.new n 8)).sep (XT x q (RM.new r true))).sep (kpR (some ⟨w3.heap.size, 0, none⟩) 0 0 [] (some ⟨w3.heap.size + 1, 0, none⟩) 0 0 [] (some ⟨w3.heap.size + 1 + 1, 0, none⟩) 0 0 [])) from by
    have h4 := H3.out.new (ownT_new w3 33 1)
    have h5 := h4.new (ownT_new (w3.alloc (.cells #[] 33)) 3 1)
    have h6 := h5.new (ownT_new ((w3.alloc (.cells #[] 33)).alloc (.cells #[] 3)) 3 1)
    have e1 : (w3.alloc (.cells #[] 33)).heap.size = w3.heap.size + 1 := by first | rfl | simp
    have e2 : ((w3.alloc (.cells #[] 33)).alloc (.cells #[] 3)).heap.size = w3.heap.size + 1 + 1 := by first | rfl | simp
    rw [e1, e2] at h6
    exact h6.imp kp_start)
  obtain ⟨V, hV⟩ : ∃ V, V = (((w3.alloc (.cells #[] 33)).alloc (.cells #[] 3)).alloc (.cells #[] 3)) := ⟨_, rfl⟩
  obtain ⟨g0, hg0⟩ : ∃ g, g = w3.heap.size := ⟨_, rfl⟩
  rw [← hV, ← hg0] at H6
  rw [← hV, ← hg0]
  clear hV hg0 H3 H2 HT1 C0 C1 HW B1 B2
  go_loopw [13, 14, 15, 16] (fun tt hh ww i wr => ∃ (k : Nat) (P : PM) (M : RM) (had : List Int) (which : List Nat) (ks : List (Sl UInt8)) (ta : Option Addr) (tn tc : Nat) (ha : Option Addr) (hn hc : Nat) (wa : Option Addr) (wn wc : Nat), k ≤ 60 ∧ i = .int .i64 k ∧ tt = .slice ta tn tc ∧ hh = .slice ha hn hc ∧ ww = .slice wa wn wc ∧ KpAt PT XT w wr q x (4 * k) k k k P M had which ks ta tn tc ha hn hc wa wn wc) (fun _ _ _ i _ => 60 - (intOf i).toNat)
  case atStart => exact ⟨0, _, _, [], [], [], _, _, _, _, _, _, _, _, _, by omega, rfl, rfl, rfl, rfl, H6.out, Kp.new n 8 r, HOk.out, RM.new_ok (by omega) (by omega), rfl, ⟨rfl, by omega⟩, ⟨rfl, by omega⟩, rfl, fun y hy => (by cases hy)⟩
  case round =>
    clear H6
    obtain ⟨k, P, M, had, which, ks, ta, tn, tc, ha, hn, hc, wa, wn, wc, hk, rfl, rfl, rfl, rfl, hK⟩ := hrel
    have hwn : hn = wn := by rw [hK.hl.1, hK.wl]; exact hK.kp.len
    have hhn : hn ≤ k := hK.hl.2
    subst hwn
    have HK := Lib.hid hK
    clear hK
    by_cases hin : k < sl ∧ k < 60
    · obtain ⟨hlt, h60⟩ := hin
      obtain ⟨g, hx⟩ := get_some (l := sx) (i := k) (by rw [HSL.out]; exact hlt)
      obtain ⟨bb, o, rfl, hc1, hB, hSW, hgl⟩ := KysAt.get (w := w) (ks := sx) ⟨HS.out.row, HS.out.each⟩ hx
      have hst := HK.out.held.ground
      obtain ⟨ga, gl, gc, gx⟩ := g
      dsimp only at hc1 hB hSW hgl
      have c0 : wr.cell? ⟨bb, o + k, none⟩ = some (.slice ga gl gc) := still_cell hst hc1 rfl
      obtain ⟨m, hm⟩ : ∃ m, m = min gl 8 := ⟨_, rfl⟩
      have hif : (if (8 : Int) < (gl : Int) then (8 : Int) else (gl : Int)) = (m : Int) := by split <;> omega
      have hm0 : (0 : Int) ≤ (m : Int) := by omega
      have hgc : gl ≤ gc ∧ gc ≤ 2 ^ 63 - 1 := ⟨hSW.le, hSW.max⟩
      have hmc : (m : Int) ≤ (gc : Int) := by omega
      have hm8 : m ≤ 8 := by omega
      have HBt := Lib.hid (show BytesAt w ga (gx.take m) ∧ (gx.take m).length = m from ⟨hB.take m, by rw [List.length_take]; omega⟩)
      have HSW := Lib.hid hSW
      clear hx hc1 hB hSW hgl hst hm
      go_wp2_with fail
      go_region_held3 (fun Z => Z.cell? ⟨bb, o + k, none⟩ = some (.slice ga gl gc)) (first | assumption | go_keep) (fail)
      have HKd := Lib.hid (HK.out.still (show Still wr wr.drew from (Turned.refl _ _).drew))
      obtain ⟨V, hV⟩ : ∃ V, V = wr.drew := ⟨_, rfl⟩
      rw [← hV] at HKd
      rw [← hV]
      clear hV c0 HK
      obtain ⟨i0, ji, jz0, jz1, jz2⟩ := info_parts infoBytesS
      obtain ⟨j0, qi, qz0, qz1, qz2⟩ := info_parts infoIntW
      obtain ⟨bl, hbl⟩ : ∃ bl, bl = gx.take m := ⟨_, rfl⟩
      rw [← hbl] at HBt
      have hcl := HKd.out.kp.claim HKd.out.ok HKd.out.mok (by omega) (by omega) (b := bl) (by rw [HBt.out.2, HKd.out.size]; exact hm8)
      rw [HBt.out.2, List.length_map, ← HKd.out.tl.1] at hcl
      have X1 := Lib.hid (Held.call HKd.out.held (fun _ h => A.claim h HKd.out.kp.inv HKd.out.ok HKd.out.mok (by omega) (by omega) (m : Int) ⟨by omega, by omega⟩))
      have htn := HKd.out.tl.2
      clear hbl
      rcases hcl with ⟨e50, eP, eM⟩ | ⟨e0, eA, eF, eU, hkp⟩
      · rw [show ptClA P M m = 0 from if_pos (by omega), show ptClH P M m = 0 from if_pos (by omega), e50, eP, eM] at X1
        clear e50 eP eM
        by_cases hrd : k < rl
        · obtain ⟨z, hz⟩ := get_some (l := rx) (i := k) (by rw [HRL.out]; exact hrd)
          obtain ⟨rb, ro, rfl, hzc⟩ := HR.out.row k z hz
          have zc : V.cell? ⟨rb, ro + k, none⟩ = some (.int .i64 z) := still_cell HKd.out.held.ground (hzc 0 _ rfl) (by omega)
          have HZ := Lib.hid (fun W (h : Still w W) => show W.cell? ⟨rb, ro + k, none⟩ = some (.int .i64 z) from still_cell h (hzc 0 _ rfl) (by omega))
          obtain ⟨u, hu⟩ : ∃ u, u = am z (tn + 1) := ⟨_, rfl⟩
          have hul : u < tn + 1 := by rw [hu]; exact am_lt _ (by omega)
          have B4 := Lib.hid (fun W => among_lit z ((tn : Int) + 1) (tn + 1) u (by omega) hu (by omega) (by omega) W)
          have HRd := Lib.hid (fun (W : World) (ta' : Option Addr) (tc' : Nat) (ks' : List (Sl UInt8)) (h : KpAt PT XT w W q x (4 * k + 3) (k + 1) (k + 1) k (P) (M) had which ks' ta' (tn) tc' ha hn hc wa hn wc) => h.readC A.toPartActs (by omega) (by omega) u (by omega))
          clear hz hzc hu
          by_cases he : (M).getE (u : Int) = 0
          · rw [he] at HRd
            have hrdi : (k : Int) < (rl : Int) := by omega
            obtain ⟨gr, hgr⟩ : ∃ gr, gr = (M).getR (u : Int) := ⟨_, rfl⟩
            rw [← hgr] at HRd
            have HHe := Lib.hid he
            have HGr := Lib.hid hgr
            clear he hgr
            go_wp2_with (first
          | (go_at_call 10; ((with_reducible refine (X1.out).mono ?_)); rintro e w5 ⟨rfl, h5⟩; have HM := Lib.hid (show KpAt PT XT w w5 q x (4 * k + 3) (k + 1) (k + 1) k P M had which ks ta tn tc ha hn hc wa hn wc from (HKd.out.put h5).mono (by omega) (by omega) (by omega) (Nat.le_refl _)); clear h5; have zc5 := HZ.out _ HM.out.held.ground)
              | (go_at_call 8; (((with_reducible refine (B4.out _).mono ?_)); rintro e w' ⟨rfl, hw⟩; rw [← hw]; clear hw))
              | (go_at_call 13; ((with_reducible refine (HRd.out _ _ _ _ HM.out).mono ?_)); rintro e w9 ⟨rfl, h9⟩; have H9 := Lib.hid h9; have HO9 := Lib.hid (h9.snd.snd.drop); clear h9)
              | (at_builtin; refine wpList_append_own_at _ rfl (.tmp 130) (.tmp 132) 23 rfl 0 3 j0 (.int .i64 0) 1 8 Try.underlying23 qi qz0 qz1 qz2 rfl (by decide) (.slice ha hn hc) hn (ints had) rfl (ow_still (own_of HO9.out) ((Turned.refl _ _).alloc _)) ⟨w9.heap.size, 0, none⟩ 1 1 [.int .i64 gr] rfl rfl (ow_cells w9 _ _) (ow_ints rfl) (by unfold maxLen; omega) (by omega) (Nat.zero_le _) ?_; intro v10 w10 hown10 hg10 _ hat10; obtain ⟨a10, c10, rfl⟩ := ow_slice hown10; have h10 := kp_had (y := gr) H9.out (by simpa [ints] using hown10) hg10 hat10; have H10 := Lib.hid h10; have HO10 := Lib.hid (h10.snd.snd.snd); clear hown10 hg10 hat10 h10)
              | (at_builtin; refine wpList_append_own_at _ rfl (.tmp 134) (.tmp 136) 23 rfl 0 3 j0 (.int .i64 0) 1 8 Try.underlying23 qi qz0 qz1 qz2 rfl (by decide) (.slice wa hn wc) hn (ints (nums which)) rfl (ow_still (own_of HO10.out) ((Turned.refl _ _).alloc _)) ⟨w10.heap.size, 0, none⟩ 1 1 [.int .i64 u] rfl rfl (ow_cells w10 _ _) (ow_ints rfl) (by unfold maxLen; omega) (by omega) (Nat.zero_le _) ?_; intro v11 w11 hown11 hg11 _ hat11; obtain ⟨a11, c11, rfl⟩ := ow_slice hown11; have h11 := kp_which (y := (u : Int)) H10.out (by simpa [ints] using hown11) hg11 hat11; have HN := Lib.hid (HM.out.readOk HHe.out (by rw [HGr.out] at h11; exact h11)); clear hown11 hg11 hat11 h11)
              | (go_at_call 14; ((with_reducible refine ((HN.out.ct A.toPartActs B.toPoolActs (by omega) (by omega)).head _ (Turned.refl _ _)).mono ?_)); rintro e wE ⟨rfl, hE⟩; have HE := Lib.hid (HN.out.still hE); have HC := Lib.hid ((HN.out.still hE).ct A.toPartActs B.toPoolActs (by omega) (by omega)); clear hE))
            go_loopw [24] (fun i wx => ∃ j : Nat, (M).h ≤ j ∧ j ≤ tn ∧ i = .int .i64 j ∧ Still wE wx) (fun i _ => tn - (intOf i).toNat)
            case atStart => exact ⟨(M).h, Nat.le_refl _, HC.out.le, rfl, Turned.refl _ _⟩
            case round =>
              obtain ⟨j, hj1, hj2, rfl, hst⟩ := hrel
              have HSt := Lib.hid hst
              by_cases hlt2 : j < tn
              · obtain ⟨b, g, ya, yc, rfl, hc⟩ := HC.out.peek j hj1 hlt2
                have HCc := Lib.hid hc
                have HT2 := Lib.hid (fun V (h : Still wr V) => HC.out.tail V (hst.trans h))
                clear hc hst
                go_wp2_with (first
                  | (go_at_call 15; ((with_reducible refine (HT2.out _ (Turned.refl _ _)).mono ?_)); rintro e w21 ⟨rfl, hT21⟩; have U21 := Lib.hid (HSt.out.trans hT21); clear hT21)
                  | (go_at_call 16; ((with_reducible refine ((HCc.out _ U21.out).2.2).mono ?_)); rintro e w22 ⟨a22, c22, rfl, hB22, hT22⟩; have U22 := Lib.hid (U21.out.trans hT22); have HB22 := Lib.hid hB22; have cc := (HCc.out _ U22.out).1; clear hT22 hB22)
                  | (go_at_call 17; ((with_reducible refine (sameBytes_any _ _ _ b b _ _ HB22.out (HCc.out _ U22.out).2.1).mono ?_)); rintro e w23 ⟨rfl, hw23⟩; subst hw23; rw [decide_eq_true rfl]))
                go_roundw
                case rel => exact ⟨j + 1, by omega, by omega, by go_num, U22.out⟩
                case measure => simp [intOf]; omega
              · obtain rfl : j = tn := by omega
                have HT2 := Lib.hid (fun V (h : Still wr V) => HC.out.tail V (hst.trans h))
                clear hst
                go_wp2_with (go_at_call 15; ((with_reducible refine (HT2.out _ (Turned.refl _ _)).mono ?_)); rintro e w21 ⟨rfl, hT21⟩; have U21 := Lib.hid (HSt.out.trans hT21); clear hT21)
                go_loopw [27] (fun i wx => ∃ j : Nat, j ≤ (hn + 1) ∧ i = .int .i64 j ∧ Still wE wx) (fun i _ => (hn + 1) - (intOf i).toNat)
                case atStart => exact ⟨0, Nat.zero_le _, rfl, U21.out⟩
                case round =>
                  clear U21 HT2
                  obtain ⟨j, hj3, rfl, hst⟩ := hrel
                  have HSt := Lib.hid hst
                  by_cases hlt3 : j < (hn + 1)
                  · obtain ⟨y, kk, b, g, hg, wg, ya, yc, rfl, rfl, rfl, hkk, hc⟩ := HC.out.bytes j hlt3
                    have HCc := Lib.hid hc
                    obtain ⟨d1, d2, d3, _, _⟩ := hc _ hst
                    clear hc hst
                    go_wp2_with (first
                      | (go_at_call 18; ((with_reducible refine ((HCc.out _ HSt.out).2.2.2.2).mono ?_)); rintro e w22 ⟨a22, c22, rfl, hB22, hT22⟩; have U22 := Lib.hid (HSt.out.trans hT22); have HB22 := Lib.hid hB22; obtain ⟨f1, f2, f3, _, _⟩ := HCc.out _ U22.out; clear hT22 hB22)
                      | (go_at_call 17; ((with_reducible refine (sameBytes_any _ _ _ b b _ _ HB22.out (HCc.out _ U22.out).2.2.2.1).mono ?_)); rintro e w23 ⟨rfl, hw23⟩; subst hw23; rw [decide_eq_true rfl]))
                    go_roundw
                    case rel => exact ⟨j + 1, by omega, by go_num, U22.out⟩
                    case measure => simp [intOf]; omega
                  · obtain rfl : j = (hn + 1) := by omega
                    clear hst
                    go_wp2_with fail
                    go_roundw
                    case rel => exact ⟨k + 1, _, _, _, _, _, _, _, _, _, _, _, _, _, _, by omega, by go_num, rfl, rfl, rfl, (HE.out.still HSt.out).mono (by omega) (by omega) (by omega) (by omega)⟩
                    case measure => simp [intOf]; omega
          · have eR : ptRdP (P) (M) (u : Int) = (P) := if_neg he
            rw [eR] at HRd
            obtain ⟨gr, hgr⟩ : ∃ gr, gr = (M).getR (u : Int) := ⟨_, rfl⟩
            obtain ⟨ge, hge⟩ : ∃ ge, ge = (M).getE (u : Int) := ⟨_, rfl⟩
            have hrdi : (k : Int) < (rl : Int) := by omega
            have hb0 : (ge == 0) = false := by rw [beq_eq_false_iff_ne, hge]; exact he
            rw [← hgr, ← hge] at HRd
            clear hgr hge eR he
            go_wp2_with (first
          | (go_at_call 10; ((with_reducible refine (X1.out).mono ?_)); rintro e w5 ⟨rfl, h5⟩; have HM := Lib.hid (show KpAt PT XT w w5 q x (4 * k + 3) (k + 1) (k + 1) k P M had which ks ta tn tc ha hn hc wa hn wc from (HKd.out.put h5).mono (by omega) (by omega) (by omega) (Nat.le_refl _)); clear h5; have zc5 := HZ.out _ HM.out.held.ground)
              | (go_at_call 8; (((with_reducible refine (B4.out _).mono ?_)); rintro e w' ⟨rfl, hw⟩; rw [← hw]; clear hw))
              | (go_at_call 13; ((with_reducible refine (HRd.out _ _ _ _ HM.out).mono ?_)); rintro e w9 ⟨rfl, h9⟩; have HN := Lib.hid (HM.out.put h9); clear h9)
              | (go_at_call 14; ((with_reducible refine ((HN.out.ct A.toPartActs B.toPoolActs (by omega) (by omega)).head _ (Turned.refl _ _)).mono ?_)); rintro e wE ⟨rfl, hE⟩; have HE := Lib.hid (HN.out.still hE); have HC := Lib.hid ((HN.out.still hE).ct A.toPartActs B.toPoolActs (by omega) (by omega)); clear hE))
            go_loopw [24] (fun i wx => ∃ j : Nat, (M).h ≤ j ∧ j ≤ tn ∧ i = .int .i64 j ∧ Still wE wx) (fun i _ => tn - (intOf i).toNat)
            case atStart => exact ⟨(M).h, Nat.le_refl _, HC.out.le, rfl, Turned.refl _ _⟩
            case round =>
              obtain ⟨j, hj1, hj2, rfl, hst⟩ := hrel
              have HSt := Lib.hid hst
              by_cases hlt2 : j < tn
              · obtain ⟨b, g, ya, yc, rfl, hc⟩ := HC.out.peek j hj1 hlt2
                have HCc := Lib.hid hc
                have HT2 := Lib.hid (fun V (h : Still wr V) => HC.out.tail V (hst.trans h))
                clear hc hst
                go_wp2_with (first
                  | (go_at_call 15; ((with_reducible refine (HT2.out _ (Turned.refl _ _)).mono ?_)); rintro e w21 ⟨rfl, hT21⟩; have U21 := Lib.hid (HSt.out.trans hT21); clear hT21)
                  | (go_at_call 16; ((with_reducible refine ((HCc.out _ U21.out).2.2).mono ?_)); rintro e w22 ⟨a22, c22, rfl, hB22, hT22⟩; have U22 := Lib.hid (U21.out.trans hT22); have HB22 := Lib.hid hB22; have cc := (HCc.out _ U22.out).1; clear hT22 hB22)
                  | (go_at_call 17; ((with_reducible refine (sameBytes_any _ _ _ b b _ _ HB22.out (HCc.out _ U22.out).2.1).mono ?_)); rintro e w23 ⟨rfl, hw23⟩; subst hw23; rw [decide_eq_true rfl]))
                go_roundw
                case rel => exact ⟨j + 1, by omega, by omega, by go_num, U22.out⟩
                case measure => simp [intOf]; omega
              · obtain rfl : j = tn := by omega
                have HT2 := Lib.hid (fun V (h : Still wr V) => HC.out.tail V (hst.trans h))
                clear hst
                go_wp2_with (go_at_call 15; ((with_reducible refine (HT2.out _ (Turned.refl _ _)).mono ?_)); rintro e w21 ⟨rfl, hT21⟩; have U21 := Lib.hid (HSt.out.trans hT21); clear hT21)
                go_loopw [27] (fun i wx => ∃ j : Nat, j ≤ hn ∧ i = .int .i64 j ∧ Still wE wx) (fun i _ => hn - (intOf i).toNat)
                case atStart => exact ⟨0, Nat.zero_le _, rfl, U21.out⟩
                case round =>
                  clear U21 HT2
                  obtain ⟨j, hj3, rfl, hst⟩ := hrel
                  have HSt := Lib.hid hst
                  by_cases hlt3 : j < hn
                  · obtain ⟨y, kk, b, g, hg, wg, ya, yc, rfl, rfl, rfl, hkk, hc⟩ := HC.out.bytes j hlt3
                    have HCc := Lib.hid hc
                    obtain ⟨d1, d2, d3, _, _⟩ := hc _ hst
                    clear hc hst
                    go_wp2_with (first
                      | (go_at_call 18; ((with_reducible refine ((HCc.out _ HSt.out).2.2.2.2).mono ?_)); rintro e w22 ⟨a22, c22, rfl, hB22, hT22⟩; have U22 := Lib.hid (HSt.out.trans hT22); have HB22 := Lib.hid hB22; obtain ⟨f1, f2, f3, _, _⟩ := HCc.out _ U22.out; clear hT22 hB22)
                      | (go_at_call 17; ((with_reducible refine (sameBytes_any _ _ _ b b _ _ HB22.out (HCc.out _ U22.out).2.2.2.1).mono ?_)); rintro e w23 ⟨rfl, hw23⟩; subst hw23; rw [decide_eq_true rfl]))
                    go_roundw
                    case rel => exact ⟨j + 1, by omega, by go_num, U22.out⟩
                    case measure => simp [intOf]; omega
                  · obtain rfl : j = hn := by omega
                    clear hst
                    go_wp2_with fail
                    go_roundw
                    case rel => exact ⟨k + 1, _, _, _, _, _, _, _, _, _, _, _, _, _, _, by omega, by go_num, rfl, rfl, rfl, (HE.out.still HSt.out).mono (by omega) (by omega) (by omega) (by omega)⟩
                    case measure => simp [intOf]; omega
        · go_wp2_with (first
          | (go_at_call 10; ((with_reducible refine (X1.out).mono ?_)); rintro e w5 ⟨rfl, h5⟩; have HM := Lib.hid (show KpAt PT XT w w5 q x (4 * k + 3) (k + 1) (k + 1) k P M had which ks ta tn tc ha hn hc wa hn wc from (HKd.out.put h5).mono (by omega) (by omega) (by omega) (Nat.le_refl _)); clear h5)
            | (go_at_call 14; ((with_reducible refine ((HM.out.ct A.toPartActs B.toPoolActs (by omega) (by omega)).head _ (Turned.refl _ _)).mono ?_)); rintro e wE ⟨rfl, hE⟩; have HE := Lib.hid (HM.out.still hE); have HC := Lib.hid ((HM.out.still hE).ct A.toPartActs B.toPoolActs (by omega) (by omega)); clear hE))
          go_loopw [24] (fun i wx => ∃ j : Nat, (M).h ≤ j ∧ j ≤ tn ∧ i = .int .i64 j ∧ Still wE wx) (fun i _ => tn - (intOf i).toNat)
          case atStart => exact ⟨(M).h, Nat.le_refl _, HC.out.le, rfl, Turned.refl _ _⟩
          case round =>
            obtain ⟨j, hj1, hj2, rfl, hst⟩ := hrel
            have HSt := Lib.hid hst
            by_cases hlt2 : j < tn
            · obtain ⟨b, g, ya, yc, rfl, hc⟩ := HC.out.peek j hj1 hlt2
              have HCc := Lib.hid hc
              have HT2 := Lib.hid (fun V (h : Still wr V) => HC.out.tail V (hst.trans h))
              clear hc hst
              go_wp2_with (first
                | (go_at_call 15; ((with_reducible refine (HT2.out _ (Turned.refl _ _)).mono ?_)); rintro e w21 ⟨rfl, hT21⟩; have U21 := Lib.hid (HSt.out.trans hT21); clear hT21)
                | (go_at_call 16; ((with_reducible refine ((HCc.out _ U21.out).2.2).mono ?_)); rintro e w22 ⟨a22, c22, rfl, hB22, hT22⟩; have U22 := Lib.hid (U21.out.trans hT22); have HB22 := Lib.hid hB22; have cc := (HCc.out _ U22.out).1; clear hT22 hB22)
                | (go_at_call 17; ((with_reducible refine (sameBytes_any _ _ _ b b _ _ HB22.out (HCc.out _ U22.out).2.1).mono ?_)); rintro e w23 ⟨rfl, hw23⟩; subst hw23; rw [decide_eq_true rfl]))
              go_roundw
              case rel => exact ⟨j + 1, by omega, by omega, by go_num, U22.out⟩
              case measure => simp [intOf]; omega
            · obtain rfl : j = tn := by omega
              have HT2 := Lib.hid (fun V (h : Still wr V) => HC.out.tail V (hst.trans h))
              clear hst
              go_wp2_with (go_at_call 15; ((with_reducible refine (HT2.out _ (Turned.refl _ _)).mono ?_)); rintro e w21 ⟨rfl, hT21⟩; have U21 := Lib.hid (HSt.out.trans hT21); clear hT21)
              go_loopw [27] (fun i wx => ∃ j : Nat, j ≤ hn ∧ i = .int .i64 j ∧ Still wE wx) (fun i _ => hn - (intOf i).toNat)
              case atStart => exact ⟨0, Nat.zero_le _, rfl, U21.out⟩
              case round =>
                clear U21 HT2
                obtain ⟨j, hj3, rfl, hst⟩ := hrel
                have HSt := Lib.hid hst
                by_cases hlt3 : j < hn
                · obtain ⟨y, kk, b, g, hg, wg, ya, yc, rfl, rfl, rfl, hkk, hc⟩ := HC.out.bytes j hlt3
                  have HCc := Lib.hid hc
                  obtain ⟨d1, d2, d3, _, _⟩ := hc _ hst
                  clear hc hst
                  go_wp2_with (first
                    | (go_at_call 18; ((with_reducible refine ((HCc.out _ HSt.out).2.2.2.2).mono ?_)); rintro e w22 ⟨a22, c22, rfl, hB22, hT22⟩; have U22 := Lib.hid (HSt.out.trans hT22); have HB22 := Lib.hid hB22; obtain ⟨f1, f2, f3, _, _⟩ := HCc.out _ U22.out; clear hT22 hB22)
                    | (go_at_call 17; ((with_reducible refine (sameBytes_any _ _ _ b b _ _ HB22.out (HCc.out _ U22.out).2.2.2.1).mono ?_)); rintro e w23 ⟨rfl, hw23⟩; subst hw23; rw [decide_eq_true rfl]))
                  go_roundw
                  case rel => exact ⟨j + 1, by omega, by go_num, U22.out⟩
                  case measure => simp [intOf]; omega
                · obtain rfl : j = hn := by omega
                  clear hst
                  go_wp2_with fail
                  go_roundw
                  case rel => exact ⟨k + 1, _, _, _, _, _, _, _, _, _, _, _, _, _, _, by omega, by go_num, rfl, rfl, rfl, (HE.out.still HSt.out).mono (by omega) (by omega) (by omega) (by omega)⟩
                  case measure => simp [intOf]; omega
      · rw [eA, e0] at X1
        have hOk1 := ptCl_ok HKd.out.ok HKd.out.mok (m : Int)
        have hIn1 := inv_claim HKd.out.kp.inv HKd.out.ok HKd.out.mok (by omega) (m : Int)
        have hSz := sz_claim HKd.out.ok HKd.out.mok (m : Int)
        generalize ptClH P M m = ch at *
        generalize ptClP P M m = P1 at *
        generalize ptClM P M m = M1 at *
        have HOk1 := Lib.hid hOk1
        have HIn1 := Lib.hid hIn1
        have HKp := Lib.hid hkp
        have HSz := Lib.hid hSz
        have X2 := Lib.hid (fun W (h : Held w W (((PT q P1).sep (XT x q M1)).sep (kpR ta tn tc ks ha hn hc had wa hn wc which))) => show Calls Try.prog 11 #[.pointer (some ⟨x, 0, none⟩), .int .i64 tn, .slice ga m gc] W fun e w' => e = .returned (.int .i64 0) ∧ Held w w' (((PT q (ptFiP P1 M1 tn bl)).sep (XT x q M1)).sep (kpR ta tn tc ks ha hn hc had wa hn wc which)) from by
          have := Held.call h (fun _ h' => A.fill h' HIn1.out HOk1.out.1 HOk1.out.2.1 (by omega) (by omega) (tn : Int) ⟨by omega, by omega⟩ ga bl m gc HBt.out.2.symm (HBt.out.1.still h.ground) (by rw [HBt.out.2]; omega) (by omega) (by unfold maxLen; omega) (fun h => (HSW.out.none h).2))
          rw [eF] at this
          exact this)
        have X3 := Lib.hid (fun W (h : Held w W (((PT q (ptFiP P1 M1 tn bl)).sep (XT x q M1)).sep (kpR ta tn tc ks ha hn hc had wa hn wc which))) => show Calls Try.prog 12 #[.pointer (some ⟨x, 0, none⟩), .int .i64 tn] W fun e w' => e = .returned (.int .i64 0) ∧ Held w w' (((PT q (ptFiP P1 M1 tn bl)).sep (XT x q (M1.pubM tn))).sep (kpR ta tn tc ks ha hn hc had wa hn wc which)) from by
          have := Held.call h (fun _ h' => A.pub h' (inv_fill HIn1.out (tn : Int) bl) (ok_fill HOk1.out.1 (tn : Int) bl) HOk1.out.2.1 (by omega) (by omega) (tn : Int) ⟨by omega, by omega⟩)
          rw [eU] at this
          exact this)
        clear e0 eA eF eU hkp hOk1 hIn1 hSz
        have HMid := Lib.hid (fun (w8 : World) (a8 : Option Addr) (c8 : Nat) (h8 : Held w w8 (((PT q (ptFiP P1 M1 tn bl)).sep (XT x q (M1.pubM tn))).sep (kpR a8 (tn + 1) c8 (ks ++ [⟨ga, m, gc, bl⟩]) ha hn hc had wa hn wc which))) => show KpAt PT XT w w8 q x (4 * k + 3) (k + 1) (k + 1) k (ptFiP P1 M1 tn bl) (M1.pubM tn) had which (ks ++ [⟨ga, m, gc, bl⟩]) a8 (tn + 1) c8 ha hn hc wa hn wc from
          ⟨h8, by rw [List.map_append]; exact HKp.out, (ok_fill HOk1.out.1 (tn : Int) bl).mono (by omega), HOk1.out.2.1.pub _, by rw [(sz_ptfill P1 M1 (tn : Int) bl).sz, HSz.out.sz]; exact HKd.out.size, ⟨by rw [List.length_append, ← HKd.out.tl.1]; rfl, by omega⟩, HKd.out.hl, HKd.out.wl, fun y hy => by
            rcases List.mem_append.1 hy with hy | hy
            · exact HKd.out.each y hy
            · rw [List.mem_singleton.1 hy]
              exact ⟨⟨by show m ≤ gc; omega, by show gc ≤ maxLen; unfold maxLen; omega, fun h => ⟨by have := (HSW.out.none h).1; show m = 0; omega, (HSW.out.none h).2⟩⟩, HBt.out.2.symm, HBt.out.1⟩⟩)
        by_cases hrd : k < rl
        · obtain ⟨z, hz⟩ := get_some (l := rx) (i := k) (by rw [HRL.out]; exact hrd)
          obtain ⟨rb, ro, rfl, hzc⟩ := HR.out.row k z hz
          have zc : V.cell? ⟨rb, ro + k, none⟩ = some (.int .i64 z) := still_cell HKd.out.held.ground (hzc 0 _ rfl) (by omega)
          have HZ := Lib.hid (fun W (h : Still w W) => show W.cell? ⟨rb, ro + k, none⟩ = some (.int .i64 z) from still_cell h (hzc 0 _ rfl) (by omega))
          obtain ⟨u, hu⟩ : ∃ u, u = am z (tn + 1 + 1) := ⟨_, rfl⟩
          have hul : u < tn + 1 + 1 := by rw [hu]; exact am_lt _ (by omega)
          have B4 := Lib.hid (fun W => among_lit z ((tn : Int) + 1 + 1) (tn + 1 + 1) u (by omega) hu (by omega) (by omega) W)
          have HRd := Lib.hid (fun (W : World) (ta' : Option Addr) (tc' : Nat) (ks' : List (Sl UInt8)) (h : KpAt PT XT w W q x (4 * k + 3) (k + 1) (k + 1) k (ptFiP P1 M1 tn bl) (M1.pubM tn) had which ks' ta' (tn + 1) tc' ha hn hc wa hn wc) => h.readC A.toPartActs (by omega) (by omega) u (by omega))
          clear hz hzc hu
          by_cases he : (M1.pubM tn).getE (u : Int) = 0
          · rw [he] at HRd
            have hrdi : (k : Int) < (rl : Int) := by omega
            obtain ⟨gr, hgr⟩ : ∃ gr, gr = (M1.pubM tn).getR (u : Int) := ⟨_, rfl⟩
            rw [← hgr] at HRd
            have HHe := Lib.hid he
            have HGr := Lib.hid hgr
            clear he hgr
            go_wp2_with (first
          | (go_at_call 10; ((with_reducible refine (X1.out).mono ?_)); rintro e w5 ⟨rfl, h5⟩; have H5 := Lib.hid h5; clear h5)
          | (go_at_call 11; ((with_reducible refine (X2.out _ H5.out).mono ?_)); rintro e w6 ⟨rfl, h6⟩; have H6 := Lib.hid h6; clear h6)
          | (go_at_call 12; ((with_reducible refine (X3.out _ H6.out).mono ?_)); rintro e w7 ⟨rfl, h7⟩; have H7 := Lib.hid h7; have HOw := Lib.hid (kp_row h7); clear h7)
          | (at_builtin; refine wpList_append_own_at _ rfl (.tmp 104) (.tmp 106) 22 rfl 0 33 i0 (.slice none 0 0) 1 24 Try.underlying22 ji jz0 jz1 jz2 rfl (by decide) (.slice ta tn tc) tn (ks.map kvS) rfl (ow_still HOw.out ((Turned.refl _ _).alloc _)) ⟨w7.heap.size, 0, none⟩ 1 1 [.slice ga m gc] rfl rfl (ow_cells w7 _ _) (by intro u hu; rw [List.mem_singleton.1 hu]; rfl) (by unfold maxLen; omega) (by omega) (Nat.zero_le _) ?_; intro v8 w8 hown8 hg8 _ hat8; obtain ⟨a8, c8, rfl⟩ := ow_slice hown8; have H8 := Lib.hid (kp_told (y := ⟨ga, m, gc, bl⟩) H7.out hown8 hg8 hat8); clear hown8 hg8 hat8; have HM := Lib.hid (HMid.out _ _ _ H8.out); have zc5 := HZ.out _ HM.out.held.ground)
              | (go_at_call 8; (((with_reducible refine (B4.out _).mono ?_)); rintro e w' ⟨rfl, hw⟩; rw [← hw]; clear hw))
              | (go_at_call 13; ((with_reducible refine (HRd.out _ _ _ _ HM.out).mono ?_)); rintro e w9 ⟨rfl, h9⟩; have H9 := Lib.hid h9; have HO9 := Lib.hid (h9.snd.snd.drop); clear h9)
              | (at_builtin; refine wpList_append_own_at _ rfl (.tmp 130) (.tmp 132) 23 rfl 0 3 j0 (.int .i64 0) 1 8 Try.underlying23 qi qz0 qz1 qz2 rfl (by decide) (.slice ha hn hc) hn (ints had) rfl (ow_still (own_of HO9.out) ((Turned.refl _ _).alloc _)) ⟨w9.heap.size, 0, none⟩ 1 1 [.int .i64 gr] rfl rfl (ow_cells w9 _ _) (ow_ints rfl) (by unfold maxLen; omega) (by omega) (Nat.zero_le _) ?_; intro v10 w10 hown10 hg10 _ hat10; obtain ⟨a10, c10, rfl⟩ := ow_slice hown10; have h10 := kp_had (y := gr) H9.out (by simpa [ints] using hown10) hg10 hat10; have H10 := Lib.hid h10; have HO10 := Lib.hid (h10.snd.snd.snd); clear hown10 hg10 hat10 h10)
              | (at_builtin; refine wpList_append_own_at _ rfl (.tmp 134) (.tmp 136) 23 rfl 0 3 j0 (.int .i64 0) 1 8 Try.underlying23 qi qz0 qz1 qz2 rfl (by decide) (.slice wa hn wc) hn (ints (nums which)) rfl (ow_still (own_of HO10.out) ((Turned.refl _ _).alloc _)) ⟨w10.heap.size, 0, none⟩ 1 1 [.int .i64 u] rfl rfl (ow_cells w10 _ _) (ow_ints rfl) (by unfold maxLen; omega) (by omega) (Nat.zero_le _) ?_; intro v11 w11 hown11 hg11 _ hat11; obtain ⟨a11, c11, rfl⟩ := ow_slice hown11; have h11 := kp_which (y := (u : Int)) H10.out (by simpa [ints] using hown11) hg11 hat11; have HN := Lib.hid (HM.out.readOk HHe.out (by rw [HGr.out] at h11; exact h11)); clear hown11 hg11 hat11 h11)
              | (go_at_call 14; ((with_reducible refine ((HN.out.ct A.toPartActs B.toPoolActs (by omega) (by omega)).head _ (Turned.refl _ _)).mono ?_)); rintro e wE ⟨rfl, hE⟩; have HE := Lib.hid (HN.out.still hE); have HC := Lib.hid ((HN.out.still hE).ct A.toPartActs B.toPoolActs (by omega) (by omega)); clear hE))
            go_loopw [24] (fun i wx => ∃ j : Nat, (M1.pubM tn).h ≤ j ∧ j ≤ tn + 1 ∧ i = .int .i64 j ∧ Still wE wx) (fun i _ => tn + 1 - (intOf i).toNat)
            case atStart => exact ⟨(M1.pubM tn).h, Nat.le_refl _, HC.out.le, rfl, Turned.refl _ _⟩
            case round =>
              obtain ⟨j, hj1, hj2, rfl, hst⟩ := hrel
              have HSt := Lib.hid hst
              by_cases hlt2 : j < tn + 1
              · obtain ⟨b, g, ya, yc, rfl, hc⟩ := HC.out.peek j hj1 hlt2
                have HCc := Lib.hid hc
                have HT2 := Lib.hid (fun V (h : Still wr V) => HC.out.tail V (hst.trans h))
                clear hc hst
                go_wp2_with (first
                  | (go_at_call 15; ((with_reducible refine (HT2.out _ (Turned.refl _ _)).mono ?_)); rintro e w21 ⟨rfl, hT21⟩; have U21 := Lib.hid (HSt.out.trans hT21); clear hT21)
                  | (go_at_call 16; ((with_reducible refine ((HCc.out _ U21.out).2.2).mono ?_)); rintro e w22 ⟨a22, c22, rfl, hB22, hT22⟩; have U22 := Lib.hid (U21.out.trans hT22); have HB22 := Lib.hid hB22; have cc := (HCc.out _ U22.out).1; clear hT22 hB22)
                  | (go_at_call 17; ((with_reducible refine (sameBytes_any _ _ _ b b _ _ HB22.out (HCc.out _ U22.out).2.1).mono ?_)); rintro e w23 ⟨rfl, hw23⟩; subst hw23; rw [decide_eq_true rfl]))
                go_roundw
                case rel => exact ⟨j + 1, by omega, by omega, by go_num, U22.out⟩
                case measure => simp [intOf]; omega
              · obtain rfl : j = tn + 1 := by omega
                have HT2 := Lib.hid (fun V (h : Still wr V) => HC.out.tail V (hst.trans h))
                clear hst
                go_wp2_with (go_at_call 15; ((with_reducible refine (HT2.out _ (Turned.refl _ _)).mono ?_)); rintro e w21 ⟨rfl, hT21⟩; have U21 := Lib.hid (HSt.out.trans hT21); clear hT21)
                go_loopw [27] (fun i wx => ∃ j : Nat, j ≤ (hn + 1) ∧ i = .int .i64 j ∧ Still wE wx) (fun i _ => (hn + 1) - (intOf i).toNat)
                case atStart => exact ⟨0, Nat.zero_le _, rfl, U21.out⟩
                case round =>
                  clear U21 HT2
                  obtain ⟨j, hj3, rfl, hst⟩ := hrel
                  have HSt := Lib.hid hst
                  by_cases hlt3 : j < (hn + 1)
                  · obtain ⟨y, kk, b, g, hg, wg, ya, yc, rfl, rfl, rfl, hkk, hc⟩ := HC.out.bytes j hlt3
                    have HCc := Lib.hid hc
                    obtain ⟨d1, d2, d3, _, _⟩ := hc _ hst
                    clear hc hst
                    go_wp2_with (first
                      | (go_at_call 18; ((with_reducible refine ((HCc.out _ HSt.out).2.2.2.2).mono ?_)); rintro e w22 ⟨a22, c22, rfl, hB22, hT22⟩; have U22 := Lib.hid (HSt.out.trans hT22); have HB22 := Lib.hid hB22; obtain ⟨f1, f2, f3, _, _⟩ := HCc.out _ U22.out; clear hT22 hB22)
                      | (go_at_call 17; ((with_reducible refine (sameBytes_any _ _ _ b b _ _ HB22.out (HCc.out _ U22.out).2.2.2.1).mono ?_)); rintro e w23 ⟨rfl, hw23⟩; subst hw23; rw [decide_eq_true rfl]))
                    go_roundw
                    case rel => exact ⟨j + 1, by omega, by go_num, U22.out⟩
                    case measure => simp [intOf]; omega
                  · obtain rfl : j = (hn + 1) := by omega
                    clear hst
                    go_wp2_with fail
                    go_roundw
                    case rel => exact ⟨k + 1, _, _, _, _, _, _, _, _, _, _, _, _, _, _, by omega, by go_num, rfl, rfl, rfl, (HE.out.still HSt.out).mono (by omega) (by omega) (by omega) (by omega)⟩
                    case measure => simp [intOf]; omega
          · have eR : ptRdP (ptFiP P1 M1 tn bl) (M1.pubM tn) (u : Int) = (ptFiP P1 M1 tn bl) := if_neg he
            rw [eR] at HRd
            obtain ⟨gr, hgr⟩ : ∃ gr, gr = (M1.pubM tn).getR (u : Int) := ⟨_, rfl⟩
            obtain ⟨ge, hge⟩ : ∃ ge, ge = (M1.pubM tn).getE (u : Int) := ⟨_, rfl⟩
            have hrdi : (k : Int) < (rl : Int) := by omega
            have hb0 : (ge == 0) = false := by rw [beq_eq_false_iff_ne, hge]; exact he
            rw [← hgr, ← hge] at HRd
            clear hgr hge eR he
            go_wp2_with (first
          | (go_at_call 10; ((with_reducible refine (X1.out).mono ?_)); rintro e w5 ⟨rfl, h5⟩; have H5 := Lib.hid h5; clear h5)
          | (go_at_call 11; ((with_reducible refine (X2.out _ H5.out).mono ?_)); rintro e w6 ⟨rfl, h6⟩; have H6 := Lib.hid h6; clear h6)
          | (go_at_call 12; ((with_reducible refine (X3.out _ H6.out).mono ?_)); rintro e w7 ⟨rfl, h7⟩; have H7 := Lib.hid h7; have HOw := Lib.hid (kp_row h7); clear h7)
          | (at_builtin; refine wpList_append_own_at _ rfl (.tmp 104) (.tmp 106) 22 rfl 0 33 i0 (.slice none 0 0) 1 24 Try.underlying22 ji jz0 jz1 jz2 rfl (by decide) (.slice ta tn tc) tn (ks.map kvS) rfl (ow_still HOw.out ((Turned.refl _ _).alloc _)) ⟨w7.heap.size, 0, none⟩ 1 1 [.slice ga m gc] rfl rfl (ow_cells w7 _ _) (by intro u hu; rw [List.mem_singleton.1 hu]; rfl) (by unfold maxLen; omega) (by omega) (Nat.zero_le _) ?_; intro v8 w8 hown8 hg8 _ hat8; obtain ⟨a8, c8, rfl⟩ := ow_slice hown8; have H8 := Lib.hid (kp_told (y := ⟨ga, m, gc, bl⟩) H7.out hown8 hg8 hat8); clear hown8 hg8 hat8; have HM := Lib.hid (HMid.out _ _ _ H8.out); have zc5 := HZ.out _ HM.out.held.ground)
              | (go_at_call 8; (((with_reducible refine (B4.out _).mono ?_)); rintro e w' ⟨rfl, hw⟩; rw [← hw]; clear hw))
              | (go_at_call 13; ((with_reducible refine (HRd.out _ _ _ _ HM.out).mono ?_)); rintro e w9 ⟨rfl, h9⟩; have HN := Lib.hid (HM.out.put h9); clear h9)
              | (go_at_call 14; ((with_reducible refine ((HN.out.ct A.toPartActs B.toPoolActs (by omega) (by omega)).head _ (Turned.refl _ _)).mono ?_)); rintro e wE ⟨rfl, hE⟩; have HE := Lib.hid (HN.out.still hE); have HC := Lib.hid ((HN.out.still hE).ct A.toPartActs B.toPoolActs (by omega) (by omega)); clear hE))
            go_loopw [24] (fun i wx => ∃ j : Nat, (M1.pubM tn).h ≤ j ∧ j ≤ tn + 1 ∧ i = .int .i64 j ∧ Still wE wx) (fun i _ => tn + 1 - (intOf i).toNat)
            case atStart => exact ⟨(M1.pubM tn).h, Nat.le_refl _, HC.out.le, rfl, Turned.refl _ _⟩
            case round =>
              obtain ⟨j, hj1, hj2, rfl, hst⟩ := hrel
              have HSt := Lib.hid hst
              by_cases hlt2 : j < tn + 1
              · obtain ⟨b, g, ya, yc, rfl, hc⟩ := HC.out.peek j hj1 hlt2
                have HCc := Lib.hid hc
                have HT2 := Lib.hid (fun V (h : Still wr V) => HC.out.tail V (hst.trans h))
                clear hc hst
                go_wp2_with (first
                  | (go_at_call 15; ((with_reducible refine (HT2.out _ (Turned.refl _ _)).mono ?_)); rintro e w21 ⟨rfl, hT21⟩; have U21 := Lib.hid (HSt.out.trans hT21); clear hT21)
                  | (go_at_call 16; ((with_reducible refine ((HCc.out _ U21.out).2.2).mono ?_)); rintro e w22 ⟨a22, c22, rfl, hB22, hT22⟩; have U22 := Lib.hid (U21.out.trans hT22); have HB22 := Lib.hid hB22; have cc := (HCc.out _ U22.out).1; clear hT22 hB22)
                  | (go_at_call 17; ((with_reducible refine (sameBytes_any _ _ _ b b _ _ HB22.out (HCc.out _ U22.out).2.1).mono ?_)); rintro e w23 ⟨rfl, hw23⟩; subst hw23; rw [decide_eq_true rfl]))
                go_roundw
                case rel => exact ⟨j + 1, by omega, by omega, by go_num, U22.out⟩
                case measure => simp [intOf]; omega
              · obtain rfl : j = tn + 1 := by omega
                have HT2 := Lib.hid (fun V (h : Still wr V) => HC.out.tail V (hst.trans h))
                clear hst
                go_wp2_with (go_at_call 15; ((with_reducible refine (HT2.out _ (Turned.refl _ _)).mono ?_)); rintro e w21 ⟨rfl, hT21⟩; have U21 := Lib.hid (HSt.out.trans hT21); clear hT21)
                go_loopw [27] (fun i wx => ∃ j : Nat, j ≤ hn ∧ i = .int .i64 j ∧ Still wE wx) (fun i _ => hn - (intOf i).toNat)
                case atStart => exact ⟨0, Nat.zero_le _, rfl, U21.out⟩
                case round =>
                  clear U21 HT2
                  obtain ⟨j, hj3, rfl, hst⟩ := hrel
                  have HSt := Lib.hid hst
                  by_cases hlt3 : j < hn
                  · obtain ⟨y, kk, b, g, hg, wg, ya, yc, rfl, rfl, rfl, hkk, hc⟩ := HC.out.bytes j hlt3
                    have HCc := Lib.hid hc
                    obtain ⟨d1, d2, d3, _, _⟩ := hc _ hst
                    clear hc hst
                    go_wp2_with (first
                      | (go_at_call 18; ((with_reducible refine ((HCc.out _ HSt.out).2.2.2.2).mono ?_)); rintro e w22 ⟨a22, c22, rfl, hB22, hT22⟩; have U22 := Lib.hid (HSt.out.trans hT22); have HB22 := Lib.hid hB22; obtain ⟨f1, f2, f3, _, _⟩ := HCc.out _ U22.out; clear hT22 hB22)
                      | (go_at_call 17; ((with_reducible refine (sameBytes_any _ _ _ b b _ _ HB22.out (HCc.out _ U22.out).2.2.2.1).mono ?_)); rintro e w23 ⟨rfl, hw23⟩; subst hw23; rw [decide_eq_true rfl]))
                    go_roundw
                    case rel => exact ⟨j + 1, by omega, by go_num, U22.out⟩
                    case measure => simp [intOf]; omega
                  · obtain rfl : j = hn := by omega
                    clear hst
                    go_wp2_with fail
                    go_roundw
                    case rel => exact ⟨k + 1, _, _, _, _, _, _, _, _, _, _, _, _, _, _, by omega, by go_num, rfl, rfl, rfl, (HE.out.still HSt.out).mono (by omega) (by omega) (by omega) (by omega)⟩
                    case measure => simp [intOf]; omega
        · go_wp2_with (first
          | (go_at_call 10; ((with_reducible refine (X1.out).mono ?_)); rintro e w5 ⟨rfl, h5⟩; have H5 := Lib.hid h5; clear h5)
          | (go_at_call 11; ((with_reducible refine (X2.out _ H5.out).mono ?_)); rintro e w6 ⟨rfl, h6⟩; have H6 := Lib.hid h6; clear h6)
          | (go_at_call 12; ((with_reducible refine (X3.out _ H6.out).mono ?_)); rintro e w7 ⟨rfl, h7⟩; have H7 := Lib.hid h7; have HOw := Lib.hid (kp_row h7); clear h7)
          | (at_builtin; refine wpList_append_own_at _ rfl (.tmp 104) (.tmp 106) 22 rfl 0 33 i0 (.slice none 0 0) 1 24 Try.underlying22 ji jz0 jz1 jz2 rfl (by decide) (.slice ta tn tc) tn (ks.map kvS) rfl (ow_still HOw.out ((Turned.refl _ _).alloc _)) ⟨w7.heap.size, 0, none⟩ 1 1 [.slice ga m gc] rfl rfl (ow_cells w7 _ _) (by intro u hu; rw [List.mem_singleton.1 hu]; rfl) (by unfold maxLen; omega) (by omega) (Nat.zero_le _) ?_; intro v8 w8 hown8 hg8 _ hat8; obtain ⟨a8, c8, rfl⟩ := ow_slice hown8; have H8 := Lib.hid (kp_told (y := ⟨ga, m, gc, bl⟩) H7.out hown8 hg8 hat8); clear hown8 hg8 hat8; have HM := Lib.hid (HMid.out _ _ _ H8.out))
            | (go_at_call 14; ((with_reducible refine ((HM.out.ct A.toPartActs B.toPoolActs (by omega) (by omega)).head _ (Turned.refl _ _)).mono ?_)); rintro e wE ⟨rfl, hE⟩; have HE := Lib.hid (HM.out.still hE); have HC := Lib.hid ((HM.out.still hE).ct A.toPartActs B.toPoolActs (by omega) (by omega)); clear hE))
          go_loopw [24] (fun i wx => ∃ j : Nat, (M1.pubM tn).h ≤ j ∧ j ≤ tn + 1 ∧ i = .int .i64 j ∧ Still wE wx) (fun i _ => tn + 1 - (intOf i).toNat)
          case atStart => exact ⟨(M1.pubM tn).h, Nat.le_refl _, HC.out.le, rfl, Turned.refl _ _⟩
          case round =>
            obtain ⟨j, hj1, hj2, rfl, hst⟩ := hrel
            have HSt := Lib.hid hst
            by_cases hlt2 : j < tn + 1
            · obtain ⟨b, g, ya, yc, rfl, hc⟩ := HC.out.peek j hj1 hlt2
              have HCc := Lib.hid hc
              have HT2 := Lib.hid (fun V (h : Still wr V) => HC.out.tail V (hst.trans h))
              clear hc hst
              go_wp2_with (first
                | (go_at_call 15; ((with_reducible refine (HT2.out _ (Turned.refl _ _)).mono ?_)); rintro e w21 ⟨rfl, hT21⟩; have U21 := Lib.hid (HSt.out.trans hT21); clear hT21)
                | (go_at_call 16; ((with_reducible refine ((HCc.out _ U21.out).2.2).mono ?_)); rintro e w22 ⟨a22, c22, rfl, hB22, hT22⟩; have U22 := Lib.hid (U21.out.trans hT22); have HB22 := Lib.hid hB22; have cc := (HCc.out _ U22.out).1; clear hT22 hB22)
                | (go_at_call 17; ((with_reducible refine (sameBytes_any _ _ _ b b _ _ HB22.out (HCc.out _ U22.out).2.1).mono ?_)); rintro e w23 ⟨rfl, hw23⟩; subst hw23; rw [decide_eq_true rfl]))
              go_roundw
              case rel => exact ⟨j + 1, by omega, by omega, by go_num, U22.out⟩
              case measure => simp [intOf]; omega
            · obtain rfl : j = tn + 1 := by omega
              have HT2 := Lib.hid (fun V (h : Still wr V) => HC.out.tail V (hst.trans h))
              clear hst
              go_wp2_with (go_at_call 15; ((with_reducible refine (HT2.out _ (Turned.refl _ _)).mono ?_)); rintro e w21 ⟨rfl, hT21⟩; have U21 := Lib.hid (HSt.out.trans hT21); clear hT21)
              go_loopw [27] (fun i wx => ∃ j : Nat, j ≤ hn ∧ i = .int .i64 j ∧ Still wE wx) (fun i _ => hn - (intOf i).toNat)
              case atStart => exact ⟨0, Nat.zero_le _, rfl, U21.out⟩
              case round =>
                clear U21 HT2
                obtain ⟨j, hj3, rfl, hst⟩ := hrel
                have HSt := Lib.hid hst
                by_cases hlt3 : j < hn
                · obtain ⟨y, kk, b, g, hg, wg, ya, yc, rfl, rfl, rfl, hkk, hc⟩ := HC.out.bytes j hlt3
                  have HCc := Lib.hid hc
                  obtain ⟨d1, d2, d3, _, _⟩ := hc _ hst
                  clear hc hst
                  go_wp2_with (first
                    | (go_at_call 18; ((with_reducible refine ((HCc.out _ HSt.out).2.2.2.2).mono ?_)); rintro e w22 ⟨a22, c22, rfl, hB22, hT22⟩; have U22 := Lib.hid (HSt.out.trans hT22); have HB22 := Lib.hid hB22; obtain ⟨f1, f2, f3, _, _⟩ := HCc.out _ U22.out; clear hT22 hB22)
                    | (go_at_call 17; ((with_reducible refine (sameBytes_any _ _ _ b b _ _ HB22.out (HCc.out _ U22.out).2.2.2.1).mono ?_)); rintro e w23 ⟨rfl, hw23⟩; subst hw23; rw [decide_eq_true rfl]))
                  go_roundw
                  case rel => exact ⟨j + 1, by omega, by go_num, U22.out⟩
                  case measure => simp [intOf]; omega
                · obtain rfl : j = hn := by omega
                  clear hst
                  go_wp2_with fail
                  go_roundw
                  case rel => exact ⟨k + 1, _, _, _, _, _, _, _, _, _, _, _, _, _, _, by omega, by go_num, rfl, rfl, rfl, (HE.out.still HSt.out).mono (by omega) (by omega) (by omega) (by omega)⟩
                  case measure => simp [intOf]; omega
    · have hex : (k < sl ∧ 60 ≤ k) ∨ sl ≤ k := by omega
      clear hin
      have hwk := HK.out.kp.tail
      have htl := HK.out.tl
      have HTl := Lib.hid (fun V (h : Still wr V) => show Calls Try.prog 15 #[.pointer (some ⟨x, 0, none⟩)] V fun e w' => e = .returned (.int .i64 tn) ∧ Still V w' from by
        obtain ⟨_, hp⟩ := (HK.out.still h).held.fst
        have := A.tail hp.1 HK.out.ok HK.out.mok (by omega) (by omega)
        rw [hwk, List.length_map, ← htl.1] at this
        exact this)
      have HGr := Lib.hid HK.out.held.ground
      rcases hex with ⟨hlt, hk60⟩ | hge
      all_goals (
        go_wp2_with (go_at_call 15; ((with_reducible refine (HTl.out _ (Turned.refl _ _)).mono ?_)); rintro e w9 ⟨rfl, hT9⟩; have H9 := Lib.hid hT9; clear hT9)
        go_ret
        exact ⟨by first | rfl | simp, HGr.out.trans H9.out⟩)
end Go.Proofs.Ytbljjmehjkmjaaa
