/- TopicOrder: the walk. No condition but that the program's sets and partitions keep their words. -/
import Derived.Test.YtmmkcfiecgpkpaaGreatBxTpOrdLem
namespace Go.Proofs.YtmmkcfiecgpkpaaGreat
open Go.RowKit
set_option linter.unusedVariables false
set_option linter.unusedSimpArgs false
set_option maxRecDepth 100000

set_option maxHeartbeats 8000000 in
theorem tporder_walk {HT : Nat → Nat → List Txt → List (List Nat) → Thing} {PT : Nat → PM → Thing} {XT : Nat → Nat → RM → Thing} (A : TopicApi HT PT XT) (B : PartActs PT XT) (a b : Int) (s : Sl (Sl UInt8)) (w : World) (hs : SlOk encSl (SlOk encB okB 1) 1 w s) :
    Calls Tryz.prog 4 #[.int .i64 a, .int .i64 b, .slice s.a s.len s.cap] w fun e w' => e = .returned (.bool true) ∧ Still w w' := by
  obtain ⟨s0, hs0⟩ : ∃ s, s = am a 8 := ⟨_, rfl⟩
  obtain ⟨r0, hr0⟩ : ∃ r, r = am b 6 := ⟨_, rfl⟩
  have hs0l : s0 < 8 := by rw [hs0]; exact am_lt _ (by omega)
  have hr0l : r0 < 6 := by rw [hr0]; exact am_lt _ (by omega)
  have B1 := Lib.hid (fun W => among_lit a 8 8 s0 rfl hs0 (by omega) (by omega) W)
  have B2 := Lib.hid (fun W => among_lit b 6 6 r0 rfl hr0 (by omega) (by omega) W)
  obtain ⟨n, hn⟩ : ∃ s, s = 1 + s0 := ⟨_, rfl⟩
  obtain ⟨r, hr'⟩ : ∃ r, r = 1 + r0 := ⟨_, rfl⟩
  have hn' : (1 : Int) + (s0 : Int) = (n : Int) := by omega
  have hrr : (1 : Int) + (r0 : Int) = (r : Int) := by omega
  have hnr : 1 ≤ n ∧ n ≤ 8 ∧ 1 ≤ r ∧ r ≤ 6 := by omega
  obtain ⟨st1, st2, st3, st4, st5⟩ := ord_start hnr.1 hnr.2.1 hnr.2.2.1 hnr.2.2.2
  have hO0 : (StM.mk (PM.new 64 8) []).Ok [] 0 0 := StM.new_ok (by omega) (by omega) (by omega) (by omega)
  have hO1 := hO0.open [97, 47, 98] n r 1
  have hO2 := hO1.open [99] 2 3 0
  have HOrd := Lib.hid st5
  have HO2 := Lib.hid hO2
  have HW := Lib.hid (works13 A w)
  have C0 := Lib.hid (fun W => show Calls Tryz.prog 8 #[.int .i64 64, .int .i64 8] W fun e w' => ∃ x q, e = .returned (.tuple #[.pointer (some ⟨x, 0, none⟩), .int .i64 0]) ∧ ∃ U, (setT HT PT XT x q [] ⟨PM.new 64 8, []⟩).at_ w' U ∧ Still W w' ∧ ∀ k, U k → W.heap.size ≤ k from A.make_ok 64 8 W (by omega) (by omega) (by omega) (by omega))
  have C1 := Lib.hid (fun (W : World) (x q : Nat) (H : Held w W ((setT HT PT XT x q [] ⟨PM.new 64 8, []⟩).sep Thing.none)) =>
    show Calls Tryz.prog 13 #[.pointer (some ⟨x, 0, none⟩), .string ⟨#[97, 47, 98]⟩, .int .i64 n, .int .i64 r, .int .i64 1] W fun e w' => e = .returned (.tuple #[.int .i64 0, .int .i64 0]) ∧ ∃ L', Fits L' (openT [] [97, 47, 98] n r 1) ∧ Held w w' ((setT HT PT XT x q L' ⟨PM.new 64 8, openT [] [97, 47, 98] n r 1⟩).sep Thing.none) from by
      have := Held.openS A H rfl hO0 (by omega) (by omega) [97, 47, 98] (by simp) n r 1 ⟨by omega, by omega⟩ ⟨by omega, by omega⟩ ⟨by omega, by omega⟩
      rw [show (StM.mk (PM.new 64 8) []).T = [] from rfl, st1, st2] at this
      exact this)
  have C2 := Lib.hid (fun (W : World) (x q : Nat) (L : List (List Nat)) (hf : Fits L (openT [] [97, 47, 98] n r 1)) (H : Held w W ((setT HT PT XT x q L ⟨PM.new 64 8, openT [] [97, 47, 98] n r 1⟩).sep Thing.none)) =>
    show Calls Tryz.prog 13 #[.pointer (some ⟨x, 0, none⟩), .string ⟨#[99]⟩, .int .i64 2, .int .i64 3, .int .i64 0] W fun e w' => e = .returned (.tuple #[.int .i64 1, .int .i64 0]) ∧ ∃ L', Fits L' (openT (openT [] [97, 47, 98] n r 1) [99] 2 3 0) ∧ Held w w' ((setT HT PT XT x q L' ⟨PM.new 64 8, openT (openT [] [97, 47, 98] n r 1) [99] 2 3 0⟩).sep Thing.none) from by
      have := Held.openS A H hf hO1 (by omega) (by omega) [99] (by simp) 2 3 0 ⟨by omega, by omega⟩ ⟨by omega, by omega⟩ ⟨by omega, by omega⟩
      rw [show (StM.mk (PM.new 64 8) (openT [] [97, 47, 98] n r 1)).T = openT [] [97, 47, 98] n r 1 from rfl, st3, st4] at this
      exact this)
  generalize openT [] [97, 47, 98] n r 1 = T1 at *
  generalize openT T1 [99] 2 3 0 = T2 at *
  obtain ⟨i0, hi, hz0, hz1, hz2⟩ := info_parts infoIntW
  have hb : (i0.bytes : Int) * (n : Int) ≤ 281474976710656 := by rw [hz2]; omega
  have hmk := fun W : World => run_make (P := Tryz.prog) W 23 3 i0 _ Tryz.underlying23 hi hz0 .i64 .i64 (n : Int) (n : Int) (Int.natCast_nonneg n) (Int.le_refl _) hb (by omega)
  simp only [hz1, Int.toNat_natCast, Nat.mul_one, show Value.cells (.int .i64 0) = #[.int .i64 0] from rfl, made_ints] at hmk
  obtain ⟨i1, ji, jz0, jz1, jz2⟩ := info_parts infoBytesS
  obtain ⟨sa, sl, sc, sx⟩ := s
  have hscap : sl ≤ sc := hs.le
  have hsmax : sc ≤ maxLen := hs.max
  unfold maxLen at hsmax
  have HS := Lib.hid hs
  have HSL : Hid (sx.length = sl) := Lib.hid hs.len
  dsimp only
  clear hs hs0 hr0 hn hr' st1 st2 st3 st4 st5 hO0 hO1 hO2 hb
  go_enter Tryz.func4, Tryz.ntmps4
  go_wp2_with (first
    | (go_at_call 10; ((with_reducible refine HW.out.mono ?_)); rintro e w1 ⟨rfl, hT⟩; have HT1 := Lib.hid hT; clear hT)
    | (go_at_call 8; ((with_reducible refine (C0.out _).mono ?_)); intro e w2 hN; obtain ⟨x, q, rfl, H⟩ := Held.madeS A HT1.out hN; have H2 := Lib.hid H; clear H hN)
    | (go_at_call 12; first | (((with_reducible refine (B1.out _).mono ?_)); rintro e w' ⟨rfl, hw⟩; rw [← hw]; clear hw) | (((with_reducible refine (B2.out _).mono ?_)); rintro e w' ⟨rfl, hw⟩; rw [← hw]; clear hw))
    | (go_at_call 13; ((with_reducible refine (C1.out _ _ _ H2.out).mono ?_)); rintro e w3 ⟨rfl, L1, hf, H⟩; have H3 := Lib.hid H; have F3 := Lib.hid hf; clear H hf)
    | (go_at_call 13; ((with_reducible refine (C2.out _ _ _ _ F3.out H3.out).mono ?_)); rintro e w4 ⟨rfl, L2, hf, H⟩; have H4 := Lib.hid H; have F4 := Lib.hid hf; clear H hf))
  have H6 := Lib.hid (show Held w (((w4.alloc (.cells (ints (nums (List.replicate n 0))).toArray 3)).alloc (.cells #[] 35)).alloc (.cells #[] 3)) ((setT HT PT XT x q L2 ⟨PM.new 64 8, T2⟩).sep (orR w4.heap.size (List.replicate n 0) (some ⟨w4.heap.size + 1, 0, none⟩) 0 0 [] (some ⟨w4.heap.size + 1 + 1, 0, none⟩) 0 0 [])) from by
    have h5 := (((H4.out.box (ints (nums (List.replicate n 0))) 3).new2 35 1).new2 3 1)
    have e1 : (w4.alloc (.cells (ints (nums (List.replicate n 0))).toArray 3)).heap.size = w4.heap.size + 1 := World.size_alloc _ _
    have e2 : ((w4.alloc (.cells (ints (nums (List.replicate n 0))).toArray 3)).alloc (.cells #[] 35)).heap.size = w4.heap.size + 1 + 1 := by rw [World.size_alloc, e1]
    rw [e1, e2] at h5
    exact h5.imp (fun h => sep_mono2 (fun h => sep_none h) (fun h => h) (sep_assoc (sep_assoc h))))
  obtain ⟨V, hV⟩ : ∃ V, V = (((w4.alloc (.cells (ints (nums (List.replicate n 0))).toArray 3)).alloc (.cells #[] 35)).alloc (.cells #[] 3)) := ⟨_, rfl⟩
  obtain ⟨tb, htb⟩ : ∃ g, g = w4.heap.size := ⟨_, rfl⟩
  rw [← hV, ← htb] at H6
  rw [← hV, ← htb]
  clear hV htb H4 H3 H2 HT1 C0 C1 C2 HW B1 B2 F3 hmk
  go_loopw [10, 11, 12] (fun tt ww i wr => ∃ (k : Nat) (L : List (List Nat)) (S : StM) (tls : List Nat) (ta : Option Addr) (tn tc : Nat) (ks : List (Sl UInt8)) (wa : Option Addr) (wn wc : Nat) (wh : List Nat), k ≤ 60 ∧ tn ≤ k ∧ i = .int .i64 k ∧ tt = .slice ta tn tc ∧ ww = .slice wa wn wc ∧ OrdAt HT PT XT w wr x q n r (2 * k) k L S tb tls ta tn tc ks wa wn wc wh) (fun _ _ i _ => 60 - (intOf i).toNat)
  case atStart => exact ⟨0, L2, _, _, _, _, _, [], _, _, _, [], by omega, by omega, rfl, rfl, rfl, H6.out, F4.out, HO2.out, HOrd.out, ⟨rfl, rfl⟩, rfl, fun y hy => (by cases hy)⟩
  case round =>
    clear H6
    obtain ⟨k, L, S, tls, ta, tn, tc, ks, wa, wn, wc, wh, hk, htk, rfl, rfl, rfl, hK⟩ := hrel
    have hwn : wn = tn := hK.tl.2
    subst hwn
    have HK := Lib.hid hK
    clear hK
    by_cases hin : k < sl ∧ k < 60
    · obtain ⟨hlt, h60⟩ := hin
      obtain ⟨g, hx⟩ := get_some (l := sx) (i := k) (by rw [HSL.out]; exact hlt)
      obtain ⟨bb, o, rfl, hc1, hB, hSW, hgl⟩ := KysAt.get (w := w) (ks := sx) ⟨HS.out.row, HS.out.each⟩ hx
      have hst := HK.out.held.ground
      obtain ⟨ga, gl, gc, gx⟩ := g
      dsimp only at hc1 hB hSW hgl
      have c0 : wr.cell? ⟨bb, o + k, none⟩ = some (.slice ga gl gc) := still_cell hst hc1 rfl
      obtain ⟨m, hm⟩ : ∃ m, m = min gl 64 := ⟨_, rfl⟩
      have hif : (if (64 : Int) < (gl : Int) then (64 : Int) else (gl : Int)) = (m : Int) := by split <;> omega
      have hm0 : (0 : Int) ≤ (m : Int) := by omega
      have hgc : gl ≤ gc ∧ gc ≤ 2 ^ 63 - 1 := ⟨hSW.le, hSW.max⟩
      have hmc : (m : Int) ≤ (gc : Int) := by omega
      have hm8 : m ≤ 64 := by omega
      have HBt := Lib.hid (show BytesAt w ga (gx.take m) ∧ (gx.take m).length = m from ⟨hB.take m, by rw [List.length_take]; omega⟩)
      have HSm := Lib.hid (show SlW ga m gc from ⟨by omega, hSW.max, fun h => ⟨by have := (hSW.none h).1; omega, (hSW.none h).2⟩⟩)
      clear hx hc1 hB hSW hgl hst hm
      go_wp2_with fail
      go_region_held3 (fun Z => Z.cell? ⟨bb, o + k, none⟩ = some (.slice ga gl gc)) (first | assumption | go_keep) (fail)
      have HKd := Lib.hid (show OrdAt HT PT XT w wr.drew x q n r (2 * k) k L S tb tls ta wn tc ks wa wn wc wh from ⟨HK.out.held.still (show Still wr wr.drew from (Turned.refl _ _).drew), HK.out.fits, HK.out.ok, HK.out.ord, HK.out.tl, HK.out.wl, HK.out.each⟩)
      obtain ⟨V, hV⟩ : ∃ V, V = wr.drew := ⟨_, rfl⟩
      rw [← hV] at HKd
      rw [← hV]
      clear hV c0 HK
      obtain ⟨bl, hbl⟩ : ∃ bl, bl = gx.take m := ⟨_, rfl⟩
      rw [← hbl] at HBt
      clear hbl
      obtain ⟨p, t, M', hp, hpn, htp, ht6, e0, eT, eP, eA, hM', hU, hOrd'⟩ := ord_claim HKd.out.ord HKd.out.ok hnr.1 hnr.2.1 hnr.2.2.2 hnr.2.2.1 (by omega) (by omega) (k := bl) (by rw [HBt.out.2]; exact hm8)
      have X1 := Lib.hid (Held.claimS A HKd.out.held HKd.out.fits HKd.out.ok (by omega) (by omega) [97, 47, 98] (by simp) bl ga m gc HBt.out.2.symm (HBt.out.1.still HKd.out.held.ground) HSm.out (by omega) 1 ⟨by omega, by omega⟩)
      rw [e0, eT, eP, eA] at X1
      unfold tx at X1
      have hO1 := HKd.out.ok.claim (by omega) [97, 47, 98] bl 1
      have hF1 := fits_claim HKd.out.fits [97, 47, 98] bl 1
      generalize tclH S [97, 47, 98] bl 1 = ch at *
      generalize tclM S [97, 47, 98] bl 1 = S1 at *
      have HO1 := Lib.hid hO1
      have HF1 := Lib.hid hF1
      have HM1 := Lib.hid hM'
      have HU1 := Lib.hid hU
      have HOr1 := Lib.hid hOrd'
      have HTp := Lib.hid htp
      have HP := Lib.hid hp
      have htl8 : p < 8 := by omega
      have HCl := Lib.hid (fun (w5 : World) (h : Held w w5 ((setT HT PT XT x q L S1).sep (orR tb tls ta wn tc ks wa wn wc wh))) =>
        show (w5.alloc (.cells #[.int .i64 0, .int .i64 p] 25)).cell? ⟨w5.heap.size, 0, none⟩ = some (.int .i64 0) ∧ (w5.alloc (.cells #[.int .i64 0, .int .i64 p] 25)).cell? ⟨w5.heap.size, 1, none⟩ = some (.int .i64 p) ∧ (w5.alloc (.cells #[.int .i64 0, .int .i64 p] 25)).cell? ⟨tb, p, none⟩ = some (.int .i64 t) ∧
          Hid (Held w (w5.alloc (.cells #[.int .i64 0, .int .i64 p] 25)) (((setT HT PT XT x q L S1).sep (orR tb tls ta wn tc ks wa wn wc wh)).sep (blkT w5.heap.size [.int .i64 0, .int .i64 p] 25))) from by
          have hb := Blk.new w5 [.int .i64 0, .int .i64 p] 25
          have h2 := (h.snd.drop.blk).alloc (.cells #[.int .i64 0, .int .i64 p] 25)
          exact ⟨hb.cell rfl, hb.cell rfl, h2.cell (ints_get (nums_get HTp.out)), Lib.hid (h.box [.int .i64 0, .int .i64 p] 25)⟩)
      clear e0 eT eP eA hM' hU hOrd' htp hp hO1 hF1
      have htn : tls.length = n := HKd.out.ord.len
      have HTn := Lib.hid htn
      clear htn
      go_wp2_with (go_at_call 20; ((with_reducible refine (X1.out).mono ?_)); rintro e w5 ⟨rfl, h5⟩; obtain ⟨d0, d1, d2, H5⟩ := HCl.out w5 h5; clear h5)
      obtain ⟨bp, hbp⟩ : ∃ bp, bp = w5.heap.size := ⟨_, rfl⟩
      obtain ⟨VB, hVB⟩ : ∃ VB, VB = w5.alloc (.cells #[.int .i64 0, .int .i64 p] 25) := ⟨_, rfl⟩
      rw [← hVB] at H5 d0 d1 d2
      rw [← hbp] at H5 d0 d1
      rw [← hVB, ← hbp]
      clear hVB hbp
      have H5a := Lib.hid (show Held w VB ((setT HT PT XT x q L S1).sep ((blkT tb (ints (nums tls)) 3).sep ((ownT 35 1 ta wn tc (ks.map kvS)).sep ((ownT 3 1 wa wn wc (ints (nums wh))).sep (blkT bp [.int .i64 0, .int .i64 p] 25))))) from
        H5.out.imp (fun h => sep_mono2 (fun h => h) (fun h => sep_mono2 (fun h => h) (fun h => sep_assoc h) (sep_assoc h)) (sep_assoc h)))
      have HRow := Lib.hid (fun j (hj : j < wn) => show ∃ (y : Sl UInt8) (g h : Nat), ks[j]? = some y ∧ ta = some ⟨g, 0, none⟩ ∧ wa = some ⟨h, 0, none⟩ ∧ y.len = y.xs.length ∧ BytesAt w y.a y.xs ∧ ∀ Z, Still VB Z → Z.cell? ⟨g, j, none⟩ = some (.slice y.a y.len y.cap) ∧ Z.cell? ⟨h, j, none⟩ = some (.int .i64 ((pt n y.xs : Nat) : Int)) ∧ Z.cell? ⟨bp, 1, none⟩ = some (.int .i64 p) from by
        obtain ⟨y, hy⟩ := get_some (l := ks) (i := j) (by rw [← HKd.out.tl.1]; exact hj)
        obtain ⟨f1, f2, f3⟩ := HKd.out.each y (List.mem_of_getElem? hy)
        obtain ⟨g, r1, e1, _, b1⟩ := ow_blk (or_row H5a.out) (by omega)
        obtain ⟨h, r2, e2, _, b2⟩ := ow_blk (or_row (Held.assoc' H5a.out)) (by omega)
        have c1 : VB.cell? ⟨g, j, none⟩ = some (.slice y.a y.len y.cap) := b1.cell (by rw [List.getElem?_append_left (by rw [List.length_map]; exact get_lt hy), List.getElem?_map, hy]; rfl)
        have c2 : VB.cell? ⟨h, j, none⟩ = some (.int .i64 ((pt n y.xs : Nat) : Int)) := b2.cell (by
          have hw : wh[j]? = some (pt n y.xs) := by rw [HKd.out.wl, List.getElem?_map, hy]; rfl
          rw [List.getElem?_append_left (by rw [ints_length, nums_length]; exact get_lt hw)]
          exact ints_get (nums_get hw))
        have c3 : VB.cell? ⟨bp, 1, none⟩ = some (.int .i64 p) := (or_box H5a.out).cell rfl
        exact ⟨y, g, h, hy, e1, e2, f2, f3, fun Z hZ => ⟨still_cell hZ c1 rfl, still_cell hZ c2 rfl, still_cell hZ c3 rfl⟩⟩)
      have HBl := Lib.hid (fun Z (hZ : Still VB Z) => show BytesAt Z ga bl from (HBt.out.1.still H5a.out.ground).still hZ)
      go_loopw [18] (fun i wx => ∃ j : Nat, j ≤ wn ∧ i = .int .i64 j ∧ Still VB wx) (fun i _ => wn - (intOf i).toNat)
      case atStart => exact ⟨0, Nat.zero_le _, rfl, Turned.refl _ _⟩
      case round =>
        obtain ⟨j, hj1, rfl, hst⟩ := hrel
        have HSt := Lib.hid hst
        clear hst
        by_cases hlt2 : j < wn
        · obtain ⟨y, g2, h2, hy, rfl, rfl, hyl, hyb, hc⟩ := HRow.out j hlt2
          obtain ⟨c1, c2, c3⟩ := hc _ HSt.out
          obtain ⟨ya, yl, yc, yx⟩ := y
          dsimp only at hyl hyb c1 c2
          have HSB := Lib.hid (fun nq => show Calls Tryz.prog 31 #[.slice ya yl yc, .slice ga m gc] (wr.drewN nq) fun e w' => e = .returned (.bool (decide (yx = bl))) ∧ wr.drewN nq = w' from by
            have := sameBytes_any (wr.drewN nq) ya ga yx bl yc gc (hyb.still (H5a.out.ground.trans (HSt.out.drewN nq))) (HBl.out _ (HSt.out.drewN nq))
            rwa [HBt.out.2, ← hyl] at this)
          by_cases heq : yx = bl
          · have hpt : pt n yx = p := by rw [heq, HP.out]
            rw [decide_eq_true heq] at HSB
            rw [hpt] at c2
            clear hy hyl hyb hc heq hpt d0 d1 d2
            go_wp2_with fail
            go_quiet ((go_at_call 31; ((with_reducible exact quietEq (HSB.out _)))))
            go_wp2_with fail
            go_roundw
            case rel => exact ⟨j + 1, by omega, by go_num, HSt.out.drewN _⟩
            case measure => simp [intOf]; omega
          · rw [decide_eq_false heq] at HSB
            clear hy hyl hyb hc heq d0 d1 d2
            go_wp2_with fail
            go_quiet ((go_at_call 31; ((with_reducible exact quietEq (HSB.out _)))))
            go_wp2_with fail
            go_roundw
            case rel => exact ⟨j + 1, by omega, by go_num, HSt.out.drewN _⟩
            case measure => simp [intOf]; omega
        · obtain rfl : j = wn := by omega
          clear hlt2 d0 d1 d2
          have H7 := Lib.hid (H5a.out.still HSt.out.drew)
          have z7 : wr.drew.cell? ⟨bp, 1, none⟩ = some (.int .i64 p) := (or_box H7.out).cell rfl
          have hjc := (ow_le (or_row H7.out)).1
          go_upto_region 23 with fail
          go_cut [10, 11] (fun tt ww wz => ∃ a8 c8 b8 d8, tt = .slice a8 (j + 1) c8 ∧ ww = .slice b8 (j + 1) d8 ∧ Held w wz ((setT HT PT XT x q L S1).sep ((blkT tb (ints (nums tls)) 3).sep ((ownT 35 1 a8 (j + 1) c8 (ks.map kvS ++ [.slice ga m gc])).sep ((ownT 3 1 b8 (j + 1) d8 (ints (nums wh) ++ [.int .i64 p])).sep (blkT bp [.int .i64 0, .int .i64 p] 25))))))
          case first =>
            go_region_held3 (fun Z => Z.cell? ⟨bp, 1, none⟩ = some (.int .i64 p)) (first | assumption | exact cell_up (by assumption) | exact cell_up (cell_up (by assumption)) | go_keep) (first
              | (refine step_app_own rfl (.tmp 119) (.tmp 121) 65 rfl 0 35 i1 (.slice none 0 0) 1 24 Tryz.underlying65 ji jz0 jz1 jz2 rfl (by decide) (.slice ta j tc) j (ks.map kvS) rfl (by first | exact or_row (H7.out.still ((Turned.refl _ _).alloc _)) | exact or_row (H7.out.still (((Turned.refl _ _).alloc _).alloc _))) _ 1 1 [.slice ga m gc] rfl rfl (by first | exact ow_cells _ _ _ | exact new_up _ _ _ _ | exact new_low _ _ _ _) (by intro u hu; rw [List.mem_singleton.1 hu]; rfl) (by unfold maxLen; omega) (by omega) (Nat.zero_le _) ?_; intro v8 w8 hown8 hg8 hat8; obtain ⟨a8, c8, rfl⟩ := ow_slice hown8
                 have H8 := Lib.hid (by first | exact or_three (H7.out.still ((Turned.refl _ _).alloc _)) hown8 hg8 hat8 | exact or_three (H7.out.still (((Turned.refl _ _).alloc _).alloc _)) hown8 hg8 hat8)
                 have z8 : w8.cell? ⟨bp, 1, none⟩ = some (.int .i64 p) := (or_box H8.out).cell rfl
                 first
                   | (have HN2 := Lib.hid (news_grown (new_low wr.drew [.int .i64 p] 3 (.cells #[.slice ga m gc] 35)) hg8 (row_ne (or_row H7.out) (by simp))))
                   | (have HN2 := Lib.hid (news_grown (new_up wr.drew [.int .i64 p] 3 (.cells #[.slice ga m gc] 35)) hg8 (row_ne (or_row H7.out) (by simp))))
                   | skip
                 clear hown8 hg8 hat8 H7)
              | (refine step_app_own rfl (.tmp 123) (.tmp 126) 23 rfl 0 3 i0 (.int .i64 0) 1 8 Tryz.underlying23 hi hz0 hz1 hz2 rfl (by decide) (.slice wa j wc) j (ints (nums wh)) rfl (by first | exact or_row (Held.assoc' (H7.out.still ((Turned.refl _ _).alloc _))) | exact or_row (Held.assoc' (H7.out.still (((Turned.refl _ _).alloc _).alloc _)))) _ 1 1 [.int .i64 p] rfl rfl (by first | exact ow_cells _ _ _ | exact new_up _ _ _ _ | exact new_low _ _ _ _) (by intro u hu; rw [List.mem_singleton.1 hu]; rfl) (by unfold maxLen; omega) (by omega) (Nat.zero_le _) ?_; intro v8 w8 hown8 hg8 hat8; obtain ⟨b8, d8, rfl⟩ := ow_slice hown8
                 have H8b := Lib.hid (by first | exact or_four (H7.out.still ((Turned.refl _ _).alloc _)) hown8 hg8 hat8 | exact or_four (H7.out.still (((Turned.refl _ _).alloc _).alloc _)) hown8 hg8 hat8)
                 have z8 : w8.cell? ⟨bp, 1, none⟩ = some (.int .i64 p) := (or_box H8b.out).cell rfl
                 first
                   | (have HN1 := Lib.hid (news_grown (new_low wr.drew [.slice ga m gc] 35 (.cells #[.int .i64 p] 3)) hg8 (row_ne (or_row (Held.assoc' H7.out)) (by simp))))
                   | (have HN1 := Lib.hid (news_grown (new_up wr.drew [.slice ga m gc] 35 (.cells #[.int .i64 p] 3)) hg8 (row_ne (or_row (Held.assoc' H7.out)) (by simp))))
                   | skip
                 clear hown8 hg8 hat8 H7)
              | (refine step_app_own rfl (.tmp 123) (.tmp 126) 23 rfl 0 3 i0 (.int .i64 0) 1 8 Tryz.underlying23 hi hz0 hz1 hz2 rfl (by decide) (.slice wa j wc) j (ints (nums wh)) rfl (by first | exact or_row (Held.assoc' H8.out) | exact or_row (Held.assoc' (H8.out.still ((Turned.refl _ _).alloc _)))) _ 1 1 [.int .i64 p] rfl rfl (by first | exact HN2.out | exact ow_cells _ _ _) (by intro u hu; rw [List.mem_singleton.1 hu]; rfl) (by unfold maxLen; omega) (by omega) (Nat.zero_le _) ?_; intro v9 w9 hown9 hg9 hat9; obtain ⟨b8, d8, rfl⟩ := ow_slice hown9
                 have H9 := Lib.hid (by first | exact or_four H8.out hown9 hg9 hat9 | exact or_four (H8.out.still ((Turned.refl _ _).alloc _)) hown9 hg9 hat9)
                 have z9 : w9.cell? ⟨bp, 1, none⟩ = some (.int .i64 p) := (or_box H9.out).cell rfl
                 clear hown9 hg9 hat9 H8)
              | (refine step_app_own rfl (.tmp 119) (.tmp 121) 65 rfl 0 35 i1 (.slice none 0 0) 1 24 Tryz.underlying65 ji jz0 jz1 jz2 rfl (by decide) (.slice ta j tc) j (ks.map kvS) rfl (by first | exact or_row H8b.out | exact or_row (H8b.out.still ((Turned.refl _ _).alloc _))) _ 1 1 [.slice ga m gc] rfl rfl (by first | exact HN1.out | exact ow_cells _ _ _) (by intro u hu; rw [List.mem_singleton.1 hu]; rfl) (by unfold maxLen; omega) (by omega) (Nat.zero_le _) ?_; intro v9 w9 hown9 hg9 hat9; obtain ⟨a8, c8, rfl⟩ := ow_slice hown9
                 have H9 := Lib.hid (by first | exact or_three H8b.out hown9 hg9 hat9 | exact or_three (H8b.out.still ((Turned.refl _ _).alloc _)) hown9 hg9 hat9)
                 have z9 : w9.cell? ⟨bp, 1, none⟩ = some (.int .i64 p) := (or_box H9.out).cell rfl
                 clear hown9 hg9 hat9 H8b))
            all_goals (go_wp2_with fail; go_meet)
            all_goals exact ⟨_, _, _, _, rfl, rfl, H9.out⟩
          case rest =>
            obtain ⟨a8, c8, b8, d8, rfl, rfl, h9⟩ := hcut
            try clear H7
            try clear z7
            try clear HRow
            try clear HBl
            try clear H5a
            try clear H5
            try clear X1
            try clear HCl
            try clear HS
            clear hif hm0 hmc hgc
            obtain ⟨t1, ht1⟩ : ∃ g, g = t + 1 := ⟨_, rfl⟩
            have hti : (t : Int) + 1 = (t1 : Int) := by omega
            have e0 : wc.cell? ⟨bp, 0, none⟩ = some (.int .i64 0) := (or_box h9).cell rfl
            have e1 : wc.cell? ⟨bp, 1, none⟩ = some (.int .i64 p) := (or_box h9).cell rfl
            have e2 : wc.cell? ⟨tb, p, none⟩ = some (.int .i64 t) := (Held.blk (Held.turn h9).drop).cell (ints_get (nums_get HTp.out))
            have e3 : wc.frozen? ⟨tb, p, none⟩ = false := (Held.blk (Held.turn h9).drop).free _
            have H10 := Lib.hid (or_tail (p := p) (t := t1) h9)
            rw [← ht1] at HOr1
            clear h9 ht1
            go_upto_region 25 with fail
            obtain ⟨V2, hV2⟩ : ∃ V, V = wc.setCell ⟨tb, p, none⟩ (.int .i64 (t1 : Nat)) := ⟨_, rfl⟩
            rw [← hV2] at H10
            rw [← hV2]
            clear hV2 e0 e1 e2 e3
            have e0 : V2.cell? ⟨bp, 0, none⟩ = some (.int .i64 0) := (or_box H10.out).cell rfl
            have e1 : V2.cell? ⟨bp, 1, none⟩ = some (.int .i64 p) := (or_box H10.out).cell rfl
            obtain ⟨xs1, x1, g1, g2, hPt⟩ := Held.partS A H10.out HF1.out HO1.out HM1.out
            have HG1 := Lib.hid g1
            have HG2 := Lib.hid g2
            have HPt := Lib.hid (show Calls Tryz.prog 22 #[.pointer (some ⟨x, 0, none⟩), .agg #[.int .i64 0, .int .i64 p]] V2 fun e w' => e = .returned (.tuple #[.pointer (some ⟨x1, 0, none⟩), .int .i64 0]) ∧ Still V2 w' from hPt V2 (Turned.refl _ _))
            have HPb := Lib.hid (fun (W : World) (h : Still V2 W) => by
              have := Held.pubS B (H10.out.still h) HF1.out HO1.out (by omega) (by omega) HM1.out HG1.out HG2.out (t : Nat) ⟨by omega, by omega⟩
              rw [HU1.out] at this
              exact this)
            clear hPt g1 g2
            go_wp2_with (first
              | (go_at_call 22; ((with_reducible refine (HPt.out).mono ?_)); rintro e w6 ⟨rfl, h6⟩)
              | (go_at_call 24; ((with_reducible refine (HPb.out _ h6).mono ?_)); rintro e w7 ⟨rfl, h7⟩; have H12 := Lib.hid h7; clear h7))
            have HOk2 := Lib.hid (HO1.out.pub HM1.out (t : Nat))
            have HFt2 := Lib.hid (fits_put HF1.out 0 p (M'.pubM (t : Nat)))
            have HEnd : Hid (∀ W, Still w7 W → OrdAt HT PT XT w W x q n r (2 * (k + 1)) (k + 1) L ⟨S1.P, putP S1.T 0 p (M'.pubM (t : Nat))⟩ tb (tls.set p t1) a8 (j + 1) c8 (ks ++ [⟨ga, m, gc, bl⟩]) b8 (j + 1) d8 (wh ++ [p])) := Lib.hid (fun W h => by
              refine ⟨?_, HFt2.out, HOk2.out, HOr1.out, ⟨by rw [List.length_append, ← HKd.out.tl.1]; rfl, rfl⟩, by rw [List.map_append, ← HKd.out.wl, HP.out]; rfl, fun y hy => ?_⟩
              · have h9 := or_nobox (H12.out.still h)
                rw [ints_snoc] at h9
                have e : (ks ++ [(⟨ga, m, gc, bl⟩ : Sl UInt8)]).map kvS = ks.map kvS ++ [.slice ga m gc] := by rw [List.map_append]; rfl
                unfold orR
                rw [e]
                exact h9
              · rcases List.mem_append.1 hy with hy | hy
                · exact HKd.out.each y hy
                · rw [List.mem_singleton.1 hy]; exact ⟨HSm.out, HBt.out.2.symm, HBt.out.1⟩)
            go_loopw [21] (fun i wx => ∃ u : Nat, u ≤ n ∧ i = .int .i64 u ∧ Still w7 wx) (fun i _ => n - (intOf i).toNat)
            case atStart => exact ⟨0, Nat.zero_le _, rfl, Turned.refl _ _⟩
            case round =>
              obtain ⟨u, hu1, rfl, hst⟩ := hrel
              have HSu := Lib.hid hst
              clear hst
              by_cases hlt3 : u < n
              · have hui : (u : Int) < (n : Int) := by omega
                obtain ⟨Mu, hMu, _, _, _, hTu⟩ := ord_prt HOr1.out hlt3
                obtain ⟨xs2, x2, g1, g2, hPt⟩ := Held.partS A (H12.out.still HSu.out) HFt2.out HOk2.out hMu
                have HPu := Lib.hid (show Calls Tryz.prog 22 #[.pointer (some ⟨x, 0, none⟩), .agg #[.int .i64 0, .int .i64 u]] wr fun e w' => e = .returned (.tuple #[.pointer (some ⟨x2, 0, none⟩), .int .i64 0]) ∧ Still wr w' from hPt wr (Turned.refl _ _))
                have HTl := Lib.hid (fun (W : World) (h : Still wr W) => Held.tailS B (H12.out.still HSu.out) HFt2.out HOk2.out (by omega) (by omega) hMu g1 g2 W h)
                have HZu := Lib.hid (fun (W : World) (h : Still wr W) => show W.cell? ⟨tb, u, none⟩ = some (.int .i64 (Mu.tail : Nat)) from (Held.blk ((Held.turn (H12.out.still (HSu.out.trans h))).drop)).cell (ints_get (nums_get hTu)))
                generalize Mu.tail = tu at *
                clear hMu hTu hPt g1 g2
                go_wp2_with (go_at_call 22; ((with_reducible refine (HPu.out).mono ?_)); rintro e w6 ⟨rfl, h6⟩; have h6d : Still wr w6.drew := h6.drew; have z6 := HZu.out _ h6; have z6d := HZu.out _ h6d)
                go_region_held3 (fun Z => Z.cell? ⟨tb, u, none⟩ = some (.int .i64 tu)) (first | assumption | go_keep) (first | (go_at_call 32; ((with_reducible refine (HTl.out _ h6d).mono ?_)); rintro e w8 ⟨rfl, h8⟩; have h68 : Still wr w8 := h6d.trans h8; have z8 := HZu.out _ h68))
                all_goals (
                  go_wp2_with fail
                  go_roundw
                  case rel => exact ⟨u + 1, by omega, by go_num, HSu.out.trans h68⟩
                  case measure => simp [intOf]; omega)
              · have hge : n ≤ u := by omega
                go_wp2_with fail
                go_roundw
                case rel => exact ⟨k + 1, L, _, _, _, _, _, _, _, _, _, _, by omega, by omega, by go_num, rfl, rfl, HEnd.out _ HSu.out⟩
                case measure => simp [intOf]; omega
    · have hex : (k < sl ∧ 60 ≤ k) ∨ sl ≤ k := by omega
      obtain ⟨xs1, x1, g1, g2, hPt⟩ := Held.partS A HK.out.held HK.out.fits HK.out.ok (ord_other HK.out.ord)
      have HPt := Lib.hid (show Calls Tryz.prog 22 #[.pointer (some ⟨x, 0, none⟩), .agg #[.int .i64 1, .int .i64 0]] wr fun e w' => e = .returned (.tuple #[.pointer (some ⟨x1, 0, none⟩), .int .i64 0]) ∧ Still wr w' from hPt wr (Turned.refl _ _))
      have HTl := Lib.hid (fun (W : World) (h : Still wr W) => show Calls Tryz.prog 32 #[.pointer (some ⟨x1, 0, none⟩)] W fun e w' => e = .returned (.int .i64 0) ∧ Still W w' from
        Held.tailS B HK.out.held HK.out.fits HK.out.ok (by omega) (by omega) (ord_other HK.out.ord) g1 g2 W h)
      have HGr := Lib.hid HK.out.held.ground
      clear hPt g1 g2 hin HK
      rcases hex with ⟨q1, q2⟩ | q1
      all_goals (
        go_wp2_with (first
          | (go_at_call 22; ((with_reducible refine (HPt.out).mono ?_)); rintro e w6 ⟨rfl, h6⟩)
          | (go_at_call 32; ((with_reducible refine (HTl.out _ h6).mono ?_)); rintro e w7 ⟨rfl, h7⟩))
        go_ret
        exact ⟨rfl, (HGr.out.trans h6).trans h7⟩)
end Go.Proofs.YtmmkcfiecgpkpaaGreat
