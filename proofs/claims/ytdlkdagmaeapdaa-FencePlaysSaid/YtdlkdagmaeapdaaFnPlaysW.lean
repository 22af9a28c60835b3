/- FencePlays: the walk: the program's track beside the document's. No condition but the words. -/
import Derived.Test.YtdlkdagmaeapdaaFnTwo
import Derived.Test.YtdlkdagmaeapdaaActs18
import Derived.Deep.DeepCutAuto
import Derived.Deep.CutBlock
import Derived.Deep.CutRange
namespace Go.Proofs.Ytdlkdagmaeapdaa
open Go.RowKit
set_option linter.unusedVariables false
set_option linter.unusedSimpArgs false
set_option maxRecDepth 100000

theorem tg_end {FT : Nat → FnM → Thing} {w V : World} {q z : Nat} {R : Thing} (H : Tg FT w V q z R) : ∃ (l : Nat) (f : Int), (0 ≤ f ∧ f ≤ 1099511627776) ∧
    ∀ V3, Still V V3 → V3.cell? ⟨z, 0, none⟩ = some (.pointer (some ⟨l, 0, none⟩)) ∧ Calls Try.prog 11 #[.pointer (some ⟨l, 0, none⟩)] V3 fun e w'' => e = .returned (.int .i64 f) ∧ Still V w'' := by
  obtain ⟨M, m1, m2⟩ := H
  obtain ⟨_, ⟨l, hz⟩, _⟩ := m2.turn.fst
  have h1 := m1.led.len
  have h7 := (endF_le m1.led.ch).1
  have h8 := m1.led.lo
  refine ⟨l, M.L.fin, ⟨by unfold LgM.fin; omega, m1.led.hi⟩, fun V3 hs => ?_⟩
  have hz3 := Thing.keep _ hz hs (fun _ _ h => h)
  obtain ⟨c0, c1, W1, hl⟩ := zfn_cells hz3
  exact ⟨c0, (zlgend_any hl m1.led).mono fun e w' ⟨he, ht⟩ => ⟨he, hs.trans ht⟩⟩
set_option maxHeartbeats 16000000 in
theorem fplays_walk {FT : Nat → FnM → Thing} {LT : Nat → LgM → Thing} (A : FenceApi FT LT) (AL : LedgerApi LT) (a : Int) (t : Sl Act18) (w : World) (h0 : (Lit.int .i64 a).wf = true) (h1 : SlOk encAct18 okAct18 5 w t) :
    Calls Try.prog 3 #[.int .i64 a, .slice t.a t.len t.cap] w fun e w' => e = .returned (.bool true) ∧ Still w w' := by
  have HWk := Lib.hid (fun V => works18 A V)
  by_cases hr : 0 ≤ a ∧ a ≤ 1099511627776
  · obtain ⟨ha0, ha1⟩ := hr
    obtain ⟨ta, tl, tc, tx⟩ := t
    have htcap : tl ≤ tc := h1.le
    have htmax : tc ≤ maxLen := h1.max
    unfold maxLen at htmax
    have HTX := Lib.hid h1
    have HTL : Hid (tx.length = tl) := Lib.hid h1.len
    have HMk := Lib.hid (A.make_ok a w ha0 ha1)
    have HZk := Lib.hid (fun V (q : Nat) (H : FNew FT w (FnM.new a) q V) => show Calls Try.prog 9 #[.int .i64 a] V fun e w' => ∃ z, e = .returned (.tuple #[.pointer (some ⟨z, 0, none⟩), .int .i64 0]) ∧ Tf FT w w' q z from
      (zfnmake_ok a V ha0 ha1).mono fun e w' ⟨z, he, hn⟩ => ⟨z, he, FnM.new a, FnM.new_ok ha0 ha1, (((Held.start (Turned.refl _ w)).new H).new hn).turn⟩)
    dsimp only
    clear h1 h0
    go_enter Try.func3, Try.ntmps3
    go_wp2_with (first
      | (go_at_call 8; ((with_reducible refine HMk.out.mono ?_)); rintro e w1 ⟨q, rfl, hN⟩; have HN := Lib.hid hN; clear hN)
      | (go_at_call 9; ((with_reducible refine (HZk.out _ _ HN.out).mono ?_)); rintro e w2 ⟨z, rfl, hT⟩; have T2 := Lib.hid hT; clear hT))
    clear HMk HZk HN
    go_loopw [9] (fun i wr => ∃ k : Nat, k ≤ tl ∧ k ≤ 150 ∧ i = .int .i64 k ∧ Tf FT w wr q z) (fun i _ => tl - (intOf i).toNat)
    case atStart => exact ⟨0, Nat.zero_le _, Nat.zero_le _, rfl, T2.out⟩
    case round =>
      clear T2
      obtain ⟨k, hk, hk1, rfl, hI⟩ := hrel
      by_cases hin : k < tl ∧ k < 150
      · obtain ⟨hlt, h150⟩ := hin
        obtain ⟨x, hx⟩ := get_some (l := tx) (i := k) (by rw [HTL.out]; exact hlt)
        obtain ⟨b, o, rfl, hc⟩ := HTX.out.row k x hx
        obtain ⟨_, hok1, hok2, hok3, _⟩ : okAct18 w x := HTX.out.each x (List.mem_of_getElem? hx)
        have hT := hI.ground
        obtain ⟨d, nn, hh, tt, near⟩ := x
        obtain ⟨n1, n2⟩ := i64_of18 hok1
        obtain ⟨p1, p2⟩ := i64_of18 hok2
        obtain ⟨t1, t2⟩ := i64_of18 hok3
        have c0 := still_cell hT (hc 0 _ rfl) rfl
        have c1 := still_cell hT (hc 1 _ rfl) rfl
        have c2 := still_cell hT (hc 2 _ rfl) rfl
        have c3 := still_cell hT (hc 3 _ rfl) rfl
        have c4 := still_cell hT (hc 4 _ rfl) rfl
        rw [show o + (k * 5 + 0) = o + k * 5 from rfl] at c0
        rw [← Nat.add_assoc] at c1 c2 c3 c4
        have hG := Tf.box hI [.int .i64 d, .int .i64 nn, .int .i64 hh, .int .i64 tt, .bool near] 32
        obtain ⟨B, hB⟩ : ∃ B, B = wr.heap.size := ⟨_, rfl⟩
        rw [← hB] at hG
        have HG := Lib.hid hG
        have hb := hG.rest.blk
        have a0 := hb.cell (o := 0) rfl
        have a1 := hb.cell (o := 1) rfl
        have a2 := hb.cell (o := 2) rfl
        have a3 := hb.cell (o := 3) rfl
        have a4 := hb.cell (o := 4) rfl
        have hki : (k : Int) < (tl : Int) := by omega
        have HBw := Lib.hid hB
        rw [hB] at a0 a1 a2 a3 a4
        clear hx hc hT hI hok1 hok2 hok3 hG hb hB
        dsimp only at n1 n2 p1 p2 t1 t2 c0 c1 c2 c3 c4
        have HW0 := Lib.hid (show Still wr (wr.alloc (.cells #[.int .i64 d, .int .i64 nn, .int .i64 hh, .int .i64 tt, .bool near] 32)) from (Turned.refl _ _).alloc _)
        have HBc := Lib.hid (fun V (H : Held w V (blkT B [.int .i64 d, .int .i64 nn, .int .i64 hh, .int .i64 tt, .bool near] 32)) => (⟨H.blk.cell (o := 0) rfl, H.blk.cell (o := 1) rfl, H.blk.cell (o := 2) rfl, H.blk.cell (o := 3) rfl⟩ : V.cell? ⟨B, 0, none⟩ = some (.int .i64 d) ∧ V.cell? ⟨B, 1, none⟩ = some (.int .i64 nn) ∧ V.cell? ⟨B, 2, none⟩ = some (.int .i64 hh) ∧ V.cell? ⟨B, 3, none⟩ = some (.int .i64 tt)))
        go_upto_if 61 with fail
        rw [← HBw.out]
        rw [← HBw.out] at a0 a1 a2 a3 a4
        obtain ⟨W0, hW0⟩ : ∃ W0, W0 = wr.alloc (.cells #[.int .i64 d, .int .i64 nn, .int .i64 hh, .int .i64 tt, .bool near] 32) := ⟨_, rfl⟩
        rw [← hW0]
        rw [← hW0] at a0 a1 a2 a3 a4 HG HW0
        clear hW0 HBw c0 c1 c2 c3 c4
        go_cut [11] from 44 to 180 (fun s11 wx => ∃ N : Int, s11 = .int .i64 N ∧ (-9223372036854775808 ≤ N ∧ N ≤ 9223372036854775807) ∧ Tg FT w wx q z (blkT B [.int .i64 d, .int .i64 nn, .int .i64 hh, .int .i64 tt, .bool near] 32))
        case first =>
          obtain ⟨l, f, ⟨hf1, hf2⟩, hE⟩ := tg_end HG.out
          have HE := Lib.hid hE
          obtain ⟨u, hu⟩ : ∃ u, u = am nn 9 := ⟨_, rfl⟩
          have hul : u < 9 := by rw [hu]; exact am_lt _ (by omega)
          have B1 := Lib.hid (fun W => among_lit nn 9 9 u rfl hu (by omega) (by omega) W)
          have HC := Lib.hid (fun V (hs : Still W0 V) => (⟨(hE V hs).1, (HBc.out V (HG.out.rest.still hs)).2.1⟩ : V.cell? ⟨z, 0, none⟩ = some (.pointer (some ⟨l, 0, none⟩)) ∧ V.cell? ⟨B, 1, none⟩ = some (.int .i64 nn)))
          have hT0 : Still W0 W0 := Turned.refl _ _
          obtain ⟨z0, _⟩ := HC.out W0 hT0
          have hTd : Still W0 W0.drew := hT0.drew
          clear hE hu
          cases near with
          | false =>
            go_wp2_with fail
            go_meet
            exact ⟨nn, rfl, ⟨n1, n2⟩, HG.out⟩
          | true =>
            clear a0 a2 a3 a4
            go_wp2_with fail
            go_region_held3 (fun V => V.cell? ⟨z, 0, none⟩ = some (.pointer (some ⟨l, 0, none⟩)) ∧ V.cell? ⟨B, 1, none⟩ = some (.int .i64 nn)) (first | assumption | exact ⟨by assumption, by assumption⟩ | go_keep) (first
              | (go_at_call 11; ((with_reducible refine ((HE.out _ (by assumption)).2.mono ?_)); rintro e w3 ⟨rfl, hT3⟩; obtain ⟨g0, g1⟩ := HC.out w3 hT3))
              | (go_at_call 12; ((with_reducible refine (B1.out _).mono ?_)); rintro e wb ⟨rfl, hwb⟩; subst hwb))
            all_goals (
              go_wp2_with fail
              go_meet
              exact ⟨f + u - 2, by simp only [IntKind.wrap_i64]; congr 1; omega, ⟨by omega, by omega⟩, HG.out.still (by assumption)⟩)
        case rest =>
          obtain ⟨N, rfl, ⟨hN1, hN2⟩, hG⟩ := hcut
          have HGx := Lib.hid hG
          obtain ⟨a0, a1, a2, a3⟩ := HBc.out _ hG.rest
          clear hG HG
          obtain ⟨v, hv⟩ : ∃ v, v = am d 9 := ⟨_, rfl⟩
          have hvl : v < 9 := by rw [hv]; exact am_lt _ (by omega)
          have B1 := Lib.hid (fun W => among_lit d 9 9 v rfl hv (by omega) (by omega) W)
          have HDl := Lib.hid (tg_del A HGx.out hh tt p1 p2 t1 t2)
          have HCo := Lib.hid (tg_com A HGx.out N hN1 hN2)
          have HSk := Lib.hid (fun V hs => tg_seek A (HGx.out.still (V2 := V) hs) N hh tt hN1 hN2 p1 p2 t1 t2)
          have HPk := Lib.hid (tg_peek A HGx.out hh tt p1 p2 t1 t2)
          have HBk := Lib.hid (tg_back A HGx.out)
          have HSm := Lib.hid (fun V (H : Tg FT w V q z (blkT B [.int .i64 d, .int .i64 nn, .int .i64 hh, .int .i64 tt, .bool near] 32)) => (same18_tg A AL H).mono fun e w' ⟨he, hs⟩ => (⟨he, H.only.still hs⟩ : e = Ending.returned (.bool true) ∧ Tf FT w w' q z))
          clear hv HGx HBc HW0 hN1 hN2 n1 n2 p1 p2 t1 t2
          rcases (show v = 0 ∨ v = 1 ∨ v = 2 ∨ v = 3 ∨ v = 4 ∨ v = 5 ∨ v = 6 ∨ v = 7 ∨ v = 8 by omega) with rfl | rfl | rfl | rfl | rfl | rfl | rfl | rfl | rfl
          · as_aux_lemma =>
              go_wp2_with (first
                | (go_at_call 12; ((with_reducible refine (B1.out _).mono ?_)); rintro e wb ⟨rfl, hwb⟩; subst hwb)
                | (go_at_call 13; obtain ⟨v5, r5, h5⟩ := HDl.out; ((with_reducible refine h5.mono ?_)); rintro e w5 ⟨rfl, hR, h6⟩; have H5 := Lib.hid h6; have g2 := hR.blk.cell (o := 2) (v := .int .i64 hh) rfl; have g3 := hR.blk.cell (o := 3) (v := .int .i64 tt) rfl; clear h5 h6 hR)
                | (go_at_call 15; obtain ⟨r5, h5⟩ := HCo.out; ((with_reducible refine h5.mono ?_)); rintro e w5 ⟨rfl, hR, h6⟩; have H5 := Lib.hid h6; clear h5 h6 hR)
                | (go_at_call 14; ((with_reducible refine (H5.out _ (Turned.refl _ _)).mono ?_)); rintro e w6 ⟨rfl, h⟩; have T6 := Lib.hid h; clear h)
                | (go_at_call 16; ((with_reducible refine (H5.out _ (Turned.refl _ _)).mono ?_)); rintro e w6 ⟨rfl, h⟩; have T6 := Lib.hid h; clear h)
                | (go_at_call 22; ((with_reducible refine (HSm.out _ T6.out).mono ?_)); rintro e w7 ⟨rfl, h⟩; have TF := Lib.hid h; clear h))
              go_roundw
              case rel => exact ⟨k + 1, by omega, by omega, by go_num, TF.out⟩
              case measure => simp [intOf]; omega
          · as_aux_lemma =>
              go_wp2_with (first
                | (go_at_call 12; ((with_reducible refine (B1.out _).mono ?_)); rintro e wb ⟨rfl, hwb⟩; subst hwb)
                | (go_at_call 13; obtain ⟨v5, r5, h5⟩ := HDl.out; ((with_reducible refine h5.mono ?_)); rintro e w5 ⟨rfl, hR, h6⟩; have H5 := Lib.hid h6; have g2 := hR.blk.cell (o := 2) (v := .int .i64 hh) rfl; have g3 := hR.blk.cell (o := 3) (v := .int .i64 tt) rfl; clear h5 h6 hR)
                | (go_at_call 15; obtain ⟨r5, h5⟩ := HCo.out; ((with_reducible refine h5.mono ?_)); rintro e w5 ⟨rfl, hR, h6⟩; have H5 := Lib.hid h6; clear h5 h6 hR)
                | (go_at_call 14; ((with_reducible refine (H5.out _ (Turned.refl _ _)).mono ?_)); rintro e w6 ⟨rfl, h⟩; have T6 := Lib.hid h; clear h)
                | (go_at_call 16; ((with_reducible refine (H5.out _ (Turned.refl _ _)).mono ?_)); rintro e w6 ⟨rfl, h⟩; have T6 := Lib.hid h; clear h)
                | (go_at_call 22; ((with_reducible refine (HSm.out _ T6.out).mono ?_)); rintro e w7 ⟨rfl, h⟩; have TF := Lib.hid h; clear h))
              go_roundw
              case rel => exact ⟨k + 1, by omega, by omega, by go_num, TF.out⟩
              case measure => simp [intOf]; omega
          · as_aux_lemma =>
              go_wp2_with (first
                | (go_at_call 12; ((with_reducible refine (B1.out _).mono ?_)); rintro e wb ⟨rfl, hwb⟩; subst hwb)
                | (go_at_call 13; obtain ⟨v5, r5, h5⟩ := HDl.out; ((with_reducible refine h5.mono ?_)); rintro e w5 ⟨rfl, hR, h6⟩; have H5 := Lib.hid h6; have g2 := hR.blk.cell (o := 2) (v := .int .i64 hh) rfl; have g3 := hR.blk.cell (o := 3) (v := .int .i64 tt) rfl; clear h5 h6 hR)
                | (go_at_call 15; obtain ⟨r5, h5⟩ := HCo.out; ((with_reducible refine h5.mono ?_)); rintro e w5 ⟨rfl, hR, h6⟩; have H5 := Lib.hid h6; clear h5 h6 hR)
                | (go_at_call 14; ((with_reducible refine (H5.out _ (Turned.refl _ _)).mono ?_)); rintro e w6 ⟨rfl, h⟩; have T6 := Lib.hid h; clear h)
                | (go_at_call 16; ((with_reducible refine (H5.out _ (Turned.refl _ _)).mono ?_)); rintro e w6 ⟨rfl, h⟩; have T6 := Lib.hid h; clear h)
                | (go_at_call 22; ((with_reducible refine (HSm.out _ T6.out).mono ?_)); rintro e w7 ⟨rfl, h⟩; have TF := Lib.hid h; clear h))
              go_roundw
              case rel => exact ⟨k + 1, by omega, by omega, by go_num, TF.out⟩
              case measure => simp [intOf]; omega
          · as_aux_lemma =>
              go_wp2_with (first
                | (go_at_call 12; ((with_reducible refine (B1.out _).mono ?_)); rintro e wb ⟨rfl, hwb⟩; subst hwb)
                | (go_at_call 13; obtain ⟨v5, r5, h5⟩ := HDl.out; ((with_reducible refine h5.mono ?_)); rintro e w5 ⟨rfl, hR, h6⟩; have H5 := Lib.hid h6; have g2 := hR.blk.cell (o := 2) (v := .int .i64 hh) rfl; have g3 := hR.blk.cell (o := 3) (v := .int .i64 tt) rfl; clear h5 h6 hR)
                | (go_at_call 15; obtain ⟨r5, h5⟩ := HCo.out; ((with_reducible refine h5.mono ?_)); rintro e w5 ⟨rfl, hR, h6⟩; have H5 := Lib.hid h6; clear h5 h6 hR)
                | (go_at_call 14; ((with_reducible refine (H5.out _ (Turned.refl _ _)).mono ?_)); rintro e w6 ⟨rfl, h⟩; have T6 := Lib.hid h; clear h)
                | (go_at_call 16; ((with_reducible refine (H5.out _ (Turned.refl _ _)).mono ?_)); rintro e w6 ⟨rfl, h⟩; have T6 := Lib.hid h; clear h)
                | (go_at_call 22; ((with_reducible refine (HSm.out _ T6.out).mono ?_)); rintro e w7 ⟨rfl, h⟩; have TF := Lib.hid h; clear h))
              go_roundw
              case rel => exact ⟨k + 1, by omega, by omega, by go_num, TF.out⟩
              case measure => simp [intOf]; omega
          · as_aux_lemma =>
              go_wp2_with (first
                | (go_at_call 12; ((with_reducible refine (B1.out _).mono ?_)); rintro e wb ⟨rfl, hwb⟩; subst hwb)
                | (go_at_call 13; obtain ⟨v5, r5, h5⟩ := HDl.out; ((with_reducible refine h5.mono ?_)); rintro e w5 ⟨rfl, hR, h6⟩; have H5 := Lib.hid h6; have g2 := hR.blk.cell (o := 2) (v := .int .i64 hh) rfl; have g3 := hR.blk.cell (o := 3) (v := .int .i64 tt) rfl; clear h5 h6 hR)
                | (go_at_call 15; obtain ⟨r5, h5⟩ := HCo.out; ((with_reducible refine h5.mono ?_)); rintro e w5 ⟨rfl, hR, h6⟩; have H5 := Lib.hid h6; clear h5 h6 hR)
                | (go_at_call 14; ((with_reducible refine (H5.out _ (Turned.refl _ _)).mono ?_)); rintro e w6 ⟨rfl, h⟩; have T6 := Lib.hid h; clear h)
                | (go_at_call 16; ((with_reducible refine (H5.out _ (Turned.refl _ _)).mono ?_)); rintro e w6 ⟨rfl, h⟩; have T6 := Lib.hid h; clear h)
                | (go_at_call 22; ((with_reducible refine (HSm.out _ T6.out).mono ?_)); rintro e w7 ⟨rfl, h⟩; have TF := Lib.hid h; clear h))
              go_roundw
              case rel => exact ⟨k + 1, by omega, by omega, by go_num, TF.out⟩
              case measure => simp [intOf]; omega
          · as_aux_lemma =>
              go_wp2_with (first
                | (go_at_call 12; ((with_reducible refine (B1.out _).mono ?_)); rintro e wb ⟨rfl, hwb⟩; subst hwb)
                | (go_at_call 13; obtain ⟨v5, r5, h5⟩ := HDl.out; ((with_reducible refine h5.mono ?_)); rintro e w5 ⟨rfl, hR, h6⟩; have H5 := Lib.hid h6; have g2 := hR.blk.cell (o := 2) (v := .int .i64 hh) rfl; have g3 := hR.blk.cell (o := 3) (v := .int .i64 tt) rfl; clear h5 h6 hR)
                | (go_at_call 15; obtain ⟨r5, h5⟩ := HCo.out; ((with_reducible refine h5.mono ?_)); rintro e w5 ⟨rfl, hR, h6⟩; have H5 := Lib.hid h6; clear h5 h6 hR)
                | (go_at_call 14; ((with_reducible refine (H5.out _ (Turned.refl _ _)).mono ?_)); rintro e w6 ⟨rfl, h⟩; have T6 := Lib.hid h; clear h)
                | (go_at_call 16; ((with_reducible refine (H5.out _ (Turned.refl _ _)).mono ?_)); rintro e w6 ⟨rfl, h⟩; have T6 := Lib.hid h; clear h)
                | (go_at_call 22; ((with_reducible refine (HSm.out _ T6.out).mono ?_)); rintro e w7 ⟨rfl, h⟩; have TF := Lib.hid h; clear h))
              go_roundw
              case rel => exact ⟨k + 1, by omega, by omega, by go_num, TF.out⟩
              case measure => simp [intOf]; omega
          · as_aux_lemma =>
              have hT0 : Still wc wc := Turned.refl _ _
              have hTd : Still wc wc.drew := hT0.drew
              go_wp2_with (go_at_call 12; ((with_reducible refine (B1.out _).mono ?_)); rintro e wb ⟨rfl, hwb⟩; subst hwb)
              go_region_held3 (fun V => V.cell? ⟨B, 2, none⟩ = some (.int .i64 hh) ∧ V.cell? ⟨B, 3, none⟩ = some (.int .i64 tt)) (first | assumption | exact ⟨by assumption, by assumption⟩ | go_keep) (first
                | (go_at_call 17; obtain ⟨r5, h5⟩ := HSk.out _ (by assumption); ((with_reducible refine h5.mono ?_)); rintro e w5 ⟨rfl, hR, h6⟩; have H5 := Lib.hid h6; have g2 := hR.blk.cell (o := 2) (v := .int .i64 hh) rfl; have g3 := hR.blk.cell (o := 3) (v := .int .i64 tt) rfl; clear h5 h6 hR)
                | (go_at_call 18; ((with_reducible refine (H5.out _ (Turned.refl _ _)).mono ?_)); rintro e w6 ⟨rfl, h⟩; have T6 := Lib.hid h; have f2 := h.rest.blk.cell (o := 2) (v := .int .i64 hh) rfl; have f3 := h.rest.blk.cell (o := 3) (v := .int .i64 tt) rfl; clear h))
              all_goals (
                go_wp2_with (go_at_call 22; ((with_reducible refine (HSm.out _ T6.out).mono ?_)); rintro e w7 ⟨rfl, h⟩; have TF := Lib.hid h; clear h)
                go_roundw
                case rel => exact ⟨k + 1, by omega, by omega, by go_num, TF.out⟩
                case measure => simp [intOf]; omega)
          · as_aux_lemma =>
              go_wp2_with (first
                | (go_at_call 12; ((with_reducible refine (B1.out _).mono ?_)); rintro e wb ⟨rfl, hwb⟩; subst hwb)
                | (go_at_call 19; ((with_reducible refine HBk.out.mono ?_)); rintro e w5 ⟨rfl, hR, l, f, N0, hcs, hen, htg⟩; have HCs := Lib.hid hcs; have HEn := Lib.hid hen; have HTg := Lib.hid htg; obtain ⟨y0, y1, y2⟩ := hcs _ (Turned.refl _ _); clear hcs hen htg hR)
                | (go_at_call 11; ((with_reducible refine (HEn.out _ (Turned.refl _ _)).mono ?_)); rintro e w6 ⟨rfl, hT6⟩; obtain ⟨x0, x1, x2⟩ := HCs.out _ hT6)
                | (go_at_call 22; ((with_reducible refine (HSm.out _ (HTg.out _ hT6)).mono ?_)); rintro e w7 ⟨rfl, h⟩; have TF := Lib.hid h; clear h))
              go_roundw
              case rel => exact ⟨k + 1, by omega, by omega, by go_num, TF.out⟩
              case measure => simp [intOf]; omega
          · as_aux_lemma =>
              go_wp2_with (first
                | (go_at_call 12; ((with_reducible refine (B1.out _).mono ?_)); rintro e wb ⟨rfl, hwb⟩; subst hwb)
                | (go_at_call 20; obtain ⟨v5, r5, h5⟩ := HPk.out; ((with_reducible refine h5.mono ?_)); rintro e w5 ⟨rfl, hR, h6⟩; have H5 := Lib.hid h6; have g2 := hR.blk.cell (o := 2) (v := .int .i64 hh) rfl; have g3 := hR.blk.cell (o := 3) (v := .int .i64 tt) rfl; clear h5 h6 hR)
                | (go_at_call 21; ((with_reducible refine (H5.out _ (Turned.refl _ _)).mono ?_)); rintro e w6 ⟨rfl, h⟩; have T6 := Lib.hid h; clear h)
                | (go_at_call 22; ((with_reducible refine (HSm.out _ T6.out).mono ?_)); rintro e w7 ⟨rfl, h⟩; have TF := Lib.hid h; clear h))
              go_roundw
              case rel => exact ⟨k + 1, by omega, by omega, by go_num, TF.out⟩
              case measure => simp [intOf]; omega
      · have hex : (k < tl ∧ 150 ≤ k) ∨ tl ≤ k := by omega
        clear hin
        have HWk1 := Lib.hid ((HWk.out wr).mono fun e w' ⟨he, hs⟩ => (And.intro he (hI.ground.trans hs) : e = Ending.returned (.bool true) ∧ Still w w'))
        clear hI
        rcases hex with ⟨q1, q2⟩ | q1
        all_goals (
          go_wp2_with (go_at_call 10; ((with_reducible refine HWk1.out.mono ?_)); rintro e w8 ⟨rfl, hs⟩; have H8 := Lib.hid hs; clear hs)
          go_ret
          exact ⟨rfl, H8.out⟩)
  · have HMk := Lib.hid (A.make_no a w hr)
    have HZk := Lib.hid (fun V => zfnmake_no a V hr)
    clear h0 h1 hr
    go_enter Try.func3, Try.ntmps3
    go_wp2_with (first
      | (go_at_call 8; ((with_reducible refine HMk.out.mono ?_)); rintro e w1 ⟨rfl, hs⟩; have S1 := Lib.hid hs; clear hs)
      | (go_at_call 9; ((with_reducible refine (HZk.out _).mono ?_)); rintro e w2 ⟨rfl, hs⟩; have S2 := Lib.hid (S1.out.trans hs); clear hs)
      | (go_at_call 10; ((with_reducible refine (HWk.out _).mono ?_)); rintro e w8 ⟨rfl, hs⟩; have H8 := Lib.hid (S2.out.trans hs); clear hs))
    go_ret
    exact ⟨rfl, H8.out⟩
end Go.Proofs.Ytdlkdagmaeapdaa
