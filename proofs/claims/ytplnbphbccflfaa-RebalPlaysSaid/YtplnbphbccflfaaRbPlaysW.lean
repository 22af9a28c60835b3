/- RebalPlays: the walk: the program's table beside the document's. No condition but that the program's table keeps its words. -/
import Derived.Test.YtplnbphbccflfaaRbTwo
import Derived.Test.YtplnbphbccflfaaRbLem
namespace Go.Proofs.Ytplnbphbccflfaa
open Go.RowKit
set_option linter.unusedVariables false
set_option linter.unusedSimpArgs false
set_option maxRecDepth 100000

theorem nums_take17 {w : World} {a : Option Addr} {l : List Int} (h : NumsAt w a l) (n : Nat) : NumsAt w a (l.take n) := fun i x hx => by
  rw [List.getElem?_take] at hx
  split at hx
  · exact h i x hx
  · cases hx
set_option maxHeartbeats 32000000 in
theorem rbplays_walk {BT : Nat → TbM → Thing} (A : RebalApi BT) (t : Sl Act17) (s : Sl Plc) (w : World) (h1 : SlOk encAct17 okAct17 3 w t) (h2 : SlOk encPl okPl 2 w s) :
    Calls Try.prog 3 #[.slice t.a t.len t.cap, .slice s.a s.len s.cap] w fun e w' => e = .returned (.bool true) ∧ Still w w' := by
  have HWk := Lib.hid (fun V => works17 A V)
  have HMk := Lib.hid (show Calls Try.prog 8 #[] w fun e w' => ∃ q, e = .returned (.pointer (some ⟨q, 0, none⟩)) ∧ Held w w' (BT q TbM.new) from
    (A.make_ w).mono fun e w' ⟨q, he, hn⟩ => ⟨q, he, ((Held.start (Turned.refl _ w)).new hn).drop⟩)
  have HZk := Lib.hid (fun (V : World) (q : Nat) (H : Held w V (BT q TbM.new)) => show Calls Try.prog 9 #[] V fun e w' => ∃ z, e = .returned (.pointer (some ⟨z, 0, none⟩)) ∧ Held w w' ((BT q TbM.new).sep (zbT z TbM.new)) from
    (zrbmake_any V).mono fun e w' ⟨z, he, hn⟩ => ⟨z, he, (H.new hn).swap⟩)
  obtain ⟨ta, tl, tc, tx⟩ := t
  have HTX := Lib.hid h1
  have HTL : Hid (tx.length = tl) := Lib.hid h1.len
  obtain ⟨oa, ol, oc, ox⟩ := s
  have hol : ol ≤ oc := h2.le
  obtain ⟨om, hmn⟩ : ∃ om, om = min ol 300 := ⟨_, rfl⟩
  have hif2 : (if (300 : Int) < (ol : Int) then (300 : Int) else (ol : Int)) = (om : Int) := by split <;> omega
  have hoc : om ≤ oc := by omega
  have hom3 : om ≤ 300 := by omega
  obtain ⟨od, hod⟩ : ∃ od, od = ox.take om := ⟨_, rfl⟩
  have HOm := Lib.hid (show om = od.length from by rw [hod, List.length_take, h2.len]; show om = min om ol; omega)
  have HOd := Lib.hid (fun V (hs : Still w V) => show PlAt V oa od from by rw [hod]; exact row_take (row_still h2.row hs) om)
  have HO0 := Lib.hid (show oa = none → om = 0 ∧ oc = 0 from fun e => by
    have := h2.none e
    have h3 : ol = 0 := this.1
    have h4 : oc = 0 := this.2
    omega)
  clear h1 h2 hmn hod hol
  dsimp only
  go_enter Try.func3, Try.ntmps3
  go_wp2_with (first
    | (go_at_call 8; ((with_reducible refine HMk.out.mono ?_)); rintro e w1 ⟨x, rfl, h⟩; have K0 := Lib.hid h; clear h)
    | (go_at_call 9; ((with_reducible refine (HZk.out _ _ K0.out).mono ?_)); rintro e w2 ⟨z, rfl, h⟩; have K1 := Lib.hid h; clear h))
  clear K0 HMk HZk
  go_loopw [7] (fun i wr => ∃ (k : Nat) (M : TbM), k ≤ tl ∧ k ≤ 60 ∧ i = .int .i64 k ∧ M.Ok k ∧ Held w wr ((BT x M).sep (zbT z M))) (fun i _ => tl - (intOf i).toNat)
  case atStart => exact ⟨0, TbM.new, Nat.zero_le _, Nat.zero_le _, rfl, TbM.new_ok, K1.out⟩
  case round =>
    clear K1
    obtain ⟨k, M, hk, hk60, rfl, hMo, hH⟩ := hrel
    by_cases hin : k < tl ∧ k < 60
    · obtain ⟨hlt, h60⟩ := hin
      obtain ⟨zz, hz⟩ := get_some (l := tx) (i := k) (by rw [HTL.out]; exact hlt)
      obtain ⟨ba, o, rfl, hc⟩ := HTX.out.row k zz hz
      have hzk := HTX.out.each zz (List.mem_of_getElem? hz)
      obtain ⟨za, zn, zm⟩ := zz
      obtain ⟨ma, ml, mc, mx⟩ := zm
      have hT := hH.ground
      have y0 : wr.cell? ⟨ba, o + k * 3, none⟩ = some (.int .i64 za) := still_cell hT (hc 0 _ rfl) rfl
      have y1 : wr.cell? ⟨ba, o + k * 3 + 1, none⟩ = some (.int .i64 zn) := still_cell hT (hc 1 _ rfl) (Nat.add_assoc _ _ _)
      have y2 : wr.cell? ⟨ba, o + k * 3 + 2, none⟩ = some (.slice ma ml mc) := still_cell hT (hc 2 _ rfl) (Nat.add_assoc _ _ _)
      obtain ⟨b, hb⟩ : ∃ b, b = wr.heap.size := ⟨_, rfl⟩
      obtain ⟨Wb, hWb⟩ : ∃ Wb, Wb = wr.alloc (.cells #[.int .i64 za, .int .i64 zn, .slice ma ml mc] 30) := ⟨_, rfl⟩
      have hbx : Blk Wb b [.int .i64 za, .int .i64 zn, .slice ma ml mc] 30 := by rw [hb, hWb]; exact Blk.new wr _ _
      have HX := Lib.hid (fun V (hs : Still Wb V) => show V.cell? ⟨b, 0, none⟩ = some (.int .i64 za) ∧ V.cell? ⟨b, 1, none⟩ = some (.int .i64 zn) ∧ V.cell? ⟨b, 2, none⟩ = some (.slice ma ml mc) from
        ⟨(hbx.turned hs (fun h => h)).cell rfl, (hbx.turned hs (fun h => h)).cell rfl, (hbx.turned hs (fun h => h)).cell rfl⟩)
      have KIb := Lib.hid (hH.still (show Still wr Wb from by rw [hWb]; exact (Turned.refl _ _).alloc _))
      have hWb2 : wr.alloc (.cells #[.int .i64 za, .int .i64 zn, .slice ma ml mc] 30) = Wb := hWb.symm
      have b1 : (wr.alloc (.cells #[.int .i64 0, .int .i64 0, .slice none 0 0] 30)).cell? ⟨wr.heap.size, 0, none⟩ = some (.int .i64 0) := (Blk.new wr [.int .i64 0, .int .i64 0, .slice none 0 0] 30).cell rfl
      have hzm : SlOk encI (okI .i64) 1 w ⟨ma, ml, mc, mx⟩ := hzk.2.2
      have hmlc : ml ≤ mc := hzm.le
      obtain ⟨mm, hmm⟩ : ∃ mm, mm = min ml 12 := ⟨_, rfl⟩
      have hif : (if (12 : Int) < (ml : Int) then (12 : Int) else (ml : Int)) = (mm : Int) := by split <;> omega
      have hmmc : mm ≤ mc := by omega
      have hmm12 : mm ≤ 12 := by omega
      obtain ⟨ms, hms⟩ : ∃ ms, ms = mx.take mm := ⟨_, rfl⟩
      have hMl : mm = ms.length := by rw [hms, List.length_take, show mx.length = ml from hzm.len]; omega
      have hMa : NumsAt w ma ms := by rw [hms]; exact nums_take17 (nums_of_sl hzm) mm
      have hM0 : ma = none → mc = 0 := fun e => (hzm.none e).2
      have HSame := Lib.hid (fun (V : World) (M' : TbM) (hM' : M'.Ok (k + 1)) (H : Held w V ((BT x M').sep (zbT z M'))) => rsame_any A hM' (by omega) H)
      obtain ⟨v, hv⟩ : ∃ v, v = am za 8 := ⟨_, rfl⟩
      have hvl : v < 8 := by rw [hv]; exact am_lt _ (by omega)
      have B8 := Lib.hid (fun W => among_lit za 8 8 v rfl hv (by omega) (by omega) W)
      have hki : (k : Int) < (tl : Int) := by omega
      have hki2 : (k : Int) < 60 := by omega
      obtain ⟨n1, n2⟩ := i64_of17 hzk.2.1
      by_cases hv3 : v < 3
      · obtain ⟨u, hu⟩ : ∃ u, u = am zn 9 := ⟨_, rfl⟩
        have hul : u < 9 := by rw [hu]; exact am_lt _ (by omega)
        have B9 := Lib.hid (fun W => among_lit zn 9 9 u rfl hu (by omega) (by omega) W)
        have HPl := Lib.hid (fun V => places_any u V (by omega))
        have HBi := Lib.hid (fun V (hs : Still w V) => bints_any V ma ms mm mc hMl (hMa.still hs) (by omega) hM0)
        have HBg := Lib.hid (fun (V : World) (lo bo ao : Option Addr) (L : List Plc) (nL cl c1 c2 : Nat) (hn : nL = L.length) (hn1 : nL ≤ 1000) (H : Held w V ((((BT x M).sep (zbT z M)).sep (plsT lo nL cl L)).sep ((plsT bo nL c1 L).sep (intsT ao mm c2 ms)))) => tb_begin A hMo (by omega) (lo := lo) (bo := bo) (ao := ao) (am := ma) (cl := cl) (c1 := c1) (c2 := c2) (cm := mc) hn hMl hn1 (by omega) hMa H)
        have HW0 := Lib.hid (fun V => World.ownsRow_made (e := 49) (size := 2) V #[] 0 (Nat.le_refl _) (by simp) (by simp))
        have HSb := Lib.hid (show Still Wb Wb from Turned.refl _ _)
        by_cases h5 : za.tmod 5 = 0
        · skip
          obtain ⟨P, hP⟩ : ∃ P, P = plN u := ⟨_, rfl⟩
          have hPl : P.length = u := by rw [hP, plN_len]
          rw [← hP] at HPl
          have h5b : (za.tmod 5 == 0) = true := by simpa using h5
          obtain ⟨L, hL⟩ : ∃ L, L = P ++ od := ⟨_, rfl⟩
          obtain ⟨nL, hnL⟩ : ∃ nL, nL = u + om := ⟨_, rfl⟩
          have HnL := Lib.hid hnL
          have HLP := Lib.hid hL
          have HLl := Lib.hid (show nL = L.length from by rw [hnL, hL, List.length_append, hPl, ← HOm.out])
          have hn1 : nL ≤ 1000 := by omega
          clear hP hPl hL hnL h5
          clear hz hc hzk hzm hmlc hmm hms hMl hMa hM0 hv hT hbx hWb hH hMo n1 n2 hu
          rcases (show v = 0 ∨ v = 1 ∨ v = 2 by omega) with rfl | rfl | rfl
          all_goals (
            as_aux_lemma =>
              go_upto_region 8 with fail
              rw [← hb]
              obtain ⟨x0, x1, x2⟩ := HX.out _ HSb.out
              clear hWb2 hb b1 y0 y1 y2
              go_wp2_with (first
                | (go_at_call 10; ((with_reducible refine (B8.out _).mono ?_)); rintro e wA ⟨rfl, hwA⟩; subst hwA)
                | (go_at_call 10; ((with_reducible refine (B9.out _).mono ?_)); rintro e wE ⟨rfl, hwE⟩; subst hwE)
                | (go_at_call 11; ((with_reducible refine (HPl.out _).mono ?_)); rintro e w1 ⟨a1, c1, rfl, ho1, hs1⟩; have HO1 := Lib.hid ho1; have S1 := Lib.hid hs1; obtain ⟨u0, u1, u2⟩ := HX.out _ hs1; clear ho1 hs1)
                | (at_builtin; refine wpList_app_pl rfl _ _ rfl Wb.heap.size u nL (.slice a1 u c1) P rfl HO1.out oa om oc od rfl HOm.out (HOd.out _ (KIb.out.ground.trans S1.out)) HO0.out HnL.out (by omega) (by have := S1.out.size; omega) ?_; intro v2 w2 ho2 ht2; obtain ⟨a2, c2, rfl⟩ := ow_slice ho2; have s2 := ow_past S1.out HO1.out ht2; have K2 := Lib.hid (KIb.out.got (show w2.ownsRow Wb.heap.size 49 2 (.slice a2 nL c2) nL (rowOf encPl L) from by rw [HLP.out]; exact ho2) s2); clear ho2 ht2 s2)
                | (at_builtin; have HP2 := Lib.hid (fun V (hs : Still w2 V) => show PlAt V a2 L from row_still (RowAt.of_own encPl_len (show w2.ownsRow _ 49 2 (.slice a2 nL c2) nL (rowOf encPl L) from (by obtain ⟨_, h, _⟩ := K2.out.snd; exact h.1)) HLl.out) hs); have HN2 := Lib.hid (show a2 = none → nL = 0 ∧ c2 = 0 from fun e => (ow_le (show w2.ownsRow _ 49 2 (.slice a2 nL c2) nL (rowOf encPl L) from (by obtain ⟨_, h, _⟩ := K2.out.snd; exact h.1))).2.2 e); refine wpList_app_pl rfl _ _ rfl w2.heap.size 0 nL (.slice (some ⟨w2.heap.size, 0, none⟩) 0 0) [] rfl (HW0.out w2) a2 nL c2 L rfl HLl.out (HP2.out _ ((Turned.refl _ _).alloc _)) HN2.out (by omega) (by omega) (by simp) ?_; intro v3 w3 ho3 ht3; obtain ⟨a3, c3, rfl⟩ := ow_slice ho3; have s3 := ow_past ((Turned.refl _ _).alloc _) (HW0.out w2) ht3; have K3 := Lib.hid (K2.out.got ho3 s3); clear ho3 ht3 s3)
                | (go_at_call 13; ((with_reducible refine (HBi.out _ K3.out.ground).mono ?_)); rintro e w4 ⟨a4, c4, rfl, ho4, hs4⟩; have K4 := Lib.hid (K3.out.got ho4 hs4).assoc; clear ho4 hs4)
                | (go_at_call 12; obtain ⟨v5, E5, h5⟩ := HBg.out _ _ _ _ L nL _ _ _ HLl.out hn1 K4.out; ((with_reducible refine h5.mono ?_)); rintro e w5 ⟨rfl, h6⟩; have H5 := Lib.hid h6; clear h5 h6)
                | (go_at_call 14; ((with_reducible refine H5.out.mono ?_)); rintro e w6 ⟨rfl, M', hM', hk'⟩; have HM' := Lib.hid hM'; have K6 := Lib.hid hk'; have HSm := Lib.hid (HSame.out _ _ hM' hk'); clear hM' hk')
                | (go_at_call 17; ((with_reducible refine HSm.out.mono ?_)); rintro e w7 ⟨rfl, hs7⟩; have K7 := Lib.hid (K6.out.still hs7); clear hs7))
              go_roundw
              case rel => exact ⟨k + 1, M', by omega, by omega, by go_num, HM'.out, K7.out⟩
              case measure => simp [intOf]; omega)
        · skip
          obtain ⟨P, hP⟩ : ∃ P, P = plN u := ⟨_, rfl⟩
          have hPl : P.length = u := by rw [hP, plN_len]
          rw [← hP] at HPl
          have h5b : (za.tmod 5 == 0) = false := by simpa using h5
          obtain ⟨L, hL⟩ : ∃ L, L = P := ⟨_, rfl⟩
          obtain ⟨nL, hnL⟩ : ∃ nL, nL = u := ⟨_, rfl⟩
          have HLl := Lib.hid (show nL = L.length from by rw [hnL, hL, hPl])
          have hn1 : nL ≤ 1000 := by omega
          rw [← hnL, ← hL] at HPl
          rw [← hnL] at B9
          clear hP hPl hL hnL h5 hul
          clear hz hc hzk hzm hmlc hmm hms hMl hMa hM0 hv hT hbx hWb hH hMo n1 n2 hu
          rcases (show v = 0 ∨ v = 1 ∨ v = 2 by omega) with rfl | rfl | rfl
          all_goals (
            as_aux_lemma =>
              go_upto_region 8 with fail
              rw [← hb]
              obtain ⟨x0, x1, x2⟩ := HX.out _ HSb.out
              clear hWb2 hb b1 y0 y1 y2
              go_wp2_with (first
                | (go_at_call 10; ((with_reducible refine (B8.out _).mono ?_)); rintro e wA ⟨rfl, hwA⟩; subst hwA)
                | (go_at_call 10; ((with_reducible refine (B9.out _).mono ?_)); rintro e wE ⟨rfl, hwE⟩; subst hwE)
                | (go_at_call 11; ((with_reducible refine (HPl.out _).mono ?_)); rintro e w1 ⟨a1, c1, rfl, ho1, hs1⟩; obtain ⟨u0, u1, u2⟩ := HX.out _ hs1; have K2 := Lib.hid (KIb.out.got ho1 hs1); clear ho1 hs1)
                | (at_builtin; have HP2 := Lib.hid (fun V (hs : Still w1 V) => show PlAt V a1 L from row_still (RowAt.of_own encPl_len (show w1.ownsRow _ 49 2 (.slice a1 nL c1) nL (rowOf encPl L) from (by obtain ⟨_, h, _⟩ := K2.out.snd; exact h.1)) HLl.out) hs); have HN2 := Lib.hid (show a1 = none → nL = 0 ∧ c1 = 0 from fun e => (ow_le (show w1.ownsRow _ 49 2 (.slice a1 nL c1) nL (rowOf encPl L) from (by obtain ⟨_, h, _⟩ := K2.out.snd; exact h.1))).2.2 e); refine wpList_app_pl rfl _ _ rfl w1.heap.size 0 nL (.slice (some ⟨w1.heap.size, 0, none⟩) 0 0) [] rfl (HW0.out w1) a1 nL c1 L rfl HLl.out (HP2.out _ ((Turned.refl _ _).alloc _)) HN2.out (by omega) (by omega) (by simp) ?_; intro v3 w3 ho3 ht3; obtain ⟨a3, c3, rfl⟩ := ow_slice ho3; have s3 := ow_past ((Turned.refl _ _).alloc _) (HW0.out w1) ht3; have K3 := Lib.hid (K2.out.got ho3 s3); clear ho3 ht3 s3)
                | (go_at_call 13; ((with_reducible refine (HBi.out _ K3.out.ground).mono ?_)); rintro e w4 ⟨a4, c4, rfl, ho4, hs4⟩; have K4 := Lib.hid (K3.out.got ho4 hs4).assoc; clear ho4 hs4)
                | (go_at_call 12; obtain ⟨v5, E5, h5⟩ := HBg.out _ _ _ _ L nL _ _ _ HLl.out hn1 K4.out; ((with_reducible refine h5.mono ?_)); rintro e w5 ⟨rfl, h6⟩; have H5 := Lib.hid h6; clear h5 h6)
                | (go_at_call 14; ((with_reducible refine H5.out.mono ?_)); rintro e w6 ⟨rfl, M', hM', hk'⟩; have HM' := Lib.hid hM'; have K6 := Lib.hid hk'; have HSm := Lib.hid (HSame.out _ _ hM' hk'); clear hM' hk')
                | (go_at_call 17; ((with_reducible refine HSm.out.mono ?_)); rintro e w7 ⟨rfl, hs7⟩; have K7 := Lib.hid (K6.out.still hs7); clear hs7))
              go_roundw
              case rel => exact ⟨k + 1, M', by omega, by omega, by go_num, HM'.out, K7.out⟩
              case measure => simp [intOf]; omega)
      · have HSb := Lib.hid (show Still Wb Wb from Turned.refl _ _)
        by_cases h7 : v = 7
        · subst h7
          by_cases hw : M.W = []
          · have HAk := Lib.hid (fun (V : World) (H : Held w V ((BT x M).sep (zbT z M))) => tb_ack A hMo (by omega) (x := zn) n1 n2 H)
            have HZ := Lib.hid (fun V (hs : Still Wb V) => show ∃ aw cw, V.cell? ⟨z, 2, none⟩ = some (.slice aw 0 cw) from by
              obtain ⟨_, _, _, _, aw, cw, hr⟩ := rb_zrd (KIb.out.still hs)
              have := hr.c2
              rw [hw] at this
              exact ⟨aw, cw, this⟩)
            obtain ⟨aw, cw, hz2⟩ := HZ.out _ (Turned.refl _ _)
            have HZ := Lib.hid (fun V (hs : Still Wb V) => still_cell hs hz2 (rfl : 2 = 2))
            clear hz2 hw
            clear hz hc hzk hzm hmlc hmm hms hMl hMa hM0 hv hT hbx hWb hH hMo n1 n2
            as_aux_lemma =>
              go_upto_region 8 with fail
              rw [← hb]
              obtain ⟨x0, x1, x2⟩ := HX.out _ HSb.out
              have z0 := HZ.out _ HSb.out
              clear hWb2 hb b1 y0 y1 y2
              go_wp2_with (first
                | (go_at_call 10; ((with_reducible refine (B8.out _).mono ?_)); rintro e wA ⟨rfl, hwA⟩; subst hwA)
                | (go_at_call 15; obtain ⟨v5, E5, h5⟩ := HAk.out _ KIb.out; ((with_reducible refine h5.mono ?_)); rintro e w5 ⟨rfl, h6⟩; have H5 := Lib.hid h6; clear h5 h6)
                | (go_at_call 16; ((with_reducible refine H5.out.mono ?_)); rintro e w6 ⟨rfl, M', hM', hk'⟩; have HM' := Lib.hid hM'; have K6 := Lib.hid hk'; have HSm := Lib.hid (HSame.out _ _ hM' hk'); clear hM' hk')
                | (go_at_call 17; ((with_reducible refine HSm.out.mono ?_)); rintro e w7 ⟨rfl, hs7⟩; have K7 := Lib.hid (K6.out.still hs7); clear hs7))
              go_roundw
              case rel => exact ⟨k + 1, M', by omega, by omega, by go_num, HM'.out, K7.out⟩
              case measure => simp [intOf]; omega
          · have hW0 : 0 < M.W.length := List.length_pos_iff.2 hw
            obtain ⟨nw, hnw⟩ : ∃ nw, nw = M.W.length := ⟨_, rfl⟩
            obtain ⟨y, hy⟩ := get_some (l := M.W) (i := 0) hW0
            have hyb := hMo.wp y (List.mem_of_getElem? hy)
            have HAk := Lib.hid (fun (V : World) (H : Held w V ((BT x M).sep (zbT z M))) => tb_ack A hMo (by omega) (x := y) (by omega) (by omega) H)
            obtain ⟨_, _, _, _, aw, cw, hr⟩ := rb_zrd KIb.out
            obtain ⟨gw, ow, rfl, cy⟩ := hr.rw_ 0 y hy
            have c2 := hr.c2
            rw [← hnw] at c2 hW0
            rw [Nat.add_zero] at cy
            have HZ := Lib.hid (fun V (hs : Still Wb V) => And.intro (still_cell hs c2 (rfl : 2 = 2)) (still_cell hs cy (rfl : ow = ow)))
            have hwi : (0 : Int) < (nw : Int) := by omega
            clear hr cy c2 hy hyb hw hnw
            clear hz hc hzk hzm hmlc hmm hms hMl hMa hM0 hv hT hbx hWb hH hMo n1 n2
            as_aux_lemma =>
              go_upto_region 8 with fail
              rw [← hb]
              obtain ⟨x0, x1, x2⟩ := HX.out _ HSb.out
              obtain ⟨z0, z1⟩ := HZ.out _ HSb.out
              clear hWb2 hb b1 y0 y1 y2
              go_wp2_with (first
                | (go_at_call 10; ((with_reducible refine (B8.out _).mono ?_)); rintro e wA ⟨rfl, hwA⟩; subst hwA)
                | (go_at_call 15; obtain ⟨v5, E5, h5⟩ := HAk.out _ KIb.out; ((with_reducible refine h5.mono ?_)); rintro e w5 ⟨rfl, h6⟩; have H5 := Lib.hid h6; clear h5 h6)
                | (go_at_call 16; ((with_reducible refine H5.out.mono ?_)); rintro e w6 ⟨rfl, M', hM', hk'⟩; have HM' := Lib.hid hM'; have K6 := Lib.hid hk'; have HSm := Lib.hid (HSame.out _ _ hM' hk'); clear hM' hk')
                | (go_at_call 17; ((with_reducible refine HSm.out.mono ?_)); rintro e w7 ⟨rfl, hs7⟩; have K7 := Lib.hid (K6.out.still hs7); clear hs7))
              go_roundw
              case rel => exact ⟨k + 1, M', by omega, by omega, by go_num, HM'.out, K7.out⟩
              case measure => simp [intOf]; omega
        · have HAk := Lib.hid (fun (V : World) (H : Held w V ((BT x M).sep (zbT z M))) => tb_ack A hMo (by omega) (x := zn) n1 n2 H)
          clear hz hc hzk hzm hmlc hmm hms hMl hMa hM0 hv hT hbx hWb hH hMo n1 n2
          rcases (show v = 3 ∨ v = 4 ∨ v = 5 ∨ v = 6 by omega) with rfl | rfl | rfl | rfl
          all_goals (
            as_aux_lemma =>
              go_upto_region 8 with fail
              rw [← hb]
              obtain ⟨x0, x1, x2⟩ := HX.out _ HSb.out
              clear hWb2 hb b1 y0 y1 y2
              go_wp2_with (first
                | (go_at_call 10; ((with_reducible refine (B8.out _).mono ?_)); rintro e wA ⟨rfl, hwA⟩; subst hwA)
                | (go_at_call 15; obtain ⟨v5, E5, h5⟩ := HAk.out _ KIb.out; ((with_reducible refine h5.mono ?_)); rintro e w5 ⟨rfl, h6⟩; have H5 := Lib.hid h6; clear h5 h6)
                | (go_at_call 16; ((with_reducible refine H5.out.mono ?_)); rintro e w6 ⟨rfl, M', hM', hk'⟩; have HM' := Lib.hid hM'; have K6 := Lib.hid hk'; have HSm := Lib.hid (HSame.out _ _ hM' hk'); clear hM' hk')
                | (go_at_call 17; ((with_reducible refine HSm.out.mono ?_)); rintro e w7 ⟨rfl, hs7⟩; have K7 := Lib.hid (K6.out.still hs7); clear hs7))
              go_roundw
              case rel => exact ⟨k + 1, M', by omega, by omega, by go_num, HM'.out, K7.out⟩
              case measure => simp [intOf]; omega)
    · have hex : (k < tl ∧ 60 ≤ k) ∨ tl ≤ k := by omega
      have HWk1 := Lib.hid ((HWk.out wr).mono fun e w' ⟨he, hs⟩ => (And.intro he (hH.ground.trans hs) : e = Ending.returned (.bool true) ∧ Still w w'))
      clear hin hH hMo
      rcases hex with ⟨q1, q2⟩ | q1
      all_goals (
        go_wp2_with (go_at_call 18; ((with_reducible refine HWk1.out.mono ?_)); rintro e w8 ⟨rfl, hs⟩; have H8 := Lib.hid hs; clear hs)
        go_ret
        exact ⟨rfl, H8.out⟩)
end Go.Proofs.Ytplnbphbccflfaa
