/- RebalOrder: the walk. No condition but that the program's table keeps its words. -/
import Derived.Test.YtplnbphbccflfaaRbLem
namespace Go.Proofs.Ytplnbphbccflfaa
open Go.RowKit
set_option linter.unusedVariables false
set_option linter.unusedSimpArgs false
set_option maxRecDepth 100000

set_option maxHeartbeats 8000000 in
theorem rborder_walk {BT : Nat → TbM → Thing} (A : RebalApi BT) (t : Sl Act17) (n0 : Int) (s : Sl Int) (w : World) (h1 : SlOk encAct17 okAct17 3 w t) (h2 : SlOk encI (okI .i64) 1 w s) :
    Calls Try.prog 7 #[.slice t.a t.len t.cap, .int .i64 n0, .slice s.a s.len s.cap] w fun e w' => e = .returned (.bool true) ∧ Still w w' := by
  have HWk := Lib.hid (works17 A w)
  have HMk := Lib.hid (fun (V : World) (R : Thing) (H : Held w V R) => show Calls Try.prog 8 #[] V fun e w' => ∃ q, e = .returned (.pointer (some ⟨q, 0, none⟩)) ∧ Held w w' ((BT q TbM.new).sep R) from
    (A.make_ V).mono fun e w' ⟨q, he, hn⟩ => ⟨q, he, H.new hn⟩)
  obtain ⟨ta, tl, tc, tx⟩ := t
  have HTX := Lib.hid h1
  have HTL : Hid (tx.length = tl) := Lib.hid h1.len
  obtain ⟨nn, hnn⟩ : ∃ nn, nn = am n0 9 := ⟨_, rfl⟩
  have hnl : nn ≤ 100 := by have := am_lt n0 (n := 9) (by omega); omega
  have HAm := Lib.hid (fun W => among_lit n0 9 9 nn rfl hnn (by omega) (by omega) W)
  have HPl := Lib.hid (fun V => places_any nn V (by omega))
  obtain ⟨ds, hds⟩ : ∃ ds, ds = (risN s.xs 8).length := ⟨_, rfl⟩
  have HRi := Lib.hid (fun V (hs : Still w V) => rising_any V s.a s.xs s.len s.cap ds h2.len.symm (Nat.le_trans h2.le h2.max) ((nums_of_sl h2).still hs) hds)
  have HBg := Lib.hid (fun (q K : Nat) (M : TbM) (R : Thing) (hM : M.Ok K) (hK : K < 1000000) (V : World) (bo ao : Option Addr) (c1 c2 : Nat) (H : Held w V ((((BT q M).sep R).sep (plsT bo nn c1 (plN nn))).sep (intsT ao ds c2 (risN s.xs 8)))) => Held.begG A hM hK s.xs hnl hds H)
  obtain ⟨sa, sl, sc, sx⟩ := s
  obtain ⟨P, hP⟩ : ∃ P, P = plN nn := ⟨_, rfl⟩
  obtain ⟨Ms, hMs⟩ : ∃ Ms, Ms = risN sx 8 := ⟨_, rfl⟩
  dsimp only at HRi HBg ⊢
  rw [← hP, ← hMs] at HBg
  rw [← hP] at HPl
  rw [← hMs] at HRi
  clear h1 h2 hnn hds hP hMs hnl
  go_enter Try.func7, Try.ntmps7
  go_wp2_with (first
    | (go_at_call 18; ((with_reducible refine HWk.out.mono ?_)); rintro e w1 ⟨rfl, hs⟩; have S1 := Lib.hid hs; clear hs))
  go_wp2_with (go_at_call 8; ((with_reducible refine (HMk.out _ _ (Held.start S1.out)).mono ?_)); rintro e w2 ⟨x, rfl, h⟩; have K1 := Lib.hid h; clear h)
  go_wp2_with (go_at_call 8; ((with_reducible refine (HMk.out _ _ K1.out).mono ?_)); rintro e w3 ⟨y, rfl, h⟩; have K2 := Lib.hid h.turn; clear h K1)
  go_loopw [9] (fun i wr => ∃ (k : Nat) (M : TbM), k ≤ tl ∧ k ≤ 40 ∧ i = .int .i64 k ∧ M.Ok k ∧ Held w wr ((BT x M).sep ((BT y M).sep Thing.none))) (fun i _ => tl - (intOf i).toNat)
  case atStart => exact ⟨0, TbM.new, Nat.zero_le _, Nat.zero_le _, rfl, TbM.new_ok, K2.out⟩
  case round =>
    clear K2 S1
    obtain ⟨k, M, hk, hk40, rfl, hMo, hH⟩ := hrel
    by_cases hin : k < tl ∧ k < 40
    · obtain ⟨hlt, h40⟩ := hin
      obtain ⟨z, hz⟩ := get_some (l := tx) (i := k) (by rw [HTL.out]; exact hlt)
      obtain ⟨ba, o, rfl, hc⟩ := HTX.out.row k z hz
      have hzk := HTX.out.each z (List.mem_of_getElem? hz)
      obtain ⟨za, zn, zm⟩ := z
      obtain ⟨mn, hmn⟩ : ∃ mn, mn = am zn 9 := ⟨_, rfl⟩
      have hml : mn ≤ 100 := by have := am_lt zn (n := 9) (by omega); omega
      have GAm := Lib.hid (fun W => among_lit zn 9 9 mn rfl hmn (by omega) (by omega) W)
      have GPl := Lib.hid (fun V => places_any mn V (by omega))
      obtain ⟨d, hd⟩ : ∃ d, d = (risN zm.xs 8).length := ⟨_, rfl⟩
      have hzm := hzk.2.2
      have GRi := Lib.hid (fun V (hs : Still w V) => rising_any V zm.a zm.xs zm.len zm.cap d hzm.len.symm (Nat.le_trans hzm.le hzm.max) ((nums_of_sl hzm).still hs) hd)
      have GBg := Lib.hid (fun (q : Nat) (R : Thing) (V : World) (bo ao : Option Addr) (c1 c2 : Nat) (H : Held w V ((((BT q M).sep R).sep (plsT bo mn c1 (plN mn))).sep (intsT ao d c2 (risN zm.xs 8)))) => Held.begG A hMo (by omega) zm.xs hml hd H)
      obtain ⟨ma, mlen, mc, mx⟩ := zm
      obtain ⟨M', hM'⟩ : ∃ M', M' = M.begin_ (plN mn) (risN mx 8) := ⟨_, rfl⟩
      have HO := Lib.hid (show M'.Ok (k + 1) from by rw [hM']; exact hMo.begin_ _ _)
      dsimp only at GRi GBg hc
      rw [← hM'] at GBg
      obtain ⟨P, hP⟩ : ∃ P, P = plN mn := ⟨_, rfl⟩
      obtain ⟨Mr, hMr⟩ : ∃ Mr, Mr = risN mx 8 := ⟨_, rfl⟩
      rw [← hP, ← hMr] at GBg
      rw [← hP] at GPl
      rw [← hMr] at GRi
      generalize M.beginV P Mr = bv at *
      have HC := Lib.hid (fun V (hs : Still w V) => show V.cell? ⟨ba, o + k * 3 + 1, none⟩ = some (.int .i64 zn) ∧ V.cell? ⟨ba, o + k * 3 + 2, none⟩ = some (.slice ma mlen mc) from
        ⟨still_cell hs (hc 1 _ rfl) (Nat.add_assoc _ _ _), still_cell hs (hc 2 _ rfl) (Nat.add_assoc _ _ _)⟩)
      have KD := Lib.hid (hH.still (Turned.refl _ _).drew)
      obtain ⟨y0, y1⟩ := HC.out _ hH.ground
      obtain ⟨x0, x1⟩ := HC.out _ KD.out.ground
      have hki : (k : Int) < (tl : Int) := by omega
      have hki2 : (k : Int) < 40 := by omega
      clear hz hc hzk hzm hmn hml hd hM' hH hMo hP hMr
      go_wp2_with fail
      go_region_held3 (fun V => V.cell? ⟨ba, o + k * 3 + 1, none⟩ = some (.int .i64 zn) ∧ V.cell? ⟨ba, o + k * 3 + 2, none⟩ = some (.slice ma mlen mc)) (first | assumption | exact ⟨by assumption, by assumption⟩ | go_keep)
        (first
          | (go_at_call 10; ((with_reducible refine (GAm.out _).mono ?_)); rintro e wA ⟨rfl, rfl⟩)
          | (go_at_call 11; ((with_reducible refine (GPl.out _).mono ?_)); rintro e wB ho; obtain ⟨a4, c4, rfl, k4⟩ := KD.out.row ho; have K4 := Lib.hid k4; obtain ⟨x2, x3⟩ := HC.out _ k4.ground; clear ho k4)
          | (go_at_call 21; ((with_reducible refine (GRi.out _ K4.out.ground).mono ?_)); rintro e wC ho; obtain ⟨a5, c5, rfl, k5⟩ := K4.out.outs ho; have K5 := Lib.hid k5; obtain ⟨x4, x5⟩ := HC.out _ k5.ground; clear ho k5)
          | (go_at_call 12; ((with_reducible refine (GBg.out _ _ _ _ _ _ _ K5.out).mono ?_)); rintro e w6 ⟨rfl, k6⟩; have K6 := Lib.hid k6.turn; obtain ⟨x6, x7⟩ := HC.out _ k6.ground; clear k6 K5 K4 KD))
      have KD2 := Lib.hid (K6.out.still (Turned.refl _ _).drew)
      obtain ⟨v0, v1⟩ := HC.out _ KD2.out.ground
      clear K6
      go_wp2_with fail
      go_region_held3 (fun V => V.cell? ⟨ba, o + k * 3 + 1, none⟩ = some (.int .i64 zn) ∧ V.cell? ⟨ba, o + k * 3 + 2, none⟩ = some (.slice ma mlen mc)) (first | assumption | exact ⟨by assumption, by assumption⟩ | go_keep)
        (first
          | (go_at_call 10; ((with_reducible refine (GAm.out _).mono ?_)); rintro e wA ⟨rfl, rfl⟩)
          | (go_at_call 11; ((with_reducible refine (GPl.out _).mono ?_)); rintro e wB ho; obtain ⟨a7, c7, rfl, k4⟩ := KD2.out.row ho; have K4 := Lib.hid k4; obtain ⟨x2, x3⟩ := HC.out _ k4.ground; clear ho k4)
          | (go_at_call 21; ((with_reducible refine (GRi.out _ K4.out.ground).mono ?_)); rintro e wC ho; obtain ⟨a8, c8, rfl, k5⟩ := K4.out.outs ho; have K5 := Lib.hid k5; obtain ⟨x4, x5⟩ := HC.out _ k5.ground; clear ho k5)
          | (go_at_call 12; ((with_reducible refine (GBg.out _ _ _ _ _ _ _ K5.out).mono ?_)); rintro e w9 ⟨rfl, k6⟩; have K7 := Lib.hid k6.turn; obtain ⟨x6, x7⟩ := HC.out _ k6.ground; clear k6 K5 K4 KD2))
      go_wp2_with fail
      go_roundw
      case rel => exact ⟨k + 1, M', by omega, by omega, by go_num, HO.out, K7.out⟩
      case measure => simp [intOf]; omega
    · have hex : (k < tl ∧ 40 ≤ k) ∨ tl ≤ k := by omega
      have hM1 := Lib.hid (show (M.begin_ P Ms).Ok (k + 1) from hMo.begin_ _ _)
      have KB := Lib.hid hH
      have HB1 := Lib.hid (fun (q : Nat) (R : Thing) (V : World) (bo ao : Option Addr) (c1 c2 : Nat) H => HBg.out q k M R hMo (by omega) V bo ao c1 c2 H)
      generalize M.beginV P Ms = bv at *
      obtain ⟨N, hN⟩ : ∃ N, N = M.begin_ P Ms := ⟨_, rfl⟩
      rw [← hN] at hM1 HB1
      obtain ⟨WL, hWL⟩ : ∃ WL, WL = N.W := ⟨_, rfl⟩
      obtain ⟨d, hd⟩ : ∃ d, d = WL.length := ⟨_, rfl⟩
      have HWl := Lib.hid hd.symm
      have HD8 := Lib.hid (show d ≤ 8 from by rw [hd, hWL]; exact hM1.out.wl)
      have HTk := Lib.hid (show WL.take d = WL from by rw [hd, List.take_length])
      have HNd := Lib.hid (show WL.Nodup from by rw [hWL]; exact hM1.out.wn)
      have HBd := Lib.hid (show ∀ m, m ∈ WL → 0 ≤ m ∧ m < 16 from by rw [hWL]; exact hM1.out.wp)
      have HN50 := Lib.hid (hM1.out.mono (L := 50) (by omega))
      have HR0 := Lib.hid (show Ran N N WL from by rw [hWL]; exact Ran.start hM1.out)
      have HWt := Lib.hid (fun V (q : Nat) (R : Thing) (H : Held w V ((BT q N).sep R)) => Held.waitsB A hM1.out (by omega) hWL.symm hd H)
      clear hH hMo hN HBg hWL hd hM1
      rcases hex with ⟨e1, e2⟩ | e1
      case' inl => have e1i : (k : Int) < (tl : Int) := by omega
      case' inl => have e2i : ¬ (k : Int) < 40 := by omega
      case' inr => have e1i : ¬ (k : Int) < (tl : Int) := by omega
      all_goals (
        clear hin
        go_wp2_with (first
          | (go_at_call 10; ((with_reducible refine (HAm.out _).mono ?_)); rintro e wA ⟨rfl, rfl⟩)
          | (go_at_call 11; ((with_reducible refine (HPl.out _).mono ?_)); rintro e wB ho; obtain ⟨a4, c4, rfl, k4⟩ := KB.out.row ho; have K4 := Lib.hid k4; clear ho k4)
          | (go_at_call 21; ((with_reducible refine (HRi.out _ K4.out.ground).mono ?_)); rintro e wC ho; obtain ⟨a5, c5, rfl, k5⟩ := K4.out.outs ho; have K5 := Lib.hid k5; clear ho k5)
          | (go_at_call 12; ((with_reducible refine (HB1.out _ _ _ _ _ _ _ K5.out).mono ?_)); rintro e w6 ⟨rfl, k6⟩; have K6 := Lib.hid k6.turn; clear k6 K5 K4 KB))
        go_wp2_with (first
          | (go_at_call 10; ((with_reducible refine (HAm.out _).mono ?_)); rintro e wA ⟨rfl, rfl⟩)
          | (go_at_call 11; ((with_reducible refine (HPl.out _).mono ?_)); rintro e wB ho; obtain ⟨a7, c7, rfl, k4⟩ := K6.out.row ho; have K4 := Lib.hid k4; clear ho k4)
          | (go_at_call 21; ((with_reducible refine (HRi.out _ K4.out.ground).mono ?_)); rintro e wC ho; obtain ⟨a8, c8, rfl, k5⟩ := K4.out.outs ho; have K5 := Lib.hid k5; clear ho k5)
          | (go_at_call 12; ((with_reducible refine (HB1.out _ _ _ _ _ _ _ K5.out).mono ?_)); rintro e w9 ⟨rfl, k6⟩; have K7 := Lib.hid k6.turn; clear k6 K5 K4 K6)
          | (go_at_call 22; ((with_reducible refine (HWt.out _ _ _ K7.out).mono ?_)); rintro e wD ⟨a9, c9, rfl, k8⟩; have K8 := Lib.hid (k8.assoc.imp2 (fun h => sep_imp2 (fun h => h) (fun h => sep_assoc h) h)); clear k8 K7))
        clear HB1 HAm HPl HRi HMk HWk HTX HTL
        go_loopw [11] (fun ix wr => ∃ (i : Nat) (Nx Ny : TbM), i ≤ d ∧ ix = .int .i64 i ∧ Nx.Ok (50 + i) ∧ Ny.Ok (50 + i) ∧ Ran N Nx (WL.drop i) ∧ Ran N Ny (WL.take (d - i)) ∧ Held w wr ((BT x Nx).sep ((BT y Ny).sep (Thing.none.sep (intsT a9 d c9 WL))))) (fun ix _ => d - (intOf ix).toNat)
        case atStart => exact ⟨0, N, N, Nat.zero_le _, rfl, HN50.out, HN50.out, HR0.out, by rw [Nat.sub_zero, HTk.out]; exact HR0.out, K8.out⟩
        case round =>
          clear K8
          obtain ⟨i, Nx, Ny, hi, rfl, hx, hy, rx, ry, hH⟩ := hrel
          by_cases hlt : i < d
          · obtain ⟨xi, hxi⟩ := get_some (l := WL) (i := i) (by rw [HWl.out]; exact hlt)
            obtain ⟨j, hj⟩ : ∃ j, j = d - 1 - i := ⟨_, rfl⟩
            obtain ⟨yi, hyi⟩ := get_some (l := WL) (i := j) (by rw [HWl.out]; omega)
            obtain ⟨gb, go_, rfl, cx⟩ := (ints_at hH.snd.snd.snd HWl.out.symm) i xi hxi
            obtain ⟨rx', rx1, rx2⟩ := rx.step (id := xi) (by rw [List.drop_eq_getElem_cons (List.getElem?_eq_some_iff.1 hxi).1, (List.getElem?_eq_some_iff.1 hxi).2]; exact List.mem_cons_self ..)
            rw [flt_drop HNd.out hxi] at rx' rx2
            have htj : d - i = j + 1 := by omega
            rw [htj] at ry
            obtain ⟨ry', ry1, ry2⟩ := ry.step (id := yi) (by rw [List.take_add_one, hyi]; simp)
            rw [flt_take HNd.out hyi] at ry' ry2
            have bx := HBd.out xi (List.mem_of_getElem? hxi)
            have b_y := HBd.out yi (List.mem_of_getElem? hyi)
            have HAx := Lib.hid (fun V (H : Held w V ((BT x Nx).sep ((BT y Ny).sep (Thing.none.sep (intsT (some ⟨gb, go_, none⟩) d c9 WL))))) => Held.ackB A hx (by have := HD8.out; omega) (x := xi) (by omega) (by omega) rfl rx1 rfl H)
            have HAy := Lib.hid (fun V (R : Thing) (H : Held w V ((BT y Ny).sep R)) => Held.ackB A hy (by have := HD8.out; omega) (x := yi) (by omega) (by omega) rfl ry1 rfl H)
            have HOx := Lib.hid (hx.ack xi)
            have HOy := Lib.hid (hy.ack yi)
            have HRx := Lib.hid rx'
            have HRy := Lib.hid ry'
            generalize Nx.ackV xi = bvx at *
            generalize Ny.ackV yi = bvy at *
            have K9 := Lib.hid hH
            have HYi := Lib.hid (fun V (H : Held w V (intsT (some ⟨gb, go_, none⟩) d c9 WL)) => show V.cell? ⟨gb, go_ + j, none⟩ = some (.int .i64 yi) from by
              obtain ⟨b', o', e, hc⟩ := ints_at H HWl.out.symm j yi hyi
              obtain ⟨rfl, rfl⟩ : gb = b' ∧ go_ = o' := by simpa using e
              exact hc)
            have hii : (i : Int) < (d : Int) := by omega
            have hji : (d : Int) - 1 - (i : Int) = (j : Int) := by omega
            have hjd : (j : Int) < (d : Int) := by omega
            have hd8 : (d : Int) ≤ 8 := by have := HD8.out; omega
            have HJ := Lib.hid (show d - (i + 1) = j from by omega)
            generalize hNx : Nx.ack xi = Nx' at *
            generalize hNy : Ny.ack yi = Ny' at *
            clear hH rx ry rx' ry' rx1 ry1 rx2 ry2 hxi hyi hx hy bx b_y hj htj hNx hNy
            go_wp2_with (first
              | (go_at_call 15; ((with_reducible refine (HAx.out _ K9.out).mono ?_)); rintro e wE ⟨rfl, ka⟩; have cy := HYi.out _ ka.snd.snd.snd; have KA := Lib.hid ka.turn; clear ka K9)
              | (go_at_call 15; ((with_reducible refine (HAy.out _ _ KA.out).mono ?_)); rintro e wF ⟨rfl, kb⟩; have KB := Lib.hid kb.turn; clear kb KA))
            go_roundw
            case rel => exact ⟨i + 1, Nx', Ny', by omega, by go_num, HOx.out, HOy.out, HRx.out, by rw [HJ.out]; exact HRy.out, KB.out⟩
            case measure => simp [intOf]; omega
          · obtain rfl : i = d := by omega
            rw [Nat.sub_self, List.take_zero] at ry
            rw [List.drop_eq_nil_of_le (by rw [HWl.out]; omega)] at rx
            have ex : decide (Nx.W = []) = true := decide_eq_true rx.w
            have ey : decide (Ny.W = []) = true := decide_eq_true ry.w
            have eg : Ny.G = Nx.G := ry.g.trans rx.g.symm
            have eo : Ny.O = Nx.O := (ry.o rfl).trans (rx.o rfl).symm
            have et : Nx.T = Nx.O := rx.t.trans (rx.o rfl).symm
            obtain ⟨gg, hgg⟩ : ∃ gg, gg = Nx.G := ⟨_, rfl⟩
            obtain ⟨L, hL⟩ : ∃ L, L = Nx.O := ⟨_, rfl⟩
            obtain ⟨nl, hnl⟩ : ∃ nl, nl = L.length := ⟨_, rfl⟩
            have F1 := Lib.hid (fun V (R : Thing) (H : Held w V ((BT x Nx).sep R)) => Held.settledB A hx (by have := HD8.out; omega) ex H)
            have F2 := Lib.hid (fun V (R : Thing) (H : Held w V ((BT y Ny).sep R)) => Held.settledB A hy (by have := HD8.out; omega) ey H)
            have F3 := Lib.hid (fun V (R : Thing) (H : Held w V ((BT x Nx).sep R)) => Held.genB A hx (by have := HD8.out; omega) hgg.symm H)
            have F4 := Lib.hid (fun V (R : Thing) (H : Held w V ((BT y Ny).sep R)) => Held.genB A hy (by have := HD8.out; omega) (eg.trans hgg.symm) H)
            have F5 := Lib.hid (fun V (R : Thing) (H : Held w V ((BT x Nx).sep R)) => Held.ownersR A hx (by have := HD8.out; omega) hL.symm hnl H)
            have F6 := Lib.hid (fun V (R : Thing) (H : Held w V ((BT y Ny).sep R)) => Held.ownersR A hy (by have := HD8.out; omega) (eo.trans hL.symm) hnl H)
            have F7 := Lib.hid (fun V (R : Thing) (H : Held w V ((BT x Nx).sep R)) => Held.targetR A hx (by have := HD8.out; omega) (et.trans hL.symm) hnl H)
            have F8 := Lib.hid (fun V (a b : Option Addr) (c c' : Nat) (ha : OwAt V a L) (hb : OwAt V b L) => sameOw_any V a b L L nl nl c c' hnl hnl (by have := hx.len; rw [← hL] at this; omega) ha hb)
            rw [show decide (L = L) = true from decide_eq_true rfl] at F8
            have KB := Lib.hid hH
            have HNl := Lib.hid hnl
            clear hH rx ry ex ey eg eo et hgg hL hnl hx hy
            go_wp2_with (go_at_call 23; ((with_reducible refine (F1.out _ _ KB.out).mono ?_)); rintro e v1 ⟨rfl, hs⟩; have G1 := Lib.hid (KB.out.still hs).turn; clear hs KB)
            go_wp2_with (go_at_call 23; ((with_reducible refine (F2.out _ _ G1.out).mono ?_)); rintro e v2 ⟨rfl, hs⟩; have G2 := Lib.hid (G1.out.still hs).turn; clear hs G1)
            go_wp2_with (go_at_call 20; ((with_reducible refine (F3.out _ _ G2.out).mono ?_)); rintro e v3 ⟨rfl, hs⟩; have G3 := Lib.hid (G2.out.still hs).turn; clear hs G2)
            go_wp2_with (go_at_call 20; ((with_reducible refine (F4.out _ _ G3.out).mono ?_)); rintro e v4 ⟨rfl, hs⟩; have G4 := Lib.hid (G3.out.still hs).turn; clear hs G3)
            go_wp2_with (go_at_call 19; ((with_reducible refine (F5.out _ _ G4.out).mono ?_)); rintro e v5 ⟨p5, q5, rfl, h, hs⟩; have O5 := Lib.hid h; have G5 := Lib.hid (G4.out.still hs).turn; clear h hs G4)
            go_wp2_with (go_at_call 19; ((with_reducible refine (F6.out _ _ G5.out).mono ?_)); rintro e v6 ⟨p6, q6, rfl, h, hs⟩; have O6 := Lib.hid h; have P5 := Lib.hid (row_still O5.out hs); have G6 := Lib.hid (G5.out.still hs).turn; clear h hs G5 O5)
            go_wp2_with (go_at_call 25; ((with_reducible refine (F8.out _ _ _ _ _ P5.out O6.out).mono ?_)); rintro e v7 ⟨rfl, hs⟩; have G7 := Lib.hid (G6.out.still hs); clear hs G6 P5 O6)
            go_wp2_with (go_at_call 19; ((with_reducible refine (F5.out _ _ G7.out).mono ?_)); rintro e v8 ⟨p8, q8, rfl, h, hs⟩; have O8 := Lib.hid h; have G8 := Lib.hid (G7.out.still hs); clear h hs G7)
            go_wp2_with (go_at_call 26; ((with_reducible refine (F7.out _ _ G8.out).mono ?_)); rintro e v9 ⟨p9, q9, rfl, h, hs⟩; have O9 := Lib.hid h; have P8 := Lib.hid (row_still O8.out hs); have G9 := Lib.hid (G8.out.still hs); clear h hs G8 O8)
            go_wp2_with (go_at_call 25; ((with_reducible refine (F8.out _ _ _ _ _ P8.out O9.out).mono ?_)); rintro e va ⟨rfl, hs⟩; have Ga := Lib.hid (G9.out.still hs); clear hs G9 P8 O9)
            go_ret
            exact ⟨by first | rfl | simp, Ga.out.ground⟩)
end Go.Proofs.Ytplnbphbccflfaa
