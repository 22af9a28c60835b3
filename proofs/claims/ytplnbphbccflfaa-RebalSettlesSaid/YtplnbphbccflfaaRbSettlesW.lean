/- RebalSettles: the walk. No condition but that the program's table keeps its words. -/
import Derived.Test.YtplnbphbccflfaaRbLem
import Derived.Test.YtplnbphbccflfaaRbSet
import Derived.Test.YtplnbphbccflfaaHeldPut
namespace Go.Proofs.Ytplnbphbccflfaa
open Go.RowKit
set_option linter.unusedVariables false
set_option linter.unusedSimpArgs false
set_option maxRecDepth 100000

theorem risN_lt (l : List Int) {x : Int} (h : x ∈ risN l 8) : ∃ c : Nat, c < 8 ∧ x = ((c : Nat) : Int) := by
  unfold risN at h
  obtain ⟨i, hi, rfl⟩ := List.mem_map.1 h
  exact ⟨i, List.mem_range.1 (List.mem_filter.1 hi).1, rfl⟩
theorem made8 : madeCells #[.int .i64 0] 8 = (ints (List.replicate 8 0)).toArray := by kernel_rfl
/-- The state of a round: what changes behind an act. -/
def setlM (M : TbM) (nn : Nat) (l : List Int) (a : Int) : TbM :=
  if 0 < (M.begin_ (plN nn) (risN l 8)).W.length ∧ a.tmod 2 = 0 then (M.begin_ (plN nn) (risN l 8)).ack (((M.begin_ (plN nn) (risN l 8)).W[(M.begin_ (plN nn) (risN l 8)).W.length - 1]?).getD 0) else M.begin_ (plN nn) (risN l 8)

set_option maxHeartbeats 16000000 in
theorem rbsettles_walk {BT : Nat → TbM → Thing} (A : RebalApi BT) (t : Sl Act17) (n0 : Int) (s : Sl Int) (w : World) (h1 : SlOk encAct17 okAct17 3 w t) (h2 : SlOk encI (okI .i64) 1 w s) :
    Calls Try.prog 5 #[.slice t.a t.len t.cap, .int .i64 n0, .slice s.a s.len s.cap] w fun e w' => e = .returned (.bool true) ∧ Still w w' := by
  have HWk := Lib.hid (works17 A w)
  have HMk := Lib.hid (fun (V : World) (R : Thing) (H : Held w V R) => show Calls Try.prog 8 #[] V fun e w' => ∃ q, e = .returned (.pointer (some ⟨q, 0, none⟩)) ∧ Held w w' ((BT q TbM.new).sep R) from
    (A.make_ V).mono fun e w' ⟨q, he, hn⟩ => ⟨q, he, H.new hn⟩)
  obtain ⟨ta, tl, tc, tx⟩ := t
  have HTX := Lib.hid h1
  have HTL : Hid (tx.length = tl) := Lib.hid h1.len
  obtain ⟨nn, hnn⟩ : ∃ nn, nn = am n0 9 := ⟨_, rfl⟩
  have hnl9 : nn < 9 := by rw [hnn]; exact am_lt n0 (by omega)
  have HAm := Lib.hid (fun W => among_lit n0 9 9 nn rfl hnn (by omega) (by omega) W)
  have HPl := Lib.hid (fun V => places_any nn V (by omega))
  obtain ⟨ds, hds⟩ : ∃ ds, ds = (risN s.xs 8).length := ⟨_, rfl⟩
  have HRi := Lib.hid (fun V (hs : Still w V) => rising_any V s.a s.xs s.len s.cap ds h2.len.symm (Nat.le_trans h2.le h2.max) ((nums_of_sl h2).still hs) hds)
  obtain ⟨sa, sl, sc, sx⟩ := s
  obtain ⟨P, hP⟩ : ∃ P, P = plN nn := ⟨_, rfl⟩
  obtain ⟨Ms, hMs⟩ : ∃ Ms, Ms = risN sx 8 := ⟨_, rfl⟩
  dsimp only at HRi hds ⊢
  rw [← hP] at HPl
  rw [← hMs] at HRi hds
  have HbE := Lib.hid (show begE P Ms = 0 from by rw [hP, hMs]; exact beg_pl nn (by omega) sx)
  have HPn := Lib.hid (show nn = P.length from by rw [hP, plN_len])
  have HDs := Lib.hid hds
  have HMx := Lib.hid (show ∀ x, x ∈ Ms → ∃ c : Nat, c < 8 ∧ x = ((c : Nat) : Int) from by rw [hMs]; exact fun x h => risN_lt sx h)
  have HMy := HMx
  have HMr := Lib.hid (show risI Ms from by rw [hMs]; exact risN_ris sx)
  have HD8' := Lib.hid (show ds ≤ 8 from by rw [hds]; exact HMr.out.1)
  have HN9 := Lib.hid hnl9
  clear h1 h2 hnn hds hP hMs hnl9
  go_enter Try.func5, Try.ntmps5
  go_wp2_with (first
    | (go_at_call 18; ((with_reducible refine HWk.out.mono ?_)); rintro e w1 ⟨rfl, hs⟩; have S1 := Lib.hid hs; clear hs))
  go_wp2_with (go_at_call 8; ((with_reducible refine (HMk.out _ _ (Held.start S1.out)).mono ?_)); rintro e w2 ⟨x, rfl, h⟩; have K1 := Lib.hid h; clear h)
  go_loopw [8] (fun i wr => ∃ (k : Nat) (M : TbM), k ≤ tl ∧ k ≤ 40 ∧ i = .int .i64 k ∧ M.Ok (2 * k) ∧ Held w wr ((BT x M).sep Thing.none)) (fun i _ => tl - (intOf i).toNat)
  case atStart => exact ⟨0, TbM.new, Nat.zero_le _, Nat.zero_le _, rfl, TbM.new_ok, K1.out⟩
  case round =>
    clear K1 S1
    obtain ⟨k, M, hk, hk40, rfl, hMo, hH⟩ := hrel
    by_cases hin : k < tl ∧ k < 40
    · obtain ⟨hlt, h40⟩ := hin
      obtain ⟨z, hz⟩ := get_some (l := tx) (i := k) (by rw [HTL.out]; exact hlt)
      obtain ⟨ba, o, rfl, hc⟩ := HTX.out.row k z hz
      have hzk := HTX.out.each z (List.mem_of_getElem? hz)
      obtain ⟨za, zn, zm⟩ := z
      obtain ⟨mn, hmn⟩ : ∃ mn, mn = am zn 9 := ⟨_, rfl⟩
      have hml : mn ≤ 100 := by have := am_lt zn (n := 9) (by omega); omega
      have GAm := Lib.hid (fun W => among_lit zn 9 9 mn rfl hmn (by omega) (by omega) W)
      have GPl := Lib.hid (fun V => places_any mn V (by omega))
      obtain ⟨d, hd⟩ : ∃ d, d = (risN zm.xs 8).length := ⟨_, rfl⟩
      have hzm := hzk.2.2
      have GRi := Lib.hid (fun V (hs : Still w V) => rising_any V zm.a zm.xs zm.len zm.cap d hzm.len.symm (Nat.le_trans hzm.le hzm.max) ((nums_of_sl hzm).still hs) hd)
      have GBg := Lib.hid (fun (q : Nat) (R : Thing) (V : World) (bo ao : Option Addr) (c1 c2 : Nat) (H : Held w V ((((BT q M).sep R).sep (plsT bo mn c1 (plN mn))).sep (intsT ao d c2 (risN zm.xs 8)))) => Held.begG A hMo (by omega) zm.xs hml hd H)
      obtain ⟨ma, mlen, mc, mx⟩ := zm
      obtain ⟨M', hM'⟩ : ∃ M', M' = M.begin_ (plN mn) (risN mx 8) := ⟨_, rfl⟩
      have hO : M'.Ok (2 * k + 1) := by rw [hM']; exact hMo.begin_ _ _
      dsimp only at GRi GBg hc
      rw [← hM'] at GBg
      obtain ⟨P', hP⟩ : ∃ P', P' = plN mn := ⟨_, rfl⟩
      obtain ⟨Mr, hMr⟩ : ∃ Mr, Mr = risN mx 8 := ⟨_, rfl⟩
      rw [← hP, ← hMr] at GBg
      rw [← hP] at GPl
      rw [← hMr] at GRi
      generalize M.beginV P' Mr = bv at *
      have HC := Lib.hid (fun V (hs : Still w V) => show V.cell? ⟨ba, o + k * 3, none⟩ = some (.int .i64 za) ∧ V.cell? ⟨ba, o + k * 3 + 1, none⟩ = some (.int .i64 zn) ∧ V.cell? ⟨ba, o + k * 3 + 2, none⟩ = some (.slice ma mlen mc) from
        ⟨still_cell hs (hc 0 _ rfl) rfl, still_cell hs (hc 1 _ rfl) (Nat.add_assoc _ _ _), still_cell hs (hc 2 _ rfl) (Nat.add_assoc _ _ _)⟩)
      have KD := Lib.hid (hH.still (Turned.refl _ _).drew)
      obtain ⟨yy, y0, y1⟩ := HC.out _ hH.ground
      obtain ⟨xx, x0, x1⟩ := HC.out _ KD.out.ground
      clear yy xx
      have hki : (k : Int) < (tl : Int) := by omega
      have hki2 : (k : Int) < 40 := by omega
      -- who must acknowledge
      obtain ⟨d1, hd1⟩ : ∃ d1, d1 = M'.W.length := ⟨_, rfl⟩
      have hd18 : d1 ≤ 8 := by rw [hd1]; exact hO.wl
      have GWt := Lib.hid (fun V (R : Thing) (H : Held w V ((BT x M').sep R)) => Held.waitsB A hO (by omega) rfl hd1 H)
      have HO := Lib.hid hO
      have HD1 := Lib.hid hd1
      clear hz hc hzk hzm hmn hml hd hM' hH hMo hP hMr hd1 hO
      go_wp2_with fail
      go_region_held3 (fun V => V.cell? ⟨ba, o + k * 3 + 1, none⟩ = some (.int .i64 zn) ∧ V.cell? ⟨ba, o + k * 3 + 2, none⟩ = some (.slice ma mlen mc)) (first | assumption | exact ⟨by assumption, by assumption⟩ | go_keep)
        (first
          | (go_at_call 10; ((with_reducible refine (GAm.out _).mono ?_)); rintro e wA ⟨rfl, rfl⟩)
          | (go_at_call 11; ((with_reducible refine (GPl.out _).mono ?_)); rintro e wB ho; obtain ⟨a4, c4, rfl, k4⟩ := KD.out.row ho; have K4 := Lib.hid k4; obtain ⟨xx, x2, x3⟩ := HC.out _ k4.ground; clear ho k4 xx)
          | (go_at_call 21; ((with_reducible refine (GRi.out _ K4.out.ground).mono ?_)); rintro e wC ho; obtain ⟨a5, c5, rfl, k5⟩ := K4.out.outs ho; have K5 := Lib.hid k5; obtain ⟨xx, x4, x5⟩ := HC.out _ k5.ground; clear ho k5 xx)
          | (go_at_call 12; ((with_reducible refine (GBg.out _ _ _ _ _ _ _ K5.out).mono ?_)); rintro e w6 ⟨rfl, k6⟩; have K6 := Lib.hid k6; obtain ⟨xx, x6, x7⟩ := HC.out _ k6.ground; clear k6 K5 K4 KD xx))
      clear x6 x7
      by_cases hd0 : d1 = 0
      · have hdi : ¬ (0 : Int) < (d1 : Int) := by omega
        go_wp2_with (go_at_call 22; ((with_reducible refine (GWt.out _ _ K6.out).mono ?_)); rintro e w7 ⟨a7, c7, rfl, h⟩; have K7 := Lib.hid h; clear h K6)
        go_roundw
        case rel => exact ⟨k + 1, M', by omega, by omega, by go_num, HO.out.mono (by omega), K7.out.drop⟩
        case measure => simp [intOf]; omega
      · have hdi : (0 : Int) < (d1 : Int) := by omega
        by_cases hev : za.tmod 2 = 0
        · have hevb : (za.tmod 2 == 0) = true := by simpa using hev
          obtain ⟨j, hj⟩ : ∃ j, j = d1 - 1 := ⟨_, rfl⟩
          obtain ⟨id, hid⟩ := get_some (l := M'.W) (i := j) (by rw [← HD1.out]; omega)
          have hb := HO.out.wp id (List.mem_of_getElem? hid)
          have HAc := Lib.hid (fun V (R : Thing) (H : Held w V ((BT x M').sep R)) => Held.ackB A HO.out (by omega) (x := id) (by omega) (by omega) rfl rfl rfl H)
          have HOa := Lib.hid (HO.out.ack id)
          obtain ⟨Ma, hMa⟩ : ∃ Ma, Ma = M'.ack id := ⟨_, rfl⟩
          rw [← hMa] at HAc HOa
          generalize M'.ackV id = va at *
          generalize M'.ackE id = ea at *
          have hji : (d1 : Int) - 1 = (j : Int) := by omega
          have hjd : (j : Int) < (d1 : Int) := by omega
          have hdi8 : (d1 : Int) ≤ 8 := by omega
          have HId := Lib.hid hid
          clear hid hb hMa hj hev hd0
          go_wp2_with (first
            | (go_at_call 22; ((with_reducible refine (GWt.out _ _ K6.out).mono ?_)); rintro e w7 ⟨a7, c7, rfl, h⟩; have K7 := Lib.hid h; obtain ⟨z0, _, _⟩ := HC.out _ h.ground; obtain ⟨gb, go_, rfl, cx⟩ := (ints_at h.snd HD1.out) j id HId.out; clear h K6)
            | (go_at_call 15; ((with_reducible refine (HAc.out _ _ K7.out.assoc).mono ?_)); rintro e w8 ⟨rfl, h⟩; have K8 := Lib.hid h; clear h K7))
          go_roundw
          case rel => exact ⟨k + 1, Ma, by omega, by omega, by go_num, HOa.out.mono (by omega), K8.out.assoc'.drop⟩
          case measure => simp [intOf]; omega
        · have hevb : (za.tmod 2 == 0) = false := by simpa using hev
          clear hd0
          go_wp2_with (go_at_call 22; ((with_reducible refine (GWt.out _ _ K6.out).mono ?_)); rintro e w7 ⟨a7, c7, rfl, h⟩; have K7 := Lib.hid h; obtain ⟨z0, _, _⟩ := HC.out _ h.ground; clear h K6)
          go_roundw
          case rel => exact ⟨k + 1, M', by omega, by omega, by go_num, HO.out.mono (by omega), K7.out.drop⟩
          case measure => simp [intOf]; omega
    · have hex : (k < tl ∧ 40 ≤ k) ∨ tl ≤ k := by omega
      have KB := Lib.hid hH
      obtain ⟨N, hN⟩ : ∃ N, N = M.begin_ P Ms := ⟨_, rfl⟩
      have hN1 : N.Ok (2 * k + 1) := by rw [hN]; exact hMo.begin_ _ _
      have hBC := fun V (R : Thing) (bo ao : Option Addr) (c1 c2 : Nat) (H : Held w V ((BT x M).sep (R.sep ((plsT bo nn c1 P).sep (intsT ao ds c2 Ms))))) => Held.beginC A hMo (by omega) HPn.out HDs.out (by have := HN9.out; omega) (by have := HD8'.out; omega) rfl HbE.out hN.symm H
      generalize M.beginV P Ms = bv at *
      have HBC := Lib.hid hBC
      have HNT := Lib.hid (show ∃ now, N.T = asgI Ms P now from ⟨_, by rw [hN]; exact begin_T HbE.out⟩)
      obtain ⟨WL, hWL⟩ : ∃ WL, WL = N.W := ⟨_, rfl⟩
      obtain ⟨d, hd⟩ : ∃ d, d = WL.length := ⟨_, rfl⟩
      have HWl := Lib.hid hd.symm
      have HD8 := Lib.hid (show d ≤ 8 from by rw [hd, hWL]; exact hN1.wl)
      have HNd := Lib.hid (show WL.Nodup from by rw [hWL]; exact hN1.wn)
      have HBd := Lib.hid (show ∀ m, m ∈ WL → 0 ≤ m ∧ m < 16 from by rw [hWL]; exact hN1.wp)
      have HN50 := Lib.hid (hN1.mono (L := 100) (by omega))
      have HR0 := Lib.hid (show Ran N N WL from by rw [hWL]; exact Ran.start hN1)
      have HWt := Lib.hid (fun V (R : Thing) (H : Held w V ((BT x N).sep R)) => Held.waitsB A hN1 (by omega) hWL.symm hd H)
      clear hH hMo hN hWL hd hN1 hBC
      rcases hex with ⟨e1, e2⟩ | e1
      case' inl => have e1i : (k : Int) < (tl : Int) := by omega
      case' inl => have e2i : ¬ (k : Int) < 40 := by omega
      case' inr => have e1i : ¬ (k : Int) < (tl : Int) := by omega
      all_goals (
        clear hin
        go_wp2_with (first
          | (go_at_call 10; ((with_reducible refine (HAm.out _).mono ?_)); rintro e wA ⟨rfl, rfl⟩)
          | (go_at_call 21; ((with_reducible refine (HRi.out _ KB.out.ground).mono ?_)); rintro e wC ho; obtain ⟨a5, c5, rfl, k5⟩ := KB.out.outs ho; have K5 := Lib.hid k5; clear ho k5 KB)
          | (go_at_call 11; ((with_reducible refine (HPl.out _).mono ?_)); rintro e wB ho; obtain ⟨a4, c4, rfl, k4⟩ := K5.out.row ho; have K4 := Lib.hid (k4.assoc.assoc.imp2 (fun h => sep_imp2 (fun h => h) (fun h => sep_imp2 (fun h => h) (fun h => sep_swap h) h) h)); clear ho k4 K5)
          | (go_at_call 12; ((with_reducible refine (HBC.out _ _ _ _ _ _ K4.out).mono ?_)); rintro e w6 ⟨rfl, k6⟩; have K6 := Lib.hid k6; clear k6 K4)
          | (go_at_call 22; ((with_reducible refine (HWt.out _ _ K6.out).mono ?_)); rintro e wD ⟨a9, c9, rfl, k8⟩; have K8 := Lib.hid k8.assoc; clear k8 K6))
        clear HBC HAm HPl HRi HMk HWk HTX HTL HWt
        go_loopw [14] (fun ix wr => ∃ (i : Nat) (Nx : TbM), i ≤ d ∧ ix = .int .i64 i ∧ Nx.Ok (100 + i) ∧ Ran N Nx (WL.drop i) ∧ Held w wr ((BT x Nx).sep ((Thing.none.sep ((plsT a4 nn c4 P).sep (intsT a5 ds c5 Ms))).sep (intsT a9 d c9 WL)))) (fun ix _ => d - (intOf ix).toNat)
        case atStart => exact ⟨0, N, Nat.zero_le _, rfl, HN50.out, HR0.out, K8.out⟩
        case round =>
          clear K8
          obtain ⟨i, Nx, hi, rfl, hx, rx, hH⟩ := hrel
          by_cases hlt : i < d
          · obtain ⟨xi, hxi⟩ := get_some (l := WL) (i := i) (by rw [HWl.out]; exact hlt)
            obtain ⟨gb, go_, rfl, cx⟩ := (ints_at hH.snd.snd HWl.out.symm) i xi hxi
            have hxm : xi ∈ WL.drop i := by rw [List.drop_eq_getElem_cons (List.getElem?_eq_some_iff.1 hxi).1, (List.getElem?_eq_some_iff.1 hxi).2]; exact List.mem_cons_self ..
            have hnw : decide (Nx.W = []) = false := by rw [decide_eq_false_iff_not, rx.w]; exact List.ne_nil_of_mem hxm
            obtain ⟨rx', rx1, rx2⟩ := rx.step hxm
            rw [flt_drop HNd.out hxi] at rx' rx2
            have hlast : Nx.ackV xi = decide (i + 1 = d) := by
              rw [Bool.eq_iff_iff, rx2, decide_eq_true_iff, List.drop_eq_nil_iff, HWl.out]
              omega
            have bx := HBd.out xi (List.mem_of_getElem? hxi)
            have HSt := Lib.hid (fun V (R : Thing) (H : Held w V ((BT x Nx).sep R)) => Held.settledB A hx (by have := HD8.out; omega) hnw H)
            have HAx := Lib.hid (fun V (R : Thing) (H : Held w V ((BT x Nx).sep R)) => Held.ackB A hx (by have := HD8.out; omega) (x := xi) (by omega) (by omega) hlast rx1 rfl H)
            have HOx := Lib.hid (hx.ack xi)
            have HRx := Lib.hid rx'
            have K9 := Lib.hid hH
            have hii : (i : Int) < (d : Int) := by omega
            have hd8 : (d : Int) ≤ 8 := by have := HD8.out; omega
            obtain ⟨Nx', hNx⟩ : ∃ N', N' = Nx.ack xi := ⟨_, rfl⟩
            rw [← hNx] at HAx HOx HRx
            clear hH rx rx' rx1 rx2 hxi hx bx hxm hnw hlast hNx
            by_cases hla : i + 1 = d
            case' pos => have hlb : ((i : Int) == (d : Int) - 1) = true := by rw [beq_iff_eq]; omega
            case' pos => have hlc : (i : Int) = (d : Int) - 1 := by omega
            case' neg => have hlb : ((i : Int) == (d : Int) - 1) = false := by rw [beq_eq_false_iff_ne]; omega
            case' neg => have hlc : ¬ (i : Int) = (d : Int) - 1 := by omega
            case' pos => rw [decide_eq_true hla] at HAx
            case' neg => rw [decide_eq_false hla] at HAx
            case' pos => clear hlc
            all_goals (
              clear hla
              go_wp2_with (first
                | (go_at_call 23; ((with_reducible refine (HSt.out _ _ K9.out).mono ?_)); rintro e wE ⟨rfl, hs⟩; have K10 := Lib.hid (K9.out.still hs); have cxE := still_cell hs cx rfl; clear hs K9)
                | (go_at_call 15; ((with_reducible refine (HAx.out _ _ K10.out).mono ?_)); rintro e wF ⟨rfl, kb⟩; have KB := Lib.hid kb; clear kb K10))
              go_roundw
              case rel => exact ⟨i + 1, Nx', by omega, by go_num, HOx.out, HRx.out, KB.out⟩
              case measure => simp [intOf]; omega)
          · obtain rfl : i = d := by omega
            rw [List.drop_eq_nil_of_le (by rw [HWl.out]; omega)] at rx
            obtain ⟨now, hnow⟩ := HNT.out
            obtain ⟨L, hL⟩ : ∃ L, L = N.T := ⟨_, rfl⟩
            have hLa : L = asgI Ms P now := hL.trans hnow
            have hnl : nn = L.length := by rw [hLa, asgI_len]; exact HPn.out
            have HLo := Lib.hid (fun (k2 : Nat) (o2 : Own) (ho : L[k2]? = some o2) => show (0 < ds → o2.2 ∈ Ms) ∧ (ds = 0 → o2.2 = -1) from by
              obtain ⟨p2, hp2⟩ := get_some (l := P) (i := k2) (by rw [← HPn.out, hnl]; exact (List.getElem?_eq_some_iff.1 ho).1)
              obtain ⟨x2, hx2, f1, f2⟩ := asgI_all (ms := Ms) (os := now) hp2
              rw [hLa, hx2] at ho
              obtain rfl := Option.some.inj ho
              rw [← HDs.out] at f1 f2
              exact ⟨f1, f2⟩)
            have HEv := Lib.hid (fun (k2 c : Nat) (hm : Ms[k2]? = some ((c : Nat) : Int)) => show nn / ds ≤ cntI L nn c ∧ cntI L nn c ≤ nn / ds + 1 from by
              obtain ⟨h1, h2⟩ := List.getElem?_eq_some_iff.1 hm
              have := of_even (ps := P) (os := now) HMr.out h1
              rw [h2, ← hLa, ← HPn.out, ← HDs.out, ← cntI_all, ← hnl] at this
              exact this)
            have F1 := Lib.hid (fun V (R : Thing) (H : Held w V ((BT x Nx).sep R)) => Held.settledB A hx (by have := HD8.out; omega) (decide_eq_true rx.w) H)
            have F5 := Lib.hid (fun V (R : Thing) (H : Held w V ((BT x Nx).sep R)) => Held.ownersB A hx (by have := HD8.out; omega) ((rx.o rfl).trans hL.symm) hnl H)
            have F7 := Lib.hid (fun V (R : Thing) (H : Held w V ((BT x Nx).sep R)) => Held.targetR A hx (by have := HD8.out; omega) (rx.t.trans hL.symm) hnl H)
            have F6 := Lib.hid (fun V (R : Thing) (H : Held w V ((BT x Nx).sep R)) => Held.waitsB A hx (by have := HD8.out; omega) (n := 0) rx.w rfl H)
            have F8 := Lib.hid (fun V (a b : Option Addr) (c c' : Nat) (ha : OwAt V a L) (hb : OwAt V b L) => sameOw_any V a b L L nn nn c c' hnl hnl (by have := HN9.out; omega) ha hb)
            rw [show decide (L = L) = true from decide_eq_true rfl] at F8
            have HNl := Lib.hid hnl
            have KE := Lib.hid hH
            obtain ⟨ti, fi, hz0, hz1, hz2⟩ := info_parts infoIntW
            have hmk := fun W : World => run_make (P := Try.prog) W 28 3 ti _ Try.underlying28 fi hz0 .i64 .i64 (8 : Int) (8 : Int) (by omega) (Int.le_refl _) (by rw [hz2]; omega) (by omega)
            simp only [hz1, show (8 : Int).toNat = 8 from rfl, Nat.mul_one, show Value.cells (.int .i64 0) = #[.int .i64 0] from rfl, made8] at hmk
            clear hH rx hx hL hLa hnow hnl fi hz0 hz1 hz2 HR0 HN50 HNd HBd HNT HbE HMr
            go_wp2_with (go_at_call 19; ((with_reducible refine (F5.out _ _ KE.out).mono ?_)); rintro e v5 ⟨p5, q5, rfl, h⟩; have K11 := Lib.hid (lit_held h.assoc (l := List.replicate 8 0) (n := 8) rfl (by omega)).swap; clear h KE)
            clear hmk
            obtain ⟨Big, hBig⟩ : ∃ Big, Big = ((BT x Nx).sep (((Thing.none.sep ((plsT a4 nn c4 P).sep (intsT a5 ds c5 Ms))).sep (intsT a9 i c9 WL)).sep (ownsT p5 nn q5 L))) := ⟨_, rfl⟩
            have HBo := Lib.hid (fun V (H : Held w V Big) => show OwAt V p5 L from by
              rw [hBig] at H
              obtain ⟨_, h, _⟩ := H.snd.snd
              exact RowAt.of_own encOw_len h.1 HNl.out)
            have HBm := Lib.hid (fun V (H : Held w V Big) => show NumsAt V a5 Ms from by
              rw [hBig] at H
              exact ints_at (H.snd.drop.drop.snd.snd) HDs.out)
            have HBt := Lib.hid (fun V (B : Thing) (H : Held w V (B.sep Big)) => show Held w V ((BT x Nx).sep ((((Thing.none.sep ((plsT a4 nn c4 P).sep (intsT a5 ds c5 Ms))).sep (intsT a9 i c9 WL)).sep (ownsT p5 nn q5 L)).sep B)) from by
              rw [hBig] at H
              exact H.swap.assoc)
            rw [← hBig] at K11
            clear hBig
            rw [← clI_zero L] at K11
            obtain ⟨g, hg⟩ : ∃ g, g = v5.heap.size := ⟨_, rfl⟩
            rw [← hg] at K11 ⊢
            clear hg
            go_loopw [19] (fun kx wr => ∃ k2 : Nat, k2 ≤ nn ∧ kx = .int .i64 k2 ∧ Held w wr ((intsT (some ⟨g, 0, none⟩) 8 8 (clI L k2)).sep Big)) (fun kx _ => nn - (intOf kx).toNat)
            case atStart => exact ⟨0, Nat.zero_le _, rfl, K11.out⟩
            case round =>
              clear K11
              obtain ⟨k2, hk2, rfl, hH⟩ := hrel
              by_cases hlt2 : k2 < nn
              · obtain ⟨⟨⟨pf, pt⟩, id⟩, ho⟩ := get_some (l := L) (i := k2) (by rw [← HNl.out]; exact hlt2)
                obtain ⟨b5, o5, rfl, hc5⟩ := HBo.out _ hH.snd k2 _ ho
                obtain ⟨hi1, hi2⟩ := HLo.out k2 _ ho
                have c5' : wr.cell? ⟨b5, o5 + k2 * 3 + 2, none⟩ = some (.int .i64 id) := by rw [Nat.add_assoc]; exact hc5 2 _ rfl
                have hki2 : (k2 : Int) < (nn : Int) := by omega
                have hn9 : (nn : Int) < 9 := by have := HN9.out; omega
                dsimp only at hi1 hi2
                by_cases hd0 : ds = 0
                · obtain rfl := hi2 hd0
                  have HCl := Lib.hid (show clI L (k2 + 1) = clI L k2 from clI_same ho (by show (-1 : Int) < 0; decide))
                  have hdi : ¬ (0 : Int) < (ds : Int) := by omega
                  have hdb : ((ds : Int) == 0) = true := by rw [beq_iff_eq]; omega
                  have hdz : (ds : Int) = 0 := by omega
                  have KH := Lib.hid hH
                  clear hH ho hc5 hi1 hi2 hd0 hdz
                  go_wp2_with fail
                  go_roundw
                  case rel => exact ⟨k2 + 1, by omega, by go_num, by rw [HCl.out]; exact KH.out⟩
                  case measure => simp [intOf]; omega
                · have him := hi1 (by omega)
                  obtain ⟨c, hc8, rfl⟩ := HMx.out id him
                  have HHi := Lib.hid (hasI_any wr a5 Ms ds c5 ((c : Nat) : Int) HDs.out (by have := HD8'.out; omega) (HBm.out _ hH.snd))
                  rw [decide_eq_true him] at HHi
                  obtain ⟨x1, x2, x3⟩ := held_put hH (clI_get L k2 hc8)
                  have HCl := Lib.hid (clI_step ho hc8 rfl)
                  have hcl : cntI L k2 c ≤ k2 := cntI_le _ _ _
                  have HP := Lib.hid (x3 (((cntI L k2 c : Nat) : Int) + 1))
                  rw [HCl.out] at HP
                  generalize cntI L k2 c = q at *
                  have hdi : (0 : Int) < (ds : Int) := by omega
                  have hdb : ((ds : Int) == 0) = false := by rw [beq_eq_false_iff_ne]; omega
                  have hci : (c : Int) < 8 := by omega
                  have hqi : (q : Int) < 9 := by omega
                  have KH := Lib.hid hH
                  clear hH ho hc5 hi1 hi2 hd0 him x3 HCl
                  go_wp2_with (go_at_call 24; ((with_reducible refine HHi.out.mono ?_)); rintro e w9 ⟨rfl, rfl⟩)
                  go_roundw
                  case rel => exact ⟨k2 + 1, by omega, by go_num, HP.out⟩
                  case measure => simp [intOf]; omega
              · obtain rfl : k2 = nn := by omega
                have K12 := Lib.hid hH
                clear hH hlt2 HLo HMx
                go_wp2_with fail
                go_loopw [20] (fun kx wr => ∃ k3 : Nat, k3 ≤ ds ∧ kx = .int .i64 k3 ∧ Held w wr ((intsT (some ⟨g, 0, none⟩) 8 8 (clI L k2)).sep Big)) (fun kx _ => ds - (intOf kx).toNat)
                case atStart => exact ⟨0, Nat.zero_le _, rfl, K12.out⟩
                case round =>
                  clear K12
                  obtain ⟨k3, hk3, rfl, hH⟩ := hrel
                  by_cases hlt3 : k3 < ds
                  · obtain ⟨m, hm⟩ := get_some (l := Ms) (i := k3) (by rw [← HDs.out]; exact hlt3)
                    obtain ⟨bm, om, rfl, cm⟩ := HBm.out _ hH.snd k3 _ hm
                    obtain ⟨c, hc8, rfl⟩ := HMy.out m (List.mem_of_getElem? hm)
                    obtain ⟨x1, x2, x3⟩ := held_put hH (clI_get L k2 hc8)
                    obtain ⟨e3, e4⟩ := HEv.out k3 c hm
                    generalize cntI L k2 c = q at *
                    obtain ⟨qq, hqq⟩ : ∃ qq, qq = k2 / ds := ⟨_, rfl⟩
                    rw [← hqq] at e3 e4
                    have hq9 : qq < 9 := by have := Nat.div_le_self k2 ds; have := HN9.out; omega
                    have hwq : (k2 : Int) / (ds : Int) = (qq : Int) := by rw [hqq]; rfl
                    have hdz : (ds : Int) ≠ 0 := by omega
                    have hdp : (0 : Int) < (ds : Int) := by omega
                    have hk3i : (k3 : Int) < (ds : Int) := by omega
                    have hd8 : (ds : Int) ≤ 8 := by have := HD8'.out; omega
                    have hn9 : (k2 : Int) < 9 := by have := HN9.out; omega
                    have hci : (c : Int) < 8 := by omega
                    have hz1 : ¬ (q : Int) < (qq : Int) := by omega
                    have hz2 : ¬ (qq : Int) + 1 < (q : Int) := by omega
                    have hqi : (qq : Int) < 9 := by omega
                    have KH := Lib.hid hH
                    clear hH hm x2 x3 e3 e4 hqq hq9
                    go_wp2_with fail
                    go_roundw
                    case rel => exact ⟨k3 + 1, by omega, by go_num, KH.out⟩
                    case measure => simp [intOf]; omega
                  · obtain rfl : k3 = ds := by omega
                    have G0 := Lib.hid (HBt.out _ _ hH)
                    have O0 := Lib.hid (HBo.out _ hH.snd)
                    clear hH hlt3
                    go_wp2_with (go_at_call 23; ((with_reducible refine (F1.out _ _ G0.out).mono ?_)); rintro e v1 ⟨rfl, hs⟩; have G1 := Lib.hid (G0.out.still hs); have O1 := Lib.hid (row_still O0.out hs); clear hs G0 O0)
                    go_wp2_with (go_at_call 26; ((with_reducible refine (F7.out _ _ G1.out).mono ?_)); rintro e v2 ⟨p9, q9, rfl, h, hs⟩; have T2 := Lib.hid h; have G2 := Lib.hid (G1.out.still hs); have O2 := Lib.hid (row_still O1.out hs); clear h hs G1 O1)
                    go_wp2_with (go_at_call 25; ((with_reducible refine (F8.out _ _ _ _ _ O2.out T2.out).mono ?_)); rintro e v3 ⟨rfl, hs⟩; have G3 := Lib.hid (G2.out.still hs); clear hs G2 O2 T2)
                    go_wp2_with (go_at_call 22; ((with_reducible refine (F6.out _ _ G3.out).mono ?_)); rintro e v4 ⟨pa, qa, rfl, h⟩; have G4 := Lib.hid h; clear h G3)
                    go_ret
                    exact ⟨by first | rfl | simp, G4.out.ground⟩)
end Go.Proofs.Ytplnbphbccflfaa
