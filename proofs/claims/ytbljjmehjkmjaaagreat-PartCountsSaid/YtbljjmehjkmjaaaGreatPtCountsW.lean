/- PartCounts: the walk. No condition but that the program's partitions and pool keep their words. -/
import Derived.Test.YtbljjmehjkmjaaaGreatPtPlaysW
import Derived.Test.YtbljjmehjkmjaaaGreatPtCtMath
import Derived.Test.YtbljjmehjkmjaaaGreatPtAppNums
namespace Go.Proofs.YtbljjmehjkmjaaaGreat
open Go.RowKit
set_option linter.unusedVariables false
set_option linter.unusedSimpArgs false
set_option maxRecDepth 100000

/-- What lies there behind an act: the struct's cells, and what the calls answer, wherever nothing of it has turned. -/
structure CtSys (ws : World) (t q x0 x1 : Nat) (P : PM) (R0 R1 had : List Int) (ao : Option Addr) (n0 n1 m cc fl : Nat) : Prop where
  cells : ∀ V, Still ws V → V.cell? ⟨t, 0, none⟩ = some (.pointer (some ⟨q, 0, none⟩)) ∧ V.cell? ⟨t, 2, none⟩ = some (.pointer (some ⟨x0, 0, none⟩)) ∧ V.cell? ⟨t, 3, none⟩ = some (.pointer (some ⟨x1, 0, none⟩)) ∧ V.cell? ⟨t, 6, none⟩ = some (.slice ao m cc)
  row : ∀ V, Still ws V → NumsAt V ao had
  refs0 : ∀ V, Still ws V → Calls Tryz.prog 13 #[.pointer (some ⟨x0, 0, none⟩)] V (OutNums V R0 n0)
  refs1 : ∀ V, Still ws V → Calls Tryz.prog 13 #[.pointer (some ⟨x1, 0, none⟩)] V (OutNums V R1 n1)
  free : ∀ V, Still ws V → Calls Tryz.prog 14 #[.pointer (some ⟨q, 0, none⟩)] V (GotNums V (nums P.fr) fl)
  count : ∀ V, Still ws V → ∀ k, k < P.sl.length → Calls Tryz.prog 15 #[.pointer (some ⟨q, 0, none⟩), .int .i64 k] V fun e w' => e = .returned (.int .i64 (P.cnt k : Nat)) ∧ Still V w'
  l0 : n0 = R0.length ∧ n0 ≤ 64
  l1 : n1 = R1.length ∧ n1 ≤ 64
  lh : m = had.length
  lf : fl = P.fr.length ∧ fl ≤ 128
  none : ao = none → m = 0 ∧ cc = 0
  inv : PtInv P (R0 ++ R1 ++ had)

theorem Two.ct {PT : Nat → PM → Thing} {XT : Nat → Nat → RM → Thing} (A : PartActs PT XT) (B : PoolActs PT) {w ws : World} {t q zq x0 x1 y0 y1 r0 r1 : Nat} {P : PM} {M0 M1 : RM} {had : List Int} {ao : Option Addr} {n cc N K : Nat} (H : Two PT XT w ws t q zq 0 x0 x1 y0 y1 r0 r1 P M0 M1 had ao n cc N K) (hN : N < 800000) (hK : K < 800000) :
    CtSys ws t q x0 x1 P M0.refs M1.refs had ao M0.l.length M1.l.length n cc P.fr.length := by
  refine ⟨fun V h => ?_, fun V h => ?_, fun V h => ?_, fun V h => ?_, fun V h => ?_, fun V h k hk => ?_, ⟨by simp [RM.refs], by have := H.mi.len; have := H.mi.max; omega⟩, ⟨by simp [RM.refs], by have := H.mj.len; have := H.mj.max; omega⟩, H.len.symm, ⟨rfl, H.ok.frlen⟩, fun h0 => ?_, by have := H.inv; rwa [← List.append_assoc] at this⟩
  · have h1 := (H.still h).held.rest.drop.blk
    exact ⟨h1.cell rfl, h1.cell rfl, h1.cell rfl, h1.cell rfl⟩
  · have := (H.still h).held.rest.snd
    obtain ⟨_, h'⟩ := this.use
    exact ownT_ints h'.1 H.len.symm
  · obtain ⟨_, hp⟩ := (H.still h).held.prog
    exact A.handles hp H.ok H.mi (by omega) (by omega) _ rfl
  · obtain ⟨_, hp⟩ := ((H.still h).swap (by omega)).held.prog
    exact A.handles hp H.ok H.mj (by omega) (by omega) _ rfl
  · obtain ⟨_, _, _, hp, _⟩ := (H.still h).held.prog
    exact B.free hp H.ok (by omega) _ rfl
  · obtain ⟨_, _, _, hp, _⟩ := (H.still h).held.prog
    have hl := H.ok.len
    have := B.count hp H.ok (by omega) k ⟨by omega, by omega⟩
    rwa [cntOf_at P hk] at this
  · have h1 := H.held.rest.snd
    obtain ⟨_, h'⟩ := h1.use
    exact (ow_le h'.1.1).2.2 h0
theorem CtSys.on {ws ws' : World} {t q x0 x1 : Nat} {P : PM} {R0 R1 had : List Int} {ao : Option Addr} {n0 n1 m cc fl : Nat} (h : CtSys ws t q x0 x1 P R0 R1 had ao n0 n1 m cc fl) (hs : Still ws ws') : CtSys ws' t q x0 x1 P R0 R1 had ao n0 n1 m cc fl :=
  ⟨fun V g => h.cells V (hs.trans g), fun V g => h.row V (hs.trans g), fun V g => h.refs0 V (hs.trans g), fun V g => h.refs1 V (hs.trans g), fun V g => h.free V (hs.trans g), fun V g => h.count V (hs.trans g), h.l0, h.l1, h.lh, h.lf, h.none, h.inv⟩
theorem ct_made (w : World) (n : Nat) (R : List Int) (hn : n ≤ 9) : Held w (w.alloc (.cells (ints (nums (List.replicate n 0))).toArray 3)) (ownT 3 1 (some ⟨w.heap.size, 0, none⟩) n n (ints (cts n R 0))) := by
  have e : nums (List.replicate n 0) = cts n R 0 := by rw [cts_zero]; simp [nums]
  rw [e]
  refine ⟨(· = w.heap.size), ⟨?_, fun k => ?_⟩, fun k hk => by rw [hk]; exact Nat.le_refl _, (Turned.refl _ _).alloc _⟩
  · exact ⟨by rw [ints_length, cts_length, Nat.mul_one], .inr ⟨w.heap.size, n, (ints (cts n R 0)).toArray, rfl, Nat.zero_le _, heap_alloc_new w _, Nat.le_refl _, by unfold maxLen; omega, by simp [ints, cts_length], by simp [ints, cts, List.take_of_length_le]⟩⟩
  · simp [Value.ownBlock, eq_comm]

set_option maxHeartbeats 8000000 in
theorem counts12_walk {PT : Nat → PM → Thing} {XT : Nat → Nat → RM → Thing} (A : PartApi PT XT) (B : PoolApi12 PT) (a b c : Int) (s : Sl Act12) (w : World) (hs : SlOk encAct12 okAct12 4 w s) :
    Calls Tryz.prog 4 #[.int .i64 a, .int .i64 b, .int .i64 c, .slice s.a s.len s.cap] w fun e w' => e = .returned (.bool true) ∧ Still w w' := by
  obtain ⟨s0, hs0⟩ : ∃ s, s = am a 9 := ⟨_, rfl⟩
  obtain ⟨r0, hr0⟩ : ∃ r, r = am b 6 := ⟨_, rfl⟩
  obtain ⟨p0, hp0⟩ : ∃ r, r = am c 2 := ⟨_, rfl⟩
  have hs0l : s0 < 9 := by rw [hs0]; exact am_lt _ (by omega)
  have hr0l : r0 < 6 := by rw [hr0]; exact am_lt _ (by omega)
  have hp0l : p0 < 2 := by rw [hp0]; exact am_lt _ (by omega)
  obtain ⟨ov, hov⟩ := polB_am hp0l
  have B1 := Lib.hid (fun W => among_lit a 9 9 s0 rfl hs0 (by omega) (by omega) W)
  have B2 := Lib.hid (fun W => among_lit b 6 6 r0 rfl hr0 (by omega) (by omega) W)
  have B3 := Lib.hid (fun W => among_lit c 2 2 p0 rfl hp0 (by omega) (by omega) W)
  rw [hov] at B3
  obtain ⟨n, hn⟩ : ∃ s, s = 1 + s0 := ⟨_, rfl⟩
  obtain ⟨r, hr⟩ : ∃ r, r = 1 + r0 := ⟨_, rfl⟩
  have hn' : (1 : Int) + (s0 : Int) = (n : Int) := by omega
  have hr' : (1 : Int) + (r0 : Int) = (r : Int) := by omega
  have HMd := Lib.hid (fun W (h : Still w W) => ptmade_any A B w W h n r ov (by omega) (by omega) (by omega) (by omega))
  have HWk := Lib.hid (fun W => works12 A B W)
  obtain ⟨sa, sl, sc, sx⟩ := s
  have hscap : sl ≤ sc := hs.le
  have hsmax : sc ≤ maxLen := hs.max
  unfold maxLen at hsmax
  have HS := Lib.hid hs
  have HSL : Hid (sx.length = sl) := Lib.hid hs.len
  have hn9 : 1 ≤ n ∧ n ≤ 9 := by omega
  dsimp only
  clear hs hs0 hr0 hp0 hn hr hov
  go_enter Tryz.func4, Tryz.ntmps4
  go_wp2_with (first
    | (go_at_call 11; ((with_reducible refine (HWk.out _).mono ?_)); rintro e w6 ⟨rfl, hT6⟩; have H6 := Lib.hid hT6; clear hT6)
    | (go_at_call 7; first | (((with_reducible refine (B1.out _).mono ?_)); rintro e w' ⟨rfl, hw⟩; rw [← hw]; clear hw) | (((with_reducible refine (B2.out _).mono ?_)); rintro e w' ⟨rfl, hw⟩; rw [← hw]; clear hw) | (((with_reducible refine (B3.out _).mono ?_)); rintro e w' ⟨rfl, hw⟩; rw [← hw]; clear hw))
    | (go_at_call 6; ((with_reducible refine (HMd.out _ H6.out).mono ?_)); rintro e w1 ⟨t, q, zq, x, y, z, x', y', z', rfl, hT⟩; have H1 := Lib.hid hT; have d7 := (hT.held.rest.drop.blk).cell (o := 7) rfl; clear hT))
  go_loopw [10] (fun i wr => ∃ k : Nat, k ≤ 150 ∧ i = .int .i64 k ∧ TwoAt PT XT w wr t q zq x x' y y' z z' n k) (fun i _ => 150 - (intOf i).toNat)
  case atStart => exact ⟨0, by omega, rfl, _, _, _, _, _, _, _, H1.out, Nat.le_refl _, by simp [PM.new], rfl⟩
  case round =>
    clear H1 HMd d7 H6
    obtain ⟨k, hk, rfl, P, M0, M1, had, ao, m, cc, hT, hm, hsl, hsz⟩ := hrel
    have HT := Lib.hid hT
    have HSl := Lib.hid hsl
    have HSz := Lib.hid hsz
    clear hT hsl hsz
    by_cases hin : k < sl ∧ k < 150
    · obtain ⟨hlt, h150⟩ := hin
      obtain ⟨g, hx⟩ := get_some (l := sx) (i := k) (by rw [HSL.out]; exact hlt)
      obtain ⟨bb, o, rfl, hc⟩ := HS.out.row k g hx
      have hok := HS.out.each g (List.mem_of_getElem? hx)
      have hst := HT.out.held.ground
      have HAct := Lib.hid (act_two A.toPartActs B.toPoolActs HT.out (by omega) (by omega) (by omega) g hok)
      unfold ActTwo at HAct
      obtain ⟨g0, g1, g2, ⟨ga, gl, gc, gx⟩⟩ := g
      have c0 : wr.cell? ⟨bb, o + k * 4, none⟩ = some (.int .i64 g0) := still_cell hst (hc 0 _ rfl) (by omega)
      have c1 : wr.cell? ⟨bb, o + k * 4 + 1, none⟩ = some (.int .i64 g1) := still_cell hst (hc 1 _ rfl) (by omega)
      have c2 : wr.cell? ⟨bb, o + k * 4 + 2, none⟩ = some (.int .i64 g2) := still_cell hst (hc 2 _ rfl) (by omega)
      have c3 : wr.cell? ⟨bb, o + k * 4 + 3, none⟩ = some (.slice ga gl gc) := still_cell hst (hc 3 _ rfl) (by omega)
      unfold Act12.val at HAct
      dsimp only at HAct
      clear hx hc hok hst
      obtain ⟨i0, ji, jz0, jz1, jz2⟩ := info_parts infoIntW
      have hmk := fun W : World => run_make (P := Tryz.prog) W 32 3 i0 _ Tryz.underlying32 ji jz0 .i64 .i64 (n : Int) (n : Int) (Int.natCast_nonneg n) (Int.le_refl _) (by rw [jz2]; omega) (by omega)
      simp only [jz1, Int.toNat_natCast, Nat.mul_one, show Value.cells (.int .i64 0) = #[.int .i64 0] from rfl, made_ints] at hmk
      go_wp2_with (go_at_call 8; ((with_reducible refine HAct.out.mono ?_)); rintro e w5 ⟨rfl, P', M0', M1', had', ao', n', cc', hT5, hz5, hn5, _⟩; have H5 := Lib.hid hT5; have Z5 := Lib.hid hz5; have N5 := Lib.hid hn5; have HCt := Lib.hid (hT5.ct A.toPartActs B.toPoolActs (by omega) (by omega)); clear hT5 hz5 hn5)
      obtain ⟨n0, hn0⟩ : ∃ x, x = M0'.l.length := ⟨_, rfl⟩
      obtain ⟨n1, hn1⟩ : ∃ x, x = M1'.l.length := ⟨_, rfl⟩
      obtain ⟨fl, hfl⟩ : ∃ x, x = P'.fr.length := ⟨_, rfl⟩
      rw [← hn0, ← hn1, ← hfl] at HCt
      have HK0 := Lib.hid (ct_made w5 n (M0'.refs ++ M1'.refs ++ had') (by omega))
      obtain ⟨gb, hgb⟩ : ∃ g, g = w5.heap.size := ⟨_, rfl⟩
      obtain ⟨U, hU⟩ : ∃ U, U = w5.alloc (.cells (ints (nums (List.replicate n 0))).toArray 3) := ⟨_, rfl⟩
      rw [← hU, ← hgb] at HK0
      rw [← hU, ← hgb]
      obtain ⟨D, hD⟩ : ∃ D, D = U.drew := ⟨_, rfl⟩
      have h5D : Still w5 D := by rw [hD, hU]; exact ((Turned.refl _ _).alloc _).drew
      have HKD := Lib.hid (HK0.out.still (show Still U D from by rw [hD]; exact (Turned.refl _ _).drew))
      have HC := Lib.hid (HCt.out.on h5D)
      have HDr := Lib.hid hD
      have hUd : Still D U.drew := by rw [hD]; exact Turned.refl _ _
      obtain ⟨k1, k2, k3, k4⟩ := HC.out.cells _ hUd
      obtain ⟨hl0, hl0'⟩ := HC.out.l0
      obtain ⟨hl1, hl1'⟩ := HC.out.l1
      have hlh := HC.out.lh
      have HL0 := Lib.hid hl0
      have HL1 := Lib.hid hl1
      have HLh := Lib.hid hlh
      have hn151 : n' ≤ 151 := by have := N5.out; omega
      have H5D := Lib.hid h5D
      clear hmk hU hD hgb hn0 hn1 hfl h5D hl0 hl1 hlh HK0 c0 c1 c2 c3
      go_region_held3 (fun Z => Z.cell? ⟨t, 2, none⟩ = some (.pointer (some ⟨x, 0, none⟩)) ∧ Z.cell? ⟨t, 3, none⟩ = some (.pointer (some ⟨x', 0, none⟩)) ∧ Z.cell? ⟨t, 6, none⟩ = some (.slice ao' n' cc')) (first | exact ⟨by assumption, by assumption, by assumption⟩ | go_keep) (first
        | (go_at_call 13; ((with_reducible refine (HC.out.refs0 _ (by assumption)).mono ?_)); rintro e w7 ⟨a7, c7, rfl, hO7, hT7⟩; have hU7 : Still D w7 := Turned.trans (by assumption) hT7; have HN7 := Lib.hid (NumsAt.of_own hO7 HL0.out); have HZ7 := Lib.hid (fun h => ((ow_le hO7).2.2 h).2); obtain ⟨_, k72, k73, k74⟩ := HC.out.cells _ hU7; clear hT7 hO7)
        | (go_at_call 12; ((with_reducible refine (bints_any _ a7 M0'.refs n0 c7 HL0.out HN7.out (by omega) HZ7.out).mono ?_)); rintro e w8 ⟨a8, c8, rfl, hO8, hT8⟩; have hU8 : Still D w8 := hU7.trans hT8; have HO8 := Lib.hid (ow_base hO8 hU7.size); obtain ⟨_, k82, k83, k84⟩ := HC.out.cells _ hU8; clear hT8 hO8)
        | (go_at_call 13; ((with_reducible refine (HC.out.refs1 _ (by assumption)).mono ?_)); rintro e w9 ⟨a9, c9, rfl, hO9, hT9⟩; have hU9 : Still D w9 := Turned.trans (by assumption) hT9; have HO89 := Lib.hid (ow_still HO8.out hT9); have HN9 := Lib.hid (NumsAt.of_own hO9 HL1.out); have HZ9 := Lib.hid ((ow_le hO9).2.2); obtain ⟨_, k92, k93, k94⟩ := HC.out.cells _ hU9; clear hT9 hO9)
        | (refine step_app_nums (by rfl) (.tmp 57) (.tmp 63) (by rfl) D.heap.size n0 (n0 + n1) _ M0'.refs (by rfl) HO89.out a9 n1 c9 M1'.refs (by rfl) HL1.out HN9.out HZ9.out rfl (by omega) hU9.size ?_; intro v10 w10 hO10 hT10; have hU10 : Still D w10 := ow_past hU9 HO89.out hT10; have HO10 := Lib.hid hO10; obtain ⟨_, k102, k103, k104⟩ := HC.out.cells _ hU10; clear hT10 hO10)
        | (refine step_app_nums (by rfl) (.tmp 64) (.tmp 68) (by rfl) D.heap.size (n0 + n1) (n0 + n1 + n') _ (M0'.refs ++ M1'.refs) (by rfl) HO10.out ao' n' cc' had' (by rfl) HLh.out (HC.out.row _ hU10) HC.out.none rfl (by omega) hU10.size ?_; intro v11 w11 hO11 hT11; have hU11 : Still D w11 := ow_past hU10 HO10.out hT11; have HO11 := Lib.hid hO11; obtain ⟨_, k112, k113, k114⟩ := HC.out.cells _ hU11; clear hT11 hO11))
      obtain ⟨R, hR⟩ : ∃ R, R = M0'.refs ++ M1'.refs ++ had' := ⟨_, rfl⟩
      obtain ⟨al, hal⟩ : ∃ al, al = n0 + n1 + n' := ⟨_, rfl⟩
      obtain ⟨aa, ca, rfl⟩ := ow_slice HO11.out
      have HInv := HC.out.inv
      rw [← hR] at HInv HKD HO11
      rw [← hal] at HO11
      rw [← hal]
      have hal' : al ≤ 279 := by omega
      have hRl : R.length = al := by rw [hR, hal, List.length_append, List.length_append]; have := HL0.out; have := HL1.out; have := HLh.out; omega
      have HRl := Lib.hid hRl
      have HIn := Lib.hid HInv
      have HB := Lib.hid (HKD.out.got HO11.out hU11)
      have HPl := Lib.hid (show P'.sl.length = n from by rw [Z5.out.sl]; exact HSl.out)
      clear hR hal hRl HInv HO11 HKD k112 k113 k114 k102 k103 k104 k92 k93 k94 k82 k83 k84 k72 k73 k74 k1 k2 k3 k4
      go_wp2_with fail
      go_loopw [13] (fun i wx => ∃ j : Nat, j ≤ al ∧ i = .int .i64 j ∧ Held w5 wx ((ownT 3 1 (some ⟨gb, 0, none⟩) n n (ints (cts n R j))).sep (ownT 3 1 aa al ca (ints R)))) (fun i _ => al - (intOf i).toNat)
      case atStart => exact ⟨0, by omega, rfl, HB.out⟩
      case round =>
        clear HB HAct HT
        obtain ⟨j, hj, rfl, hh⟩ := hrel
        have HH := Lib.hid hh
        clear hh
        by_cases hlt2 : j < al
        · obtain ⟨h, hh⟩ := get_some (l := R) (i := j) (by rw [HRl.out]; exact hlt2)
          obtain ⟨p1, p2, p3, p4⟩ := live_slot HIn.out HPl.out hh
          obtain ⟨ba, oa, rfl, hca⟩ := Held.ints HH.out HRl.out.symm j h hh
          obtain ⟨bg, og, eg, hcg⟩ := Held.ints HH.out.swap (cts_length n R j).symm (hSlot h) _ (cts_get p3)
          cases eg
          rw [Nat.zero_add] at hcg
          obtain ⟨gg, rr, eg2, _, hbk⟩ := ow_blk (Held.own HH.out.swap) (by omega)
          cases eg2
          have hfr := hbk.free (hSlot h)
          have HNx := Lib.hid (show Held w5 (wr.setCell ⟨gb, hSlot h, none⟩ (.int .i64 ((slCnt (R.take j) (hSlot h) : Nat) + 1 : Int))) ((ownT 3 1 (some ⟨gb, 0, none⟩) n n (ints (cts n R (j + 1)))).sep (ownT 3 1 (some ⟨ba, oa, none⟩) al ca (ints R))) from by
            obtain ⟨Q, q1, q2⟩ := HH.out.fst
            have := q2 _ _ (ownT_set q1 (hSlot h) p3 (.int .i64 ((slCnt (R.take j) (hSlot h) : Nat) + 1 : Int)))
            rw [ints_set, ← cts_succ hh p3] at this
            exact this)
          have hcl : slCnt (R.take j) (hSlot h) ≤ 279 := by
            have h1 : slCnt (R.take j) (hSlot h) ≤ (R.take j).length := List.countP_le_length
            rw [List.length_take] at h1; omega
          generalize hSlot h = sv at *
          generalize slCnt (R.take j) sv = cv at *
          clear hh hbk
          have hsv : (sv : Int) < (n : Int) := by omega
          go_wp2_with fail
          exact ⟨⟨j + 1, by omega, by go_num, HNx.out⟩, by simp [intOf]; omega⟩
        · obtain rfl : j = al := by omega
          have hg := HH.out.ground
          obtain ⟨t0, _, _, _⟩ := HCt.out.cells _ hg
          have HLf := Lib.hid HCt.out.lf
          have hfl128 : fl ≤ 128 := HLf.out.2
          go_wp2_with (go_at_call 14; ((with_reducible refine (HCt.out.free _ hg).mono ?_)); rintro e w14 ⟨fa, fc, rfl, hO, hst⟩; have HF := Lib.hid (NumsAt.of_own hO (by rw [nums_length]; exact HLf.out.1)); have H14 := Lib.hid (HH.out.still hst); clear hO hst)
          clear hg t0
          go_loopw [15] (fun i wx => ∃ u : Nat, u ≤ n ∧ i = .int .i64 u ∧ Held w5 wx ((ownT 3 1 (some ⟨gb, 0, none⟩) n n (ints (cts n R j))).sep (ownT 3 1 aa j ca (ints R))) ∧ NumsAt wx fa (nums P'.fr)) (fun i _ => n - (intOf i).toNat)
          case atStart => exact ⟨0, by omega, rfl, H14.out, HF.out⟩
          case round =>
            clear H14 HF HH
            obtain ⟨u, hu, rfl, hh, hf⟩ := hrel
            have HH := Lib.hid hh
            have HF := Lib.hid hf
            clear hh hf
            by_cases hlt3 : u < n
            · have hg := HH.out.ground
              have hcf := H5.out.ok.cnt_free (k := u) (by rw [HPl.out]; exact hlt3)
              have HCC := Lib.hid (fun V (h : Still wr V) => show V.cell? ⟨gb, u, none⟩ = some (.int .i64 (P'.cnt u : Nat)) from by
                obtain ⟨bg, og, eg, hcg⟩ := Held.ints (HH.out.still h).swap (cts_length n R j).symm u _ (by have := cts_all HIn.out HPl.out hlt3; rwa [HRl.out] at this)
                cases eg
                rwa [Nat.zero_add] at hcg)
              have HCn := Lib.hid (fun V (h : Still wr V) => HCt.out.count V (hg.trans h) u (by rw [HPl.out]; exact hlt3))
              have HHi := Lib.hid (fun V (h : Still wr V) => show Calls Tryz.prog 16 #[.slice fa fl fc, .int .i64 u] V fun e w' => e = .returned (.bool (decide (u ∈ P'.fr))) ∧ V = w' from by
                have := hasInt_any V fa (nums P'.fr) fl fc (u : Int) (by rw [nums_length, HLf.out.1]) (by omega) (HF.out.turned h (fun _ _ h => h))
                rwa [show decide ((u : Int) ∈ nums P'.fr) = decide (u ∈ P'.fr) from decide_eq_decide.2 nums_in] at this)
              have HTc := Lib.hid (fun V (h : Still wr V) => (HCt.out.cells V (hg.trans h)).1)
              obtain ⟨c, hc⟩ : ∃ c, c = P'.cnt u := ⟨_, rfl⟩
              rw [← hc] at HCC HCn hcf
              have hcN : c ≤ 20000 := by
                obtain ⟨st, hst⟩ := get_some (l := P'.sl) (i := u) (by rw [HPl.out]; exact hlt3)
                have := (H5.out.ok.low u st hst).2
                rw [hc]; unfold PM.cnt; rw [hst]
                show st.c ≤ 20000
                omega
              have hde : decide (u ∈ P'.fr) = ((c : Int) == 0) := by
                by_cases h0 : 0 < c
                · rw [decide_eq_false (hcf.1 h0)]; symm; rw [beq_eq_false_iff_ne]; omega
                · have hkf : u ∈ P'.fr := by
                    by_cases hm : u ∈ P'.fr
                    · exact hm
                    · exact absurd (hcf.2 hm) h0
                  rw [decide_eq_true hkf]; symm; rw [beq_iff_eq]; omega
              rw [hde] at HHi
              have hun : (u : Int) < (n : Int) := by omega
              clear hc hcf hde
              have hUd : Still wr wr.drew := (Turned.refl _ _).drew
              have k1 := HCC.out _ hUd
              have k2 := HTc.out _ hUd
              clear hg
              go_wp2_with fail
              go_region_held3 (fun Z => Z.cell? ⟨gb, u, none⟩ = some (.int .i64 (c : Int)) ∧ Z.cell? ⟨t, 0, none⟩ = some (.pointer (some ⟨q, 0, none⟩))) (first | exact ⟨by assumption, by assumption⟩ | go_keep) (first
                | (go_at_call 15; ((with_reducible refine (HCn.out _ (by assumption)).mono ?_)); rintro e w21 ⟨rfl, hT21⟩; have hU21 : Still wr w21 := Turned.trans (by assumption) hT21; have k211 := HCC.out _ hU21; have k212 := HTc.out _ hU21; clear hT21)
                | (go_at_call 16; ((with_reducible refine (HHi.out _ (by assumption)).mono ?_)); rintro e w22 ⟨rfl, hw22⟩; subst hw22))
              all_goals (
                go_wp2_with fail
                go_roundw
                case rel => exact ⟨u + 1, by omega, by go_num, HH.out.still (by assumption), HF.out.turned (by assumption) (fun _ _ h => h)⟩
                case measure => simp [intOf]; omega)
            · obtain rfl : u = n := by omega
              have HGr := Lib.hid HH.out.ground
              go_wp2_with fail
              go_roundw
              case rel => exact ⟨k + 1, by omega, by go_num, P', M0', M1', had', ao', n', cc', (H5.out.still HGr.out).mono (by omega) (by omega), by have := N5.out; omega, HPl.out, by rw [Z5.out.sz]; exact HSz.out⟩
              case measure => simp [intOf]; omega
    · have hex : (k < sl ∧ 150 ≤ k) ∨ sl ≤ k := by omega
      clear hin
      rcases hex with ⟨hlt, hk150⟩ | hge
      all_goals (
        go_wp2_with fail
        go_ret
        exact ⟨by first | rfl | simp, HT.out.held.ground⟩)
end Go.Proofs.YtbljjmehjkmjaaaGreat
