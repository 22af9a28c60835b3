/- PartApart: the walk. No condition but that the program's partitions and pool keep their words. -/
import Derived.Test.YtbljjmehjkmjaaaGreatPtFrame
import Derived.Test.YtbljjmehjkmjaaaGreatBdAct2
namespace Go.Proofs.YtbljjmehjkmjaaaGreat
open Go.RowKit
set_option linter.unusedVariables false
set_option linter.unusedSimpArgs false
set_option maxRecDepth 100000

/-- The struct behind k acts. -/
def ApAt (PT : Nat → PM → Thing) (XT : Nat → Nat → RM → Thing) (w wr : World) (t q zq x0 x1 y0 y1 r0 r1 k : Nat) : Prop :=
  ∃ (P : PM) (M0 M1 : RM) (had : List Int) (ao : Option Addr) (n cc : Nat), Two PT XT w wr t q zq 0 x0 x1 y0 y1 r0 r1 P M0 M1 had ao n cc (66 * k) k ∧ n ≤ k
/-- The struct behind k acts of the first, while the second stays. -/
def ApOn (PT : Nat → PM → Thing) (XT : Nat → Nat → RM → Thing) (w wr : World) (t q zq x0 x1 y0 y1 r0 r1 : Nat) (M1 : RM) (k : Nat) : Prop :=
  ∃ (P : PM) (M0 : RM) (had : List Int) (ao : Option Addr) (n cc : Nat), Two PT XT w wr t q zq 0 x0 x1 y0 y1 r0 r1 P M0 M1 had ao n cc (66 * k) k ∧ n ≤ k

theorem am_zero (m : Nat) (h : 0 < m) : am 0 m = 0 := by
  unfold am
  simp [IntKind.wrap, IntKind.signed, IntKind.bits]

set_option maxHeartbeats 8000000 in
theorem apart_walk {PT : Nat → PM → Thing} {XT : Nat → Nat → RM → Thing} (A : PartApi PT XT) (B : PoolApi12 PT) (a b : Int) (s1 s2 : Sl Act12) (w : World) (hs1 : SlOk encAct12 okAct12 4 w s1) (hs2 : SlOk encAct12 okAct12 4 w s2) :
    Calls Tryz.prog 5 #[.int .i64 a, .int .i64 b, .slice s1.a s1.len s1.cap, .slice s2.a s2.len s2.cap] w fun e w' => e = .returned (.bool true) ∧ Still w w' := by
  obtain ⟨s0, hs0⟩ : ∃ s, s = am a 20 := ⟨_, rfl⟩
  obtain ⟨r0, hr0⟩ : ∃ r, r = am b 6 := ⟨_, rfl⟩
  have hs0l : s0 < 20 := by rw [hs0]; exact am_lt _ (by omega)
  have hr0l : r0 < 6 := by rw [hr0]; exact am_lt _ (by omega)
  have B1 := Lib.hid (fun W => among_lit a 20 20 s0 rfl hs0 (by omega) (by omega) W)
  have B2 := Lib.hid (fun W => among_lit b 6 6 r0 rfl hr0 (by omega) (by omega) W)
  obtain ⟨n, hn⟩ : ∃ s, s = 1 + s0 := ⟨_, rfl⟩
  obtain ⟨r, hr⟩ : ∃ r, r = 1 + r0 := ⟨_, rfl⟩
  have hn' : (1 : Int) + (s0 : Int) = (n : Int) := by omega
  have hr' : (1 : Int) + (r0 : Int) = (r : Int) := by omega
  have HMd := Lib.hid (fun W (h : Still w W) => show Calls Tryz.prog 6 #[.int .i64 n, .int .i64 r, .int .i64 1] W fun e w' => ∃ t q zq x y s x' y' s', e = .returned (.pointer (some ⟨t, 0, none⟩)) ∧ Two PT XT w w' t q zq 0 x x' y y' s s' (PM.new n 8) (RM.new r true) (RM.new r true) [] none 0 0 0 0 from ptmade_any A B w W h n r true (by omega) (by omega) (by omega) (by omega))
  have HWk := Lib.hid (fun W => works12 A B W)
  obtain ⟨sa, sl, sc, sx⟩ := s1
  obtain ⟨ma, ml, mc, mx⟩ := s2
  have hscap : sl ≤ sc := hs1.le
  have hsmax : sc ≤ maxLen := hs1.max
  have hmcap : ml ≤ mc := hs2.le
  have hmmax : mc ≤ maxLen := hs2.max
  unfold maxLen at hsmax hmmax
  have HS := Lib.hid hs1
  have HM := Lib.hid hs2
  have HSL : Hid (sx.length = sl) := Lib.hid hs1.len
  have HML : Hid (mx.length = ml) := Lib.hid hs2.len
  have hn9 : 1 ≤ n ∧ n ≤ 20 := by omega
  dsimp only
  clear hs1 hs2 hs0 hr0 hn hr
  go_enter Tryz.func5, Tryz.ntmps5
  go_wp2_with (first
    | (go_at_call 11; ((with_reducible refine (HWk.out _).mono ?_)); rintro e w6 ⟨rfl, hT6⟩; have H6 := Lib.hid hT6; clear hT6)
    | (go_at_call 7; first | (((with_reducible refine (B1.out _).mono ?_)); rintro e w' ⟨rfl, hw⟩; rw [← hw]; clear hw) | (((with_reducible refine (B2.out _).mono ?_)); rintro e w' ⟨rfl, hw⟩; rw [← hw]; clear hw))
    | (go_at_call 6; ((with_reducible refine (HMd.out _ H6.out).mono ?_)); rintro e w1 ⟨t, q, zq, x, y, z, x', y', z', rfl, hT⟩; have H1 := Lib.hid hT; have d7 := (hT.held.rest.drop.blk).cell (o := 7) rfl; clear hT))
  go_loopw [10] (fun i wr => ∃ k : Nat, k ≤ 80 ∧ i = .int .i64 k ∧ ApAt PT XT w wr t q zq x x' y y' z z' k) (fun i _ => 80 - (intOf i).toNat)
  case atStart => exact ⟨0, by omega, rfl, _, _, _, _, _, _, _, H1.out, Nat.le_refl _⟩
  case round =>
    clear H1 HMd d7 H6
    obtain ⟨k, hk, rfl, P, M0, M1, had, ao, m, cc, hT, hm⟩ := hrel
    have HT := Lib.hid hT
    clear hT
    by_cases hin : k < sl ∧ k < 80
    · obtain ⟨hlt, h150⟩ := hin
      obtain ⟨g, hx⟩ := get_some (l := sx) (i := k) (by rw [HSL.out]; exact hlt)
      obtain ⟨bb, o, rfl, hc⟩ := HS.out.row k g hx
      have hok := HS.out.each g (List.mem_of_getElem? hx)
      have hst := HT.out.held.ground
      have HAct := Lib.hid (act_two A.toPartActs B.toPoolActs HT.out (by omega) (by omega) (by omega) g hok)
      unfold ActTwo at HAct
      obtain ⟨g0, g1, g2, ⟨ga, gl, gc, gx⟩⟩ := g
      have c0 : wr.cell? ⟨bb, o + k * 4, none⟩ = some (.int .i64 g0) := still_cell hst (hc 0 _ rfl) (by omega)
      have c1 : wr.cell? ⟨bb, o + k * 4 + 1, none⟩ = some (.int .i64 g1) := still_cell hst (hc 1 _ rfl) (by omega)
      have c2 : wr.cell? ⟨bb, o + k * 4 + 2, none⟩ = some (.int .i64 g2) := still_cell hst (hc 2 _ rfl) (by omega)
      have c3 : wr.cell? ⟨bb, o + k * 4 + 3, none⟩ = some (.slice ga gl gc) := still_cell hst (hc 3 _ rfl) (by omega)
      unfold Act12.val at HAct
      dsimp only at HAct
      clear hx hc hok hst
      go_wp2_with (go_at_call 8; ((with_reducible refine HAct.out.mono ?_)); rintro e w5 ⟨rfl, P', M0', M1', had', ao', n', cc', hT5, hz5, hn5, _⟩; have H5 := Lib.hid hT5; have N5 := Lib.hid hn5; clear hT5 hz5 hn5)
      go_roundw
      case rel => exact ⟨k + 1, by omega, by go_num, P', M0', M1', had', ao', n', cc', H5.out.mono (by omega) (by omega), by have := N5.out; omega⟩
      case measure => simp [intOf]; omega
    · have hex : (k < sl ∧ 80 ≤ k) ∨ sl ≤ k := by omega
      have d3 := (HT.out.held.rest.drop.blk).cell (o := 3) (v := .pointer (some ⟨x', 0, none⟩)) rfl
      obtain ⟨nl, hnl⟩ : ∃ nl, nl = M1.l.length := ⟨_, rfl⟩
      have HW1 := Lib.hid (show ∀ V, Still wr V → SameI V t 1 x' y' z' M1 M1.l.length from fun V h => ((HT.out.still h).swap (by omega)).same A.toPartActs (by omega) (by omega) (by omega))
      have HRf := Lib.hid (show ∀ V, Still wr V → Calls Tryz.prog 13 #[.pointer (some ⟨x', 0, none⟩)] V (OutNums V M1.refs nl) from fun V h => by
        obtain ⟨_, hp⟩ := (((HT.out.still h).swap (by omega)).held).prog
        exact A.handles hp HT.out.ok HT.out.mj (by omega) (by omega) nl hnl)
      have HNl := Lib.hid hnl
      have hmj := HT.out.mj
      have hnl64 : nl ≤ 64 := by have := hmj.len; have := hmj.max; omega
      clear hin hnl hmj
      have HR := Lib.hid (Turned.refl (fun _ => False) wr)
      have HEx := Lib.hid hex
      clear hex
      rcases HEx.out with ⟨hlt, hk150⟩ | hge
      all_goals (
        go_wp2_with (first
          | (go_at_call 17; ((with_reducible refine ((HW1.out _ HR.out).head _ (Turned.refl _ _)).mono ?_)); rintro e w2 ⟨rfl, hT2⟩; have H2 := Lib.hid (HR.out.trans hT2); clear hT2)
          | (go_at_call 18; ((with_reducible refine ((HW1.out _ H2.out).tail _ (Turned.refl _ _)).mono ?_)); rintro e w3 ⟨rfl, hT3⟩; have H3 := Lib.hid (H2.out.trans hT3); clear hT3)
          | (go_at_call 19; ((with_reducible refine ((HW1.out _ H3.out).ready _ (Turned.refl _ _)).mono ?_)); rintro e w4 ⟨rfl, hT4⟩; have H4 := Lib.hid (H3.out.trans hT4); clear hT4)
          | (go_at_call 13; ((with_reducible refine (HRf.out _ H4.out).mono ?_)); rintro e w5 ⟨la, lc, rfl, hO5, hT5⟩; have hG5 := (HT.out.still H4.out).frame (ownT_got hO5 hT5); have H5 := Lib.hid hG5; clear hT5 hO5 hG5))
        have HA2 := Lib.hid (A.toPartActs.frame (ownT 3 1 la nl lc (ints M1.refs)))
        have HB2 := Lib.hid (B.toPoolActs.frame (ownT 3 1 la nl lc (ints M1.refs)))
        clear H2 H3 H4 HW1 HRf HR d3 HEx
        go_loopw [16] (fun i wx => ∃ k2 : Nat, k2 ≤ 80 ∧ i = .int .i64 k2 ∧ ApOn (andT PT (ownT 3 1 la nl lc (ints M1.refs))) XT w wx t q zq x x' y y' z z' M1 (k + k2)) (fun i _ => 80 - (intOf i).toNat)
        case atStart => exact ⟨0, by omega, rfl, _, _, _, _, _, _, H5.out.mono (by omega) (by omega), by omega⟩
        case round =>
          clear H5 HT HS
          obtain ⟨k2, hk2, rfl, P2, M02, had2, ao2, m2, cc2, hT, hm2⟩ := hrel
          have HU := Lib.hid hT
          clear hT
          by_cases hin : k2 < ml ∧ k2 < 80
          · obtain ⟨hlt2, h80⟩ := hin
            obtain ⟨g, hx⟩ := get_some (l := mx) (i := k2) (by rw [HML.out]; exact hlt2)
            obtain ⟨bb, o, rfl, hc⟩ := HM.out.row k2 g hx
            have hok := HM.out.each g (List.mem_of_getElem? hx)
            have hst := HU.out.held.ground
            obtain ⟨g0, g1, g2, ⟨ga, gl, gc, gx⟩⟩ := g
            have HAct := Lib.hid (fun V (h : Still wr V) => act_two HA2.out HB2.out (HU.out.still h) (by omega) (by omega) (by omega) (0, g1, g2, ⟨ga, gl, gc, gx⟩) ⟨rfl, hok.2⟩)
            unfold ActTwo Act12.val at HAct
            rw [am_zero 2 (by omega)] at HAct
            have c0 : wr.cell? ⟨bb, o + k2 * 4, none⟩ = some (.int .i64 g0) := still_cell hst (hc 0 _ rfl) (by omega)
            have c1 : wr.cell? ⟨bb, o + k2 * 4 + 1, none⟩ = some (.int .i64 g1) := still_cell hst (hc 1 _ rfl) (by omega)
            have c2 : wr.cell? ⟨bb, o + k2 * 4 + 2, none⟩ = some (.int .i64 g2) := still_cell hst (hc 2 _ rfl) (by omega)
            have c3 : wr.cell? ⟨bb, o + k2 * 4 + 3, none⟩ = some (.slice ga gl gc) := still_cell hst (hc 3 _ rfl) (by omega)
            dsimp only at HAct
            clear hx hc hok hst
            go_wp2_with (go_at_call 8; ((with_reducible refine (HAct.out _ ((Turned.refl _ _).alloc _)).mono ?_)); rintro e w7 ⟨rfl, P', M0', M1', had', ao', n', cc', hT7, hz7, hn7, hM7⟩; obtain rfl := hM7 rfl; have H7 := Lib.hid hT7; have N7 := Lib.hid hn7; clear hT7 hz7 hn7 hM7)
            go_roundw
            case rel => exact ⟨k2 + 1, by omega, by go_num, P', M0', had', ao', n', cc', H7.out.mono (by omega) (by omega), by have := N7.out; omega⟩
            case measure => simp [intOf]; omega
          · have hex2 : (k2 < ml ∧ 80 ≤ k2) ∨ ml ≤ k2 := by omega
            have HW2 := Lib.hid (show ∀ V, Still wr V → SameI V t 1 x' y' z' M1 M1.l.length from fun V h => ((HU.out.still h).swap (by omega)).same HA2.out (by omega) (by omega) (by omega))
            have HRow := Lib.hid (fun V (h : Still wr V) => show NumsAt V la M1.refs from by
              obtain ⟨_, h'⟩ := (HU.out.still h).unframe
              exact ownT_ints h' (by rw [HNl.out]; simp [RM.refs]))
            have HSI := Lib.hid (fun V ao bo l n m ca cb hn hm hl hA hB => sameI_yes V ao bo l n m ca cb hn hm hl hA hB)
            have HR := Lib.hid (Turned.refl (fun _ => False) wr)
            clear hin
            rcases hex2 with ⟨hlt2, hk80⟩ | hge2
            all_goals (
              go_wp2_with (first
                | (go_at_call 17; ((with_reducible refine ((HW2.out _ HR.out).head _ (Turned.refl _ _)).mono ?_)); rintro e w2 ⟨rfl, hT2⟩; have H2 := Lib.hid (HR.out.trans hT2); clear hT2)
                | (go_at_call 18; ((with_reducible refine ((HW2.out _ H2.out).tail _ (Turned.refl _ _)).mono ?_)); rintro e w3 ⟨rfl, hT3⟩; have H3 := Lib.hid (H2.out.trans hT3); clear hT3)
                | (go_at_call 19; ((with_reducible refine ((HW2.out _ H3.out).ready _ (Turned.refl _ _)).mono ?_)); rintro e w4 ⟨rfl, hT4⟩; have H4 := Lib.hid (H3.out.trans hT4); clear hT4)
                | (go_at_call 13; ((with_reducible refine ((HW2.out _ H4.out).refs _ (Turned.refl _ _)).mono ?_)); rintro e w5 ⟨a5, c5, rfl, hN5, hT5⟩; have HN5 := Lib.hid (hN5 _ (Turned.refl _ _)); have H5 := Lib.hid (H4.out.trans hT5); clear hT5 hN5)
                | (go_at_call 20; ((with_reducible refine (HSI.out _ _ _ M1.refs _ _ _ _ (by simp [RM.refs]) (by rw [HNl.out]; simp [RM.refs]) (by simp [RM.refs]; have := HNl.out; omega) HN5.out (HRow.out _ H5.out)).mono ?_)); rintro e w6 ⟨rfl, hT6⟩; have H6 := Lib.hid (H5.out.trans hT6); clear hT6))
              go_ret
              exact ⟨by first | rfl | simp, HU.out.held.ground.trans H6.out⟩))
end Go.Proofs.YtbljjmehjkmjaaaGreat
