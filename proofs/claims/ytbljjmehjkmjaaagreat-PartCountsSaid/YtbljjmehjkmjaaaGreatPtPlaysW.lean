/- PartPlays: the walk. No condition but that the program's partitions and pool keep their words. -/
import Derived.Test.YtbljjmehjkmjaaaGreatBdAct2
namespace Go.Proofs.YtbljjmehjkmjaaaGreat
open Go.RowKit
set_option linter.unusedVariables false
set_option linter.unusedSimpArgs false
set_option maxRecDepth 100000

/-- The struct behind k acts. -/
def TwoAt (PT : Nat → PM → Thing) (XT : Nat → Nat → RM → Thing) (w wr : World) (t q zq x0 x1 y0 y1 r0 r1 sl k : Nat) : Prop :=
  ∃ (P : PM) (M0 M1 : RM) (had : List Int) (ao : Option Addr) (n cc : Nat), Two PT XT w wr t q zq 0 x0 x1 y0 y1 r0 r1 P M0 M1 had ao n cc (66 * k) k ∧ n ≤ k ∧ P.sl.length = sl ∧ P.size = 8

theorem polB_am {p : Nat} (h : p < 2) : ∃ ov : Bool, (p : Int) = polB ov := by
  rcases (show p = 0 ∨ p = 1 by omega) with rfl | rfl
  · exact ⟨false, rfl⟩
  · exact ⟨true, rfl⟩

set_option maxHeartbeats 4000000 in
theorem plays12_walk {PT : Nat → PM → Thing} {XT : Nat → Nat → RM → Thing} (A : PartApi PT XT) (B : PoolApi12 PT) (a b c : Int) (s : Sl Act12) (w : World) (hs : SlOk encAct12 okAct12 4 w s) :
    Calls Tryz.prog 3 #[.int .i64 a, .int .i64 b, .int .i64 c, .slice s.a s.len s.cap] w fun e w' => e = .returned (.bool true) ∧ Still w w' := by
  obtain ⟨s0, hs0⟩ : ∃ s, s = am a 9 := ⟨_, rfl⟩
  obtain ⟨r0, hr0⟩ : ∃ r, r = am b 6 := ⟨_, rfl⟩
  obtain ⟨p0, hp0⟩ : ∃ r, r = am c 2 := ⟨_, rfl⟩
  have hs0l : s0 < 9 := by rw [hs0]; exact am_lt _ (by omega)
  have hr0l : r0 < 6 := by rw [hr0]; exact am_lt _ (by omega)
  have hp0l : p0 < 2 := by rw [hp0]; exact am_lt _ (by omega)
  obtain ⟨ov, hov⟩ := polB_am hp0l
  have B1 := Lib.hid (fun W => among_lit a 9 9 s0 rfl hs0 (by omega) (by omega) W)
  have B2 := Lib.hid (fun W => among_lit b 6 6 r0 rfl hr0 (by omega) (by omega) W)
  have B3 := Lib.hid (fun W => among_lit c 2 2 p0 rfl hp0 (by omega) (by omega) W)
  rw [hov] at B3
  obtain ⟨n, hn⟩ : ∃ s, s = 1 + s0 := ⟨_, rfl⟩
  obtain ⟨r, hr⟩ : ∃ r, r = 1 + r0 := ⟨_, rfl⟩
  have hn' : (1 : Int) + (s0 : Int) = (n : Int) := by omega
  have hr' : (1 : Int) + (r0 : Int) = (r : Int) := by omega
  have HMd := Lib.hid (ptmade_any A B w w (Turned.refl _ _) n r ov (by omega) (by omega) (by omega) (by omega))
  have HWk := Lib.hid (fun W => works12 A B W)
  obtain ⟨sa, sl, sc, sx⟩ := s
  have hscap : sl ≤ sc := hs.le
  have hsmax : sc ≤ maxLen := hs.max
  unfold maxLen at hsmax
  have HS := Lib.hid hs
  have HSL : Hid (sx.length = sl) := Lib.hid hs.len
  have hn9 : 1 ≤ n ∧ n ≤ 9 := by omega
  dsimp only
  clear hs hs0 hr0 hp0 hn hr hov
  go_enter Tryz.func3, Tryz.ntmps3
  go_wp2_with (first
    | (go_at_call 7; first | (((with_reducible refine (B1.out _).mono ?_)); rintro e w' ⟨rfl, hw⟩; rw [← hw]; clear hw) | (((with_reducible refine (B2.out _).mono ?_)); rintro e w' ⟨rfl, hw⟩; rw [← hw]; clear hw) | (((with_reducible refine (B3.out _).mono ?_)); rintro e w' ⟨rfl, hw⟩; rw [← hw]; clear hw))
    | (go_at_call 6; ((with_reducible refine HMd.out.mono ?_)); rintro e w1 ⟨t, q, zq, x, y, z, x', y', z', rfl, hT⟩; have H1 := Lib.hid hT; have d7 := (hT.held.rest.drop.blk).cell (o := 7) rfl; clear hT))
  go_loopw [10] (fun i wr => ∃ k : Nat, k ≤ 150 ∧ i = .int .i64 k ∧ TwoAt PT XT w wr t q zq x x' y y' z z' n k) (fun i _ => 150 - (intOf i).toNat)
  case atStart => exact ⟨0, by omega, rfl, _, _, _, _, _, _, _, H1.out, Nat.le_refl _, by simp [PM.new], rfl⟩
  case round =>
    clear H1 HMd d7
    obtain ⟨k, hk, rfl, P, M0, M1, had, ao, m, cc, hT, hm, hsl, hsz⟩ := hrel
    have HT := Lib.hid hT
    have HSl := Lib.hid hsl
    have HSz := Lib.hid hsz
    clear hT hsl hsz
    by_cases hin : k < sl ∧ k < 150
    · obtain ⟨hlt, h150⟩ := hin
      obtain ⟨g, hx⟩ := get_some (l := sx) (i := k) (by rw [HSL.out]; exact hlt)
      obtain ⟨bb, o, rfl, hc⟩ := HS.out.row k g hx
      have hok := HS.out.each g (List.mem_of_getElem? hx)
      have hst := HT.out.held.ground
      have HAct := Lib.hid (act_two A.toPartActs B.toPoolActs HT.out (by omega) (by omega) (by omega) g hok)
      unfold ActTwo at HAct
      have HSame := Lib.hid (fun W P' M0' M1' had' ao' n' cc' (h : Two PT XT w W t q zq 0 x x' y y' z z' P' M0' M1' had' ao' n' cc' (66 * k + 66) (k + 1)) => same_two A B h (by omega) (by omega))
      obtain ⟨g0, g1, g2, ⟨ga, gl, gc, gx⟩⟩ := g
      have c0 : wr.cell? ⟨bb, o + k * 4, none⟩ = some (.int .i64 g0) := still_cell hst (hc 0 _ rfl) (by omega)
      have c1 : wr.cell? ⟨bb, o + k * 4 + 1, none⟩ = some (.int .i64 g1) := still_cell hst (hc 1 _ rfl) (by omega)
      have c2 : wr.cell? ⟨bb, o + k * 4 + 2, none⟩ = some (.int .i64 g2) := still_cell hst (hc 2 _ rfl) (by omega)
      have c3 : wr.cell? ⟨bb, o + k * 4 + 3, none⟩ = some (.slice ga gl gc) := still_cell hst (hc 3 _ rfl) (by omega)
      unfold Act12.val at HAct
      dsimp only at HAct
      clear hx hc hok hst
      go_wp2_with (first
        | (go_at_call 8; ((with_reducible refine HAct.out.mono ?_)); rintro e w5 ⟨rfl, P', M0', M1', had', ao', n', cc', hT5, hz5, hn5, _⟩; have H5 := Lib.hid hT5; have Z5 := Lib.hid hz5; have N5 := Lib.hid hn5; clear hT5 hz5 hn5)
        | (go_at_call 9; ((with_reducible refine (HSame.out _ _ _ _ _ _ _ _ H5.out).mono ?_)); rintro e w6 ⟨rfl, hT6⟩; have H6 := Lib.hid (H5.out.still hT6); clear hT6))
      go_roundw
      case rel => exact ⟨k + 1, by omega, by go_num, P', M0', M1', had', ao', n', cc', H6.out.mono (by omega) (by omega), by have := N5.out; omega, by rw [Z5.out.sl]; exact HSl.out, by rw [Z5.out.sz]; exact HSz.out⟩
      case measure => simp [intOf]; omega
    · have hex : (k < sl ∧ 150 ≤ k) ∨ sl ≤ k := by omega
      have d0 := (HT.out.held.rest.drop.blk).cell (o := 0) rfl
      have HMk := Lib.hid (show Calls Tryz.prog 10 #[.pointer (some ⟨q, 0, none⟩), .int .i64 0, .int .i64 0] wr fun e w' => e = .returned (.tuple #[.pointer none, .int .i64 2]) ∧ Still wr w' from by
        obtain ⟨_, _, _, hp, _⟩ := HT.out.held.prog
        exact A.make_no hp HT.out.ok (by omega) 0 0 ⟨by omega, by omega⟩ ⟨by omega, by omega⟩ (by omega))
      clear hin
      rcases hex with ⟨hlt, hk150⟩ | hge
      all_goals (
        go_wp2_with (first
          | (go_at_call 10; ((with_reducible refine HMk.out.mono ?_)); rintro e w5 ⟨rfl, hT5⟩; have H5 := Lib.hid hT5; clear hT5)
          | (go_at_call 11; ((with_reducible refine (HWk.out _).mono ?_)); rintro e w6 ⟨rfl, hT6⟩; have H6 := Lib.hid hT6; clear hT6))
        go_ret
        exact ⟨by first | rfl | simp, HT.out.held.ground.trans (H5.out.trans H6.out)⟩)
end Go.Proofs.YtbljjmehjkmjaaaGreat
