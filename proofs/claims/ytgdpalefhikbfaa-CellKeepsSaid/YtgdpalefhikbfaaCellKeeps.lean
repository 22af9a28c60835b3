/- What is stored is read, and no other cell changes: the walk of the statement CellKeeps. No condition. -/
import Derived.Test.YtgdpalefhikbfaaWorks01
import Derived.Test.YtgdpalefhikbfaaReadInts
import Derived.Test.YtgdpalefhikbfaaCellAll
import Derived.StillTailTactics
namespace Go.Proofs.Ytgdpalefhikbfaa
open Go.RowKit
set_option linter.unusedVariables false

theorem vs_set (st : List Cel) (i : Nat) (c : Cel) (v : Int) : vs (st.set i { c with n := v, w := wrap64 (c.w + 1) }) = (vs st).set i v := by simp [vs, List.map_set]

set_option maxRecDepth 100000 in
theorem walk_CellKeeps (n0 : Int) (s : Sl Int) (at0 v0 : Int) (w : World) (w0 : (Lit.int .i64 n0).wf = true) (hs0 : SlOk encI (okI .i64) 1 w s) (w2 : (Lit.int .i64 at0).wf = true) (w3 : (Lit.int .i64 v0).wf = true) :
    Calls Try.prog 4 #[.int .i64 n0, .slice s.a s.len s.cap, .int .i64 at0, .int .i64 v0] w fun e w' => e = .returned (.bool true) ∧ Still w w' := by
  obtain ⟨a, n, cap, xs⟩ := s
  have HX := Lib.hid (nums_row hs0.row)
  have HL := Lib.hid hs0.len
  have hcap : n ≤ cap := hs0.le
  obtain ⟨t, ht⟩ : ∃ t, t = am n0 64 := ⟨_, rfl⟩
  have htl : t < 64 := ht ▸ am_lt n0 (by omega)
  have A1 := Lib.hid (fun W => among_lit n0 64 64 t rfl ht (by omega) (by omega) W)
  clear hs0 w0 w2 w3 ht
  go_enter Try.func4, Try.ntmps4
  go_wp2_with fail
  refine (works1 _).mono ?_
  rintro e w1 ⟨rfl, hT1⟩
  go_wp2_with fail
  refine (A1.out _).mono ?_
  rintro e w1' ⟨rfl, rfl⟩
  obtain ⟨N, hN⟩ : ∃ N : Nat, N = 1 + t := ⟨_, rfl⟩
  have HMk := Lib.hid (make_ok N w1 (by omega) (by omega))
  have hNi : (1 : Int) + (t : Int) = (N : Int) := by omega
  have hN1 : 1 ≤ N := by omega
  have hN2 : N ≤ 64 := by omega
  clear hN
  go_wp2_with fail
  refine HMk.out.mono ?_
  rintro e w2 ⟨mb, ab, rfl, hM, hmb, hab, hT2⟩
  have hS := Lib.hid (hT1.trans hT2)
  have HM := Lib.hid hM
  have hsz := hT1.size
  clear hT1 hT2 hM HMk A1 hNi
  go_wp2_with fail
  go_loopw [11] (fun i wr => ∃ (k : Nat) (st : List Cel), k ≤ n ∧ k ≤ 100 ∧ i = .int .i64 k ∧ st.length = N ∧ Mem wr mb ab st ∧ Still w wr) (fun i _ => n - (intOf i).toNat)
  case atStart => exact ⟨0, newSt N, Nat.zero_le _, Nat.zero_le _, rfl, by simp [newSt], HM.out, hS.out⟩
  case round =>
    clear HM hS
    obtain ⟨k, st, hk, hk2, rfl, hst, hM, hT⟩ := hrel
    by_cases hlt : k < n ∧ k < 100
    · obtain ⟨hlt, h100⟩ := hlt
      obtain ⟨x, hx⟩ := get_some (l := xs) (i := k) (by rw [HL.out]; exact hlt)
      obtain ⟨b, o, rfl, hc0⟩ := HX.out k x hx
      have hc : wr.cell? ⟨b, o + k, none⟩ = some (.int .i64 x) := still_cell hT hc0 rfl
      obtain ⟨q, hq⟩ : ∃ q, q = am x N := ⟨_, rfl⟩
      have hqN : q < N := hq ▸ am_lt x (by omega)
      have A := Lib.hid (fun W => among_lit x N N q rfl hq (by omega) (by omega) W)
      obtain ⟨c, hcc⟩ := get_some (l := st) (i := q) (by rw [hst]; exact hqN)
      have HSto := Lib.hid (store_ok hM.drew hcc x)
      have HT := Lib.hid hT.drew
      have HSt := Lib.hid hst
      clear hx hc0 hq hcc hM hT hst
      go_wp2_with fail
      refine wp_region_still_tail 11 (by kernel_rfl) (by kernel_rfl) ?_
      simp only [List.take_succ_cons, List.take_zero, List.drop_succ_cons, List.drop_zero]
      repeat (first | still_step | still_call (stillEq (A.out _)))
      refine wpStill_nil ?_
      change wpList _ _ _ _ _ wr.drew
      go_wp2_with (go_at_call 14; refine HSto.out.mono ?_; rintro e w5 ⟨rfl, hM5, hT5⟩)
      have HT5 := Lib.hid (HT.out.pastOne hT5 (by omega))
      have HM5 := Lib.hid hM5
      clear hM5 hT5
      go_wp2_with fail
      go_roundw
      case rel => exact ⟨k + 1, _, by omega, by omega, by go_num, by rw [List.length_set]; exact HSt.out, HM5.out, HT5.out⟩
      case measure => simp [intOf]; omega
    · obtain ⟨q, hq⟩ : ∃ q, q = am at0 N := ⟨_, rfl⟩
      have hqN : q < N := hq ▸ am_lt at0 (by omega)
      have A2 := Lib.hid (fun W => among_lit at0 N N q rfl hq (by omega) (by omega) W)
      obtain ⟨c, hcc⟩ := get_some (l := st) (i := q) (by rw [hst]; exact hqN)
      have HAll := Lib.hid (all_ok hM)
      have HM := Lib.hid hM
      have HT := Lib.hid hT
      have HSt := Lib.hid hst
      have HCC := Lib.hid hcc
      have hl1 := hM.hd.lt
      have hl2 := hM.row.lt
      have hws := hT.size
      rw [hst] at HAll
      clear hq hM hT hst hcc
      by_cases hlt : k < n
      all_goals
        go_wp2_with fail
        refine HAll.out.mono ?_
        rintro e w3 ⟨nb1, rfl, hB1, hnb1, hT3⟩
        have HB1 := Lib.hid hB1
        have hnl1 := hB1.lt
        have HM3 := Lib.hid (HM.out.turned hT3 (fun h => h) (fun h => h))
        have HT3 := Lib.hid (HT.out.trans hT3)
        clear hB1 hT3 HAll
        go_wp2_with fail
        refine (A2.out _).mono ?_
        rintro e w3' ⟨rfl, rfl⟩
        have HSto := Lib.hid (store_ok HM3.out HCC.out v0)
        go_wp2_with fail
        refine HSto.out.mono ?_
        rintro e w4 ⟨rfl, hM4, hT4⟩
        have HB4 := Lib.hid (HB1.out.turned hT4 (by omega))
        have HM4 := Lib.hid hM4
        have hHT4 := HT3.out.pastOne hT4 (by omega)
        have HT4 := Lib.hid hHT4
        have hsz4 := hT4.size
        have HAll2 := Lib.hid (all_ok hM4)
        rw [List.length_set, HSt.out, vs_set] at HAll2
        clear hM4 hT4 hHT4 HSto
        go_wp2_with fail
        refine HAll2.out.mono ?_
        rintro e w6 ⟨nb2, rfl, hB2, hnb2, hT6⟩
        have HM6 := Lib.hid (HM4.out.turned hT6 (fun h => h) (fun h => h))
        have HB6 := Lib.hid (HB4.out.turned hT6 (fun h => h))
        have HB2 := Lib.hid hB2
        have HT6 := Lib.hid (HT4.out.trans hT6)
        have HLo := Lib.hid (load_ok HM6.out (i := q) (c := { c with n := v0, w := wrap64 (c.w + 1) }) (by rw [List.getElem?_set_self (by rw [HSt.out]; exact hqN)]))
        clear hB2 hT6 HAll2
        go_wp2_with fail
        refine HLo.out.mono ?_
        rintro e w7 ⟨rfl, rfl⟩
        have hfr := HB6.out.free q
        have hcq : w6.cell? ⟨nb1, q, none⟩ = some (.int .i64 c.n) := HB6.out.cell (ints_get (by simp [vs, HCC.out]))
        have HN1 := Lib.hid (show NumsAt (w6.setCell ⟨nb1, q, none⟩ (.int .i64 v0)) (some ⟨nb1, 0, none⟩) ((vs st).set q v0) from
          NumsAt.of_blk (by have := HB6.out.set q (.int .i64 v0); rwa [ints_set] at this))
        have HN2 := Lib.hid (show NumsAt (w6.setCell ⟨nb1, q, none⟩ (.int .i64 v0)) (some ⟨nb2, 0, none⟩) ((vs st).set q v0) from
          NumsAt.of_blk (HB2.out.other (p := ⟨nb1, q, none⟩) (show nb1 ≠ nb2 by omega) _))
        have HSame := Lib.hid (sameInts_any (w6.setCell ⟨nb1, q, none⟩ (.int .i64 v0)) (some ⟨nb2, 0, none⟩) (some ⟨nb1, 0, none⟩) ((vs st).set q v0) ((vs st).set q v0) N N rfl (by rw [List.length_set, vs_len, HSt.out]; omega) HN2.out HN1.out)
        have HT7 := Lib.hid (HT6.out.setCell (p := ⟨nb1, q, none⟩) (.inr (show w.heap.size ≤ nb1 by omega)) (.int .i64 v0))
        rw [List.length_set, vs_len, HSt.out] at HSame
        clear HLo
        go_wp2_with fail
        refine HSame.out.mono ?_
        rintro e w8 ⟨rfl, m, rfl⟩
        go_wp2_with fail
        go_ret
        refine ⟨ret_bool ?_, HT7.out.drewN m⟩
        simp
end Go.Proofs.Ytgdpalefhikbfaa
