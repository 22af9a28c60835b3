/- A copy goes its own way: the walk of the statement CellCopies. No condition. -/
import Derived.Test.YtgdpalefhikbfaaWorks01
import Derived.Test.YtgdpalefhikbfaaReadInts
import Derived.Test.YtgdpalefhikbfaaCellCopy
import Derived.StillTailTactics
namespace Go.Proofs.Ytgdpalefhikbfaa
open Go.RowKit
set_option linter.unusedVariables false

set_option maxRecDepth 100000 in
set_option maxHeartbeats 1000000 in
theorem walk_CellCopies (s : Sl Int) (v0 : Int) (w : World) (hs0 : SlOk encI (okI .i64) 1 w s) (w2 : (Lit.int .i64 v0).wf = true) :
    Calls Try.prog 7 #[.slice s.a s.len s.cap, .int .i64 v0] w fun e w' => e = .returned (.bool true) ∧ Still w w' := by
  obtain ⟨a, n, cap, xs⟩ := s
  have HX := Lib.hid (nums_row hs0.row)
  have HL := Lib.hid hs0.len
  have hcap : n ≤ cap := hs0.le
  clear hs0 w2
  go_enter Try.func7, Try.ntmps7
  go_wp2_with fail
  refine (works1 _).mono ?_
  rintro e w1 ⟨rfl, hT1⟩
  go_wp2_with fail
  refine (make_ok 4 _ (by omega) (by omega)).mono ?_
  rintro e w2 ⟨mb, ab, rfl, hM, hmb, hab, hT2⟩
  have hS := Lib.hid (hT1.trans hT2)
  have HM := Lib.hid hM
  have hsz := hT1.size
  clear hT1 hT2 hM
  go_wp2_with fail
  go_loopw [7] (fun i wr => ∃ (k : Nat) (st : List Cel), k ≤ n ∧ k ≤ 100 ∧ i = .int .i64 k ∧ st.length = 4 ∧ (∀ c ∈ st, c.h = -1) ∧ Mem wr mb ab st ∧ Still w wr) (fun i _ => n - (intOf i).toNat)
  case atStart => exact ⟨0, newSt 4, Nat.zero_le _, Nat.zero_le _, rfl, by simp [newSt], fun c hc => by simp [newSt] at hc; rw [hc], HM.out, hS.out⟩
  case round =>
    clear HM hS
    obtain ⟨k, st, hk, hk2, rfl, hst, hh, hM, hT⟩ := hrel
    by_cases hlt : k < n ∧ k < 100
    · obtain ⟨hlt, h100⟩ := hlt
      obtain ⟨x, hx⟩ := get_some (l := xs) (i := k) (by rw [HL.out]; exact hlt)
      obtain ⟨b, o, rfl, hc0⟩ := HX.out k x hx
      have hc : wr.cell? ⟨b, o + k, none⟩ = some (.int .i64 x) := still_cell hT hc0 rfl
      obtain ⟨q, hq⟩ : ∃ q, q = am x 4 := ⟨_, rfl⟩
      have hqN : q < 4 := hq ▸ am_lt x (by omega)
      have A := Lib.hid (fun W => among_lit x 4 4 q rfl hq (by omega) (by omega) W)
      obtain ⟨c, hcc⟩ := get_some (l := st) (i := q) (by rw [hst]; exact hqN)
      have HSto := Lib.hid (add_ok hM.drew hcc x)
      have HT := Lib.hid hT.drew
      have HSt := Lib.hid hst
      have HHh := Lib.hid hh
      have HCh := Lib.hid (hh c (List.mem_of_getElem? hcc))
      clear hx hc0 hq hcc hM hT hst hh
      go_wp2_with fail
      refine wp_region_still_tail 10 (by kernel_rfl) (by kernel_rfl) ?_
      simp only [List.take_succ_cons, List.take_zero, List.drop_succ_cons, List.drop_zero]
      repeat (first | still_step | still_call (stillEq (A.out _)))
      refine wpStill_nil ?_
      change wpList _ _ _ _ _ wr.drew
      go_wp2_with (go_at_call 18; refine HSto.out.mono ?_; rintro e w5 ⟨rfl, hM5, hT5⟩)
      have HT5 := Lib.hid (HT.out.pastOne hT5 (by omega))
      have HM5 := Lib.hid hM5
      clear hM5 hT5
      go_wp2_with fail
      go_roundw
      case rel =>
        refine ⟨k + 1, _, by omega, by omega, by go_num, by rw [List.length_set]; exact HSt.out, ?_, HM5.out, HT5.out⟩
        intro c' hc'
        rcases List.mem_or_eq_of_mem_set hc' with h | h
        · exact HHh.out c' h
        · rw [h]; exact HCh.out
      case measure => simp [intOf]; omega
    · obtain ⟨c0, hc0⟩ := get_some (l := st) (i := 0) (by omega)
      obtain ⟨c1, hc1⟩ := get_some (l := st) (i := 1) (by omega)
      have hh1 := hh c1 (List.mem_of_getElem? hc1)
      have hh0 := hh c0 (List.mem_of_getElem? hc0)
      have HCp := Lib.hid (copy_ok hM)
      have HM := Lib.hid hM
      have HT := Lib.hid hT
      have HSt := Lib.hid hst
      have H0 := Lib.hid hc0
      have H1 := Lib.hid hc1
      have Hh1 := Lib.hid hh1
      have hl1 := hM.hd.lt
      have hl2 := hM.row.lt
      have hws := hT.size
      clear hM hT hst hh hc0 hc1 hh0 hh1
      by_cases hlt : k < n
      all_goals
        go_wp2_with fail
        refine HCp.out.mono ?_
        rintro e w3 ⟨mc, ac, rfl, hC3, hmc, hac, hT3⟩
        have HM3 := Lib.hid (HM.out.turned hT3 (fun h => h) (fun h => h))
        have HT3 := Lib.hid (HT.out.trans hT3)
        have HC3 := Lib.hid hC3
        have hlc1 := hC3.hd.lt
        have hlc2 := hC3.row.lt
        have hws3 := hT3.size
        have HAll := Lib.hid (all_ok hC3)
        rw [HSt.out] at HAll
        clear hC3 hT3 HCp
        go_wp2_with fail
        refine HAll.out.mono ?_
        rintro e w4 ⟨nb1, rfl, hB1, hnb1, hT4⟩
        have HM4 := Lib.hid (HM3.out.turned hT4 (fun h => h) (fun h => h))
        have HC4 := Lib.hid (HC3.out.turned hT4 (fun h => h) (fun h => h))
        have HT4 := Lib.hid (HT3.out.trans hT4)
        have HB1 := Lib.hid hB1
        have hnl1 := hB1.lt
        have HW := Lib.hid (writes_ok HC4.out H0.out)
        clear hB1 hT4 HAll
        go_wp2_with fail
        refine HW.out.mono ?_
        rintro e w4' ⟨rfl, rfl⟩
        have HSto := Lib.hid (store_ok HM4.out H0.out v0)
        clear HW
        go_wp2_with fail
        refine HSto.out.mono ?_
        rintro e w5 ⟨rfl, hM5, hT5⟩
        have HC5 := Lib.hid (HC4.out.turned hT5 (by omega) (by omega))
        have HB5 := Lib.hid (HB1.out.turned hT5 (by omega))
        have HT5 := Lib.hid (HT4.out.pastOne hT5 (by omega))
        have hh51 : (st.set 0 { c0 with n := v0, w := wrap64 (c0.w + 1) })[1]? = some c1 := by rw [List.getElem?_set_ne (by omega)]; exact H1.out
        have HLk := Lib.hid (lock_ok hM5 hh51 Hh1.out (who := 3) ⟨by omega, by omega⟩)
        have hsz5 := hT5.size
        clear hM5 hT5 HSto hh51
        go_wp2_with fail
        refine HLk.out.mono ?_
        rintro e w6 ⟨rfl, hM6, hT6⟩
        have HC6 := Lib.hid (HC5.out.turned hT6 (by omega) (by omega))
        have HB6 := Lib.hid (HB5.out.turned hT6 (by omega))
        have HT6 := Lib.hid (HT5.out.pastOne hT6 (by omega))
        have HM6 := Lib.hid hM6
        have HAll2 := Lib.hid (all_ok HC6.out)
        rw [HSt.out] at HAll2
        clear hM6 hT6 HLk
        go_wp2_with fail
        refine HAll2.out.mono ?_
        rintro e w7 ⟨nb2, rfl, hB7, hnb2, hT7⟩
        have HSame := Lib.hid (sameInts_any w7 (some ⟨nb2, 0, none⟩) (some ⟨nb1, 0, none⟩) (vs st) (vs st) 4 4 rfl (by rw [vs_len, HSt.out]; omega) (NumsAt.of_blk hB7) (NumsAt.of_blk (HB6.out.turned hT7 (fun h => h))))
        rw [vs_len, HSt.out] at HSame
        have HM7 := Lib.hid (HM6.out.turned hT7 (fun h => h) (fun h => h))
        have HC7 := Lib.hid (HC6.out.turned hT7 (fun h => h) (fun h => h))
        have HT7 := Lib.hid (HT6.out.trans hT7)
        clear hB7 hT7 HAll2
        go_wp2_with fail
        refine HSame.out.mono ?_
        rintro e w8 ⟨he8, m, rfl⟩
        obtain rfl : e = .returned (.bool true) := by rw [he8]; simp
        clear he8
        have HW1 := Lib.hid (writes_ok (HC7.out.drewN m) H0.out)
        have HW2 := Lib.hid (holder_ok (HC7.out.drewN m) H1.out)
        rw [Hh1.out] at HW2
        have HW3 := Lib.hid (writes_ok (HM7.out.drewN m) (i := 0) (c := { c0 with n := v0, w := wrap64 (c0.w + 1) }) (by
          rw [List.getElem?_set_ne (by omega), List.getElem?_set_self (by rw [HSt.out]; omega)]))
        have HW4 := Lib.hid (holder_ok (HM7.out.drewN m) (i := 1) (c := { c1 with h := 3 }) (by
          rw [List.getElem?_set_self (by rw [List.length_set, HSt.out]; omega)]))
        clear HSame
        go_wp2_with fail
        refine HW1.out.mono ?_
        rintro e w9 ⟨rfl, rfl⟩
        go_wp2_with fail
        refine HW2.out.mono ?_
        rintro e w9 ⟨rfl, rfl⟩
        go_wp2_with fail
        refine HW3.out.mono ?_
        rintro e w9 ⟨rfl, rfl⟩
        go_wp2_with fail
        refine HW4.out.mono ?_
        rintro e w9 ⟨rfl, rfl⟩
        go_wp2_with fail
        go_ret
        exact ⟨rfl, HT7.out.drewN m⟩
end Go.Proofs.Ytgdpalefhikbfaa
