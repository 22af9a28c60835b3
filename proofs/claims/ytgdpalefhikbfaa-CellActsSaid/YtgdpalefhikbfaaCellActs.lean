/- A memory answers whatever is read, stored, swapped, added, locked and freed, as the document says: the walk of the statement CellActs. No condition. -/
import Derived.Test.YtgdpalefhikbfaaWorks01
import Derived.Test.YtgdpalefhikbfaaActs01
import Derived.Test.YtgdpalefhikbfaaCellTwo
import Derived.Deep.DeepCutAuto
import Derived.Deep.CutBlock
import Derived.Deep.RegionWith
import Derived.Deep.RegionHeld3
namespace Go.Proofs.Ytgdpalefhikbfaa
open Go.RowKit
set_option linter.unusedVariables false

set_option maxRecDepth 100000 in
set_option maxHeartbeats 8000000 in
theorem walk_CellActs (n0 : Int) (s : Sl Act1) (w : World) (w0 : (Lit.int .i64 n0).wf = true) (hs0 : SlOk encAct1 okAct1 4 w s) :
    Calls Try.prog 3 #[.int .i64 n0, .slice s.a s.len s.cap] w fun e w' => e = .returned (.bool true) ∧ Still w w' := by
  obtain ⟨a, n, cap, xs⟩ := s
  have HX := Lib.hid hs0
  have hcap : n ≤ cap := hs0.le
  clear hs0 w0
  by_cases hN : 1 ≤ n0 ∧ n0 ≤ 64
  · obtain ⟨N, rfl⟩ : ∃ N : Nat, n0 = N := ⟨n0.toNat, by omega⟩
    have hN1 : 1 ≤ N := by omega
    have hN2 : N ≤ 64 := by omega
    clear hN
    go_enter Try.func3, Try.ntmps3
    go_wp2_with fail
    refine (make_ok N _ hN1 hN2).mono ?_
    rintro e w1 ⟨mb, ab, rfl, hM1, hmb, hab, hT1⟩
    have HM1 := Lib.hid hM1
    have HT1 := Lib.hid hT1
    have hs1 := hT1.size
    have hl1 := hM1.hd.lt
    have hl2 := hM1.row.lt
    clear hM1 hT1
    go_wp2_with fail
    refine (rmake_ok N _ hN1 hN2).mono ?_
    rintro e w2 ⟨rb, vb, bb, wb, rfl, hR2, g1, g2, g3, g4, hT2⟩
    have hl3 := hR2.n1
    have HM2 := Lib.hid (HM1.out.turned hT2 (fun h => h) (fun h => h))
    have HR2 := Lib.hid hR2
    have HT2 := Lib.hid (HT1.out.trans hT2)
    clear HM1 HT1 hR2 hT2
    go_wp2_with fail
    go_loopw [9] (fun i wr => ∃ (k : Nat) (st : List Cel), k ≤ n ∧ k ≤ 200 ∧ i = .int .i64 k ∧ st.length = N ∧ HolOk st ∧ Mem wr mb ab st ∧ Ref wr rb vb bb wb st ∧ Still w wr) (fun i _ => n - (intOf i).toNat)
    case atStart => exact ⟨0, newSt N, Nat.zero_le _, Nat.zero_le _, rfl, by simp [newSt], fun c hc => .inl (by simp [newSt] at hc; rw [hc.2]), HM2.out, HR2.out, HT2.out⟩
    case round =>
      clear HM2 HR2 HT2
      obtain ⟨k, st, hk, hk2, rfl, hst, hH, hM, hR, hT⟩ := hrel
      by_cases hlt : k < n
      · by_cases h200 : k < 200
        · have hX := HX.out
          obtain ⟨x, hx⟩ := get_some (l := xs) (i := k) (by rw [hX.len]; exact hlt)
          obtain ⟨b, o, rfl, hc⟩ := hX.row k x hx
          obtain ⟨d, at_, nn, v⟩ := x
          have c0 : wr.cell? ⟨b, o + k * 4, none⟩ = some (.int .i64 d) := still_cell hT (hc 0 _ rfl) (by omega)
          have c1 : wr.cell? ⟨b, o + k * 4 + 1, none⟩ = some (.int .i64 at_) := still_cell hT (hc 1 _ rfl) (by omega)
          have c2 : wr.cell? ⟨b, o + k * 4 + 2, none⟩ = some (.int .i64 nn) := still_cell hT (hc 2 _ rfl) (by omega)
          have c3 : wr.cell? ⟨b, o + k * 4 + 3, none⟩ = some (.int .i64 v) := still_cell hT (hc 3 _ rfl) (by omega)
          obtain ⟨t, ht⟩ : ∃ t, t = am d 6 := ⟨_, rfl⟩
          have htl : t < 6 := ht ▸ am_lt d (by omega)
          have A := Lib.hid (fun W => among_lit d 6 6 t rfl ht (by omega) (by omega) W)
          have hbl := hX.row
          clear hbl
          have TW0 : Two w mb ab rb vb bb wb wr.heap.size (encAct1 (d, at_, nn, v)) 32 (wr.alloc (.cells #[.int .i64 d, .int .i64 at_, .int .i64 nn, .int .i64 v] 32)) st st :=
            ⟨hM.turned (S := fun _ => False) ((Turned.refl _ _).alloc _) (fun h => h) (fun h => h), hR.turned (S := fun _ => False) ((Turned.refl _ _).alloc _) (fun h => h) (fun h => h) (fun h => h) (fun h => h), Blk.new wr (encAct1 (d, at_, nn, v)) _, hT.alloc _, hH, hH⟩
          have Ap : Apart w mb ab rb vb bb wb wr.heap.size := by
            have e1 := hM.hd.lt
            have e2 := hM.row.lt
            have e3 := hR.hd.lt
            have e4 := hR.rowV.lt
            have e5 := hR.rowB.lt
            have e6 := hR.rowW.lt
            exact ⟨⟨by omega, by omega, by omega, by omega, by omega⟩, ⟨by omega, by omega, by omega⟩, ⟨by omega, by omega, by omega⟩, by omega, ⟨by omega, by omega, by omega⟩⟩
          have HSt := Lib.hid hst
          have HTW0 := Lib.hid TW0
          have HAp := Lib.hid Ap
          clear hx hc hX ht hM hR hT hH hst TW0 Ap hmb hab hs1 hl1 hl2 g1 g2 g3 g4 hk hk2
          go_upto_block 2 with (go_at_call 11; refine (A.out _).mono ?_; rintro e wx ⟨rfl, rfl⟩)
          generalize (wr.alloc (.cells #[.int .i64 d, .int .i64 at_, .int .i64 nn, .int .i64 v] 32)) = W0 at *
          generalize wr.heap.size = bx at *
          clear A c0 c1 c2 c3
          go_cut [11] (fun ok wx => ok = .bool true ∧ ∃ st' : List Cel, st'.length = N ∧ Two w mb ab rb vb bb wb bx (encAct1 (d, at_, nn, v)) 32 wx st' st')
          case first =>
            have TW := HTW0.out
            have Ap := HAp.out
            clear HTW0 HAp
            have f0_TW := TW.x.cell (o := 0) (v := .int .i64 d) rfl
            have f1_TW := TW.x.cell (o := 1) (v := .int .i64 at_) rfl
            have f2_TW := TW.x.cell (o := 2) (v := .int .i64 nn) rfl
            have f3_TW := TW.x.cell (o := 3) (v := .int .i64 v) rfl
            rcases (show t = 0 ∨ t = 1 ∨ t = 2 ∨ t = 3 ∨ t = 4 ∨ t = 5 by omega) with rfl | rfl | rfl | rfl | rfl | rfl
            · as_aux_lemma =>
                go_wp2_with fail
                refine (xload TW.m at_).mono ?_
                rintro e w5 ⟨rfl, rfl⟩
                go_wp2_with fail
                refine (yload TW.r at_).mono ?_
                rintro e w6 ⟨rfl, rfl⟩
                go_wp2_with fail
                go_meet
                exact ⟨rfl, st, HSt.out, TW⟩
            · as_aux_lemma =>
                have TD := TW.drew
                go_wp2_with fail
                go_region_held3 (fun W => W.cell? ⟨bx, 1, none⟩ = some (.int .i64 at_) ∧ W.cell? ⟨bx, 2, none⟩ = some (.int .i64 nn)) (first | exact ⟨by assumption, by assumption⟩ | go_keep) (first | (go_at_call 14; refine (xstore (Two.m (by assumption)) at_ nn).mono ?_; rintro e w5 ⟨rfl, hM5, hT5⟩; have TX := Two.byX Ap (by assumption) hM5 (stS_ok TW.o1) hT5; clear hM5 hT5; have f0_TX := TX.x.cell (o := 0) (v := .int .i64 d) rfl; have f1_TX := TX.x.cell (o := 1) (v := .int .i64 at_) rfl; have f2_TX := TX.x.cell (o := 2) (v := .int .i64 nn) rfl; have f3_TX := TX.x.cell (o := 3) (v := .int .i64 v) rfl) | (go_at_call 15; refine (ystore (Two.r (by assumption)) at_ nn).mono ?_; rintro e w6 ⟨rfl, hR6, hT6⟩; have TY := Two.byY Ap (by assumption) hR6 (stS_ok TW.o1) hT6; clear hR6 hT6; have f0_TY := TY.x.cell (o := 0) (v := .int .i64 d) rfl; have f1_TY := TY.x.cell (o := 1) (v := .int .i64 at_) rfl; have f2_TY := TY.x.cell (o := 2) (v := .int .i64 nn) rfl; have f3_TY := TY.x.cell (o := 3) (v := .int .i64 v) rfl))
                all_goals (go_wp2_with fail; go_meet; exact ⟨rfl, _, (stS_len _ _ _).trans HSt.out, by assumption⟩)
            · as_aux_lemma =>
                go_wp2_with fail
                refine (xswap TW.m at_ nn v).mono ?_
                rintro e w5 ⟨rfl, hM5, hT5⟩
                have TX := TW.byX Ap hM5 (swS_ok TW.o1) hT5
                clear hM5 hT5
                have f0_TX := TX.x.cell (o := 0) (v := .int .i64 d) rfl
                have f1_TX := TX.x.cell (o := 1) (v := .int .i64 at_) rfl
                have f2_TX := TX.x.cell (o := 2) (v := .int .i64 nn) rfl
                have f3_TX := TX.x.cell (o := 3) (v := .int .i64 v) rfl
                go_wp2_with fail
                refine (yswap TX.r at_ nn v).mono ?_
                rintro e w6 ⟨rfl, hR6, hT6⟩
                have TY := TX.byY Ap hR6 (swS_ok TW.o1) hT6
                clear hR6 hT6
                go_wp2_with fail
                go_meet
                exact ⟨rfl, _, (swS_len _ _ _ _).trans HSt.out, TY⟩
            · as_aux_lemma =>
                go_wp2_with fail
                refine (xadd TW.m at_ nn).mono ?_
                rintro e w5 ⟨rfl, hM5, hT5⟩
                have TX := TW.byX Ap hM5 (adS_ok TW.o1) hT5
                clear hM5 hT5
                have f0_TX := TX.x.cell (o := 0) (v := .int .i64 d) rfl
                have f1_TX := TX.x.cell (o := 1) (v := .int .i64 at_) rfl
                have f2_TX := TX.x.cell (o := 2) (v := .int .i64 nn) rfl
                have f3_TX := TX.x.cell (o := 3) (v := .int .i64 v) rfl
                go_wp2_with fail
                refine (yadd TX.r at_ nn).mono ?_
                rintro e w6 ⟨rfl, hR6, hT6⟩
                have TY := TX.byY Ap hR6 (adS_ok TW.o1) hT6
                clear hR6 hT6
                go_wp2_with fail
                go_meet
                exact ⟨rfl, _, (adS_len _ _ _).trans HSt.out, TY⟩
            · as_aux_lemma =>
                have TD := TW.drew
                go_wp2_with fail
                go_region_held3 (fun W => W.cell? ⟨bx, 1, none⟩ = some (.int .i64 at_) ∧ W.cell? ⟨bx, 2, none⟩ = some (.int .i64 nn)) (first | exact ⟨by assumption, by assumption⟩ | go_keep) (first | (go_at_call 20; refine (xlock (Two.m (by assumption)) at_ nn).mono ?_; rintro e w5 ⟨rfl, hM5, hT5⟩; have TX := Two.byX Ap (by assumption) hM5 (lkS_ok TW.o1) hT5; clear hM5 hT5; have f0_TX := TX.x.cell (o := 0) (v := .int .i64 d) rfl; have f1_TX := TX.x.cell (o := 1) (v := .int .i64 at_) rfl; have f2_TX := TX.x.cell (o := 2) (v := .int .i64 nn) rfl; have f3_TX := TX.x.cell (o := 3) (v := .int .i64 v) rfl) | (go_at_call 21; refine (ylock (Two.r (by assumption)) TW.o2 at_ nn).mono ?_; rintro e w6 ⟨rfl, hR6, hT6⟩; have TY := Two.byY Ap (by assumption) hR6 (lkS_ok TW.o1) hT6; clear hR6 hT6; have f0_TY := TY.x.cell (o := 0) (v := .int .i64 d) rfl; have f1_TY := TY.x.cell (o := 1) (v := .int .i64 at_) rfl; have f2_TY := TY.x.cell (o := 2) (v := .int .i64 nn) rfl; have f3_TY := TY.x.cell (o := 3) (v := .int .i64 v) rfl))
                all_goals (go_wp2_with fail; go_meet; exact ⟨rfl, _, (lkS_len _ _ _).trans HSt.out, by assumption⟩)
            · as_aux_lemma =>
                have TD := TW.drew
                go_wp2_with fail
                go_region_held3 (fun W => W.cell? ⟨bx, 1, none⟩ = some (.int .i64 at_) ∧ W.cell? ⟨bx, 2, none⟩ = some (.int .i64 nn)) (first | exact ⟨by assumption, by assumption⟩ | go_keep) (first | (go_at_call 22; refine (xfree (Two.m (by assumption)) at_ nn).mono ?_; rintro e w5 ⟨rfl, hM5, hT5⟩; have TX := Two.byX Ap (by assumption) hM5 (frS_ok TW.o1) hT5; clear hM5 hT5; have f0_TX := TX.x.cell (o := 0) (v := .int .i64 d) rfl; have f1_TX := TX.x.cell (o := 1) (v := .int .i64 at_) rfl; have f2_TX := TX.x.cell (o := 2) (v := .int .i64 nn) rfl; have f3_TX := TX.x.cell (o := 3) (v := .int .i64 v) rfl) | (go_at_call 23; refine (yfree (Two.r (by assumption)) at_ nn).mono ?_; rintro e w6 ⟨rfl, hR6, hT6⟩; have TY := Two.byY Ap (by assumption) hR6 (frS_ok TW.o1) hT6; clear hR6 hT6; have f0_TY := TY.x.cell (o := 0) (v := .int .i64 d) rfl; have f1_TY := TY.x.cell (o := 1) (v := .int .i64 at_) rfl; have f2_TY := TY.x.cell (o := 2) (v := .int .i64 nn) rfl; have f3_TY := TY.x.cell (o := 3) (v := .int .i64 v) rfl))
                all_goals (go_wp2_with fail; go_meet; exact ⟨rfl, _, (frS_len _ _ _).trans HSt.out, by assumption⟩)
          case rest =>
            as_aux_lemma =>
              obtain ⟨rfl, st', hst', TW⟩ := hcut
              clear HTW0 HAp HSt
              have hl64 : st'.length ≤ 64 := by omega
              have HSt' := Lib.hid hst'
              clear hst'
              obtain ⟨ho, hho⟩ : ∃ ho, ho = hoR st' at_ := ⟨_, rfl⟩
              obtain ⟨wo, hwo⟩ : ∃ wo, wo = wrR st' at_ := ⟨_, rfl⟩
              have f1 := TW.x.cell (o := 1) (v := .int .i64 at_) rfl
              have fv := TW.r.hdV
              have TD := TW.drew
              have X1 := Lib.hid (fun (W : World) (H : Mem W mb ab st') => hho ▸ xholder H at_)
              have X2 := Lib.hid (fun (W : World) (H : Ref W rb vb bb wb st') => hho ▸ yholder H at_)
              have X3 := Lib.hid (fun (W : World) (H : Mem W mb ab st') => hwo ▸ xwrites H at_)
              have X4 := Lib.hid (fun (W : World) (H : Ref W rb vb bb wb st') => hwo ▸ ywrites H at_)
              clear hho hwo TW
              go_wp2_with fail
              go_region_held3 (fun W => W.cell? ⟨bx, 1, none⟩ = some (.int .i64 at_) ∧ W.cell? ⟨rb, 0, none⟩ = some (.slice (some ⟨vb, 0, none⟩) st'.length st'.length)) (first | exact ⟨by assumption, by assumption⟩ | go_keep) (first | (go_at_call 24; refine (X1.out _ (Two.m (by assumption))).mono ?_; rintro e w5 ⟨rfl, rfl⟩) | (go_at_call 25; refine (X2.out _ (Two.r (by assumption))).mono ?_; rintro e w5 ⟨rfl, rfl⟩) | (go_at_call 26; refine (X3.out _ (Two.m (by assumption))).mono ?_; rintro e w5 ⟨rfl, rfl⟩) | (go_at_call 27; refine (X4.out _ (Two.r (by assumption))).mono ?_; rintro e w5 ⟨rfl, rfl⟩) | (go_at_call 29; refine (all_ok (Two.m (by assumption))).mono ?_; rintro e w7 ⟨nb, rfl, hB7, hnb7, hT7⟩; have TA := Two.still (by assumption) hT7; have HNB := NumsAt.of_blk hB7; clear hB7 hnb7 hT7; have fA1 := TA.x.cell (o := 1) (v := .int .i64 at_) rfl; have fAv := TA.r.hdV) | (go_at_call 28; refine (sameVs hl64 _ _ (by assumption) (NumsAt.of_blk (Ref.rowV (Two.r (by assumption))))).mono ?_; rintro e w8 ⟨rfl, m, rfl⟩; have TS := Two.drewN (by assumption) m; have fS1 := TS.x.cell (o := 1) (v := .int .i64 at_) rfl; have fSv := TS.r.hdV))
              all_goals
                go_wp2_with fail
                go_roundw
                case rel => exact ⟨k + 1, st', by omega, by omega, by go_num, HSt'.out, TD.o1, Two.m (by assumption), Two.r (by assumption), Two.st (by assumption)⟩
                case measure => simp [intOf]; omega
        · obtain rfl : k = 200 := by omega
          have HT := Lib.hid hT
          clear hM hR hT hH hst
          go_wp2_with fail
          refine (works1 _).mono ?_
          rintro e w9 ⟨rfl, hT9⟩
          have HT9 := Lib.hid (HT.out.trans hT9)
          clear hT9
          go_wp2_with fail
          go_ret
          exact ⟨rfl, HT9.out⟩
      · have HT := Lib.hid hT
        clear hM hR hT hH hst
        go_wp2_with fail
        refine (works1 _).mono ?_
        rintro e w9 ⟨rfl, hT9⟩
        have HT9 := Lib.hid (HT.out.trans hT9)
        clear hT9
        go_wp2_with fail
        go_ret
        exact ⟨rfl, HT9.out⟩
  · go_enter Try.func3, Try.ntmps3
    go_wp2_with fail
    refine (make_arg n0 _ hN).mono ?_
    rintro e w1 ⟨rfl, rfl⟩
    go_wp2_with fail
    refine (rmake_arg n0 _ hN).mono ?_
    rintro e w1 ⟨rfl, rfl⟩
    go_wp2_with fail
    refine (works1 _).mono ?_
    rintro e w9 ⟨rfl, hT9⟩
    have HT9 := Lib.hid hT9
    clear hT9
    go_wp2_with fail
    go_ret
    exact ⟨rfl, HT9.out⟩
end Go.Proofs.Ytgdpalefhikbfaa
