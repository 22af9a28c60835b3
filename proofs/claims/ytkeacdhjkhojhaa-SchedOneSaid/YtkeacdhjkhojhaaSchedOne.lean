/- A step changes one cell at most, and nothing of another session: the walk of the statement SchedOne. No condition. -/
import Derived.Test.YtkeacdhjkhojhaaOneKit
namespace Go.Proofs.Ytkeacdhjkhojhaa
open Go.RowKit
set_option linter.unusedVariables false
set_option linter.unusedSimpArgs false
set_option maxRecDepth 100000

theorem own_at {w : World} {B : Nat} {e : TypeId} {m n cc : Nat} {ao : Option Addr} {xs : List Value} (h : w.ownsRow B e m (.slice ao n cc) n xs) (hn : 0 < n) : ∃ g, ao = some ⟨g, 0, none⟩ ∧ ∀ t v, xs[t]? = some v → w.cell? ⟨g, t, none⟩ = some v := by
  have h0 := h
  rcases h.2 with ⟨_, rfl⟩ | ⟨g, cap, cur, e0, _, hg, _, _, _, ht⟩
  · omega
  · obtain ⟨rfl, rfl⟩ : ao = some ⟨g, 0, none⟩ ∧ cc = cap := by simpa using e0
    refine ⟨g, rfl, fun t v hv => ?_⟩
    have hl : t < n * m := by rw [← h.1]; exact get_lt hv
    rw [h0.cellAt t hl]; exact hv

theorem regs_cell {M : Mach} (h : ∀ t : Nat, (ints (regsOf M (t : Int))).length = 4) {j g i : Nat} {v : Value} (hg : g < j) (hv : (ints (regsOf M (g : Int)))[i]? = some v) : (rowOf ints (regsL M j))[g * 4 + i]? = some v := by
  have e : rowOf ints (regsL M j) = rowOf (fun t : Nat => ints (regsOf M (t : Int))) (List.range j) := by unfold rowOf regsL; simp [List.flatMap_map]
  rw [e]
  exact rowOf_get (m := 4) h (by simp [hg]) hv

set_option maxHeartbeats 8000000 in
theorem walk_SchedOne (n0 : Int) (s : Sl (Sl Ins)) (t : Sl Int) (w : World) (_ : (Lit.int .i64 n0).wf = true) (hs : SlOk encSl (SlOk insEnc okT 4) 1 w s) (ht : SlOk encI (okI .i64) 1 w t) :
    Calls Try.prog 6 #[.int .i64 n0, .slice s.a s.len s.cap, .slice t.a t.len t.cap] w fun e w' => e = .returned (.bool true) ∧ Still w w' := by
  obtain ⟨ta, tl, tc, tx⟩ := t
  have HTX := Lib.hid (nums_row ht.row)
  have HTL := Lib.hid (show tx.length = tl from ht.len)
  have HS := Lib.hid hs
  clear hs ht
  dsimp only at HTX ⊢
  obtain ⟨P, hP⟩ : ∃ P, P = fewL (s.xs.map (·.xs)) := ⟨_, rfl⟩
  cases hm : mkM n0 P with
  | none =>
    have hne := mkE_ne hm
    have HM := Lib.hid hm
    have HPP := Lib.hid hP
    obtain ⟨er, her⟩ : ∃ er, er = (mkE n0 P).2 := ⟨_, rfl⟩
    obtain ⟨ek, hek⟩ : ∃ ek, ek = (mkE n0 P).1 := ⟨_, rfl⟩
    rw [← her] at hne
    have HE := Lib.hid her
    have HK := Lib.hid hek
    have hb1 : (er != 0) = true := by simpa using hne
    have hb2 : (er == 0) = false := by simpa using hne
    clear hm hP her hek hne
    go_enter Try.func6, Try.ntmps6
    go_wp2_with fail
    refine (works2 _).mono ?_
    rintro e w1 ⟨rfl, hT1⟩
    have HF := Lib.hid (few_any s w1 (SlOk.stays (SlOk.stays (fun _ _ _ _ h => h)) _ _ _ hT1 HS.out))
    have HT1 := Lib.hid hT1
    clear hT1
    go_wp2_with fail
    refine HF.out.mono ?_
    rintro e w2 ⟨ao, cc, pss, rfl, hPO, hpm, hT2⟩
    have HMk := Lib.hid (made_none hPO (P := P) (hpm.trans HPP.out.symm) HM.out)
    have HT2 := Lib.hid (HT1.out.trans hT2)
    have HPO := Lib.hid hPO
    have HPM := Lib.hid (hpm.trans HPP.out.symm)
    rw [← HE.out, ← HK.out] at HMk
    clear hPO hpm hT2 HF
    go_wp2_with fail
    refine HMk.out.mono ?_
    rintro e w3 ⟨rfl, hT3⟩
    have HT3 := Lib.hid (HT2.out.trans hT3)
    clear hT3
    go_wp2_with fail
    go_ret
    exact ⟨rfl, HT3.out⟩
  | some M0 =>
    have HM := Lib.hid hm
    have HPP := Lib.hid hP
    clear hm hP
    go_enter Try.func6, Try.ntmps6
    go_wp2_with fail
    refine (works2 _).mono ?_
    rintro e w1 ⟨rfl, hT1⟩
    have HF := Lib.hid (few_any s w1 (SlOk.stays (SlOk.stays (fun _ _ _ _ h => h)) _ _ _ hT1 HS.out))
    have HT1 := Lib.hid hT1
    clear hT1
    go_wp2_with fail
    refine HF.out.mono ?_
    rintro e w2 ⟨ao, cc, pss, rfl, hPO, hpm, hT2⟩
    have HMk := Lib.hid (made_some hPO (P := P) (hpm.trans HPP.out.symm) HM.out)
    have HT2 := Lib.hid (HT1.out.trans hT2)
    have HPO := Lib.hid hPO
    have HPM := Lib.hid (hpm.trans HPP.out.symm)
    clear hPO hpm hT2 HF
    go_wp2_with fail
    refine HMk.out.mono ?_
    rintro e w3 ⟨L1, rfl, hS1, hT3, hlo1, hhi1⟩
    have HT3 := Lib.hid (HT2.out.trans hT3)
    have HS1 := Lib.hid hS1
    have hw2 : w.heap.size ≤ w2.heap.size := HT2.out.size
    have hN16 : M0.ss.length ≤ 16 := hS1.ok.n1
    obtain ⟨N, hN⟩ : ∃ N, N = M0.ss.length := ⟨_, rfl⟩
    rw [← hN] at hN16 ⊢
    have HN := Lib.hid hN
    have hw1 : w.heap.size ≤ L1.lo := by omega
    obtain ⟨i0, hi, hz0, hz1, hz2⟩ := info_parts infoInt
    obtain ⟨i1, ki, kz0, kz1, kz2⟩ := info_parts infoRegs
    clear hT3 hS1 hN HMk
    go_wp2_with fail
    go_loopw [10] (fun i wr => ∃ (k : Nat) (M : Mach), k ≤ tl ∧ k ≤ 100 ∧ i = .int .i64 k ∧ SM wr L1 M ∧ M.ss.length = N ∧ L1.hi ≤ wr.heap.size ∧ Still w wr) (fun i _ => tl - (intOf i).toNat)
    case atStart => exact ⟨0, M0, Nat.zero_le _, Nat.zero_le _, rfl, HS1.out, HN.out.symm, hhi1, HT3.out⟩
    case round =>
      clear HS1 HT3
      obtain ⟨k, M, hk, hk2, rfl, h1, hMN, hhi, hT⟩ := hrel
      have H1 := Lib.hid h1
      have HMN := Lib.hid hMN
      have HT := Lib.hid hT
      have hle : M.st.length ≤ 64 := h1.ok.le
      clear h1 hMN hT
      by_cases hgo : k < tl ∧ k < 100
      · obtain ⟨hlt, h100⟩ := hgo
        obtain ⟨x, hx⟩ := get_some (l := tx) (i := k) (by rw [HTL.out]; exact hlt)
        obtain ⟨b, o, rfl, hc0⟩ := HTX.out k x hx
        have hwr : w.heap.size ≤ wr.heap.size := HT.out.size
        have HCe := Lib.hid (cells_any H1.out)
        obtain ⟨ml, hml⟩ : ∃ ml, ml = M.st.length := ⟨_, rfl⟩
        rw [← hml] at HCe hle
        have HML := Lib.hid hml
        clear hx hml
        go_wp2_with fail
        refine HCe.out.mono ?_
        rintro e w5 ⟨nb, rfl, hB, hnb, hT5⟩
        have hnl := hB.lt
        have hsz5 := hT5.size
        have hT5w := HT.out.trans hT5
        have hw5 : w.heap.size ≤ w5.heap.size := hT5w.size
        have hA2 : Still w5 ((w5.alloc (.cells #[] 3)).alloc (.cells #[] 41)) := ((Turned.refl _ _).alloc _).alloc _
        have HB0 := Lib.hid (show Beside w5.heap.size nb ((w5.alloc (.cells #[] 3)).alloc (.cells #[] 41)) L1 M (vs M.st) (some ⟨w5.heap.size, 0, none⟩) 0 (some ⟨w5.heap.size + 1, 0, none⟩) 0 [] [] from
          ⟨(H1.out.still hT5).still hA2, hB.turned hA2 (fun h => h), own_turned (World.ownsRow_made w5 #[] 0 (Nat.le_refl _) (by simp) (by simp)) ((Turned.refl (fun _ => False) _).alloc _) (fun _ _ h => h),
            (by have h := World.ownsRow_made (base := w5.heap.size) (e := 41) (size := 4) (w5.alloc (.cells #[] 3)) #[] 0 (by simp) (by simp) (by simp); rw [World.size_alloc] at h; exact h), by omega, hnl⟩)
        have HT6 := Lib.hid (hT5w.trans hA2)
        clear hB hT5 hT5w hA2 HCe
        go_wp2_with fail
        go_loopw [12, 13, 14] (fun a r i wv => ∃ (j : Nat) (ao : Option Addr) (cc : Nat) (ro : Option Addr) (rc : Nat), j ≤ N ∧ i = .int .i64 j ∧ a = .slice ao j cc ∧ r = .slice ro j rc ∧ Beside w5.heap.size nb wv L1 M (vs M.st) ao cc ro rc (atsL M j) (regsL M j) ∧ w5.heap.size ≤ wv.heap.size ∧ Still w wv) (fun _ _ i _ => N - (intOf i).toNat)
        case atStart => exact ⟨0, _, _, _, _, Nat.zero_le _, rfl, rfl, rfl, HB0.out, by simp; omega, HT6.out⟩
        case round =>
          clear HB0 HT6
          obtain ⟨j, ao, cc, ro, rc, hj, rfl, rfl, rfl, hbs, hwv, hTv⟩ := hrel
          have HB := Lib.hid hbs
          have HTv := Lib.hid hTv
          have hlA : (atsL M j).length = j := by unfold atsL; simp
          have hlR : (regsL M j).length = j := by unfold regsL; simp
          have HLA := Lib.hid hlA
          have HLR := Lib.hid hlR
          clear hbs hTv hlA hlR
          by_cases hjN : j < N
          · obtain ⟨r0, r1, r2, r3, hr⟩ := regs_four HB.out.m (j : Int)
            have HA1 := Lib.hid (at_any HB.out.m (j : Int))
            have HRR := Lib.hid hr
            obtain ⟨aj, haj⟩ : ∃ aj, aj = atOf M (j : Int) := ⟨_, rfl⟩
            rw [← haj] at HA1
            have HAJ := Lib.hid haj
            clear hr haj
            go_wp2_with fail
            refine HA1.out.mono ?_
            rintro e w6 ⟨rfl, rfl⟩
            go_wp2_with (first | (at_builtin; refine wpList_append_own_at _ rfl (.tmp 57) (.tmp 61) 23 rfl w5.heap.size 3 i0 (.int .i64 0) 1 8 Try.underlying23 hi hz0 hz1 hz2 rfl (by decide) (.slice ao j cc) j (ints (atsL M j)) rfl (by have h := own_turned HB.out.at_ ((Turned.refl (fun _ => False) wr).alloc (.cells #[.int .i64 aj] 3)) (fun _ _ h => h); rw [HLA.out] at h; exact h) ⟨wr.heap.size, 0, none⟩ 1 1 [.int .i64 aj] rfl rfl (new_cells wr _ _) (ints_all rfl) (by unfold maxLen; omega) (by omega) (by simp; omega) ?_; intro v6 w6 hown6 hg6 _ _; obtain ⟨a6, c6, rfl⟩ := own_slice hown6; have hB6 := HB.out.grewA (a' := a6) (c' := c6) (x := aj) (by rw [HLA.out]; exact hg6) (by rw [HLA.out]; exact hown6); have HT6 := Lib.hid (grown_still HTv.out hw5 (by have h := HB.out.at_; rw [HLA.out] at h; exact h) hg6); have hs6 : w5.heap.size ≤ w6.heap.size := Nat.le_trans hwv (Nat.le_trans (by simp) hg6.size); have HB6 := Lib.hid hB6; have HRG := Lib.hid (regs_lit hB6.m (j : Int) HRR.out); clear hown6 hg6 hB6) | (go_at_call 21; refine HRG.out.mono ?_; rintro e w7 ⟨rfl, hT7⟩; have HB7 := Lib.hid (HB6.out.still hT7); have HT7 := Lib.hid (HT6.out.trans hT7); have hs7 : w5.heap.size ≤ w7.heap.size := Nat.le_trans hs6 hT7.size; clear hT7) | (at_builtin; refine wpList_append_own_at _ rfl (.tmp 63) (.tmp 67) 46 rfl w5.heap.size 41 i1 (.agg #[.int .i64 0, .int .i64 0, .int .i64 0, .int .i64 0]) 4 32 Try.underlying46 ki kz0 kz1 kz2 rfl (by decide) (.slice ro j rc) j (rowOf ints (regsL M j)) rfl (by have h := own_turned HB7.out.reg ((Turned.refl (fun _ => False) w7).alloc (.cells #[.int .i64 r0, .int .i64 r1, .int .i64 r2, .int .i64 r3] 41)) (fun _ _ h => h); rw [HLR.out] at h; exact h) ⟨w7.heap.size, 0, none⟩ 1 1 [.int .i64 r0, .int .i64 r1, .int .i64 r2, .int .i64 r3] rfl rfl (new_cells w7 _ _) (ints_all rfl) (by unfold maxLen; omega) (by omega) (by simp; omega) ?_; intro v8 w8 hown8 hg8 _ _; obtain ⟨a8, c8, rfl⟩ := own_slice hown8; have HB8 := Lib.hid (HB7.out.grewR (r' := a8) (c' := c8) (x := [r0, r1, r2, r3]) (by rw [HLR.out]; exact hg8) (by rw [HLR.out]; exact hown8)); have HT8 := Lib.hid (grown_still HT7.out hw5 (by have h := HB7.out.reg; rw [HLR.out] at h; exact h) hg8); have hs8 : w5.heap.size ≤ w8.heap.size := Nat.le_trans hs7 (Nat.le_trans (by simp) hg8.size); clear hown8 hg8))
            go_roundw
            case rel =>
              refine ⟨j + 1, a6, c6, a8, c8, by omega, by go_num, rfl, rfl, ?_, hs8, HT8.out⟩
              rw [atsL_succ, regsL_succ, HRR.out, ← HAJ.out]
              exact HB8.out
            case measure => simp [intOf]; omega
          · obtain rfl : j = N := by omega
            have HSt := Lib.hid (step_any HB.out.m x)
            have hcx : wr.cell? ⟨b, o + k, none⟩ = some (.int .i64 x) := still_cell HTv.out hc0 rfl
            go_wp2_with fail
            refine HSt.out.mono ?_
            rintro e w6 ⟨rfl, hM6, hT6⟩
            have HB6 := Lib.hid (HB.out.stepped hM6 hT6)
            have HT6 := Lib.hid (turned_new HTv.out HB.out.m hw1 hT6)
            have HC6 := Lib.hid (cells_any hM6)
            rw [Mach.step_stlen, ← HML.out] at HC6
            clear hM6 hT6 HSt
            go_wp2_with fail
            refine HC6.out.mono ?_
            rintro e w7 ⟨nb2, rfl, hB7, hnb2, hT7⟩
            have HN7 := Lib.hid hB7
            have HB7 := Lib.hid (HB6.out.still hT7)
            have HT7 := Lib.hid (HT6.out.trans hT7)
            clear hB7 hT7 HC6
            go_wp2_with fail
            have hml' : (M.step x).st.length = ml := by rw [Mach.step_stlen, HML.out]
            have HML2 := Lib.hid hml'
            clear hml'
            obtain ⟨D, hD⟩ : ∃ D : Nat → Nat, D = diffs (vs (M.step x).st) (vs M.st) := ⟨_, rfl⟩
            have HD := Lib.hid hD
            clear hD
            go_loopw [16, 17] (fun ch c wv => ∃ q : Nat, q ≤ ml ∧ c = .int .i64 q ∧ ch = .int .i64 (D q) ∧ Still w7 wv) (fun _ c _ => ml - (intOf c).toNat)
            case atStart => exact ⟨0, Nat.zero_le _, rfl, by rw [HD.out]; rfl, Turned.refl _ _⟩
            case round =>
              obtain ⟨q, hq, rfl, rfl, hTq⟩ := hrel
              have HTQ := Lib.hid hTq
              have hdq : D q ≤ q := by rw [HD.out]; exact Nat.le_trans (List.length_filter_le _ _) (by simp)
              by_cases hqm : q < ml
              · obtain ⟨u, hu⟩ := get_some (l := vs (M.step x).st) (i := q) (by unfold vs; rw [List.length_map, HML2.out]; exact hqm)
                obtain ⟨v, hv⟩ := get_some (l := vs M.st) (i := q) (by unfold vs; rw [List.length_map, ← HML.out]; exact hqm)
                have hcu : wr.cell? ⟨nb2, q, none⟩ = some (.int .i64 u) := by exact (HN7.out.turned hTq (fun h => h)).cell (by unfold ints; rw [List.getElem?_map, hu]; rfl)
                have hcv : wr.cell? ⟨nb, q, none⟩ = some (.int .i64 v) := by exact (HB7.out.was.turned hTq (fun h => h)).cell (by unfold ints; rw [List.getElem?_map, hv]; rfl)
                have HDS := Lib.hid (show D (q + 1) = D q + (if u = v then 0 else 1) by rw [HD.out, diffs_succ, hu, hv]; simp)
                clear hu hv hTq
                by_cases huv : u = v
                · have hbe : (u != v) = false := by simpa using huv
                  go_wp2_with fail
                  go_quiet (fail)
                  go_wp2_with fail
                  go_roundw
                  case rel => exact ⟨q + 1, by omega, by go_num, by rw [HDS.out, if_pos huv]; rfl, HTQ.out.drewN _⟩
                  case measure => simp [intOf]; omega
                · have hbe : (u != v) = true := by simpa using huv
                  go_wp2_with fail
                  go_quiet (fail)
                  go_wp2_with fail
                  go_roundw
                  case rel => exact ⟨q + 1, by omega, by go_num, by rw [HDS.out, if_neg huv]; go_num, HTQ.out.drewN _⟩
                  case measure => simp [intOf]; omega
              · obtain rfl : q = ml := by omega
                have HQ := Lib.hid (show D q ≤ 1 by
                  obtain ⟨jj, hjj⟩ := step_one M x
                  rw [HD.out]
                  have := diffs_le hjj q
                  split at this <;> omega)
                have HB8 := Lib.hid (HB7.out.still hTq)
                have HT8 := Lib.hid (HT7.out.trans hTq)
                have hdq : ((D q : Int)) ≤ 1 := by have := HQ.out; omega
                clear hTq
                go_wp2_with fail
                go_loopw [18] (fun i wv => ∃ g : Nat, g ≤ j ∧ i = .int .i64 g ∧ Still wr wv) (fun i _ => j - (intOf i).toNat)
                case atStart => exact ⟨0, Nat.zero_le _, rfl, Turned.refl _ _⟩
                case round =>
                  obtain ⟨g, hg, rfl, hTg⟩ := hrel
                  have HBg := Lib.hid (HB8.out.still hTg)
                  have HTg := Lib.hid (HT8.out.trans hTg)
                  have HTG := Lib.hid hTg
                  have hcp : wr.cell? ⟨b, o + k, none⟩ = some (.int .i64 x) := still_cell HTg.out hc0 rfl
                  clear hTg
                  by_cases hgj : g < j
                  · by_cases hgx : (g : Int) = x
                    · have hbe : ((g : Int) != x) = false := by simpa using hgx
                      go_wp2_with fail
                      go_quiet (fail)
                      go_wp2_with fail
                      go_roundw
                      case rel => exact ⟨g + 1, by omega, by go_num, HTG.out.drewN _⟩
                      case measure => simp [intOf]; omega
                    · have hbe : ((g : Int) != x) = true := by simpa using hgx
                      have hgx' : (g : Int) ≠ x := hgx
                      have hga := get_other M x (g : Int) hgx'
                      obtain ⟨av, hav⟩ : ∃ av, av = atOf M (g : Int) := ⟨_, rfl⟩
                      obtain ⟨r0, r1, r2, r3, hr⟩ := regs_four H1.out (g : Int)
                      have hR4 : ∀ t : Nat, (ints (regsOf M (t : Int))).length = 4 := fun t => by obtain ⟨a, b, c, d, h⟩ := regs_four H1.out (t : Int); rw [h]; rfl
                      obtain ⟨ga, rfl, hca⟩ := own_at HBg.out.at_ (by unfold atsL; simp; omega)
                      obtain ⟨gr, rfl, hcr⟩ := own_at HBg.out.reg (by unfold regsL; simp; omega)
                      have f0 : wr.cell? ⟨ga, g, none⟩ = some (.int .i64 av) := hca g _ (by unfold ints; rw [List.getElem?_map, atsL_get M hgj, hav]; rfl)
                      have f1 : wr.cell? ⟨gr, g * 4, none⟩ = some (.int .i64 r0) := hcr _ _ (regs_cell hR4 hgj (i := 0) (by rw [hr]; rfl))
                      have f2 : wr.cell? ⟨gr, g * 4 + 1, none⟩ = some (.int .i64 r1) := hcr _ _ (regs_cell hR4 hgj (i := 1) (by rw [hr]; rfl))
                      have f3 : wr.cell? ⟨gr, g * 4 + 2, none⟩ = some (.int .i64 r2) := hcr _ _ (regs_cell hR4 hgj (i := 2) (by rw [hr]; rfl))
                      have f4 : wr.cell? ⟨gr, g * 4 + 3, none⟩ = some (.int .i64 r3) := hcr _ _ (regs_cell hR4 hgj (i := 3) (by rw [hr]; rfl))
                      have HAT := Lib.hid (at_any (HBg.out.m.still (Turned.refl (fun _ => False) wr).drew) (g : Int))
                      rw [show atOf (M.step x) (g : Int) = av by rw [hav]; unfold atOf; rw [hga]] at HAT
                      have HRG := Lib.hid (regs_lit (HBg.out.m.still (Turned.refl (fun _ => False) wr).drew) (g : Int) (show regsOf (M.step x) (g : Int) = [r0, r1, r2, r3] by rw [← hr]; unfold regsOf; rw [hga]))
                      clear hga hav hr hR4 hca hcr
                      go_wp2_with fail
                      go_region_held3 (fun V => V.cell? ⟨b, o + k, none⟩ = some (.int .i64 x) ∧ V.cell? ⟨ga, g, none⟩ = some (.int .i64 av) ∧ V.cell? ⟨gr, g * 4, none⟩ = some (.int .i64 r0) ∧ V.cell? ⟨gr, g * 4 + 1, none⟩ = some (.int .i64 r1) ∧ V.cell? ⟨gr, g * 4 + 2, none⟩ = some (.int .i64 r2) ∧ V.cell? ⟨gr, g * 4 + 3, none⟩ = some (.int .i64 r3)) (first | exact ⟨by assumption, by assumption, by assumption, by assumption, by assumption, by assumption⟩ | go_keep) (first
                        | (go_at_call 20; refine HAT.out.mono ?_; rintro e w9 ⟨rfl, rfl⟩)
                        | (go_at_call 21; refine HRG.out.mono ?_; rintro e w9 ⟨rfl, hT9⟩; have HT9 := Lib.hid (((Turned.refl (fun _ => False) wr).drew).trans hT9); have e0 := still_cell HT9.out hcp rfl; have e1 := still_cell HT9.out f0 rfl; have e2 := still_cell HT9.out f1 rfl; have e3 := still_cell HT9.out f2 rfl; have e4 := still_cell HT9.out f3 rfl; have e5 := still_cell HT9.out f4 rfl; clear hT9))
                      all_goals go_wp2_with fail
                      all_goals go_roundw
                      all_goals first
                        | exact ⟨g + 1, by omega, by go_num, HTG.out.trans HT9.out⟩
                        | (simp [intOf]; omega)
                  · obtain rfl : g = j := by omega
                    have hgt : decide ((1 : Int) < (D q : Int)) = false := by simpa using hdq
                    go_wp2_with fail
                    go_roundw
                    case rel => exact ⟨k + 1, M.step x, by omega, by omega, by go_num, HBg.out.m, (Mach.step_len M x).trans HMN.out, by have h1 := HBg.out.hi; have h2 := HBg.out.was.lt; omega, HTg.out⟩
                    case measure => simp [intOf]; omega
      · by_cases hlt : k < tl
        all_goals
          go_wp2_with fail
          go_ret
          exact ⟨rfl, HT.out⟩
end Go.Proofs.Ytkeacdhjkhojhaa
