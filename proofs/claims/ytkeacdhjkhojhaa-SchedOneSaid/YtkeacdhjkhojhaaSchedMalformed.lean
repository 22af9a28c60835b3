/- Picks that are no session's change nothing, wherever they stand: the walk of the statement SchedMalformed. No condition. -/
import Derived.Test.YtkeacdhjkhojhaaMade
namespace Go.Proofs.Ytkeacdhjkhojhaa
open Go.RowKit
set_option linter.unusedVariables false
set_option linter.unusedSimpArgs false
set_option maxRecDepth 100000

theorem regs_lit {w : World} {L : Lay} {M : Mach} (H : SM w L M) (k : Int) {a b c d : Int} (h : regsOf M k = [a, b, c, d]) :
    Calls Try.prog 21 #[.pointer (some ⟨L.hb, 0, none⟩), .int .i64 k] w fun e w' => e = .returned (.agg #[.int .i64 a, .int .i64 b, .int .i64 c, .int .i64 d]) ∧ Still w w' := by
  have := registers_any H k
  rw [h] at this
  exact this

set_option maxHeartbeats 8000000 in
theorem walk_SchedMalformed (n0 : Int) (s : Sl (Sl Ins)) (t u : Sl Int) (w : World) (_ : (Lit.int .i64 n0).wf = true) (hs : SlOk encSl (SlOk insEnc okT 4) 1 w s) (ht : SlOk encI (okI .i64) 1 w t) (hu : SlOk encI (okI .i64) 1 w u) :
    Calls Try.prog 5 #[.int .i64 n0, .slice s.a s.len s.cap, .slice t.a t.len t.cap, .slice u.a u.len u.cap] w fun e w' => e = .returned (.bool true) ∧ Still w w' := by
  obtain ⟨ta, tl, tc, tx⟩ := t
  obtain ⟨ua, ul, uc, ux⟩ := u
  have HTX := Lib.hid (nums_row ht.row)
  have HUX := Lib.hid (nums_row hu.row)
  have HTL := Lib.hid (show tx.length = tl from ht.len)
  have HUL := Lib.hid (show ux.length = ul from hu.len)
  have HS := Lib.hid hs
  clear hs ht hu
  dsimp only at HTX HUX ⊢
  obtain ⟨P, hP⟩ : ∃ P, P = fewL (s.xs.map (·.xs)) := ⟨_, rfl⟩
  cases hm : mkM n0 P with
  | none =>
    have hne := mkE_ne hm
    have HM := Lib.hid hm
    have HPP := Lib.hid hP
    obtain ⟨er, her⟩ : ∃ er, er = (mkE n0 P).2 := ⟨_, rfl⟩
    obtain ⟨ek, hek⟩ : ∃ ek, ek = (mkE n0 P).1 := ⟨_, rfl⟩
    rw [← her] at hne
    have HE := Lib.hid her
    have HK := Lib.hid hek
    have hb1 : (er != 0) = true := by simpa using hne
    have hb2 : (er == 0) = false := by simpa using hne
    clear hm hP her hek hne
    go_enter Try.func5, Try.ntmps5
    go_wp2_with fail
    refine (works2 _).mono ?_
    rintro e w1 ⟨rfl, hT1⟩
    have HF := Lib.hid (few_any s w1 (SlOk.stays (SlOk.stays (fun _ _ _ _ h => h)) _ _ _ hT1 HS.out))
    have HT1 := Lib.hid hT1
    clear hT1
    go_wp2_with fail
    refine HF.out.mono ?_
    rintro e w2 ⟨ao, cc, pss, rfl, hPO, hpm, hT2⟩
    have HMk := Lib.hid (made_none hPO (P := P) (hpm.trans HPP.out.symm) HM.out)
    have HT2 := Lib.hid (HT1.out.trans hT2)
    have HPO := Lib.hid hPO
    have HPM := Lib.hid (hpm.trans HPP.out.symm)
    rw [← HE.out, ← HK.out] at HMk
    clear hPO hpm hT2 HF
    go_wp2_with fail
    refine HMk.out.mono ?_
    rintro e w3 ⟨rfl, hT3⟩
    have HMk2 := Lib.hid (made_none (HPO.out.still hT3) HPM.out HM.out)
    have HT3 := Lib.hid (HT2.out.trans hT3)
    rw [← HE.out, ← HK.out] at HMk2
    clear hT3
    go_wp2_with fail
    refine HMk2.out.mono ?_
    rintro e w4 ⟨rfl, hT4⟩
    have HT4 := Lib.hid (HT3.out.trans hT4)
    clear hT4
    go_wp2_with fail
    go_ret
    exact ⟨rfl, HT4.out⟩
  | some M0 =>
    have HM := Lib.hid hm
    have HPP := Lib.hid hP
    clear hm hP
    go_enter Try.func5, Try.ntmps5
    go_wp2_with fail
    refine (works2 _).mono ?_
    rintro e w1 ⟨rfl, hT1⟩
    have HF := Lib.hid (few_any s w1 (SlOk.stays (SlOk.stays (fun _ _ _ _ h => h)) _ _ _ hT1 HS.out))
    have HT1 := Lib.hid hT1
    clear hT1
    go_wp2_with fail
    refine HF.out.mono ?_
    rintro e w2 ⟨ao, cc, pss, rfl, hPO, hpm, hT2⟩
    have HMk := Lib.hid (made_some hPO (P := P) (hpm.trans HPP.out.symm) HM.out)
    have HT2 := Lib.hid (HT1.out.trans hT2)
    have HPO := Lib.hid hPO
    have HPM := Lib.hid (hpm.trans HPP.out.symm)
    clear hPO hpm hT2 HF
    go_wp2_with fail
    refine HMk.out.mono ?_
    rintro e w3 ⟨L1, rfl, hS1, hT3, hlo1, hhi1⟩
    have HMk2 := Lib.hid (made_some (HPO.out.still hT3) HPM.out HM.out)
    have HT3 := Lib.hid (HT2.out.trans hT3)
    have HS1 := Lib.hid hS1
    have hw2 : w.heap.size ≤ w2.heap.size := HT2.out.size
    clear hT3 hS1
    go_wp2_with fail
    refine HMk2.out.mono ?_
    rintro e w4 ⟨L2, rfl, hS2, hT4, hlo2, hhi2⟩
    have HT4 := Lib.hid (HT3.out.trans hT4)
    have HS1 := Lib.hid (HS1.out.still hT4)
    have HS2 := Lib.hid hS2
    have hN16 : M0.ss.length ≤ 16 := hS2.ok.n1
    obtain ⟨N, hN⟩ : ∃ N, N = M0.ss.length := ⟨_, rfl⟩
    rw [← hN] at hN16 ⊢
    have HN := Lib.hid hN
    have h12 : L1.hi ≤ L2.lo := by omega
    have hw1 : w.heap.size ≤ L1.lo := by omega
    have hw12 : w.heap.size ≤ L2.lo := by have := HS1.out.i1; omega
    clear hT4 hS2 hN HMk HMk2
    go_wp2_with fail
    go_loopw [15, 16, 17] (fun a b i wr => ∃ (k c : Nat) (M : Mach), k ≤ tl ∧ k ≤ 200 ∧ i = .int .i64 k ∧ c ≤ k ∧ a = .int .i64 c ∧ b = .int .i64 c ∧ SM wr L1 M ∧ SM wr L2 M ∧ M.ss.length = N ∧ L2.hi ≤ wr.heap.size ∧ Still w wr) (fun _ _ i _ => tl - (intOf i).toNat)
    case atStart => exact ⟨0, 0, M0, Nat.zero_le _, Nat.zero_le _, rfl, Nat.le_refl _, rfl, rfl, HS1.out, HS2.out, HN.out.symm, hhi2, HT4.out⟩
    case round =>
      clear HS1 HS2 HT4
      obtain ⟨k, c, M, hk, hk2, rfl, hck, rfl, rfl, h1, h2, hMN, hhi, hT⟩ := hrel
      have H1 := Lib.hid h1
      have H2 := Lib.hid h2
      have HMN := Lib.hid hMN
      have HT := Lib.hid hT
      clear h1 h2 hMN hT
      by_cases hgo : k < tl ∧ k < 200
      · obtain ⟨hlt, h200⟩ := hgo
        obtain ⟨x, hx⟩ := get_some (l := tx) (i := k) (by rw [HTL.out]; exact hlt)
        obtain ⟨b, o, rfl, hc0⟩ := HTX.out k x hx
        have hcx : wr.cell? ⟨b, o + k, none⟩ = some (.int .i64 x) := still_cell HT.out hc0 rfl
        have hbx : b < w.heap.size := cell_lt hc0
        have HR1 := Lib.hid (run_one H1.out (by have := H2.out.i1; omega) x)
        have hd1 := M.inc_le x
        have hwr : w.heap.size ≤ wr.heap.size := HT.out.size
        have HC0 := Lib.hid hc0
        clear hx hc0
        generalize hd : M.inc x = d at *
        have HD := Lib.hid hd
        clear hd
        go_wp2_with fail
        refine HR1.out.mono ?_
        rintro e w5 ⟨rfl, hM5, hT5⟩
        have hA : Still wr (wr.alloc (.cells #[.int .i64 x] 3)) := (Turned.refl _ _).alloc _
        have HT5 := Lib.hid (turned_new (HT.out.trans hA) (H1.out.still hA) hw1 hT5)
        have H25 := Lib.hid ((H1.out.still hA).beside' (H2.out.still hA) h12 hT5)
        have H15 := Lib.hid hM5
        have hs5 : L2.hi ≤ w5.heap.size := Nat.le_trans hhi (Nat.le_trans hA.size hT5.size)
        have hcx5 : w5.cell? ⟨b, o + k, none⟩ = some (.int .i64 x) := still_cell HT5.out HC0.out rfl
        have HR2 := Lib.hid (run_one H25.out hs5 x)
        rw [HD.out] at HR2
        clear hM5 hT5 hA HR1
        go_wp2_with fail
        refine HR2.out.mono ?_
        rintro e w6 ⟨rfl, hM6, hT6⟩
        have hA : Still w5 (w5.alloc (.cells #[.int .i64 x] 3)) := (Turned.refl _ _).alloc _
        have HT6 := Lib.hid (turned_new (HT5.out.trans hA) (H25.out.still hA) hw12 hT6)
        have H16 := Lib.hid ((H15.out.still hA).beside (H25.out.still hA) h12 hT6)
        have H26 := Lib.hid hM6
        have hs6 : L2.hi ≤ w6.heap.size := Nat.le_trans hs5 (Nat.le_trans hA.size hT6.size)
        have HMN6 : Hid ((M.step x).ss.length = N) := Lib.hid (by rw [Mach.step_len]; exact HMN.out)
        clear hM6 hT6 hA HR2
        by_cases hku : k < ul
        · obtain ⟨z, hz⟩ := get_some (l := ux) (i := k) (by rw [HUL.out]; exact hku)
          obtain ⟨b', o', rfl, hcz0⟩ := HUX.out k z hz
          have hcz : w6.cell? ⟨b', o' + k, none⟩ = some (.int .i64 z) := still_cell HT6.out hcz0 rfl
          clear hz hcz0
          by_cases hodd : z < 0 ∨ (N : Int) ≤ z
          · have hst := step_odd (M := M.step x) (x := z) (by rw [HMN6.out]; exact hodd)
            have HR3 := Lib.hid (run_one H16.out (by have := H26.out.i1; omega) z)
            rw [hst.1, hst.2] at HR3
            clear hst
            by_cases hz0 : z < 0
            all_goals
              go_wp2_with fail
              refine HR3.out.mono ?_
              rintro e w7 ⟨rfl, hM7, hT7⟩
              have hA : Still w6 (w6.alloc (.cells #[.int .i64 z] 3)) := (Turned.refl _ _).alloc _
              have HT7 := Lib.hid (turned_new (HT6.out.trans hA) (H16.out.still hA) hw1 hT7)
              have H27 := Lib.hid ((H16.out.still hA).beside' (H26.out.still hA) h12 hT7)
              have H17 := Lib.hid hM7
              have hs7 : L2.hi ≤ w7.heap.size := Nat.le_trans hs6 (Nat.le_trans hA.size hT7.size)
              clear hM7 hT7 hA
              go_wp2_with fail
              go_roundw
              case rel => exact ⟨k + 1, c + d, M.step x, by omega, by omega, by go_num, by omega, by go_num, by go_num, H17.out, H27.out, HMN6.out, hs7, HT7.out⟩
              case measure => simp [intOf]; omega
          · have hz0 : ¬ z < 0 := fun h => hodd (.inl h)
            have hz1 : z < (N : Int) := by omega
            go_wp2_with fail
            go_roundw
            case rel => exact ⟨k + 1, c + d, M.step x, by omega, by omega, by go_num, by omega, by go_num, by go_num, H16.out, H26.out, HMN6.out, hs6, HT6.out⟩
            case measure => simp [intOf]; omega
        · go_wp2_with fail
          go_roundw
          case rel => exact ⟨k + 1, c + d, M.step x, by omega, by omega, by go_num, by omega, by go_num, by go_num, H16.out, H26.out, HMN6.out, hs6, HT6.out⟩
          case measure => simp [intOf]; omega
      · by_cases hlt : k < tl
        all_goals
          go_wp2_with fail
          go_loopw [18] (fun i wv => ∃ j : Nat, j ≤ N ∧ i = .int .i64 j ∧ SM wv L1 M ∧ SM wv L2 M ∧ Still w wv) (fun i _ => N - (intOf i).toNat)
          case atStart => exact ⟨0, Nat.zero_le _, rfl, H1.out, H2.out, HT.out⟩
          case round =>
            obtain ⟨j, hj, rfl, h1, h2, hTv⟩ := hrel
            have G1 := Lib.hid h1
            have G2 := Lib.hid h2
            have GT := Lib.hid hTv
            clear h1 h2 hTv
            by_cases hjN : j < N
            · obtain ⟨r0, r1, r2, r3, hr⟩ := regs_four G1.out (j : Int)
              have HA1 := Lib.hid (at_any G1.out (j : Int))
              have HA2 := Lib.hid (at_any G2.out (j : Int))
              have HRG := Lib.hid (regs_lit G1.out (j : Int) hr)
              have HRR := Lib.hid hr
              clear hr
              generalize atOf M j = aj at *
              go_wp2_with fail
              refine HA1.out.mono ?_
              rintro e w5 ⟨rfl, rfl⟩
              go_wp2_with fail
              refine HA2.out.mono ?_
              rintro e w5 ⟨rfl, rfl⟩
              go_wp2_with fail
              refine HRG.out.mono ?_
              rintro e w5 ⟨rfl, hT5⟩
              have HRG2 := Lib.hid (regs_lit (G2.out.still hT5) (j : Int) HRR.out)
              have GT5 := Lib.hid hT5
              clear hT5
              go_wp2_with fail
              refine HRG2.out.mono ?_
              rintro e w6 ⟨rfl, hT6⟩
              have GT6 := Lib.hid (GT5.out.trans hT6)
              clear hT6
              go_wp2_with fail
              go_roundw
              case rel => exact ⟨j + 1, by omega, by go_num, G1.out.still GT6.out, G2.out.still GT6.out, GT.out.trans GT6.out⟩
              case measure => simp [intOf]; omega
            · obtain rfl : j = N := by omega
              have HC1 := Lib.hid (cells_any G1.out)
              go_wp2_with fail
              refine HC1.out.mono ?_
              rintro e w5 ⟨nb1, rfl, hB1, hn1, hT5⟩
              have HC2 := Lib.hid (cells_any (G2.out.still hT5))
              have HB1 := Lib.hid hB1
              have GT5 := Lib.hid (GT.out.trans hT5)
              clear hB1 hT5 HC1
              go_wp2_with fail
              refine HC2.out.mono ?_
              rintro e w6 ⟨nb2, rfl, hB2, hn2, hT6⟩
              have HN1 := Lib.hid (NumsAt.of_blk (HB1.out.turned hT6 (fun h => h)))
              have HN2 := Lib.hid (NumsAt.of_blk hB2)
              have GT6 := Lib.hid (GT5.out.trans hT6)
              have hle := G1.out.ok.le
              have HSame := Lib.hid (sameInts_any w6 (some ⟨nb1, 0, none⟩) (some ⟨nb2, 0, none⟩) (vs M.st) (vs M.st) M.st.length M.st.length rfl (by rw [vs_len]; omega) HN1.out HN2.out)
              rw [vs_len, show decide (vs M.st = vs M.st) = true by simp] at HSame
              clear hB2 hT6 HC2
              generalize M.st.length = ml at *
              go_wp2_with fail
              refine HSame.out.mono ?_
              rintro e w7 ⟨rfl, q, rfl⟩
              go_wp2_with fail
              go_ret
              exact ⟨rfl, GT6.out.drewN q⟩
end Go.Proofs.Ytkeacdhjkhojhaa
