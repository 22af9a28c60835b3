/- Picks in turn do what the document's own machine does, and come as far: the walk of the statement SchedFair. No condition. -/
import Derived.Test.YtdbmieofcdafkaaSchedSteps
import Derived.Test.YtdbmieofcdafkaaFairNeg
namespace Go.Proofs.Ytdbmieofcdafkaa
open Go.RowKit
set_option linter.unusedVariables false
set_option linter.unusedSimpArgs false
set_option maxRecDepth 100000

set_option maxHeartbeats 8000000 in
theorem walk_SchedFair (n0 : Int) (s : Sl (Sl Ins)) (most : Int) (w : World) (_ : (Lit.int .i64 n0).wf = true) (hs : SlOk encSl (SlOk insEnc okT 4) 1 w s) (hmo : (Lit.int .i64 most).wf = true) :
    Calls Try.prog 4 #[.int .i64 n0, .slice s.a s.len s.cap, .int .i64 most] w fun e w' => e = .returned (.bool true) ∧ Still w w' := by
  have HS := Lib.hid hs
  clear hs
  obtain ⟨P, hP⟩ : ∃ P, P = fewL (s.xs.map (·.xs)) := ⟨_, rfl⟩
  cases hm : mkM n0 P with
  | none =>
    have hne := mkE_ne hm
    have HM := Lib.hid hm
    have HPP := Lib.hid hP
    obtain ⟨er, her⟩ : ∃ er, er = (mkE n0 P).2 := ⟨_, rfl⟩
    obtain ⟨ek, hek⟩ : ∃ ek, ek = (mkE n0 P).1 := ⟨_, rfl⟩
    rw [← her] at hne
    have HE := Lib.hid her
    have HK := Lib.hid hek
    have hb1 : (er != 0) = true := by simpa using hne
    clear hm hP her hek hne
    go_enter Try.func4, Try.ntmps4
    go_wp2_with fail
    refine (works2 _).mono ?_
    rintro e w1 ⟨rfl, hT1⟩
    have HF := Lib.hid (few_any s w1 (SlOk.stays (SlOk.stays (fun _ _ _ _ h => h)) _ _ _ hT1 HS.out))
    have HT1 := Lib.hid hT1
    clear hT1
    go_wp2_with fail
    refine HF.out.mono ?_
    rintro e w2 ⟨ao, cc, pss, rfl, hPO, hpm, hT2⟩
    have HMk := Lib.hid (made_none hPO (P := P) (hpm.trans HPP.out.symm) HM.out)
    have HPO := Lib.hid hPO
    have HPM := Lib.hid (hpm.trans HPP.out.symm)
    have HT2 := Lib.hid (HT1.out.trans hT2)
    rw [← HE.out, ← HK.out] at HMk
    clear hPO hpm hT2 HF
    go_wp2_with fail
    refine HMk.out.mono ?_
    rintro e w3 ⟨rfl, hT3⟩
    have HQk := Lib.hid (qmade_none (HPO.out.still hT3) HPM.out HM.out)
    rw [← HE.out, ← HK.out] at HQk
    have HT3 := Lib.hid (HT2.out.trans hT3)
    clear hT3
    go_wp2_with fail
    refine HQk.out.mono ?_
    rintro e w4 ⟨rfl, hT4⟩
    have HT4 := Lib.hid (HT3.out.trans hT4)
    clear hT4
    go_wp2_with fail
    go_ret
    exact ⟨by simp, HT4.out⟩
  | some M0 =>
    have HM := Lib.hid hm
    have HPP := Lib.hid hP
    clear hm hP
    obtain ⟨m, hmm⟩ : ∃ m : Int, m = if 500 < most then 500 else most := ⟨_, rfl⟩
    have hif : (if (500 : Int) < most then (500 : Int) else most) = m := hmm.symm
    have hm5 : m ≤ 500 := by rw [hmm]; split <;> omega
    have HIF := Lib.hid hif
    clear hmm hif hmo
    go_enter Try.func4, Try.ntmps4
    go_wp2_with fail
    refine (works2 _).mono ?_
    rintro e w1 ⟨rfl, hT1⟩
    have HF := Lib.hid (few_any s w1 (SlOk.stays (SlOk.stays (fun _ _ _ _ h => h)) _ _ _ hT1 HS.out))
    have HT1 := Lib.hid hT1
    clear hT1
    go_wp2_with fail
    refine HF.out.mono ?_
    rintro e w2 ⟨ao, cc, pss, rfl, hPO, hpm, hT2⟩
    have HMk := Lib.hid (made_some hPO (P := P) (hpm.trans HPP.out.symm) HM.out)
    have HPO := Lib.hid hPO
    have HPM := Lib.hid (hpm.trans HPP.out.symm)
    have HT2 := Lib.hid (HT1.out.trans hT2)
    obtain ⟨N, hN⟩ : ∃ N, N = M0.ss.length := ⟨_, rfl⟩
    rw [← hN] at HMk
    have HN := Lib.hid hN
    clear hPO hpm hT2 HF hN
    go_wp2_with fail
    refine HMk.out.mono ?_
    rintro e w3 ⟨Lx, rfl, hSM, hT3, hlo, hhi⟩
    have HQk := Lib.hid (qmade_some (HPO.out.still hT3) HPM.out HM.out)
    rw [← HN.out] at HQk
    have hAl : w.heap.size ≤ Lx.lo := Nat.le_trans HT2.out.size hlo
    have HT3 := Lib.hid (HT2.out.trans hT3)
    have HSM := Lib.hid hSM
    clear hT3 hSM HMk
    go_wp2_with fail
    refine HQk.out.mono ?_
    rintro e w4 ⟨Ly, rfl, hQM, hT4, hlo2, hhi2⟩
    have HA := Lib.hid (show Apart w Lx Ly from ⟨hAl, Nat.le_trans hhi hlo2, HSM.out.lohi⟩)
    have HXY := Lib.hid (show XY w w4 Lx Ly M0 M0 from ⟨HSM.out.still hT4, hQM, HT3.out.trans hT4⟩)
    have HFA := Lib.hid (fair_all HXY.out.x (Nat.le_trans hhi hT4.size) m (by omega))
    rw [← HN.out] at HFA
    have hif := HIF.out
    clear hT4 hQM HQk HSM HT3 hlo hhi hlo2 hhi2 hAl HPO
    go_wp2_with fail
    clear hif
    refine HFA.out.mono ?_
    rintro e w5 ⟨rfl, hX5, hT5⟩
    have HXY2 := Lib.hid (show XY w w5 Lx Ly (M0.run (fairL N m.toNat)) M0 from ⟨hX5, HXY.out.y.turned hT5 (fun b hb => .inl (Nat.lt_of_lt_of_le (HXY.out.x.W_in hb).2 HA.out.b)), HXY.out.t.past hT5 (fun b hb => .inr (Nat.le_trans HA.out.a (HXY.out.x.W_in hb).1))⟩)
    have HFB := Lib.hid (qfair_any HXY2.out.y m (by omega))
    rw [← HN.out] at HFB
    clear hX5 hT5 HFA
    go_wp2_with fail
    refine HFB.out.mono ?_
    rintro e w6 ⟨rfl, hY6, hT6⟩
    have HXY3 := Lib.hid (show XY w w6 Lx Ly (M0.run (fairL N m.toNat)) (M0.run (fairL N m.toNat)) from ⟨HXY2.out.x.turned hT6 (fun b hb => .inr (Nat.le_trans HA.out.b (HXY2.out.y.W_in hb).1)), hY6, HXY2.out.t.past hT6 (fun b hb => .inr (by have := (HXY2.out.y.W_in hb).1; have := HA.out.a; have := HA.out.b; have := HA.out.c; omega))⟩)
    have HSA := Lib.hid HXY3.out.same
    clear hY6 hT6 HFB
    generalize (M0.run (fairL N m.toNat)) = MF at *
    generalize M0.cnt (fairL N m.toNat) = cF at *
    generalize MF.done = dF at *
    go_wp2_with fail
    refine HSA.out.mono ?_
    rintro e w7 ⟨rfl, hX7⟩
    have HX7 := Lib.hid hX7
    clear hX7
    go_wp2_with fail
    go_ret
    exact ⟨by simp, HX7.out.t⟩
end Go.Proofs.Ytdbmieofcdafkaa
