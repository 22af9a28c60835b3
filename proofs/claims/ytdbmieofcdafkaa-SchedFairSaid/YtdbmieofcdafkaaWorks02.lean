/- The chapter's example of layer 2 holds, and leaves all that was there as it was. No condition. -/
import Derived.Test.YtdbmieofcdafkaaMakeSched
import Derived.Test.YtdbmieofcdafkaaSchedFair
namespace Go.Proofs.Ytdbmieofcdafkaa
open Go.RowKit
set_option linter.unusedVariables false
set_option maxRecDepth 100000

def exP : List Ins := [⟨5, 0, 0, 5⟩]
def exM : Mach := mach0 1 [exP, exP]
theorem ex_fault : faultFrom 1 0 [exP, exP] = none := by decide
theorem ex_cnt : exM.cnt [1, 0, 7] = 2 := by decide
theorem ex_cells : vs (exM.run [1, 0, 7]).st = [10] := by decide +kernel
theorem ex_len : (exM.run [1, 0, 7]).st.length = 1 := by decide
theorem ex_over0 : (exM.run [1, 0, 7]).over 0 = true := by decide
theorem ex_over1 : (exM.run [1, 0, 7]).over 1 = true := by decide

/-- What a machine's steps turn lies behind all that was there. -/
theorem turned_new {w a b : World} {L : Lay} {M : Mach} (h : Still w a) (H : SM a L M) (hlo : w.heap.size ≤ L.lo) (k : Turned L.W a b) : Still w b :=
  h.past k (fun i hi => .inr (Nat.le_trans hlo (H.W_in hi).1))

theorem works2 (w : World) : Calls Try.prog 13 #[] w fun e w' => e = .returned (.bool true) ∧ Still w w' := by
  go_enter Try.func13, Try.ntmps13
  have b1 : Blk ((w.alloc (.cells (insEnc ⟨5, 0, 0, 5⟩).toArray 70)).alloc (.cells #[.slice (some ⟨w.heap.size, 0, none⟩) 1 1, .slice (some ⟨w.heap.size, 0, none⟩) 1 1] 59)) w.heap.size (insEnc ⟨5, 0, 0, 5⟩) 70 := (Blk.new _ _ _).alloc _
  have b2 : Blk ((w.alloc (.cells (insEnc ⟨5, 0, 0, 5⟩).toArray 70)).alloc (.cells #[.slice (some ⟨w.heap.size, 0, none⟩) 1 1, .slice (some ⟨w.heap.size, 0, none⟩) 1 1] 59)) (w.heap.size + 1) [.slice (some ⟨w.heap.size, 0, none⟩) 1 1, .slice (some ⟨w.heap.size, 0, none⟩) 1 1] 59 := Blk.newAt _ _ _ (by simp) rfl
  have hT0 : Still w ((w.alloc (.cells (insEnc ⟨5, 0, 0, 5⟩).toArray 70)).alloc (.cells #[.slice (some ⟨w.heap.size, 0, none⟩) 1 1, .slice (some ⟨w.heap.size, 0, none⟩) 1 1] 59)) := ((Turned.refl _ _).alloc _).alloc _
  have hrow : RowAt insEnc 4 ((w.alloc (.cells (insEnc ⟨5, 0, 0, 5⟩).toArray 70)).alloc (.cells #[.slice (some ⟨w.heap.size, 0, none⟩) 1 1, .slice (some ⟨w.heap.size, 0, none⟩) 1 1] 59)) (some ⟨w.heap.size, 0, none⟩) exP := by
    intro i x hx
    match i, hx with
    | 0, hx =>
      simp [exP] at hx; subst hx
      exact ⟨_, 0, rfl, fun j v hv => b1.cell (by rw [Nat.zero_mul, Nat.zero_add, Nat.zero_add]; exact hv)⟩
  have hps : ProgsOk ((w.alloc (.cells (insEnc ⟨5, 0, 0, 5⟩).toArray 70)).alloc (.cells #[.slice (some ⟨w.heap.size, 0, none⟩) 1 1, .slice (some ⟨w.heap.size, 0, none⟩) 1 1] 59)) (some ⟨w.heap.size + 1, 0, none⟩) 2
      [⟨some ⟨w.heap.size, 0, none⟩, 1, 1, exP⟩, ⟨some ⟨w.heap.size, 0, none⟩, 1, 1, exP⟩] := by
    refine ⟨rfl, ?_, ?_⟩
    · intro i x hx
      refine ⟨w.heap.size + 1, 0, rfl, fun j v hv => ?_⟩
      match i, hx with
      | 0, hx =>
        simp at hx; subst hx
        refine b2.cell ?_
        match j, hv with
        | 0, hv => simpa [encSl] using hv
      | 1, hx =>
        simp at hx; subst hx
        refine b2.cell ?_
        match j, hv with
        | 0, hv => simpa [encSl] using hv
    · intro x hx
      simp at hx
      subst hx
      exact ⟨rfl, Nat.le_refl _, by simp, fun h => (by cases h), hrow⟩
  have HMk := Lib.hid (smake_any 1 (by omega) (by omega) (some ⟨w.heap.size + 1, 0, none⟩) 2 2 (by omega) (by omega) _ _ hps)
  have HT0 := Lib.hid hT0
  clear b1 b2 hT0 hrow hps
  go_wp2_with fail
  refine HMk.out.mono ?_
  rintro e w1 (⟨k, er, hf, _⟩ | ⟨_, L, rfl, hSM, hT1, hlo, hhi⟩)
  · exact absurd (ex_fault.symm.trans hf) (by simp)
  have hlo2 : w.heap.size ≤ L.lo := by have := HT0.out.size; omega
  have HT1 := Lib.hid (HT0.out.trans hT1)
  have HSM : Hid (SM w1 L exM) := Lib.hid hSM
  clear hSM hT1 HMk HT0
  -- the picks
  have HX := Lib.hid (show NumsAt (w1.alloc (.cells (ints [1, 0, 7]).toArray 3)) (some ⟨w1.heap.size, 0, none⟩) [1, 0, 7] from NumsAt.of_blk (Blk.new w1 (ints [1, 0, 7]) 3))
  have HRun := Lib.hid (mrun_any (HSM.out.still ((Turned.refl _ w1).alloc (.cells (ints [1, 0, 7]).toArray 3))) (by simp; omega) (some ⟨w1.heap.size, 0, none⟩) 3 3 [1, 0, 7] rfl (by omega)
    (fun _ x hx h => by cases hx; have := (HSM.out.W_in h).2; dsimp only at this; omega) HX.out)
  have HTA := Lib.hid (HT1.out.alloc (.cells (ints [1, 0, 7]).toArray 3))
  have HSA := Lib.hid (HSM.out.still ((Turned.refl _ w1).alloc (.cells (ints [1, 0, 7]).toArray 3)))
  rw [ex_cnt] at HRun
  clear HX HSM HT1
  go_wp2_with fail
  refine HRun.out.mono ?_
  rintro e w2 ⟨rfl, hSM2, hT2⟩
  have HT2 := Lib.hid (turned_new HTA.out HSA.out hlo2 hT2)
  have HC := Lib.hid (cells_any hSM2)
  have HSM2 := Lib.hid hSM2
  rw [ex_len, ex_cells] at HC
  clear hSM2 hT2 HRun HTA HSA
  go_wp2_with fail
  refine HC.out.mono ?_
  rintro e w3 ⟨nb, rfl, hB, hnb, hT3⟩
  have hnl := hB.lt
  have HN1 := Lib.hid (show NumsAt (w3.alloc (.cells (ints [10]).toArray 3)) (some ⟨nb, 0, none⟩) [10] from NumsAt.of_blk (hB.alloc _))
  have HN2 := Lib.hid (show NumsAt (w3.alloc (.cells (ints [10]).toArray 3)) (some ⟨w3.heap.size, 0, none⟩) [10] from NumsAt.of_blk (Blk.new w3 (ints [10]) 3))
  have HSame := Lib.hid (sameInts_any (w3.alloc (.cells (ints [10]).toArray 3)) (some ⟨nb, 0, none⟩) (some ⟨w3.heap.size, 0, none⟩) [10] [10] 1 1 rfl (by simp) HN1.out HN2.out)
  rw [show decide (([10] : List Int) = [10]) = true from rfl] at HSame
  have HS3 := Lib.hid (fun q => HSM2.out.still ((hT3.alloc (.cells (ints [10]).toArray 3)).drewN q))
  have HT3 := Lib.hid (HT2.out.trans (hT3.alloc (.cells (ints [10]).toArray 3)))
  have HO0 := Lib.hid (fun q => over_any (HS3.out q) 0)
  have HO1 := Lib.hid (fun q => over_any (HS3.out q) 1)
  rw [ex_over0] at HO0
  rw [ex_over1] at HO1
  clear hB hT3 HC HN1 HN2 HSM2 HT2 HS3
  go_wp2_with fail
  refine HSame.out.mono ?_
  rintro e w4 ⟨rfl, q, rfl⟩
  go_wp2_with fail
  refine (HO0.out q).mono ?_
  rintro e w4 ⟨rfl, q2, rfl⟩
  go_wp2_with fail
  refine (HO1.out _).mono ?_
  rintro e w4 ⟨rfl, q3, rfl⟩
  go_wp2_with fail
  go_ret
  exact ⟨rfl, HT3.out.drewN _⟩
end Go.Proofs.Ytdbmieofcdafkaa
