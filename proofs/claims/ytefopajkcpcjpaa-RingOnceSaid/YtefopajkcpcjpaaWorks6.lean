/- The chapter's example of layer 6. No condition but that the program's ring keeps its words. -/
import Derived.Test.YtefopajkcpcjpaaRingApi
namespace Go.Proofs.Ytefopajkcpcjpaa
open Go.RowKit
set_option linter.unusedVariables false
set_option maxRecDepth 100000

set_option maxHeartbeats 2000000 in
theorem works6 {RT : Nat → RM → Thing} (A : RingApi RT) (w : World) : Calls Try.prog 11 #[] w fun e w' => e = .returned (.bool true) ∧ Still w w' := by
  obtain ⟨M0, hM0⟩ : ∃ M, M = RM.new 2 true := ⟨_, rfl⟩
  obtain ⟨M1, hM1⟩ : ∃ M, M = M0.claimM 7 := ⟨_, rfl⟩
  obtain ⟨M2, hM2⟩ : ∃ M, M = M1.claimM 8 := ⟨_, rfl⟩
  obtain ⟨M3, hM3⟩ : ∃ M, M = M2.claimM 9 := ⟨_, rfl⟩
  obtain ⟨M4, hM4⟩ : ∃ M, M = M3.pubM 0 := ⟨_, rfl⟩
  obtain ⟨M5, hM5⟩ : ∃ M, M = M4.claimM 9 := ⟨_, rfl⟩
  have o0 : M0.Ok 10 := hM0 ▸ (RM.new_ok (by omega) (by omega)).mono (by omega)
  have o1 : M1.Ok 11 := hM1 ▸ o0.claim 7
  have o2 : M2.Ok 12 := hM2 ▸ o1.claim 8
  have o3 : M3.Ok 13 := hM3 ▸ o2.claim 9
  have o4 : M4.Ok 13 := hM4 ▸ o3.pub 0
  have o5 : M5.Ok 14 := hM5 ▸ o4.claim 9
  have a1 : M0.claimA 7 = 0 ∧ M0.claimW 7 = 0 ∧ M0.claimE 7 = 0 := by rw [hM0]; decide +kernel
  have a2 : M1.claimA 8 = 1 ∧ M1.claimW 8 = 0 ∧ M1.claimE 8 = 0 := by rw [hM1, hM0]; decide +kernel
  have a3 : M2.claimA 9 = 0 ∧ M2.claimW 9 = 0 ∧ M2.claimE 9 = 60 := by rw [hM2, hM1, hM0]; decide +kernel
  have a4 : M3.pubE 0 = 0 := by rw [hM3, hM2, hM1, hM0]; decide +kernel
  have a5 : M4.claimA 9 = 2 ∧ M4.claimW 9 = 7 ∧ M4.claimE 9 = 0 := by rw [hM4, hM3, hM2, hM1, hM0]; decide +kernel
  have a6 : M5.refs = [8, 9] := by rw [hM5, hM4, hM3, hM2, hM1, hM0]; decide +kernel
  have C0 := Lib.hid (A.make_ok 2 true w (by omega) (by omega))
  have C1 := Lib.hid (fun (W : World) (q : Nat) (R : Thing) (H : Held w W ((RT q M0).sep R)) => H.call (fun _ h => A.claim h o0 (by omega) 7 (w64_lit (by omega) (by omega))))
  have C2 := Lib.hid (fun (W : World) (q : Nat) (R : Thing) (H : Held w W ((RT q M1).sep R)) => H.call (fun _ h => A.claim h o1 (by omega) 8 (w64_lit (by omega) (by omega))))
  have C3 := Lib.hid (fun (W : World) (q : Nat) (R : Thing) (H : Held w W ((RT q M2).sep R)) => H.call (fun _ h => A.claim h o2 (by omega) 9 (w64_lit (by omega) (by omega))))
  have C4 := Lib.hid (fun (W : World) (q : Nat) (R : Thing) (H : Held w W ((RT q M3).sep R)) => H.call (fun _ h => A.pub h o3 (by omega) 0 (w64_lit (by omega) (by omega))))
  have C5 := Lib.hid (fun (W : World) (q : Nat) (R : Thing) (H : Held w W ((RT q M4).sep R)) => H.call (fun _ h => A.claim h o4 (by omega) 9 (w64_lit (by omega) (by omega))))
  have C6 := Lib.hid (fun (W : World) (q : Nat) (R : Thing) (H : Held w W ((RT q M5).sep R)) => show Calls Try.prog 28 #[.pointer (some ⟨q, 0, none⟩)] W (OutNums W M5.refs 2) from by
    obtain ⟨_, h, _⟩ := H.fst
    exact A.refs h o5 (by omega) 2 (by have : M5.refs.length = 2 := by rw [a6]; rfl
                                       simpa [RM.refs] using this.symm))
  rw [← hM1, a1.1, a1.2.1, a1.2.2] at C1
  rw [← hM2, a2.1, a2.2.1, a2.2.2] at C2
  rw [← hM3, a3.1, a3.2.1, a3.2.2] at C3
  rw [← hM4, a4] at C4
  rw [← hM5, a5.1, a5.2.1, a5.2.2] at C5
  rw [a6] at C6
  have C9 := Lib.hid (fun (W : World) (ao bo : Option Addr) (ca cb : Nat) (h1 : NumsAt W ao [8, 9]) (h2 : NumsAt W bo [8, 9]) => sameInts_any W ao bo [8, 9] [8, 9] ca cb rfl (by simp) h1 h2)
  have hM0' := Lib.hid hM0
  clear hM0 hM1 hM2 hM3 hM4 hM5 o0 o1 o2 o3 o4 o5 a1 a2 a3 a4 a5 a6
  simp only [show polB true = 1 from rfl] at C0
  go_enter Try.func11, Try.ntmps11
  go_wp2_with fail
  refine C0.out.mono ?_
  intro e w1 hN
  obtain ⟨q, rfl, H⟩ := Held.ring (Turned.refl _ _) hN
  rw [← hM0'.out] at H
  have HH := Lib.hid H
  clear hN C0 H
  go_wp2_with fail
  refine (C1.out _ _ _ HH.out).mono ?_
  rintro e w2 ⟨rfl, H⟩
  have HH2 := Lib.hid H
  clear H HH C1
  go_wp2_with fail
  refine (C2.out _ _ _ HH2.out).mono ?_
  rintro e w3 ⟨rfl, H⟩
  have HH3 := Lib.hid H
  clear H HH2 C2
  go_wp2_with fail
  refine (C3.out _ _ _ HH3.out).mono ?_
  rintro e w4 ⟨rfl, H⟩
  have HH4 := Lib.hid H
  clear H HH3 C3
  go_wp2_with fail
  refine (C4.out _ _ _ HH4.out).mono ?_
  rintro e w5 ⟨rfl, H⟩
  have HH5 := Lib.hid H
  clear H HH4 C4
  go_wp2_with fail
  refine (C5.out _ _ _ HH5.out).mono ?_
  rintro e w6 ⟨rfl, H⟩
  have HH6 := Lib.hid H
  clear H HH5 C5
  go_wp2_with fail
  refine (C6.out _ _ _ HH6.out).mono ?_
  rintro e w9 ⟨a9, c9, rfl, hO9, hst9⟩
  have hA9 : NumsAt w9 a9 [8, 9] := NumsAt.of_own hO9 rfl
  have HH9 := Lib.hid (HH6.out.still hst9)
  have HF := Lib.hid (C9.out (w9.alloc (.cells #[.int .i64 8, .int .i64 9] 3)) a9 (some ⟨w9.heap.size, 0, none⟩) c9 2 (hA9.still ((Turned.refl _ _).alloc _)) (NumsAt.of_blk (Blk.new w9 (ints [8, 9]) 3)))
  have HH10 := Lib.hid (HH9.out.still ((Turned.refl _ w9).alloc (.cells #[.int .i64 8, .int .i64 9] 3)))
  clear C6 C9 hA9 hO9 hst9 HH9 HH6
  go_wp2_with fail
  refine HF.out.mono ?_
  rintro e w' ⟨rfl, m, rfl⟩
  go_wp2_with fail
  go_ret
  exact ⟨by simp, HH10.out.ground.drewN m⟩
end Go.Proofs.Ytefopajkcpcjpaa
