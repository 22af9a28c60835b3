/- HashSums: the walk. No condition. -/
import Derived.Test.YtdbmieofcdafkaaHashLaw
namespace Go.Proofs.Ytdbmieofcdafkaa
open Go.RowKit
set_option linter.unusedVariables false
set_option maxRecDepth 100000

theorem u64_of {a : Int} (h : (Lit.int .u64 a).wf = true) : ∃ s : Nat, a = s ∧ s < 18446744073709551616 := by
  simp [Lit.wf, IntKind.min, IntKind.max, IntKind.signed, IntKind.bits] at h
  exact ⟨a.toNat, by omega, by omega⟩

def CopyPost (w : World) (l : List UInt8) (m : Nat) (e : Ending) (w' : World) : Prop := ∃ a c, e = .returned (.slice a m c) ∧ BytesAt w' a l ∧ Still w w'
theorem copy_any (w : World) (ao : Option Addr) (l : List UInt8) (cap m : Nat) (hm : m = l.length) (hA : BytesAt w ao l) (hmax : l.length ≤ 70368744177664) (hn : ao = none → cap = 0) :
    Calls Try.prog 20 #[.slice ao m cap] w (CopyPost w l m) := by
  subst hm
  exact (bytes_any w ao l cap hA hmax hn).mono fun e w' ⟨a, c, he, ho, hs⟩ => ⟨a, c, he, BytesAt.of_own ho, hs⟩

set_option maxHeartbeats 1000000 in
theorem walk_HashSums (a0 : Int) (s : Sl UInt8) (w : World) (h0 : (Lit.int .u64 a0).wf = true) (h1 : SlOk encB okB 1 w s) :
    Calls Try.prog 5 #[.int .u64 a0, .slice s.a s.len s.cap] w fun e w' => e = .returned (.bool true) ∧ Still w w' := by
  obtain ⟨n, rfl, hn⟩ := u64_of h0
  have hf := fb_of h1
  have HF := few3_at hf
  have hat := hf.at_
  have hsm := hf.small
  have hno := hf.none
  obtain ⟨sa, sl, sc, sx⟩ := s
  obtain ⟨l, hl⟩ : ∃ l, l = sx.take 300 := ⟨_, rfl⟩
  dsimp only at HF hat hsm hno ⊢
  rw [← hl] at HF hat hsm
  clear h0 h1 hf hl
  obtain ⟨m, hm⟩ : ∃ m, m = l.length := ⟨_, rfl⟩
  have HB := Lib.hid (copy_any w sa l sc m hm hat (by omega) hno)
  have HAT := Lib.hid hat
  obtain ⟨S1, hS1⟩ : ∃ S, S = on64 n l := ⟨_, rfl⟩
  obtain ⟨S2, hS2⟩ : ∃ S, S = sum64 l := ⟨_, rfl⟩
  obtain ⟨S3, hS3⟩ : ∃ S, S = sum32 l := ⟨_, rfl⟩
  have H1 := Lib.hid (fun (W : World) (ao : Option Addr) (c : Nat) (h : BytesAt W ao l) => on_any n W ao l c hn h (by omega))
  have H2 := Lib.hid (fun (W : World) (ao : Option Addr) (c : Nat) (h : BytesAt W ao l) => refOn_any n W ao l c hn h (by omega))
  have H3 := Lib.hid (fun (W : World) (ao : Option Addr) (c : Nat) (h : BytesAt W ao l) => sum_any W ao l c h (by omega))
  have H4 := Lib.hid (fun (W : World) (ao : Option Addr) (c : Nat) (h : BytesAt W ao l) => refSum_any W ao l c h (by omega))
  have H5 := Lib.hid (fun (W : World) (ao : Option Addr) (c : Nat) (h : BytesAt W ao l) => small_any W ao l c h (by omega))
  have H6 := Lib.hid (fun (W : World) (ao : Option Addr) (c : Nat) (h : BytesAt W ao l) => refSmall_any W ao l c h (by omega))
  have H7 : Hid (∀ (W : World), Calls Try.prog 27 #[.string ⟨l.toArray⟩] W fun e w' => e = .returned (.int .u64 (sum64 l : Nat)) ∧ Still W w') := Lib.hid (fun (W : World) => text_any W ⟨l.toArray⟩ (by show l.toArray.size ≤ _; simp; omega))
  have H8 := Lib.hid (fun (W : World) (ao bo : Option Addr) (c d : Nat) (h : BytesAt W ao l) (k : BytesAt W bo l) => sameBytes_any W ao bo l l c d h k)
  have H9 := Lib.hid (fun (W : World) (ao : Option Addr) (c : Nat) (h : BytesAt W ao l) => text_of W ao l c h)
  rw [← hm] at H1 H2 H3 H4 H5 H6 H8 H9 HF
  rw [← hS1] at H1 H2
  rw [← hS2] at H3 H4 H7
  rw [← hS3] at H5 H6
  clear hat hsm hno hm hS1 hS2 hS3
  go_enter Try.func5, Try.ntmps5
  go_wp2_with fail
  refine HF.mono ?_
  rintro e w' ⟨rfl, rfl⟩
  clear HF
  go_wp2_with fail
  refine HB.out.mono ?_
  rintro e w1 ⟨ba, bc, rfl, hown, hst⟩
  have HA := Lib.hid (fun q => (HAT.out.still hst).drewN q)
  have HO := Lib.hid (fun q => hown.drewN q)
  have HST := Lib.hid hst
  clear hown hst HB HAT
  go_wp2_with fail
  refine (H1.out _ _ _ (HO.out 0)).mono ?_
  rintro e w' ⟨rfl, rfl⟩
  go_wp2_with fail
  refine (H2.out _ _ _ (HA.out 0)).mono ?_
  rintro e w' ⟨rfl, q, rfl⟩
  go_wp2_with fail
  refine (H3.out _ _ _ (HO.out _)).mono ?_
  rintro e w' ⟨rfl, rfl⟩
  go_wp2_with fail
  refine (H4.out _ _ _ (HA.out _)).mono ?_
  rintro e w' ⟨rfl, q2, rfl⟩
  go_wp2_with fail
  refine (H5.out _ _ _ (HO.out _)).mono ?_
  rintro e w' ⟨rfl, rfl⟩
  go_wp2_with fail
  refine (H6.out _ _ _ (HA.out _)).mono ?_
  rintro e w' ⟨rfl, rfl⟩
  have k9 := fun Q c => H9.out (w1.drewN Q) sa c (HA.out Q)
  go_wp2_with fail
  clear k9
  refine (H7.out _).mono ?_
  rintro e w2 ⟨rfl, hst⟩
  have HA2 := Lib.hid (fun Q => ((HA.out _).still hst).drewN Q)
  have HO2 := Lib.hid (fun Q => ((HO.out _).still hst).drewN Q)
  have HST2 := Lib.hid ((HST.out.drewN _).trans hst)
  clear hst HA HO
  go_wp2_with fail
  refine (H4.out _ _ _ (HA2.out 0)).mono ?_
  rintro e w' ⟨rfl, q3, rfl⟩
  go_wp2_with fail
  refine (H8.out _ _ _ _ _ (HO2.out _) (HA2.out _)).mono ?_
  rintro e w' ⟨rfl, rfl⟩
  go_wp2_with fail
  refine (works3 _).mono ?_
  rintro e w3 ⟨rfl, hst⟩
  have HST3 := Lib.hid ((HST2.out.drewN _).trans hst)
  clear hst
  go_wp2_with fail
  go_ret
  exact ⟨by simp, HST3.out⟩
end Go.Proofs.Ytdbmieofcdafkaa
