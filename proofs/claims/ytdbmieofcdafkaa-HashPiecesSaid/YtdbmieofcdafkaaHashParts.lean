/- HashParts and HashWithin: the walks. No condition. -/
import Derived.Test.YtdbmieofcdafkaaHashSums
namespace Go.Proofs.Ytdbmieofcdafkaa
open Go.RowKit
set_option linter.unusedVariables false
set_option maxRecDepth 100000

theorem few3_all {w : World} {s : Sl UInt8} (h : Fb w s) (W : World) : Calls Try.prog 19 #[.slice s.a s.len s.cap] W fun e w' => e = .returned (.slice s.a (s.xs.take 300).length s.cap) ∧ W = w' := by
  rw [h.len]; exact few3_any W s.a s.len s.cap h.le h.max

theorem i64_le {a : Int} (h : (Lit.int .i64 a).wf = true) : -9223372036854775808 ≤ a ∧ a ≤ 9223372036854775807 := by
  simp [Lit.wf, IntKind.min, IntKind.max, IntKind.signed, IntKind.bits] at h
  omega

set_option maxHeartbeats 1000000 in
theorem walk_HashParts (n : Int) (s : Sl UInt8) (w : World) (h0 : (Lit.int .i64 n).wf = true) (h1 : SlOk encB okB 1 w s) :
    Calls Try.prog 6 #[.int .i64 n, .slice s.a s.len s.cap] w fun e w' => e = .returned (.bool true) ∧ Still w w' := by
  have hn := i64_le h0
  have hf := fb_of h1
  have HF := few3_at hf
  have hat := hf.at_
  have hsm := hf.small
  obtain ⟨sa, sl, sc, sx⟩ := s
  obtain ⟨l, hl⟩ : ∃ l, l = sx.take 300 := ⟨_, rfl⟩
  dsimp only at HF hat hsm ⊢
  rw [← hl] at HF hat hsm
  clear h0 h1 hf hl
  obtain ⟨m, hm⟩ : ∃ m, m = l.length := ⟨_, rfl⟩
  have H1 := Lib.hid (fun (W : World) (ao : Option Addr) (c : Nat) (h : BytesAt W ao l) => part_any n W ao l c hn.2 h (by omega))
  have H2 := Lib.hid (fun (W : World) (ao : Option Addr) (c : Nat) (h : BytesAt W ao l) => refPart_any n W ao l c hn.2 h (by omega))
  obtain ⟨P, hP⟩ : ∃ P, P = partOf n l := ⟨_, rfl⟩
  obtain ⟨E, hE⟩ : ∃ E, E = partErr n := ⟨_, rfl⟩
  unfold partV at H1 H2
  rw [← hm] at H1 H2 HF
  rw [← hP, ← hE] at H1 H2
  have HAT := Lib.hid hat
  clear hat hsm hm hP hE hn
  go_enter Try.func6, Try.ntmps6
  go_wp2_with fail
  refine HF.mono ?_
  rintro e w' ⟨rfl, rfl⟩
  clear HF
  go_wp2_with fail
  refine (H1.out _ _ _ HAT.out).mono ?_
  rintro e w' ⟨rfl, rfl⟩
  go_wp2_with fail
  refine (H2.out _ _ _ HAT.out).mono ?_
  rintro e w' ⟨rfl, q, rfl⟩
  go_wp2_with fail
  refine (works3 _).mono ?_
  rintro e w3 ⟨rfl, hst⟩
  have HST3 := Lib.hid (((Turned.refl _ _).drewN _).trans hst)
  clear hst
  go_wp2_with fail
  go_ret
  exact ⟨by simp, HST3.out⟩

set_option maxHeartbeats 1000000 in
theorem walk_HashWithin (n : Int) (s : Sl UInt8) (w : World) (h0 : (Lit.int .i64 n).wf = true) (h1 : SlOk encB okB 1 w s) :
    Calls Try.prog 9 #[.int .i64 n, .slice s.a s.len s.cap] w fun e w' => e = .returned (.bool true) ∧ Still w w' := by
  have hn := i64_le h0
  have hf := fb_of h1
  have HF := Lib.hid (fun W => few3_all hf W)
  have hat := hf.at_
  have hsm := hf.small
  have hno := hf.none
  obtain ⟨sa, sl, sc, sx⟩ := s
  obtain ⟨l, hl⟩ : ∃ l, l = sx.take 300 := ⟨_, rfl⟩
  dsimp only at HF hat hsm hno ⊢
  rw [← hl] at HF hat hsm
  clear h0 h1 hf hl
  obtain ⟨m, hm⟩ : ∃ m, m = l.length := ⟨_, rfl⟩
  have H1 := Lib.hid (fun (W : World) (ao : Option Addr) (c : Nat) (h : BytesAt W ao l) => part_any n W ao l c hn.2 h (by omega))
  have HB := Lib.hid (fun (W : World) (h : BytesAt W sa l) => copy_any W sa l sc m hm h (by omega) hno)
  rw [← hm] at H1 HF
  have HAT := Lib.hid hat
  by_cases hlt : n < 1
  · have e1 : partV n l = .tuple #[.int .i64 0, .int .i64 2] := by simp [partV, partOf, partErr, hlt]
    rw [e1] at H1
    clear e1 hat hsm hm hn hno
    go_enter Try.func9, Try.ntmps9
    go_wp2_with fail
    refine (works3 _).mono ?_
    rintro e w1 ⟨rfl, hst⟩
    have HST := Lib.hid hst
    have HA1 := Lib.hid (HAT.out.still hst)
    clear hst
    go_wp2_with fail
    refine (HF.out w1).mono ?_
    rintro e w' ⟨rfl, rfl⟩
    go_wp2_with fail
    refine (H1.out _ _ _ HA1.out).mono ?_
    rintro e w' ⟨rfl, rfl⟩
    go_wp2_with fail
    refine (HB.out _ HA1.out).mono ?_
    rintro e w2 ⟨ba, bc, rfl, hown, hst⟩
    have HO := Lib.hid hown
    have HS2 := Lib.hid (HST.out.trans hst)
    clear hown hst
    go_wp2_with fail
    refine (H1.out _ _ _ HO.out).mono ?_
    rintro e w' ⟨rfl, rfl⟩
    go_wp2_with fail
    go_ret
    exact ⟨rfl, HS2.out⟩
  · obtain ⟨P, e1, hP0, hP1⟩ : ∃ P : Int, partV n l = .tuple #[.int .i64 P, .int .i64 0] ∧ 0 ≤ P ∧ P < n := by
      refine ⟨((sum64 l % n.toNat : Nat) : Int), by simp [partV, partOf, partErr, hlt], by omega, ?_⟩
      have : sum64 l % n.toNat < n.toNat := Nat.mod_lt _ (by omega)
      omega
    rw [e1] at H1
    clear e1 hat hsm hm hn hno
    go_enter Try.func9, Try.ntmps9
    go_wp2_with fail
    refine (works3 _).mono ?_
    rintro e w1 ⟨rfl, hst⟩
    have HST := Lib.hid hst
    have HA1 := Lib.hid (HAT.out.still hst)
    clear hst
    go_wp2_with fail
    refine (HF.out w1).mono ?_
    rintro e w' ⟨rfl, rfl⟩
    go_wp2_with fail
    refine (H1.out _ _ _ HA1.out).mono ?_
    rintro e w' ⟨rfl, rfl⟩
    go_wp2_with fail
    refine (HB.out _ HA1.out).mono ?_
    rintro e w2 ⟨ba, bc, rfl, hown, hst⟩
    have HO := Lib.hid hown
    have HS2 := Lib.hid (HST.out.trans hst)
    clear hown hst
    go_wp2_with fail
    refine (H1.out _ _ _ HO.out).mono ?_
    rintro e w' ⟨rfl, rfl⟩
    go_wp2_with fail
    go_ret
    exact ⟨rfl, HS2.out⟩
end Go.Proofs.Ytdbmieofcdafkaa
