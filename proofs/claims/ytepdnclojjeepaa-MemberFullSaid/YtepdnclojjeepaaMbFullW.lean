/- MemberFull: the walk. No condition but the words. -/
import Derived.Test.YtepdnclojjeepaaMbApi
import Derived.Test.YtepdnclojjeepaaMbMath
namespace Go.Proofs.Ytepdnclojjeepaa
open Go.RowKit
set_option linter.unusedVariables false
set_option linter.unusedSimpArgs false
set_option maxRecDepth 100000

set_option maxHeartbeats 4000000 in
theorem mfull_walk {MT : Nat → MbM → Thing} (A : MemberApi MT) (n0 n1 : Int) (w : World) :
    Calls Try.prog 7 #[.int .i64 n0, .int .i64 n1] w fun e w' => e = .returned (.bool true) ∧ Still w w' := by
  have HWk := Lib.hid (works15 A w)
  obtain ⟨f, hf⟩ : ∃ f, f = am n0 16 := ⟨_, rfl⟩
  have hf2 : f < 16 := by rw [hf]; exact am_lt _ (by omega)
  obtain ⟨g, hg⟩ : ∃ g, g = am n1 8 := ⟨_, rfl⟩
  have hg2 : g < 8 := by rw [hg]; exact am_lt _ (by omega)
  have B0 := Lib.hid (fun W => among_lit n0 16 16 f rfl hf (by omega) (by omega) W)
  have B1 := Lib.hid (fun W => among_lit n1 8 8 g rfl hg (by omega) (by omega) W)
  have C0 := Lib.hid (fun V (hs : Still w V) => show Calls Try.prog 8 #[] V fun e w' => ∃ q, e = .returned (.pointer (some ⟨q, 0, none⟩)) ∧ Held w w' ((MT q MbM.new).sep Thing.none) from
    (A.make_ V).mono fun e w' ⟨q, he, hn⟩ => ⟨q, he, (Held.start hs).new hn⟩)
  have hfi : (f : Int) < 16 := by omega
  have hgi : (g : Int) < 8 := by omega
  clear hf hg
  go_enter Try.func7, Try.ntmps7
  go_wp2_with (first
    | (go_at_call 26; ((with_reducible refine HWk.out.mono ?_)); rintro e w1 ⟨rfl, hs⟩; have S1 := Lib.hid hs; clear hs)
    | (go_at_call 8; ((with_reducible refine (C0.out _ S1.out).mono ?_)); rintro e w2 ⟨q, rfl, h⟩; have K1 := Lib.hid h; clear h)
    | (go_at_call 27; ((with_reducible refine (B0.out _).mono ?_)); rintro e wa ⟨rfl, hwa⟩; subst hwa))
  go_loopw [6] (fun i wr => ∃ (k : Nat) (M : MbM), k ≤ 8 ∧ i = .int .i64 k ∧ FullM f k M ∧ Held w wr ((MT q M).sep Thing.none)) (fun i _ => 8 - (intOf i).toNat)
  case atStart => exact ⟨0, _, by omega, rfl, FullM.start hf2, K1.out⟩
  case round =>
    clear K1
    obtain ⟨k, M, hk, rfl, hF, hH⟩ := hrel
    have K := Lib.hid hH
    by_cases hlt : k < 8
    · have hki : (k : Int) < 8 := by omega
      obtain ⟨e1, e2, e3⟩ := hF.step hf2 hlt
      have ex : (((f + k) % 16 : Nat) : Int) = ((f : Int) + (k : Int)) % 16 := by omega
      rw [ex] at e1 e2 e3
      have HAd := Lib.hid (fun V (h : Held w V ((MT q M).sep Thing.none)) => Held.joinM A h hF.ok (by omega) (x := ((f : Int) + (k : Int)) % 16) (by omega) (by omega) e2 e1 rfl)
      have HN := Lib.hid e3
      clear hH e1 e2 e3 ex hF
      go_wp2_with (go_at_call 10; ((with_reducible refine (HAd.out _ K.out).mono ?_)); rintro e w3 ⟨rfl, h⟩; have K3 := Lib.hid h; clear h)
      go_roundw
      case rel => exact ⟨k + 1, _, by omega, by go_num, HN.out, K3.out⟩
      case measure => simp [intOf]; omega
    · obtain rfl : k = 8 := by omega
      obtain ⟨e1, e2, e3, e4, e5⟩ := hF.done hf2 hg2
      have ex : (((f + 8) % 16 : Nat) : Int) = ((f : Int) + 8) % 16 := by omega
      have ey : (((f + g) % 16 : Nat) : Int) = ((f : Int) + (g : Int)) % 16 := by omega
      rw [ex] at e1
      rw [ey] at e2
      rw [ex, ey] at e3 e4 e5
      obtain ⟨j1, j2⟩ := join_no e1 (by omega)
      have H1 := Lib.hid (fun V (h : Held w V ((MT q M).sep Thing.none)) => Held.joinM A h hF.ok (by omega) (x := ((f : Int) + 8) % 16) (by omega) (by omega) j2 e1 j1)
      have H2 := Lib.hid (fun V (h : Held w V ((MT q M).sep Thing.none)) => Held.leaveM A h hF.ok (by omega) (x := ((f : Int) + (g : Int)) % 16) (by omega) (by omega) rfl e2 rfl)
      have o2 := hF.ok.leave (((f : Int) + (g : Int)) % 16)
      have H3 := Lib.hid (fun V (h : Held w V ((MT q (M.leave (((f : Int) + (g : Int)) % 16))).sep Thing.none)) => Held.joinM A h o2 (by omega) (x := ((f : Int) + 8) % 16) (by omega) (by omega) e4 e3 rfl)
      have o3 := o2.join (((f : Int) + 8) % 16)
      have H4 := Lib.hid (fun V (h : Held w V ((MT q ((M.leave (((f : Int) + (g : Int)) % 16)).join (((f : Int) + 8) % 16))).sep Thing.none)) => Held.allM A h o3 (by omega) rfl e5.symm)
      clear hH hF e1 e2 e3 e4 e5 ex ey j1 j2 o2 o3 hlt
      go_wp2_with (first
        | (go_at_call 10; ((with_reducible refine (H1.out _ K.out).mono ?_)); rintro e w3 ⟨rfl, h⟩; have K3 := Lib.hid h; clear h K)
        | (go_at_call 27; ((with_reducible refine (B1.out _).mono ?_)); rintro e wb ⟨rfl, hwb⟩; subst hwb)
        | (go_at_call 12; ((with_reducible refine (H2.out _ K3.out).mono ?_)); rintro e w4 ⟨rfl, h⟩; have K4 := Lib.hid h; clear h K3)
        | (go_at_call 10; ((with_reducible refine (H3.out _ K4.out).mono ?_)); rintro e w5 ⟨rfl, h⟩; have K5 := Lib.hid h; clear h K4)
        | (go_at_call 23; ((with_reducible refine (H4.out _ K5.out).mono ?_)); rintro e w6 ⟨a6, c6, rfl, _, hs⟩; have K6 := Lib.hid (K5.out.still hs); clear hs K5))
      go_ret
      exact ⟨by first | rfl | simp, K6.out.ground⟩
end Go.Proofs.Ytepdnclojjeepaa
