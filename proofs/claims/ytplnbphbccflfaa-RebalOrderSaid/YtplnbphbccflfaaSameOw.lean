/- Owners in memory: what the base's SameOwners says of rows of them. No condition. -/
import Derived.Test.YtplnbphbccflfaaSamePl
namespace Go.Proofs.Ytplnbphbccflfaa
open Go.RowKit
set_option linter.unusedVariables false
set_option linter.unusedSimpArgs false
set_option maxRecDepth 100000

set_option maxHeartbeats 1000000 in
theorem sameOw_any (w : World) (ao bo : Option Addr) (A B : List Own) (n m ca cb : Nat) (hn : n = A.length) (hm : m = B.length) (hl : n ≤ 4611686018427387904) (hA : OwAt w ao A) (hB : OwAt w bo B) :
    Calls Try.prog 25 #[.slice ao n ca, .slice bo m cb] w fun e w' => e = .returned (.bool (decide (A = B))) ∧ Still w w' := by
  by_cases hnm : n = m
  · have hb : ((n : Int) != (m : Int)) = false := by rw [bne_eq_false_iff_eq]; omega
    have HN := Lib.hid hn
    have HMM := Lib.hid hm
    have HA := Lib.hid hA
    have HB := Lib.hid hB
    have HNM := Lib.hid hnm
    have hnm' : n ≤ m := by omega
    clear hn hm hA hB hnm
    go_enter Try.func25, Try.ntmps25
    go_wp2_with fail
    go_loopw [5] (fun i wr => ∃ k : Nat, k ≤ n ∧ i = .int .i64 k ∧ A.take k = B.take k ∧ ∃ q, wr = w.drewN q) (fun i _ => n - (intOf i).toNat)
    case atStart => exact ⟨0, Nat.zero_le _, rfl, by simp, 0, rfl⟩
    case round =>
      obtain ⟨k, hk, rfl, ht, q, rfl⟩ := hrel
      have HTK := Lib.hid ht
      clear ht
      by_cases hlt : k < n
      · obtain ⟨x, hx⟩ := get_some (l := A) (i := k) (by rw [← HN.out]; exact hlt)
        obtain ⟨y, hy⟩ := get_some (l := B) (i := k) (by rw [← HMM.out]; omega)
        obtain ⟨b, o, rfl, hcx⟩ := HA.out k x hx
        obtain ⟨b', o', rfl, hcy⟩ := HB.out k y hy
        have x0 := hcx 0 _ rfl
        have x1 := hcx 1 _ rfl
        have x2 := hcx 2 _ rfl
        have y0 := hcy 0 _ rfl
        have y1 := hcy 1 _ rfl
        have y2 := hcy 2 _ rfl
        have HX := Lib.hid hx
        have HY := Lib.hid hy
        obtain ⟨⟨xf, xt⟩, xi⟩ := x
        obtain ⟨⟨yf, yt⟩, yi⟩ := y
        rw [Nat.add_zero] at x0 y0
        rw [← Nat.add_assoc] at x1 y1 x2 y2
        dsimp only at x0 x1 x2 y0 y1 y2
        have hkm : k < m := by omega
        have hkmi : (k : Int) < (m : Int) := by omega
        clear hx hy hcx hcy
        by_cases hxy : (xf = yf ∧ xt = yt) ∧ xi = yi
        · obtain ⟨⟨rfl, rfl⟩, rfl⟩ := hxy
          go_wp2_with fail
          go_quiet (fail)
          go_wp2_with fail
          go_roundw
          case rel => exact ⟨k + 1, by omega, by go_num, by rw [p16_take HX.out, p16_take HY.out, HTK.out], _, rfl⟩
          case measure => simp [intOf]; omega
        · have hne : decide (A = B) = false := by
            rw [decide_eq_false_iff_not]
            intro h
            have h1 := HX.out
            rw [h, HY.out] at h1
            have h2 := Option.some.inj h1
            have h3 := congrArg Prod.fst h2
            exact hxy ⟨⟨(congrArg Prod.fst h3).symm, (congrArg Prod.snd h3).symm⟩, (congrArg Prod.snd h2).symm⟩
          have HNE := Lib.hid hne
          have hxy' : xf ≠ yf ∨ (xf = yf ∧ xt ≠ yt) ∨ (xf = yf ∧ xt = yt ∧ xi ≠ yi) := by
            by_cases h1 : xf = yf
            · by_cases h2 : xt = yt
              · exact .inr (.inr ⟨h1, h2, fun h3 => hxy ⟨⟨h1, h2⟩, h3⟩⟩)
              · exact .inr (.inl ⟨h1, h2⟩)
            · exact .inl h1
          clear hne hxy
          rcases hxy' with h1 | ⟨rfl, h1⟩ | ⟨rfl, rfl, h1⟩
          all_goals (
            go_wp2_with fail
            go_quiet (fail)
            go_wp2_with fail
            go_ret
            exact ⟨ret_bool HNE.out.symm, ((Turned.refl _ _).drewN _).drewN _⟩)
      · obtain rfl : k = n := by omega
        clear hlt
        go_wp2_with fail
        go_ret
        refine ⟨ret_bool ?_, (Turned.refl _ _).drewN _⟩
        have h1 := HTK.out
        rw [List.take_of_length_le (by rw [HN.out]; omega), List.take_of_length_le (by rw [← HMM.out, ← HNM.out]; omega)] at h1
        simp [h1]
  · have hb : ((n : Int) != (m : Int)) = true := by rw [bne_iff_ne]; omega
    have HNE := Lib.hid (show decide (A = B) = false from by
      rw [decide_eq_false_iff_not]
      rintro rfl
      omega)
    clear hn hm hA hB hnm
    go_enter Try.func25, Try.ntmps25
    go_wp2_with fail
    go_ret
    exact ⟨ret_bool HNE.out.symm, Turned.refl _ _⟩
end Go.Proofs.Ytplnbphbccflfaa
