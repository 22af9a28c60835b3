/- What matches and covers of the document's filter do. No condition but that the levels lie where they are told. -/
import Derived.Test.YtpmkokckjieidaaGreatDoorFilterRef
namespace Go.Proofs.YtpmkokckjieidaaGreatDoor
open Go.RowKit
set_option linter.unusedVariables false
set_option linter.unusedSimpArgs false
set_option maxRecDepth 100000

theorem SlT.drop {w : World} {b o n c : Nat} {x : Txt} {L : List Txt} (h : TextsAt w (some ⟨b, o, none⟩) (x :: L)) (hn : n = (x :: L).length) (hc : n ≤ c) : TextsAt w (if c = 1 then some ⟨b, o, none⟩ else some ⟨b, o + 1, none⟩) L := by
  split
  · rename_i e
    have : L = [] := List.eq_nil_of_length_eq_zero (by rw [List.length_cons] at hn; omega)
    subst this; exact TextsAt.nil _ _
  · intro i y hy
    obtain ⟨b', o', e, hc⟩ := h (i + 1) y (by rw [List.getElem?_cons_succ]; exact hy)
    cases e
    exact ⟨b, o + 1, rfl, by rw [show o + 1 + i = o + (i + 1) by omega]; exact hc⟩

set_option maxHeartbeats 2000000 in
theorem zfmatches_any : ∀ (F N : List Txt) (w : World) (ao bo : Option Addr) (n m ac bc : Nat), n = F.length → m = N.length → n ≤ ac → m ≤ bc → n ≤ 1000 → m ≤ 1000 → TextsAt w ao F → TextsAt w bo N →
    Calls Tryz.prog 70 #[.slice ao n ac, .slice bo m bc] w fun e w' => e = .returned (.bool (mts F N)) ∧ ∃ q, w' = w.drewN q := by
  intro F
  induction F with
  | nil =>
    intro N w ao bo n m ac bc hn hm hac hbc hn1 hm1 hA hB
    obtain ⟨r, hr⟩ : ∃ r, r = mts [] N := ⟨_, rfl⟩
    rw [← hr]
    have hn0 : n = 0 := hn
    subst hn0
    rcases Nat.eq_zero_or_pos m with h0 | h0
    · have HE := Lib.hid (show r = true by rw [hr]; exact decide_eq_true (List.eq_nil_of_length_eq_zero (by omega)))
      subst h0
      clear hr hA hB hn hm
      go_enter Tryz.func70, Tryz.ntmps70
      go_wp2_with fail
      go_ret
      exact ⟨by rw [HE.out]; rfl, 0, rfl⟩
    · have HE := Lib.hid (show r = false by rw [hr]; exact decide_eq_false (fun h => by rw [h] at hm; simp at hm; omega))
      have hb : ((m : Int) == 0) = false := by
        have : ¬ (m : Int) = 0 := by omega
        simpa using this
      have hb2 : ¬ (m : Int) = 0 := by omega
      clear hr hA hB hn hm
      go_enter Tryz.func70, Tryz.ntmps70
      go_wp2_with fail
      go_ret
      exact ⟨by rw [HE.out]; first | rfl | simp [hb, hb2] , 0, rfl⟩
  | cons x F ih =>
    intro N w ao bo n m ac bc hn hm hac hbc hn1 hm1 hA hB
    obtain ⟨r, hr⟩ : ∃ r, r = mts (x :: F) N := ⟨_, rfl⟩
    rw [← hr]
    obtain ⟨b, o, rfl, hcx⟩ := hA 0 x rfl
    rw [Nat.add_zero] at hcx
    unfold tx at hcx
    have hn0 : ¬ (n : Int) = 0 := by rw [hn, List.length_cons]; omega
    have hn1' : 1 ≤ n := by rw [hn, List.length_cons]; omega
    have hA' := SlT.drop hA hn hac
    by_cases hx35 : x = [35]
    · have HE := Lib.hid (show r = true by rw [hr, hx35, mts_hash])
      have hxb : (x == [35]) = true := by simpa using hx35
      clear hr hA hB hn hm hA' hx35 ih
      go_enter Tryz.func70, Tryz.ntmps70
      go_wp2_with fail
      go_ret
      exact ⟨by rw [HE.out]; rfl, 0, rfl⟩
    · have hxb : (x == [35]) = false := by simpa using hx35
      cases N with
      | nil =>
        have HE := Lib.hid (show r = false by rw [hr, mts_end hx35])
        have hm0 : m = 0 := hm
        subst hm0
        clear hr hA hB hn hm hA' hx35 ih
        go_enter Tryz.func70, Tryz.ntmps70
        go_wp2_with fail
        go_ret
        exact ⟨by rw [HE.out]; rfl, 0, rfl⟩
      | cons y N =>
        obtain ⟨b', o', rfl, hcy⟩ := hB 0 y rfl
        rw [Nat.add_zero] at hcy
        unfold tx at hcy
        have hm0 : ¬ (m : Int) = 0 := by rw [hm, List.length_cons]; omega
        have hm1' : 1 ≤ m := by rw [hm, List.length_cons]; omega
        have hB' := SlT.drop hB hm hbc
        have HI := Lib.hid (fun q => ih N (w.drewN q) (if ac = 1 then some ⟨b, o, none⟩ else some ⟨b, o + 1, none⟩) (if bc = 1 then some ⟨b', o', none⟩ else some ⟨b', o' + 1, none⟩) (n - 1) (m - 1) (ac - 1) (bc - 1) (by rw [hn, List.length_cons]; omega) (by rw [hm, List.length_cons]; omega) (by omega) (by omega) (by omega) (by omega) (hA'.still ((Turned.refl _ _).drewN q)) (hB'.still ((Turned.refl _ _).drewN q)))
        rw [mts_go hx35] at hr
        have h1n : (1 : Int) ≤ (n : Int) := by omega
        have h1m : (1 : Int) ≤ (m : Int) := by omega
        by_cases hg : x = [43] ∨ x = y
        · have HE := Lib.hid (show r = mts F N by rw [hr]; rcases hg with h | h <;> simp [h])
          generalize mts F N = rr at *
          clear hr hA hB hn hm hA' hB' hx35 ih
          by_cases h43 : x = [43]
          · have hb43 : (x == [43]) = true := by simpa using h43
            clear h43 hg
            go_enter Tryz.func70, Tryz.ntmps70
            go_wp2_with fail
            go_quiet ((go_at_call 70; ((with_reducible exact quietDrew (HI.out _)))))
            go_wp2_with fail
            all_goals (go_ret; exact ⟨by rw [HE.out]; rfl, _, rfl⟩)
          · obtain rfl := hg.resolve_left h43
            have hb43 : (x == [43]) = false := by simpa using h43
            clear h43 hg
            go_enter Tryz.func70, Tryz.ntmps70
            go_wp2_with fail
            go_quiet ((go_at_call 70; ((with_reducible exact quietDrew (HI.out _)))))
            go_wp2_with fail
            all_goals (go_ret; exact ⟨by rw [HE.out]; rfl, _, rfl⟩)
        · have h43 : x ≠ [43] := fun h => hg (.inl h)
          have hxy : x ≠ y := fun h => hg (.inr h)
          have HE := Lib.hid (show r = false by rw [hr]; simp [h43, hxy])
          have hb43 : (x == [43]) = false := by simpa using h43
          have hbxy : (x == y) = false := by simpa using hxy
          clear hr hA hB hn hm hA' hB' hx35 ih h43 hxy hg
          go_enter Tryz.func70, Tryz.ntmps70
          go_wp2_with fail
          go_quiet ((go_at_call 70; ((with_reducible exact quietDrew (HI.out _)))))
          go_wp2_with fail
          go_ret
          exact ⟨by rw [HE.out]; rfl, _, rfl⟩

end Go.Proofs.YtpmkokckjieidaaGreatDoor