/- What Compare of the document's name does. No condition but that the texts are no longer than the statements make them. -/
import Derived.Test.YthioimecelaaiaaNameOf
namespace Go.Proofs.Ythioimecelaaiaa
open Go.RowKit
set_option linter.unusedVariables false
set_option linter.unusedSimpArgs false
set_option maxRecDepth 100000

theorem cmpL_drop {X Y : List Txt} {k : Nat} {x y : Txt} (hx : X[k]? = some x) (hy : Y[k]? = some y) : cmpL (X.drop k) (Y.drop k) = if Op.bytesLess x y = true then -1 else if Op.bytesLess y x = true then 1 else cmpL (X.drop (k + 1)) (Y.drop (k + 1)) := by
  obtain ⟨h1, e1⟩ := List.getElem?_eq_some_iff.1 hx
  obtain ⟨h2, e2⟩ := List.getElem?_eq_some_iff.1 hy
  rw [List.drop_eq_getElem_cons h1, List.drop_eq_getElem_cons h2, e1, e2, cmpL]
theorem cmpL_end {X Y : List Txt} {k : Nat} (h : X.length = k ∨ Y.length = k) (h1 : k ≤ X.length) (h2 : k ≤ Y.length) : cmpL (X.drop k) (Y.drop k) = if X.length < Y.length then -1 else if Y.length < X.length then 1 else 0 := by
  cases hX : X.drop k with
  | nil =>
    have l1 : X.length ≤ k := by have := congrArg List.length hX; rw [List.length_drop] at this; simp at this; omega
    cases hY : Y.drop k with
    | nil =>
      have l2 : Y.length ≤ k := by have := congrArg List.length hY; rw [List.length_drop] at this; simp at this; omega
      rw [if_neg (by omega), if_neg (by omega)]; rfl
    | cons y r =>
      have l2 : k < Y.length := by have := congrArg List.length hY; rw [List.length_drop] at this; simp at this; omega
      rw [if_pos (by omega)]; rfl
  | cons x r =>
    have l1 : k < X.length := by have := congrArg List.length hX; rw [List.length_drop] at this; simp at this; omega
    cases hY : Y.drop k with
    | nil =>
      have l2 : Y.length ≤ k := by have := congrArg List.length hY; rw [List.length_drop] at this; simp at this; omega
      rw [if_neg (by omega), if_pos (by omega)]; rfl
    | cons y r =>
      have l2 : k < Y.length := by have := congrArg List.length hY; rw [List.length_drop] at this; simp at this; omega
      omega

set_option maxHeartbeats 2000000 in
theorem zncompare_any (a b : Txt) (w : World) (ha : a.length ≤ 300) (hb : b.length ≤ 300) : Calls Try.prog 24 #[tx a, tx b] w fun e w' => e = .returned (.tuple #[.int .i64 (cpN a b), .int .i64 (cpE a b)]) ∧ Still w w' := by
  have HLa := Lib.hid (fun V => znlevels_any a V _ rfl (by omega))
  have HLb := Lib.hid (fun V => znlevels_any b V _ rfl (by omega))
  by_cases h0 : nmE a = 0 ∧ nmE b = 0
  · obtain ⟨ea, eb⟩ := h0
    have eE : cpE a b = 0 := cpE_iff.2 ⟨ea, eb⟩
    have eN : cpN a b = cmpL (spl a) (spl b) := by unfold cpN; rw [if_pos eE]
    rw [eE, eN]
    unfold LvPost at HLa HLb
    rw [ea, lvls_ok ea] at HLa
    rw [eb, lvls_ok eb] at HLb
    obtain ⟨X, hX⟩ : ∃ X, X = spl a := ⟨_, rfl⟩
    obtain ⟨Y, hY⟩ : ∃ Y, Y = spl b := ⟨_, rfl⟩
    have hXl : X.length ≤ 8 := by rw [hX]; exact (nmE_iff.1 ea).2.2.2
    have hYl : Y.length ≤ 8 := by rw [hY]; exact (nmE_iff.1 eb).2.2.2
    rw [← hX] at HLa ⊢
    rw [← hY] at HLb ⊢
    obtain ⟨p, hp⟩ : ∃ p, p = X.length := ⟨_, rfl⟩
    obtain ⟨q, hq⟩ : ∃ q, q = Y.length := ⟨_, rfl⟩
    rw [← hp] at HLa
    rw [← hq] at HLb
    have HPl := Lib.hid hp
    have HQl := Lib.hid hq
    obtain ⟨r, hr⟩ : ∃ r, r = cmpL X Y := ⟨_, rfl⟩
    rw [← hr]
    have HR := Lib.hid hr
    have HT := Lib.hid (fun (V : World) (a5 : Option Addr) (c5 : Nat) (B : Nat) (h : V.ownsRow B 9 1 (.slice a5 p c5) p (txs X)) => TextsAt.of_own h hp)
    have HU := Lib.hid (fun (V : World) (a5 : Option Addr) (c5 : Nat) (B : Nat) (h : V.ownsRow B 9 1 (.slice a5 q c5) q (txs Y)) => TextsAt.of_own h hq)
    have hp8 : p ≤ 8 := by omega
    have hq8 : q ≤ 8 := by omega
    clear eE eN ea eb hX hY hXl hYl ha hb hp hq hr
    unfold tx at *
    go_enter Try.func24, Try.ntmps24
    go_wp2_with (first
      | (go_at_call 11; ((with_reducible refine (HLa.out _).mono ?_)); rintro e w5 ⟨a5, c5, rfl, hown5, hT5⟩; have HX5 := Lib.hid (HT.out _ _ _ _ hown5); clear hown5)
      | (go_at_call 11; ((with_reducible refine (HLb.out _).mono ?_)); rintro e w6 ⟨a6, c6, rfl, hown6, hT6⟩; have HY6 := Lib.hid (HU.out _ _ _ _ hown6); clear hown6))
    go_loopw [10] (fun i wr => ∃ k : Nat, k ≤ p ∧ k ≤ q ∧ i = .int .i64 k ∧ cmpL X Y = cmpL (X.drop k) (Y.drop k) ∧ Still w6 wr) (fun i _ => p - (intOf i).toNat)
    case atStart => exact ⟨0, Nat.zero_le _, Nat.zero_le _, rfl, by simp, Turned.refl _ _⟩
    case round =>
      obtain ⟨k, hkp, hkq, rfl, hcd, hst⟩ := hrel
      have HCd := Lib.hid (HR.out.trans hcd)
      have HS := Lib.hid (hT5.trans (hT6.trans hst))
      have HS6 := Lib.hid hst
      clear hcd
      by_cases hlt : k < p ∧ k < q
      · obtain ⟨hlp, hlq⟩ := hlt
        obtain ⟨x, hx⟩ := get_some (l := X) (i := k) (by rw [← HPl.out]; exact hlp)
        obtain ⟨y, hy⟩ := get_some (l := Y) (i := k) (by rw [← HQl.out]; exact hlq)
        obtain ⟨g, o, rfl, hcx⟩ := (HX5.out.still (hT6.trans hst)) k x hx
        obtain ⟨g', o', rfl, hcy⟩ := (HY6.out.still hst) k y hy
        unfold tx at hcx hcy
        have HSt := Lib.hid (cmpL_drop hx hy)
        clear hx hy hst HX5 HY6
        cases h1 : Op.bytesLess x y with
        | true =>
          have HE := Lib.hid (show r = -1 by rw [HCd.out, HSt.out, h1]; rfl)
          clear HSt HCd
          go_wp2_with fail
          go_quiet (fail)
          go_wp2_with fail
          go_ret2
          exact ⟨by rw [HE.out]; rfl, HS.out.drewN _⟩
        | false =>
          cases h2 : Op.bytesLess y x with
          | true =>
            have HE := Lib.hid (show r = 1 by rw [HCd.out, HSt.out, h1, h2]; rfl)
            have hne : (x == y) = false := by
              by_cases e : x = y
              · subst e; rw [bl_irrefl] at h2; cases h2
              · simpa using e
            clear HSt HCd
            go_wp2_with fail
            go_quiet (fail)
            go_wp2_with fail
            go_quiet (fail)
            go_wp2_with fail
            go_ret2
            exact ⟨by rw [HE.out]; rfl, (HS.out.drewN _).drewN _⟩
          | false =>
            have e : x = y := by
              rcases bl_total x y with h | h | h
              · rw [h1] at h; cases h
              · exact h
              · rw [h2] at h; cases h
            have HE := Lib.hid (show cmpL X Y = cmpL (X.drop (k + 1)) (Y.drop (k + 1)) by rw [← HR.out, HCd.out, HSt.out, h1, h2]; rfl)
            subst e
            clear HSt HCd h2
            go_wp2_with fail
            go_quiet (fail)
            go_wp2_with fail
            go_quiet (fail)
            go_wp2_with fail
            go_roundw
            case rel => exact ⟨k + 1, by omega, by omega, by go_num, HE.out, HS6.out.drewN _⟩
            case measure => simp [intOf]; omega
      · have HEnd := Lib.hid (show r = if p < q then -1 else if q < p then 1 else 0 by rw [HCd.out, cmpL_end (by rw [← HPl.out, ← HQl.out]; omega) (by rw [← HPl.out]; exact hkp) (by rw [← HQl.out]; exact hkq), ← HPl.out, ← HQl.out])
        have hex : (k < p ∧ q ≤ k) ∨ p ≤ k := by omega
        clear HCd HX5 HY6 hst hlt
        rcases Nat.lt_trichotomy p q with h3 | h3 | h3
        · have HE := Lib.hid (show r = -1 by rw [HEnd.out, if_pos h3])
          have h3' : (p : Int) < (q : Int) := by omega
          have h4 : p ≤ k := by omega
          clear hex HEnd
          go_wp2_with fail
          go_ret2
          exact ⟨by rw [HE.out]; rfl, HS.out⟩
        · subst h3
          have HE := Lib.hid (show r = 0 by rw [HEnd.out, if_neg (by omega), if_neg (by omega)])
          have h4 : p ≤ k := by omega
          clear hex HEnd
          go_wp2_with fail
          go_ret2
          exact ⟨by rw [HE.out]; rfl, HS.out⟩
        · have HE := Lib.hid (show r = 1 by rw [HEnd.out, if_neg (by omega), if_pos h3])
          have h3' : (q : Int) < (p : Int) := by omega
          have h4 : k < p ∧ q ≤ k := by omega
          obtain ⟨h5, h6⟩ := h4
          clear hex HEnd
          go_wp2_with fail
          go_ret2
          exact ⟨by rw [HE.out]; rfl, HS.out⟩
  · have eE : cpE a b = 80 := (cpE_or a b).resolve_left (fun h => h0 (cpE_iff.1 h))
    have eN : cpN a b = 0 := by unfold cpN; rw [if_neg (by omega)]
    rw [eE, eN]
    unfold LvPost at HLa HLb
    have hsp : (nmE a = 0 ∧ nmE b = 80) ∨ nmE a = 80 := by
      rcases nmE_or a with h | h
      · rcases nmE_or b with h' | h'
        · exact absurd ⟨h, h'⟩ h0
        · exact .inl ⟨h, h'⟩
      · exact .inr h
    generalize lvls a = la at *
    generalize lvls b = lb at *
    clear eE eN h0 ha hb
    rcases hsp with ⟨h1, h2⟩ | h1
    · rw [h1] at HLa
      rw [h2] at HLb
      clear h1 h2
      unfold tx at *
      go_enter Try.func24, Try.ntmps24
      go_wp2_with (first
        | (go_at_call 11; ((with_reducible refine (HLa.out _).mono ?_)); rintro e w5 ⟨a5, c5, rfl, hown5, hT5⟩)
        | (go_at_call 11; ((with_reducible refine (HLb.out _).mono ?_)); rintro e w6 ⟨a6, c6, rfl, hown6, hT6⟩))
      go_ret2
      exact ⟨rfl, hT5.trans hT6⟩
    · rw [h1] at HLa
      generalize nmE b = eb at *
      clear h1
      unfold tx at *
      go_enter Try.func24, Try.ntmps24
      go_wp2_with (first
        | (go_at_call 11; ((with_reducible refine (HLa.out _).mono ?_)); rintro e w5 ⟨a5, c5, rfl, hown5, hT5⟩)
        | (go_at_call 11; ((with_reducible refine (HLb.out _).mono ?_)); rintro e w6 ⟨a6, c6, rfl, hown6, hT6⟩))
      go_ret2
      exact ⟨rfl, hT5.trans hT6⟩
end Go.Proofs.Ythioimecelaaiaa
