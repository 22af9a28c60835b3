/- RouteKeys: the walk. No condition but that the program's routes keep their words. -/
import Derived.Test.YtdblhflebaffcaaRouteApi
namespace Go.Proofs.Ytdblhflebaffcaa
open Go.RowKit
set_option linter.unusedVariables false
set_option linter.unusedSimpArgs false
set_option maxRecDepth 100000

theorem sm_cases (n : Int) (a b : List UInt8) : (rtE n a = 2 ∧ rtE n b = 2 ∧ smE n a b = 2 ∧ smB n a b = false ∧ smE n a a = 2 ∧ smB n a a = false) ∨ (rtE n a = 3 ∧ rtE n b = 3 ∧ smE n a b = 3 ∧ smB n a b = false ∧ smE n a a = 3 ∧ smB n a a = false) ∨ (rtE n a = 3 ∧ rtE n b = 0 ∧ smE n a b = 3 ∧ smB n a b = false ∧ smE n a a = 3 ∧ smB n a a = false) ∨
    (rtE n a = 0 ∧ rtE n b = 3 ∧ smE n a b = 3 ∧ smB n a b = false ∧ smE n a a = 0 ∧ smB n a a = true) ∨ (rtE n a = 0 ∧ rtE n b = 0 ∧ smE n a b = 0 ∧ smB n a b = decide (rtP n a = rtP n b) ∧ smE n a a = 0 ∧ smB n a a = true) := by
  by_cases hn : n < 1 ∨ 8 < n
  · have e1 : rtE n a = 2 := if_pos hn
    have e2 : rtE n b = 2 := if_pos hn
    exact .inl ⟨e1, e2, by simp [smE, e1], by simp [smB, smE, e1], by simp [smE, e1], by simp [smB, smE, e1]⟩
  · right
    by_cases ha : 64 < a.length
    · have e1 : rtE n a = 3 := by unfold rtE; rw [if_neg hn, if_pos ha]
      by_cases hb : 64 < b.length
      · have e2 : rtE n b = 3 := by unfold rtE; rw [if_neg hn, if_pos hb]
        exact .inl ⟨e1, e2, by simp [smE, e1], by simp [smB, smE, e1], by simp [smE, e1], by simp [smB, smE, e1]⟩
      · have e2 : rtE n b = 0 := by unfold rtE; rw [if_neg hn, if_neg hb]
        exact .inr (.inl ⟨e1, e2, by simp [smE, e1], by simp [smB, smE, e1], by simp [smE, e1], by simp [smB, smE, e1]⟩)
    · have e1 : rtE n a = 0 := by unfold rtE; rw [if_neg hn, if_neg ha]
      by_cases hb : 64 < b.length
      · have e2 : rtE n b = 3 := by unfold rtE; rw [if_neg hn, if_pos hb]
        exact .inr (.inr (.inl ⟨e1, e2, by simp [smE, e1, e2], by simp [smB, smE, e1, e2], by simp [smE, e1], by simp [smB, smE, e1]⟩))
      · have e2 : rtE n b = 0 := by unfold rtE; rw [if_neg hn, if_neg hb]
        exact .inr (.inr (.inr ⟨e1, e2, by simp [smE, e1, e2], by simp [smB, smE, rtP, e1, e2], by simp [smE, e1], by simp [smB, smE, e1]⟩))

set_option maxHeartbeats 4000000 in
theorem rkeys_walk (A : RouteApi) (n : Int) (s t : Sl UInt8) (w : World) (hn : i64w n) (h1 : SlOk encB okB 1 w s) (h2 : SlOk encB okB 1 w t) :
    Calls Try.prog 4 #[.int .i64 n, .slice s.a s.len s.cap, .slice t.a t.len t.cap] w fun e w' => e = .returned (.bool true) ∧ Still w w' := by
  obtain ⟨sa, sl, sc, sx⟩ := s
  obtain ⟨ta, tl, tc, tx'⟩ := t
  have a1 : sx.length = sl := h1.len
  have a2 : sl ≤ sc := h1.le
  have a3 : sc ≤ maxLen := h1.max
  have b1 : tx'.length = tl := h2.len
  have b2 : tl ≤ tc := h2.le
  have b3 : tc ≤ maxLen := h2.max
  unfold maxLen at a3 b3
  have HA := Lib.hid (show BytesAt w sa sx from BytesAt.of_row h1.row)
  have HB := Lib.hid (show BytesAt w ta tx' from BytesAt.of_row h2.row)
  obtain ⟨x, hx⟩ : ∃ x : Nat, x = min sl 65 := ⟨_, rfl⟩
  obtain ⟨y, hy⟩ : ∃ y : Nat, y = min tl 65 := ⟨_, rfl⟩
  have hif1 : (if (65 : Int) < (sl : Int) then (65 : Int) else (sl : Int)) = (x : Int) := by split <;> omega
  have hif2 : (if (65 : Int) < (tl : Int) then (65 : Int) else (tl : Int)) = (y : Int) := by split <;> omega
  have hxc : (x : Int) ≤ (sc : Int) := by omega
  have hyc : (y : Int) ≤ (tc : Int) := by omega
  obtain ⟨P, hP⟩ : ∃ P, P = sx.take 65 := ⟨_, rfl⟩
  obtain ⟨Q, hQ⟩ : ∃ Q, Q = tx'.take 65 := ⟨_, rfl⟩
  have hPl : P.length = x := by rw [hP, List.length_take]; omega
  have hQl : Q.length = y := by rw [hQ, List.length_take]; omega
  have HPA := Lib.hid (fun V (h : Still w V) => show BytesAt V sa P from by rw [hP]; exact (HA.out.take 65).still h)
  have HQA := Lib.hid (fun V (h : Still w V) => show BytesAt V ta Q from by rw [hQ]; exact (HB.out.take 65).still h)
  have hWs : SlW sa x sc := ⟨by omega, h1.max, fun e => by obtain ⟨q1, q2⟩ := h1.none e; dsimp only at q1 q2; omega⟩
  have hWt : SlW ta y tc := ⟨by omega, h2.max, fun e => by obtain ⟨q1, q2⟩ := h2.none e; dsimp only at q1 q2; omega⟩
  have hx65 : x ≤ 65 := by omega
  have hy65 : y ≤ 65 := by omega
  have CB := Lib.hid (fun V (h : Still w V) => show Calls Try.prog 15 #[.slice sa x sc] V fun e w' => ∃ a c, e = .returned (.slice a x c) ∧ BytesAt w' a P ∧ SlW a x c ∧ Still V w' from by
    have := bytes_any V sa P sc (HPA.out V h) (by omega) (fun e => (hWs.none e).2)
    rw [hPl] at this
    refine this.mono ?_
    rintro e w' ⟨a, c, he, ho, ht⟩
    rw [hPl] at he ho
    refine ⟨a, c, he, ?_, SlW.of_own ho, ht⟩
    rw [← hPl] at ho
    exact BytesAt.of_own ho)
  have CO := Lib.hid (fun V a c (h : BytesAt V a P) (hw : SlW a x c) => A.of n P V a x c hPl.symm h hw hn (by omega))
  have C1 := Lib.hid (fun V (h : Still w V) => zrtof_any n P V sa x sc hPl.symm (HPA.out V h) (by omega))
  have C2 := Lib.hid (fun V (h : Still w V) => zrtof_any n Q V ta y tc hQl.symm (HQA.out V h) (by omega))
  have S1 := Lib.hid (fun V (h : Still w V) => A.same n P Q V sa ta x y sc tc hPl.symm hQl.symm (HPA.out V h) (HQA.out V h) hWs hWt hn (by omega) (by omega))
  have S2 := Lib.hid (fun V a c (h : Still w V) (h' : BytesAt V a P) (hw : SlW a x c) => A.same n P P V sa a x x sc c hPl.symm hPl.symm (HPA.out V h) h' hWs hw hn (by omega) (by omega))
  have HW := Lib.hid (fun V => works11 A V)
  dsimp only
  have hcs := sm_cases n P Q
  have hcs2 : rtE n P ≠ 0 → rtP n P = 0 := fun h => if_neg h
  generalize rtP n P = p at *
  generalize rtP n Q = q at *
  generalize rtE n P = f at *
  generalize rtE n Q = g at *
  generalize smE n P Q = h at *
  generalize smE n P P = i at *
  generalize smB n P Q = is at *
  generalize smB n P P = self at *
  have HSt := Lib.hid (Turned.refl (fun _ => False) w)
  clear HA HB a1 b1 hx hy hP hQ hPl hQl hWs hWt h1 h2 hn HPA HQA
  rcases hcs with ⟨rfl, rfl, rfl, rfl, rfl, rfl⟩ | ⟨rfl, rfl, rfl, rfl, rfl, rfl⟩ | ⟨rfl, rfl, rfl, rfl, rfl, rfl⟩ | ⟨rfl, rfl, rfl, rfl, rfl, rfl⟩ | ⟨rfl, rfl, rfl, hpq, rfl, rfl⟩
  rotate_left 4
  · by_cases e : p = q
    · rw [decide_eq_true e] at hpq
      subst hpq; subst e
      clear hcs2
      go_enter Try.func4, Try.ntmps4
      go_wp2_with fail
      go_quiet (fail)
      go_wp2_with (first
        | (go_at_call 15; ((with_reducible refine (CB.out _ (HSt.out.drewN _)).mono ?_)); rintro e w1 ⟨a1, c1, rfl, hA1, hW1, hT1⟩; have HA1 := Lib.hid hA1; have HW1 := Lib.hid hW1; have HT1 := Lib.hid ((HSt.out.drewN _).trans hT1); clear hA1 hW1 hT1)
        | (go_at_call 14; ((with_reducible refine (CO.out _ _ _ HA1.out HW1.out).mono ?_)); rintro e w2 ⟨rfl, hT2⟩; have HT2 := Lib.hid (HT1.out.trans hT2); clear hT2)
        | (go_at_call 16; ((with_reducible refine (C1.out _ HT2.out).mono ?_)); rintro e w3 ⟨rfl, hT3⟩; have HT3 := Lib.hid (HT2.out.trans hT3); clear hT3)
        | (go_at_call 16; ((with_reducible refine (C2.out _ HT3.out).mono ?_)); rintro e w4 ⟨rfl, hT4⟩; have HT4 := Lib.hid (HT3.out.trans hT4); clear hT4)
        | (go_at_call 17; ((with_reducible refine (S1.out _ HT4.out).mono ?_)); rintro e w5 ⟨rfl, hT5⟩; have HT5 := Lib.hid (HT4.out.trans hT5); clear hT5)
        | (go_at_call 15; ((with_reducible refine (CB.out _ HT5.out).mono ?_)); rintro e w6 ⟨a6, c6, rfl, hA6, hW6, hT6⟩; have HA6 := Lib.hid hA6; have HW6 := Lib.hid hW6; have HT6 := Lib.hid (HT5.out.trans hT6); clear hA6 hW6 hT6)
        | (go_at_call 17; ((with_reducible refine (S2.out _ _ _ HT6.out HA6.out HW6.out).mono ?_)); rintro e w7 ⟨rfl, hT7⟩; have HT7 := Lib.hid (HT6.out.trans hT7); clear hT7)
        | (go_at_call 13; ((with_reducible refine (HW.out _).mono ?_)); rintro e w8 ⟨rfl, hT8⟩))
      go_ret
      exact ⟨by first | rfl | simp, HT7.out.trans hT8⟩
    · have hb : (p == q) = false := by rw [beq_eq_false_iff_ne]; exact e
      rw [decide_eq_false e] at hpq
      subst hpq
      clear hcs2
      go_enter Try.func4, Try.ntmps4
      go_wp2_with fail
      go_quiet (fail)
      go_wp2_with (first
        | (go_at_call 15; ((with_reducible refine (CB.out _ (HSt.out.drewN _)).mono ?_)); rintro e w1 ⟨a1, c1, rfl, hA1, hW1, hT1⟩; have HA1 := Lib.hid hA1; have HW1 := Lib.hid hW1; have HT1 := Lib.hid ((HSt.out.drewN _).trans hT1); clear hA1 hW1 hT1)
        | (go_at_call 14; ((with_reducible refine (CO.out _ _ _ HA1.out HW1.out).mono ?_)); rintro e w2 ⟨rfl, hT2⟩; have HT2 := Lib.hid (HT1.out.trans hT2); clear hT2)
        | (go_at_call 16; ((with_reducible refine (C1.out _ HT2.out).mono ?_)); rintro e w3 ⟨rfl, hT3⟩; have HT3 := Lib.hid (HT2.out.trans hT3); clear hT3)
        | (go_at_call 16; ((with_reducible refine (C2.out _ HT3.out).mono ?_)); rintro e w4 ⟨rfl, hT4⟩; have HT4 := Lib.hid (HT3.out.trans hT4); clear hT4)
        | (go_at_call 17; ((with_reducible refine (S1.out _ HT4.out).mono ?_)); rintro e w5 ⟨rfl, hT5⟩; have HT5 := Lib.hid (HT4.out.trans hT5); clear hT5)
        | (go_at_call 15; ((with_reducible refine (CB.out _ HT5.out).mono ?_)); rintro e w6 ⟨a6, c6, rfl, hA6, hW6, hT6⟩; have HA6 := Lib.hid hA6; have HW6 := Lib.hid hW6; have HT6 := Lib.hid (HT5.out.trans hT6); clear hA6 hW6 hT6)
        | (go_at_call 17; ((with_reducible refine (S2.out _ _ _ HT6.out HA6.out HW6.out).mono ?_)); rintro e w7 ⟨rfl, hT7⟩; have HT7 := Lib.hid (HT6.out.trans hT7); clear hT7)
        | (go_at_call 13; ((with_reducible refine (HW.out _).mono ?_)); rintro e w8 ⟨rfl, hT8⟩))
      go_ret
      exact ⟨by first | rfl | simp, HT7.out.trans hT8⟩
  all_goals
    clear hcs2
    go_enter Try.func4, Try.ntmps4
    go_wp2_with fail
    go_quiet (fail)
    go_wp2_with (first
      | (go_at_call 15; ((with_reducible refine (CB.out _ (HSt.out.drewN _)).mono ?_)); rintro e w1 ⟨a1, c1, rfl, hA1, hW1, hT1⟩; have HA1 := Lib.hid hA1; have HW1 := Lib.hid hW1; have HT1 := Lib.hid ((HSt.out.drewN _).trans hT1); clear hA1 hW1 hT1)
      | (go_at_call 14; ((with_reducible refine (CO.out _ _ _ HA1.out HW1.out).mono ?_)); rintro e w2 ⟨rfl, hT2⟩; have HT2 := Lib.hid (HT1.out.trans hT2); clear hT2)
      | (go_at_call 16; ((with_reducible refine (C1.out _ HT2.out).mono ?_)); rintro e w3 ⟨rfl, hT3⟩; have HT3 := Lib.hid (HT2.out.trans hT3); clear hT3)
      | (go_at_call 16; ((with_reducible refine (C2.out _ HT3.out).mono ?_)); rintro e w4 ⟨rfl, hT4⟩; have HT4 := Lib.hid (HT3.out.trans hT4); clear hT4)
      | (go_at_call 17; ((with_reducible refine (S1.out _ HT4.out).mono ?_)); rintro e w5 ⟨rfl, hT5⟩; have HT5 := Lib.hid (HT4.out.trans hT5); clear hT5)
      | (go_at_call 15; ((with_reducible refine (CB.out _ HT5.out).mono ?_)); rintro e w6 ⟨a6, c6, rfl, hA6, hW6, hT6⟩; have HA6 := Lib.hid hA6; have HW6 := Lib.hid hW6; have HT6 := Lib.hid (HT5.out.trans hT6); clear hA6 hW6 hT6)
      | (go_at_call 17; ((with_reducible refine (S2.out _ _ _ HT6.out HA6.out HW6.out).mono ?_)); rintro e w7 ⟨rfl, hT7⟩; have HT7 := Lib.hid (HT6.out.trans hT7); clear hT7)
      | (go_at_call 13; ((with_reducible refine (HW.out _).mono ?_)); rintro e w8 ⟨rfl, hT8⟩))
    go_ret
    exact ⟨by first | rfl | simp, HT7.out.trans hT8⟩
end Go.Proofs.Ytdblhflebaffcaa
