/- What the program's Check, Depth and Hidden answer. No condition but that the text is not too long. -/
import Derived.Test.YthioimecelaaiaaNameCount
import Derived.Test.YthioimecelaaiaaNameApi
namespace Go.Proofs.Ythioimecelaaiaa
open Go.RowKit
set_option linter.unusedVariables false
set_option linter.unusedSimpArgs false
set_option maxRecDepth 100000

theorem chk_no {l : Txt} (h : l = [] ∨ 64 < l.length ∨ plB l = false ∨ 8 < (spl l).length) : nmE l = 80 := nmE_no (fun h' => by
  obtain ⟨a, b, c, d⟩ := nmE_iff.1 h'
  rcases h with h | h | h | h
  · exact a h
  · omega
  · rw [plB_iff.2 c] at h; cases h
  · omega)

set_option maxHeartbeats 1000000 in
theorem chk_any (l : Txt) (w : World) (hmax : l.length ≤ 1000000) : Calls Try.prog 14 #[tx l] w fun e w' => e = .returned (.int .i64 (nmE l)) ∧ Still w w' := by
  obtain ⟨m, hm⟩ : ∃ m, m = l.length := ⟨_, rfl⟩
  obtain ⟨q, hq⟩ : ∃ q, q = (spl l).length := ⟨_, rfl⟩
  obtain ⟨p, hp⟩ : ∃ p, p = plB l := ⟨_, rfl⟩
  obtain ⟨r, hr⟩ : ∃ r, r = nmE l := ⟨_, rfl⟩
  have HP := Lib.hid (fun V => plain_any l hmax V)
  have HC := Lib.hid (fun V => count_any l hmax V)
  obtain ⟨s, hs⟩ : ∃ s, s = ByteArray.mk l.toArray := ⟨_, rfl⟩
  have hsz : s.size = m := by rw [hs, hm, tx_size]
  have HN := Lib.hid (fun (h : m = 0 ∨ 64 < m ∨ p = false ∨ 8 < q) => show r = 80 from hr.trans (chk_no (by
    rcases h with h | h | h | h
    · exact .inl (List.eq_nil_of_length_eq_zero (by omega))
    · exact .inr (.inl (by omega))
    · exact .inr (.inr (.inl (by rw [← hp]; exact h)))
    · exact .inr (.inr (.inr (by omega))))))
  have HY := Lib.hid (fun (h0 : 0 < m) (h1 : m ≤ 64) (h2 : p = true) (h3 : q ≤ 8) => show r = 0 from hr.trans (nmE_iff.2 ⟨fun e => by subst e; simp at hm; omega, by omega, plB_iff.1 (by rw [← hp]; exact h2), by omega⟩))
  rw [← hp] at HP
  rw [← hq] at HC
  rw [← hr]
  unfold tx at *
  rw [← hs] at HP HC ⊢
  clear hs hr hp hq hm
  rcases Nat.eq_zero_or_pos m with h0 | h0
  · have HE := Lib.hid (HN.out (.inl h0))
    subst h0
    go_enter Try.func14, Try.ntmps14
    go_wp2_with fail
    go_ret
    exact ⟨by rw [HE.out]; rfl, Turned.refl _ _⟩
  · have h0' : ¬ (m : Int) < 1 := by omega
    rcases Nat.lt_or_ge 64 m with h1 | h1
    · have HE := Lib.hid (HN.out (.inr (.inl h1)))
      have h1' : (64 : Int) < (m : Int) := by omega
      go_enter Try.func14, Try.ntmps14
      go_wp2_with fail
      go_ret
      exact ⟨by rw [HE.out]; rfl, Turned.refl _ _⟩
    · have h1' : ¬ (64 : Int) < (m : Int) := by omega
      rcases p with _ | _
      · have HE := Lib.hid (HN.out (.inr (.inr (.inl rfl))))
        go_enter Try.func14, Try.ntmps14
        go_wp2_with (go_at_call 30; ((with_reducible refine (HP.out _).mono ?_)); rintro e w5 ⟨rfl, hT5⟩)
        go_ret
        exact ⟨by rw [HE.out]; rfl, hT5⟩
      · rcases Nat.lt_or_ge 8 q with h2 | h2
        · have HE := Lib.hid (HN.out (.inr (.inr (.inr h2))))
          have h2' : (8 : Int) < (q : Int) := by omega
          go_enter Try.func14, Try.ntmps14
          go_wp2_with (first
            | (go_at_call 30; ((with_reducible refine (HP.out _).mono ?_)); rintro e w5 ⟨rfl, hT5⟩)
            | (go_at_call 29; ((with_reducible refine (HC.out _).mono ?_)); rintro e w6 ⟨rfl, hT6⟩))
          go_ret
          exact ⟨by rw [HE.out]; rfl, hT5.trans hT6⟩
        · have HE := Lib.hid (HY.out h0 h1 rfl h2)
          have h2' : ¬ (8 : Int) < (q : Int) := by omega
          go_enter Try.func14, Try.ntmps14
          go_wp2_with (first
            | (go_at_call 30; ((with_reducible refine (HP.out _).mono ?_)); rintro e w5 ⟨rfl, hT5⟩)
            | (go_at_call 29; ((with_reducible refine (HC.out _).mono ?_)); rintro e w6 ⟨rfl, hT6⟩))
          go_ret
          exact ⟨by rw [HE.out]; rfl, hT5.trans hT6⟩

theorem depth_any8 (l : Txt) (w : World) (hmax : l.length ≤ 1000000) : Calls Try.prog 12 #[tx l] w fun e w' => e = .returned (.tuple #[.int .i64 (lvls l).length, .int .i64 (nmE l)]) ∧ Still w w' := by
  have HK := Lib.hid (fun V => chk_any l V hmax)
  have HC := Lib.hid (fun V => count_any l hmax V)
  rcases nmE_or l with h0 | h0
  · rw [lvls_ok h0, h0]
    rw [h0] at HK
    generalize (spl l).length = q at *
    unfold tx at *
    clear h0 hmax
    go_enter Try.func12, Try.ntmps12
    go_wp2_with (first
      | (go_at_call 14; ((with_reducible refine (HK.out _).mono ?_)); rintro e w5 ⟨rfl, hT5⟩)
      | (go_at_call 29; ((with_reducible refine (HC.out _).mono ?_)); rintro e w6 ⟨rfl, hT6⟩))
    go_ret2
    exact ⟨rfl, hT5.trans hT6⟩
  · rw [lvls_no (by omega), h0]
    rw [h0] at HK
    unfold tx at *
    clear h0 hmax
    go_enter Try.func12, Try.ntmps12
    go_wp2_with (go_at_call 14; ((with_reducible refine (HK.out _).mono ?_)); rintro e w5 ⟨rfl, hT5⟩)
    go_ret2
    exact ⟨rfl, hT5⟩

theorem hidden_any8 (l : Txt) (w : World) (hmax : l.length ≤ 1000000) : Calls Try.prog 16 #[tx l] w fun e w' => e = .returned (.bool (hdB l)) ∧ Still w w' := by
  have HK := Lib.hid (fun V => chk_any l V hmax)
  have HX := Lib.hid (fun V => show Calls Try.prog 31 #[tx l, tx [36]] V fun e w' => e = .returned (.bool (Lib.hasPrefix l [36])) ∧ w' = V from Try.strings_HasPrefix ⟨l.toArray⟩ ⟨#[36]⟩ V)
  have e1 : Lib.hasPrefix l [36] = decide (l[0]? = some 36) := by
    unfold Lib.hasPrefix
    cases l with
    | nil => rfl
    | cons x r =>
      simp only [List.isPrefixOf, Bool.and_true, List.getElem?_cons_zero, Option.some.injEq]
      by_cases h : x = 36
      · subst h; rfl
      · rw [decide_eq_false h]; exact beq_eq_false_iff_ne.2 (fun e => h e.symm)
  rw [e1] at HX
  rcases nmE_or l with h0 | h0
  · have e2 : hdB l = decide (l[0]? = some 36) := by unfold hdB; simp [h0]
    rw [e2]
    rw [h0] at HK
    generalize decide (l[0]? = some 36) = b at *
    unfold tx at *
    clear h0 e1 e2 hmax
    go_enter Try.func16, Try.ntmps16
    go_wp2_with (first
      | (go_at_call 14; ((with_reducible refine (HK.out _).mono ?_)); rintro e w5 ⟨rfl, hT5⟩)
      | (go_at_call 31; ((with_reducible refine (HX.out _).mono ?_)); rintro e w6 ⟨rfl, rfl⟩))
    go_ret
    exact ⟨rfl, hT5⟩
  · have e2 : hdB l = false := by unfold hdB; simp [h0]
    rw [e2]
    rw [h0] at HK
    unfold tx at *
    clear h0 e1 e2 hmax
    go_enter Try.func16, Try.ntmps16
    go_wp2_with (go_at_call 14; ((with_reducible refine (HK.out _).mono ?_)); rintro e w5 ⟨rfl, hT5⟩)
    go_ret
    exact ⟨rfl, hT5⟩
end Go.Proofs.Ythioimecelaaiaa
