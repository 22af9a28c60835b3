/- What the program's Check, Depth and Hidden answer. No condition but that the text is not too long. -/
import Derived.Test.YtoailhkgailhhaaDoorNameCount
import Derived.Test.YtoailhkgailhhaaDoorNameApi
namespace Go.Proofs.YtoailhkgailhhaaDoor
open Go.RowKit
set_option linter.unusedVariables false
set_option linter.unusedSimpArgs false
set_option maxRecDepth 100000

theorem chk_no {l : Txt} (h : l = [] ∨ 64 < l.length ∨ plB l = false ∨ 8 < (spl l).length) : nmE l = 80 := nmE_no (fun h' => by
  obtain ⟨a, b, c, d⟩ := nmE_iff.1 h'
  rcases h with h | h | h | h
  · exact a h
  · omega
  · rw [plB_iff.2 c] at h; cases h
  · omega)

set_option maxHeartbeats 1000000 in
theorem chk_any (l : Txt) (w : World) (hmax : l.length ≤ 1000000) : Calls Tryd.prog 38 #[tx l] w fun e w' => e = .returned (.int .i64 (nmE l)) ∧ Still w w' := by
  obtain ⟨m, hm⟩ : ∃ m, m = l.length := ⟨_, rfl⟩
  obtain ⟨q, hq⟩ : ∃ q, q = (spl l).length := ⟨_, rfl⟩
  obtain ⟨p, hp⟩ : ∃ p, p = plB l := ⟨_, rfl⟩
  obtain ⟨r, hr⟩ : ∃ r, r = nmE l := ⟨_, rfl⟩
  have HP := Lib.hid (fun V => plain_any l hmax V)
  have HC := Lib.hid (fun V => count_any l hmax V)
  obtain ⟨s, hs⟩ : ∃ s, s = ByteArray.mk l.toArray := ⟨_, rfl⟩
  have hsz : s.size = m := by rw [hs, hm, tx_size]
  have HN := Lib.hid (fun (h : m = 0 ∨ 64 < m ∨ p = false ∨ 8 < q) => show r = 80 from hr.trans (chk_no (by
    rcases h with h | h | h | h
    · exact .inl (List.eq_nil_of_length_eq_zero (by omega))
    · exact .inr (.inl (by omega))
    · exact .inr (.inr (.inl (by rw [← hp]; exact h)))
    · exact .inr (.inr (.inr (by omega))))))
  have HY := Lib.hid (fun (h0 : 0 < m) (h1 : m ≤ 64) (h2 : p = true) (h3 : q ≤ 8) => show r = 0 from hr.trans (nmE_iff.2 ⟨fun e => by subst e; simp at hm; omega, by omega, plB_iff.1 (by rw [← hp]; exact h2), by omega⟩))
  rw [← hp] at HP
  rw [← hq] at HC
  rw [← hr]
  unfold tx at *
  rw [← hs] at HP HC ⊢
  clear hs hr hp hq hm
  rcases Nat.eq_zero_or_pos m with h0 | h0
  · have HE := Lib.hid (HN.out (.inl h0))
    subst h0
    go_enter Tryd.func38, Tryd.ntmps38
    go_wp2_with fail
    go_ret
    exact ⟨by rw [HE.out]; rfl, Turned.refl _ _⟩
  · have h0' : ¬ (m : Int) < 1 := by omega
    rcases Nat.lt_or_ge 64 m with h1 | h1
    · have HE := Lib.hid (HN.out (.inr (.inl h1)))
      have h1' : (64 : Int) < (m : Int) := by omega
      go_enter Tryd.func38, Tryd.ntmps38
      go_wp2_with fail
      go_ret
      exact ⟨by rw [HE.out]; rfl, Turned.refl _ _⟩
    · have h1' : ¬ (64 : Int) < (m : Int) := by omega
      rcases p with _ | _
      · have HE := Lib.hid (HN.out (.inr (.inr (.inl rfl))))
        go_enter Tryd.func38, Tryd.ntmps38
        go_wp2_with (go_at_call 50; ((with_reducible refine (HP.out _).mono ?_)); rintro e w5 ⟨rfl, hT5⟩)
        go_ret
        exact ⟨by rw [HE.out]; rfl, hT5⟩
      · rcases Nat.lt_or_ge 8 q with h2 | h2
        · have HE := Lib.hid (HN.out (.inr (.inr (.inr h2))))
          have h2' : (8 : Int) < (q : Int) := by omega
          go_enter Tryd.func38, Tryd.ntmps38
          go_wp2_with (first
            | (go_at_call 50; ((with_reducible refine (HP.out _).mono ?_)); rintro e w5 ⟨rfl, hT5⟩)
            | (go_at_call 51; ((with_reducible refine (HC.out _).mono ?_)); rintro e w6 ⟨rfl, hT6⟩))
          go_ret
          exact ⟨by rw [HE.out]; rfl, hT5.trans hT6⟩
        · have HE := Lib.hid (HY.out h0 h1 rfl h2)
          have h2' : ¬ (8 : Int) < (q : Int) := by omega
          go_enter Tryd.func38, Tryd.ntmps38
          go_wp2_with (first
            | (go_at_call 50; ((with_reducible refine (HP.out _).mono ?_)); rintro e w5 ⟨rfl, hT5⟩)
            | (go_at_call 51; ((with_reducible refine (HC.out _).mono ?_)); rintro e w6 ⟨rfl, hT6⟩))
          go_ret
          exact ⟨by rw [HE.out]; rfl, hT5.trans hT6⟩

end Go.Proofs.YtoailhkgailhhaaDoor