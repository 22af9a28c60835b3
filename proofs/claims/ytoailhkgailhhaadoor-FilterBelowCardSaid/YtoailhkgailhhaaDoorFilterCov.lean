/- What Covers of the document's filter does. No condition but that the texts are no longer than the statements make them. -/
import Derived.Test.YtoailhkgailhhaaDoorFilterIs
namespace Go.Proofs.YtoailhkgailhhaaDoor
open Go.RowKit
set_option linter.unusedVariables false
set_option linter.unusedSimpArgs false
set_option maxRecDepth 100000

set_option maxHeartbeats 1000000 in
theorem zfcov_any (f n : Txt) (w : World) (hfl : f.length ≤ 300) (hnl : n.length ≤ 300) : Calls Tryd.prog 24 #[tx f, tx n] w fun e w' => e = .returned (.tuple #[.bool (cvB f n), .int .i64 (cvE f n)]) ∧ Still w w' := by
  have C1 := Lib.hid (fun V => zfcheck_any f V (by omega))
  have C2 := Lib.hid (fun V => zfcheck_any n V (by omega))
  by_cases h0 : fcE f = 0 ∧ fcE n = 0
  · obtain ⟨ef, en⟩ := h0
    have hE : cvE f n = 0 := cvE_iff.2 ⟨ef, en⟩
    obtain ⟨x, hx⟩ := head_some (fcE_iff.1 ef).1
    obtain ⟨y, hy⟩ := head_some (fcE_iff.1 en).1
    have HC := Lib.hid (hid_cases hx hy)
    rw [ef] at C1
    rw [en] at C2
    rw [hE]
    obtain ⟨s, hs⟩ : ∃ s, s = ByteArray.mk f.toArray := ⟨_, rfl⟩
    obtain ⟨t, ht⟩ : ∃ t, t = ByteArray.mk n.toArray := ⟨_, rfl⟩
    have hs0 : 0 < s.size := by rw [hs, tx_size]; exact get_lt hx
    have ht0 : 0 < t.size := by rw [ht, tx_size]; exact get_lt hy
    have hsx : s[0]'hs0 = x := by subst hs; exact (List.getElem?_eq_some_iff.1 hx).2
    have htx : t[0]'ht0 = y := by subst ht; exact (List.getElem?_eq_some_iff.1 hy).2
    have hs0' : (0 : Int) < (s.size : Int) := by omega
    have ht0' : (0 : Int) < (t.size : Int) := by omega
    have HS := Lib.hid (show Value.string s = tx f by rw [hs]; rfl)
    have HT := Lib.hid (show Value.string t = tx n by rw [ht]; rfl)
    have hfs := spl_len f
    have hns := spl_len n
    have H1 := Lib.hid (fun V => show Calls Tryd.prog 11 #[.string s, .int .u8 47] V (OutTexts V (spl f) (spl f).length) from by rw [HS.out]; exact bsplit_any f V _ rfl (by omega))
    have H2 := Lib.hid (fun V => show Calls Tryd.prog 11 #[.string t, .int .u8 47] V (OutTexts V (spl n) (spl n).length) from by rw [HT.out]; exact bsplit_any n V _ rfl (by omega))
    obtain ⟨p, hp⟩ : ∃ p, p = (spl f).length := ⟨_, rfl⟩
    obtain ⟨q, hq⟩ : ∃ q, q = (spl n).length := ⟨_, rfl⟩
    have H3 := Lib.hid (fun (V : World) a b c d B B' (h1 : V.ownsRow B 9 1 (.slice a p c) p (txs (spl f))) (h2 : V.ownsRow B' 9 1 (.slice b q d) q (txs (spl n))) => zfcovers_any (spl f) (spl n) V a b p q c d hp hq (ow_le h1).1 (ow_le h2).1 (by omega) (by omega) (TextsAt.of_own h1 hp) (TextsAt.of_own h2 hq))
    rw [← hp] at H1
    rw [← hq] at H2
    obtain ⟨r, hr⟩ : ∃ r, r = cvB f n := ⟨_, rfl⟩
    rw [← hr]
    have hr2 : r = (!hidB f n && cvs (spl f) (spl n)) := by rw [hr]; unfold cvB; rw [hE]; simp
    have HR := Lib.hid hr2
    unfold tx at *
    rw [← hs] at C1 ⊢
    rw [← ht] at C2 ⊢
    clear hs ht hx hy hfl hnl hfs hns hp hq hr hr2 ef en hE
    rcases HC.out with ⟨h1, rfl, rfl⟩ | ⟨h1, rfl, rfl⟩ | h1
    · have HE := Lib.hid (show r = false by rw [HR.out, h1]; rfl)
      clear h1 HC H1 H2 H3
      go_enter Tryd.func24, Tryd.ntmps24
      go_wp2_with (first
        | (go_at_call 14; ((with_reducible refine (C1.out _).mono ?_)); rintro e w1 ⟨rfl, h1⟩)
        | (go_at_call 14; ((with_reducible refine (C2.out _).mono ?_)); rintro e w2 ⟨rfl, h2⟩))
      go_ret2
      exact ⟨by rw [HE.out]; rfl, h1.trans h2⟩
    · have HE := Lib.hid (show r = false by rw [HR.out, h1]; rfl)
      clear h1 HC H1 H2 H3
      go_enter Tryd.func24, Tryd.ntmps24
      go_wp2_with (first
        | (go_at_call 14; ((with_reducible refine (C1.out _).mono ?_)); rintro e w1 ⟨rfl, h1⟩)
        | (go_at_call 14; ((with_reducible refine (C2.out _).mono ?_)); rintro e w2 ⟨rfl, h2⟩))
      go_ret2
      exact ⟨by rw [HE.out]; rfl, h1.trans h2⟩
    · have HE := Lib.hid (show r = cvs (spl f) (spl n) by rw [HR.out]; rcases h1 with h1 | h1 <;> rw [h1.1] <;> simp)
      generalize cvs (spl f) (spl n) = rr at *
      clear HC
      rcases h1 with ⟨_, h2⟩ | ⟨_, rfl, h2, h3⟩
      · obtain ⟨g1, g2⟩ := byte_ne h2 (v := 36) rfl
        clear h2
        go_enter Tryd.func24, Tryd.ntmps24
        go_wp2_with (first
          | (go_at_call 14; ((with_reducible refine (C1.out _).mono ?_)); rintro e w5 ⟨rfl, h5⟩)
          | (go_at_call 14; ((with_reducible refine (C2.out _).mono ?_)); rintro e w6 ⟨rfl, h6⟩)
          | (go_at_call 11; ((with_reducible refine (H1.out _).mono ?_)); rintro e w1 ⟨a1, c1, rfl, hO1, h1⟩)
          | (go_at_call 11; ((with_reducible refine (H2.out _).mono ?_)); rintro e w2 ⟨a2, c2, rfl, hO2, h2⟩)
          | (go_at_call 34; ((with_reducible refine (H3.out _ _ _ _ _ _ _ (ow_still hO1 h2) hO2).mono ?_)); rintro e w3 ⟨rfl, nq, rfl⟩))
        go_ret2
        exact ⟨by rw [HE.out]; rfl, (h5.trans (h6.trans (h1.trans h2))).drewN _⟩
      · obtain ⟨g1, g2⟩ := byte_ne h2 (v := 43) rfl
        obtain ⟨g3, g4⟩ := byte_ne h3 (v := 35) rfl
        clear h2 h3
        go_enter Tryd.func24, Tryd.ntmps24
        go_wp2_with (first
          | (go_at_call 14; ((with_reducible refine (C1.out _).mono ?_)); rintro e w5 ⟨rfl, h5⟩)
          | (go_at_call 14; ((with_reducible refine (C2.out _).mono ?_)); rintro e w6 ⟨rfl, h6⟩)
          | (go_at_call 11; ((with_reducible refine (H1.out _).mono ?_)); rintro e w1 ⟨a1, c1, rfl, hO1, h1⟩)
          | (go_at_call 11; ((with_reducible refine (H2.out _).mono ?_)); rintro e w2 ⟨a2, c2, rfl, hO2, h2⟩)
          | (go_at_call 34; ((with_reducible refine (H3.out _ _ _ _ _ _ _ (ow_still hO1 h2) hO2).mono ?_)); rintro e w3 ⟨rfl, nq, rfl⟩))
        go_ret2
        exact ⟨by rw [HE.out]; rfl, (h5.trans (h6.trans (h1.trans h2))).drewN _⟩
  · have hE : cvE f n = 90 := (cvE_or f n).resolve_left (fun h => h0 (cvE_iff.1 h))
    have hB : cvB f n = false := by unfold cvB; rw [hE]; simp
    rw [hE, hB]
    have hsp : (fcE f = 0 ∧ fcE n = 90) ∨ fcE f = 90 := by
      rcases fcE_or f with h | h
      · rcases fcE_or n with h' | h'
        · exact absurd ⟨h, h'⟩ h0
        · exact .inl ⟨h, h'⟩
      · exact .inr h
    unfold tx at *
    clear hE hB h0 hfl hnl
    rcases hsp with ⟨h1, h2⟩ | h1
    · rw [h1] at C1
      rw [h2] at C2
      clear h1 h2
      go_enter Tryd.func24, Tryd.ntmps24
      go_wp2_with (first
        | (go_at_call 14; ((with_reducible refine (C1.out _).mono ?_)); rintro e w1 ⟨rfl, h1⟩)
        | (go_at_call 14; ((with_reducible refine (C2.out _).mono ?_)); rintro e w2 ⟨rfl, h2⟩))
      go_ret2
      exact ⟨rfl, h1.trans h2⟩
    · rw [h1] at C1
      clear h1 C2
      go_enter Tryd.func24, Tryd.ntmps24
      go_wp2_with (go_at_call 14; ((with_reducible refine (C1.out _).mono ?_)); rintro e w1 ⟨rfl, h1⟩)
      go_ret2
      exact ⟨rfl, h1⟩
end Go.Proofs.YtoailhkgailhhaaDoor
