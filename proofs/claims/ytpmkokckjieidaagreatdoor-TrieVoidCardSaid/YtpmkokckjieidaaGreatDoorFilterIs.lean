/- What Is, Match, Any and Covers of the document's filter do. No condition but that the texts are no longer than the statements make them. -/
import Derived.Test.YtpmkokckjieidaaGreatDoorFilterMts
namespace Go.Proofs.YtpmkokckjieidaaGreatDoor
open Go.RowKit
set_option linter.unusedVariables false
set_option linter.unusedSimpArgs false
set_option maxRecDepth 100000

theorem byte_ne {x c : UInt8} (h : x ≠ c) {v : Int} (hv : v = (c.toNat : Int)) : ¬ (x.toNat : Int) = v ∧ ((x.toNat : Int) == v) = false := by
  have : ¬ (x.toNat : Int) = v := fun e => h (UInt8.toNat_inj.1 (by omega))
  exact ⟨this, by simpa using this⟩
theorem head_some {l : Txt} (h : l ≠ []) : ∃ x, l[0]? = some x := by
  cases l with
  | nil => exact absurd rfl h
  | cons x r => exact ⟨x, rfl⟩
/-- How the first bytes decide. -/
theorem hid_cases {f n : Txt} {x y : UInt8} (hx : f[0]? = some x) (hy : n[0]? = some y) :
    (hidB f n = true ∧ y = 36 ∧ x = 43) ∨ (hidB f n = true ∧ y = 36 ∧ x = 35) ∨ (hidB f n = false ∧ y ≠ 36) ∨ (hidB f n = false ∧ y = 36 ∧ x ≠ 43 ∧ x ≠ 35) := by
  unfold hidB
  rw [hx, hy]
  by_cases h1 : y = 36
  · by_cases h2 : x = 43
    · exact .inl ⟨by simp [h1, h2], h1, h2⟩
    · by_cases h3 : x = 35
      · exact .inr (.inl ⟨by simp [h1, h3], h1, h3⟩)
      · exact .inr (.inr (.inr ⟨by simp [h1, h2, h3], h1, h2, h3⟩))
  · exact .inr (.inr (.inl ⟨by simp [h1], h1⟩))

set_option maxHeartbeats 1000000 in
theorem zfis_any (f n : Txt) (w : World) (hf : f ≠ []) (hn : n ≠ []) (hfl : f.length ≤ 300) (hnl : n.length ≤ 300) : Calls Tryz.prog 52 #[tx f, tx n] w fun e w' => e = .returned (.bool (isB f n)) ∧ Still w w' := by
  obtain ⟨x, hx⟩ := head_some hf
  obtain ⟨y, hy⟩ := head_some hn
  have HC := Lib.hid (hid_cases hx hy)
  obtain ⟨s, hs⟩ : ∃ s, s = ByteArray.mk f.toArray := ⟨_, rfl⟩
  obtain ⟨t, ht⟩ : ∃ t, t = ByteArray.mk n.toArray := ⟨_, rfl⟩
  have hs0 : 0 < s.size := by rw [hs, tx_size]; exact get_lt hx
  have ht0 : 0 < t.size := by rw [ht, tx_size]; exact get_lt hy
  have hsx : s[0]'hs0 = x := by subst hs; exact (List.getElem?_eq_some_iff.1 hx).2
  have htx : t[0]'ht0 = y := by subst ht; exact (List.getElem?_eq_some_iff.1 hy).2
  have hs0' : (0 : Int) < (s.size : Int) := by omega
  have ht0' : (0 : Int) < (t.size : Int) := by omega
  have HS := Lib.hid (show Value.string s = tx f by rw [hs]; rfl)
  have HT := Lib.hid (show Value.string t = tx n by rw [ht]; rfl)
  have hfs := spl_len f
  have hns := spl_len n
  have H1 := Lib.hid (fun V => show Calls Tryz.prog 57 #[.string s, .int .u8 47] V (OutTexts V (spl f) (spl f).length) from by rw [HS.out]; exact bsplit_any f V _ rfl (by omega))
  have H2 := Lib.hid (fun V => show Calls Tryz.prog 57 #[.string t, .int .u8 47] V (OutTexts V (spl n) (spl n).length) from by rw [HT.out]; exact bsplit_any n V _ rfl (by omega))
  obtain ⟨p, hp⟩ : ∃ p, p = (spl f).length := ⟨_, rfl⟩
  obtain ⟨q, hq⟩ : ∃ q, q = (spl n).length := ⟨_, rfl⟩
  have H3 := Lib.hid (fun (V : World) a b c d B B' (h1 : V.ownsRow B 9 1 (.slice a p c) p (txs (spl f))) (h2 : V.ownsRow B' 9 1 (.slice b q d) q (txs (spl n))) => zfmatches_any (spl f) (spl n) V a b p q c d hp hq (ow_le h1).1 (ow_le h2).1 (by omega) (by omega) (TextsAt.of_own h1 hp) (TextsAt.of_own h2 hq))
  rw [← hp] at H1
  rw [← hq] at H2
  obtain ⟨r, hr⟩ : ∃ r, r = isB f n := ⟨_, rfl⟩
  rw [← hr]
  have HR := Lib.hid hr
  unfold tx
  rw [← hs, ← ht]
  clear hs ht hx hy hf hn hfl hnl hfs hns hp hq hr
  rcases HC.out with ⟨h1, rfl, rfl⟩ | ⟨h1, rfl, rfl⟩ | h1
  · have HE := Lib.hid (show r = false by rw [HR.out]; unfold isB; rw [h1]; rfl)
    clear h1 HC H1 H2 H3
    go_enter Tryz.func52, Tryz.ntmps52
    go_wp2_with fail
    go_ret
    exact ⟨by rw [HE.out]; rfl, Turned.refl _ _⟩
  · have HE := Lib.hid (show r = false by rw [HR.out]; unfold isB; rw [h1]; rfl)
    clear h1 HC H1 H2 H3
    go_enter Tryz.func52, Tryz.ntmps52
    go_wp2_with fail
    go_ret
    exact ⟨by rw [HE.out]; rfl, Turned.refl _ _⟩
  · have HE := Lib.hid (show r = mts (spl f) (spl n) by rw [HR.out]; unfold isB; rcases h1 with h1 | h1 <;> rw [h1.1] <;> simp)
    generalize mts (spl f) (spl n) = rr at *
    clear HC
    rcases h1 with ⟨_, h2⟩ | ⟨_, rfl, h2, h3⟩
    · obtain ⟨g1, g2⟩ := byte_ne h2 (v := 36) rfl
      clear h2
      go_enter Tryz.func52, Tryz.ntmps52
      go_wp2_with (first
        | (go_at_call 57; ((with_reducible refine (H1.out _).mono ?_)); rintro e w1 ⟨a1, c1, rfl, hO1, h1⟩)
        | (go_at_call 57; ((with_reducible refine (H2.out _).mono ?_)); rintro e w2 ⟨a2, c2, rfl, hO2, h2⟩)
        | (go_at_call 70; ((with_reducible refine (H3.out _ _ _ _ _ _ _ (ow_still hO1 h2) hO2).mono ?_)); rintro e w3 ⟨rfl, nq, rfl⟩))
      go_ret
      exact ⟨by rw [HE.out]; rfl, (h1.trans h2).drewN _⟩
    · obtain ⟨g1, g2⟩ := byte_ne h2 (v := 43) rfl
      obtain ⟨g3, g4⟩ := byte_ne h3 (v := 35) rfl
      clear h2 h3
      go_enter Tryz.func52, Tryz.ntmps52
      go_wp2_with (first
        | (go_at_call 57; ((with_reducible refine (H1.out _).mono ?_)); rintro e w1 ⟨a1, c1, rfl, hO1, h1⟩)
        | (go_at_call 57; ((with_reducible refine (H2.out _).mono ?_)); rintro e w2 ⟨a2, c2, rfl, hO2, h2⟩)
        | (go_at_call 70; ((with_reducible refine (H3.out _ _ _ _ _ _ _ (ow_still hO1 h2) hO2).mono ?_)); rintro e w3 ⟨rfl, nq, rfl⟩))
      go_ret
      exact ⟨by rw [HE.out]; rfl, (h1.trans h2).drewN _⟩

theorem anR_drop {n : Txt} {ls : List Txt} {k : Nat} {x : Txt} (hx : ls[k]? = some x) : anR n k (ls.drop k) = if mtE x n ≠ 0 then (0, mtE x n) else if isB x n = true then ((k : Int), 0) else anR n (k + 1) (ls.drop (k + 1)) := by
  obtain ⟨h, e⟩ := List.getElem?_eq_some_iff.1 hx
  rw [List.drop_eq_getElem_cons h, e, anR]

end Go.Proofs.YtpmkokckjieidaaGreatDoor