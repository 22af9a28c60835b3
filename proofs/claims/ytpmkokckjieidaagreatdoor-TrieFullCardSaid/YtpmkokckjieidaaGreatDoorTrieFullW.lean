/- The walk of TrieFull. No condition but the words wanted of the program's calls. -/
import Derived.Test.YtpmkokckjieidaaGreatDoorTrieWorks
namespace Go.Proofs.YtpmkokckjieidaaGreatDoor
open Go.RowKit
set_option linter.unusedVariables false
set_option linter.unusedSimpArgs false
set_option maxRecDepth 100000

def aL (k : Nat) : List Pr := (List.range k).map fun i => ([97], i)
theorem aL_len (k : Nat) : (aL k).length = k := by simp [aL]
theorem aL_mem {k : Nat} {f : Txt} {i : Nat} : (f, i) ∈ aL k ↔ f = [97] ∧ i < k := by
  simp only [aL, List.mem_map, List.mem_range, Prod.mk.injEq]
  exact ⟨fun ⟨j, h1, h2, h3⟩ => ⟨h2.symm, by omega⟩, fun ⟨h1, h2⟩ => ⟨i, h2, h1.symm, rfl⟩⟩
theorem aL_succ (k : Nat) : aL (k + 1) = aL k ++ [([97], k)] := by simp [aL, List.range_succ]
theorem fc_a : fcE [97] = 0 := by decide
theorem fc_b : fcE [98] = 0 := by decide
theorem aL_put {k : Nat} (h : k < 256) : ptE (aL k) [97] (k : Int) = 0 ∧ putL (aL k) [97] (k : Int) = aL (k + 1) := by
  have h1 : ptE (aL k) [97] (k : Int) = 0 := by
    unfold ptE
    rw [if_neg (by rw [fc_a]; simp), if_neg (by omega), if_neg (by
      unfold hasP
      rw [decide_eq_true_iff]
      rintro ⟨_, h⟩
      have := (aL_mem.1 h).2
      rw [Int.toNat_natCast] at this; omega), if_neg (by rw [aL_len]; omega)]
  refine ⟨h1, ?_⟩
  unfold putL
  rw [if_pos h1, aL_succ, Int.toNat_natCast]
theorem aL_full (t : Nat) (ht : t < 256) : ptE (aL 256) [98] (t : Int) = 4 ∧ ptE (aL 256) [97] (t : Int) = 6 ∧ tkE (aL 256) [97] (t : Int) = 0 ∧ takeL (aL 256) [97] (t : Int) = (aL 256).erase ([97], t) := by
  have hm : ([97], t) ∈ aL 256 := aL_mem.2 ⟨rfl, ht⟩
  have hh : hasP (aL 256) [97] (t : Int) = true := by
    unfold hasP; rw [decide_eq_true_iff]; exact ⟨by omega, by rw [Int.toNat_natCast]; exact hm⟩
  have hk : tkE (aL 256) [97] (t : Int) = 0 := by
    unfold tkE
    rw [if_neg (by rw [fc_a]; simp), if_neg (by omega), if_pos hh]
  refine ⟨?_, ?_, hk, ?_⟩
  · unfold ptE
    rw [if_neg (by rw [fc_b]; simp), if_neg (by omega), if_neg (by
      unfold hasP
      rw [decide_eq_true_iff]
      rintro ⟨_, h⟩
      have := (aL_mem.1 h).1
      simp at this), if_pos (by rw [aL_len]; omega)]
  · unfold ptE
    rw [if_neg (by rw [fc_a]; simp), if_neg (by omega), if_pos hh]
  · unfold takeL
    rw [if_pos hk, Int.toNat_natCast]
theorem addT_same : ∀ {l : List Pr}, (∀ p ∈ l, p.1 = [97]) → l.foldl (fun out p => addT out p.1) [[97]] = [[97]]
  | [], _ => rfl
  | p :: l, h => by
    have : p.1 = [97] := h p (by simp)
    rw [List.foldl_cons, this, show addT [[97]] [97] = [[97]] by decide]
    exact addT_same (fun q hq => h q (by simp [hq]))
theorem flL_same {l : List Pr} (h : ∀ p ∈ l, p.1 = [97]) (h0 : l ≠ []) : flL l = [[97]] := by
  cases l with
  | nil => exact absurd rfl h0
  | cons p l =>
    have : p.1 = [97] := h p (by simp)
    unfold flL
    rw [List.foldl_cons, this, show addT [] [97] = [[97]] by decide]
    exact addT_same (fun q hq => h q (by simp [hq]))
theorem aL_last (t : Nat) (ht : t < 256) : ptE ((aL 256).erase ([97], t)) [98] (t : Int) = 0 ∧ (putL ((aL 256).erase ([97], t)) [98] (t : Int)).length = 256 ∧ ndL (putL ((aL 256).erase ([97], t)) [98] (t : Int)) = 3 := by
  have hm : ([97], t) ∈ aL 256 := aL_mem.2 ⟨rfl, ht⟩
  have hl : ((aL 256).erase ([97], t)).length = 255 := by rw [List.length_erase_of_mem hm, aL_len]
  have ha : ∀ p ∈ (aL 256).erase ([97], t), p.1 = [97] := fun p hp => (aL_mem.1 (show (p.1, p.2) ∈ aL 256 from List.mem_of_mem_erase hp)).1
  have h1 : ptE ((aL 256).erase ([97], t)) [98] (t : Int) = 0 := by
    unfold ptE
    rw [if_neg (by rw [fc_b]; simp), if_neg (by omega), if_neg (by
      unfold hasP
      rw [decide_eq_true_iff]
      rintro ⟨_, h⟩
      have := ha _ h
      simp at this), if_neg (by rw [hl]; omega)]
  have h2 : putL ((aL 256).erase ([97], t)) [98] (t : Int) = (aL 256).erase ([97], t) ++ [([98], t)] := by
    unfold putL
    rw [if_pos h1, Int.toNat_natCast]
  refine ⟨h1, by rw [h2, List.length_append, hl]; rfl, ?_⟩
  rw [h2]
  have h3 : flL ((aL 256).erase ([97], t) ++ [([98], t)]) = [[97], [98]] := by
    have := flL_same ha (fun h => by rw [h] at hl; simp at hl)
    unfold flL at this ⊢
    rw [List.foldl_append, this]
    show addT [[97]] [98] = [[97], [98]]
    decide
  unfold ndL
  rw [h3]
  decide

set_option maxHeartbeats 2000000 in
theorem tfull_walk {tT : Nat → List Pr → Thing} (A : TrieApi tT) (n0 : Int) (w : World) : Calls Tryz.prog 7 #[.int .i64 n0] w fun e w' => e = .returned (.bool true) ∧ Still w w' := by
  obtain ⟨t, ht⟩ : ∃ t, t = am n0 256 := ⟨_, rfl⟩
  have htl : t < 256 := by rw [ht]; exact am_lt _ (by omega)
  have HAm := Lib.hid (fun V => among_lit n0 256 256 t rfl ht (by omega) (by omega) V)
  have HWk := Lib.hid (fun V => works10 A V)
  have HM := Lib.hid (fun V => A.make V)
  have HOk := Lib.hid (fun k (hk : k ≤ 256) => show TOk (aL k) from by
    induction k with
    | zero => exact TOk.nil
    | succ k ih => rw [← (aL_put (k := k) (by omega)).2]; exact (ih (by omega)).put _ _)
  have HP := Lib.hid (fun k (hk : k < 256) V q (h : Held w V (tT q (aL k))) => show Calls Tryz.prog 13 #[.pointer (some ⟨q, 0, none⟩), tx [97], .int .i64 k] V fun e w' => e = .returned (.int .i64 0) ∧ Held w w' (tT q (aL (k + 1))) from by
    obtain ⟨W, h1, h2⟩ := h.use
    have := A.put h1 (HOk.out k (by omega)) [97] (k : Int) (by decide) ⟨by omega, by omega⟩
    rw [(aL_put hk).1, (aL_put hk).2] at this
    exact this.mono fun e w' ⟨g1, g2⟩ => ⟨g1, h2 _ _ g2⟩)
  obtain ⟨f1, f2, f3, f4⟩ := aL_full t htl
  obtain ⟨f5, f6, f7⟩ := aL_last t htl
  have hb : i64w (t : Int) := ⟨by omega, by omega⟩
  obtain ⟨L0, hL0⟩ : ∃ L0, L0 = aL 256 := ⟨_, rfl⟩
  obtain ⟨L1, hL1⟩ : ∃ L1, L1 = (aL 256).erase ([97], t) := ⟨_, rfl⟩
  obtain ⟨L2, hL2⟩ : ∃ L2, L2 = putL ((aL 256).erase ([97], t)) [98] (t : Int) := ⟨_, rfl⟩
  have o0 : TOk L0 := by rw [hL0]; exact HOk.out 256 (Nat.le_refl _)
  rw [← hL1, ← hL0] at f4
  rw [← hL0] at f1 f2 f3
  rw [← hL2] at f6 f7
  rw [← hL1] at f5 hL2
  have o1 : TOk L1 := by rw [← f4]; exact o0.take _ _
  have o2 : TOk L2 := by rw [hL2]; exact o1.put _ _
  have P1 := Lib.hid (fun V q (h : Held w V (tT q L0)) => show Calls Tryz.prog 13 #[.pointer (some ⟨q, 0, none⟩), tx [98], .int .i64 t] V fun e w' => e = .returned (.int .i64 4) ∧ Held w w' (tT q L0) from by
    obtain ⟨W, h1, h2⟩ := h.use
    have := A.put h1 o0 [98] t (by decide) hb
    rw [f1, show putL L0 [98] (t : Int) = L0 from if_neg (by rw [f1]; omega)] at this
    exact this.mono fun e w' ⟨g1, g2⟩ => ⟨g1, h2 _ _ g2⟩)
  have P2 := Lib.hid (fun V q (h : Held w V (tT q L0)) => show Calls Tryz.prog 13 #[.pointer (some ⟨q, 0, none⟩), tx [97], .int .i64 t] V fun e w' => e = .returned (.int .i64 6) ∧ Held w w' (tT q L0) from by
    obtain ⟨W, h1, h2⟩ := h.use
    have := A.put h1 o0 [97] t (by decide) hb
    rw [f2, show putL L0 [97] (t : Int) = L0 from if_neg (by rw [f2]; omega)] at this
    exact this.mono fun e w' ⟨g1, g2⟩ => ⟨g1, h2 _ _ g2⟩)
  have P3 := Lib.hid (fun V q (h : Held w V (tT q L0)) => show Calls Tryz.prog 15 #[.pointer (some ⟨q, 0, none⟩), tx [97], .int .i64 t] V fun e w' => e = .returned (.int .i64 0) ∧ Held w w' (tT q L1) from by
    obtain ⟨W, h1, h2⟩ := h.use
    have := A.take h1 o0 [97] t (by decide) hb
    rw [f3, f4] at this
    exact this.mono fun e w' ⟨g1, g2⟩ => ⟨g1, h2 _ _ g2⟩)
  have P4 := Lib.hid (fun V q (h : Held w V (tT q L1)) => show Calls Tryz.prog 13 #[.pointer (some ⟨q, 0, none⟩), tx [98], .int .i64 t] V fun e w' => e = .returned (.int .i64 0) ∧ Held w w' (tT q L2) from by
    obtain ⟨W, h1, h2⟩ := h.use
    have := A.put h1 o1 [98] t (by decide) hb
    rw [f5, ← hL2] at this
    exact this.mono fun e w' ⟨g1, g2⟩ => ⟨g1, h2 _ _ g2⟩)
  have N1 := Lib.hid (fun V q (h : Held w V (tT q L2)) => show Calls Tryz.prog 29 #[.pointer (some ⟨q, 0, none⟩)] V fun e w' => e = .returned (.int .i64 3) ∧ Held w w' (tT q L2) from by
    obtain ⟨W, h1, h2⟩ := h.use
    have := A.nodes h1 o2
    rw [f7] at this
    exact this.mono fun e w' ⟨g1, g2⟩ => ⟨g1, h.still g2⟩)
  have R1 := Lib.hid (fun V q (h : Held w V (tT q L2)) => show Calls Tryz.prog 24 #[.pointer (some ⟨q, 0, none⟩)] V fun e w' => e = .returned (.int .i64 256) ∧ Held w w' (tT q L2) from by
    obtain ⟨W, h1, h2⟩ := h.use
    have := A.pairs h1 o2
    rw [f6] at this
    exact this.mono fun e w' ⟨g1, g2⟩ => ⟨g1, h.still g2⟩)
  have HL0 := Lib.hid hL0
  unfold tx at HP P1 P2 P3 P4
  clear f1 f2 f3 f4 f5 f6 f7 hL0 hL1 hL2 o0 o1 o2 hb ht
  go_enter Tryz.func7, Tryz.ntmps7
  go_wp2_with (first
    | (go_at_call 26; ((with_reducible refine (HWk.out _).mono ?_)); rintro e w1 ⟨rfl, h1⟩)
    | (go_at_call 9; ((with_reducible refine (HM.out _).mono ?_)); rintro e w2 ⟨q, rfl, W2, hW2, hs2, hf2⟩; have h0 := Lib.hid (show Held w w2 (tT q (aL 0)) from ⟨W2, hW2, fun k hk => Nat.le_trans h1.size (hf2 k hk), h1.trans hs2⟩); clear hW2 hf2 h1 hs2)
    | (go_at_call 12; ((with_reducible refine (HAm.out _).mono ?_)); rintro e w3 ⟨rfl, rfl⟩))
  go_loopw [4] (fun i wr => ∃ k : Nat, k ≤ 256 ∧ i = .int .i64 k ∧ Held w wr (tT q (aL k))) (fun i _ => 256 - (intOf i).toNat)
  case atStart => exact ⟨0, Nat.zero_le _, rfl, h0.out⟩
  case round =>
    clear h0
    obtain ⟨k, hk, rfl, hh⟩ := hrel
    by_cases hlt : k < 256
    · have HPk := Lib.hid (HP.out k hlt wr q hh)
      have hlt' : (k : Int) < 256 := by omega
      clear hh HP
      go_wp2_with (go_at_call 13; ((with_reducible refine HPk.out.mono ?_)); rintro e w4 ⟨rfl, h4⟩)
      go_roundw
      case rel => exact ⟨k + 1, by omega, by go_num, h4⟩
      case measure => simp [intOf]; omega
    · obtain rfl : k = 256 := by omega
      rw [← HL0.out] at hh
      clear HP HL0
      go_wp2_with (first
        | (go_at_call 13; ((with_reducible refine (P1.out _ _ hh).mono ?_)); rintro e w5 ⟨rfl, h5⟩)
        | (go_at_call 13; ((with_reducible refine (P2.out _ _ h5).mono ?_)); rintro e w6 ⟨rfl, h6⟩)
        | (go_at_call 15; ((with_reducible refine (P3.out _ _ h6).mono ?_)); rintro e w7 ⟨rfl, h7⟩)
        | (go_at_call 13; ((with_reducible refine (P4.out _ _ h7).mono ?_)); rintro e w8 ⟨rfl, h8⟩)
        | (go_at_call 24; ((with_reducible refine (R1.out _ _ h8).mono ?_)); rintro e w9 ⟨rfl, h9⟩)
        | (go_at_call 29; ((with_reducible refine (N1.out _ _ h9).mono ?_)); rintro e w10 ⟨rfl, h10⟩))
      go_ret
      exact ⟨by first | rfl | simp, h10.ground⟩
end Go.Proofs.YtpmkokckjieidaaGreatDoor
