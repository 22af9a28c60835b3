/- The chapter's example of layer 10. No condition but the words wanted of the program's calls. -/
import Derived.Test.YtpmkokckjieidaaGreatDoorTrieApi
namespace Go.Proofs.YtpmkokckjieidaaGreatDoor
open Go.RowKit
set_option linter.unusedVariables false
set_option linter.unusedSimpArgs false
set_option maxRecDepth 100000

theorem ex_nodes : ndL [([97, 47, 43], 1), ([97, 47, 35], 2), ([98], 1)] = 5 := by decide
theorem ex_match : mtL [([97, 47, 43], 1), ([97, 47, 35], 2), ([98], 1)] [97, 47, 98] = [1, 2] := by
  unfold mtL
  rw [if_pos (by decide)]
  have h : (fun n : Nat => hitB [([97, 47, 43], 1), ([97, 47, 35], 2), ([98], 1)] [97, 47, 98] n) = fun n => decide (1 = n) || decide (2 = n) := by
    funext n
    have h1 : isB [97, 47, 43] [97, 47, 98] = true := by decide
    have h2 : isB [97, 47, 35] [97, 47, 98] = true := by decide
    have h3 : isB [98] [97, 47, 98] = false := by decide
    simp [hitB, h1, h2, h3]
  rw [h]
  decide

set_option maxHeartbeats 2000000 in
theorem works10 {tT : Nat → List Pr → Thing} (A : TrieApi tT) (w : World) : Calls Tryz.prog 26 #[] w fun e w' => e = .returned (.bool true) ∧ Still w w' := by
  obtain ⟨L1, hL1⟩ : ∃ L1 : List Pr, L1 = [([97, 47, 43], 1)] := ⟨_, rfl⟩
  obtain ⟨L2, hL2⟩ : ∃ L2 : List Pr, L2 = [([97, 47, 43], 1), ([97, 47, 35], 2)] := ⟨_, rfl⟩
  obtain ⟨L3, hL3⟩ : ∃ L3 : List Pr, L3 = [([97, 47, 43], 1), ([97, 47, 35], 2), ([98], 1)] := ⟨_, rfl⟩
  have p1 : putL [] [97, 47, 43] 1 = L1 := by rw [hL1]; decide
  have p2 : putL L1 [97, 47, 35] 2 = L2 := by rw [hL1, hL2]; decide
  have p3 : putL L2 [98] 1 = L3 := by rw [hL2, hL3]; decide
  have q1 : ptE [] [97, 47, 43] 1 = 0 := by decide
  have q2 : ptE L1 [97, 47, 35] 2 = 0 := by rw [hL1]; decide
  have q3 : ptE L2 [98] 1 = 0 := by rw [hL2]; decide
  have o1 : TOk L1 := by rw [← p1]; exact TOk.nil.put _ _
  have o2 : TOk L2 := by rw [← p2]; exact o1.put _ _
  have o3 : TOk L3 := by rw [← p3]; exact o2.put _ _
  have hm : mtL L3 [97, 47, 98] = [1, 2] := by rw [hL3]; exact ex_match
  have hnd : ndL L3 = 5 := by rw [hL3]; exact ex_nodes
  have hlen : L3.length = 3 := by rw [hL3]; rfl
  have hni : ni [1, 2] = [1, 2] := rfl
  have P1 := Lib.hid (fun V q (h : Held w V (tT q [])) => show Calls Tryz.prog 13 #[.pointer (some ⟨q, 0, none⟩), tx [97, 47, 43], .int .i64 1] V fun e w' => e = .returned (.int .i64 0) ∧ Held w w' (tT q L1) from by
    obtain ⟨W, h1, h2⟩ := h.use
    have := A.put h1 TOk.nil [97, 47, 43] 1 (by decide) ⟨by omega, by omega⟩
    rw [p1, q1] at this
    exact this.mono fun e w' ⟨g1, g2⟩ => ⟨g1, h2 _ _ g2⟩)
  have P2 := Lib.hid (fun V q (h : Held w V (tT q L1)) => show Calls Tryz.prog 13 #[.pointer (some ⟨q, 0, none⟩), tx [97, 47, 35], .int .i64 2] V fun e w' => e = .returned (.int .i64 0) ∧ Held w w' (tT q L2) from by
    obtain ⟨W, h1, h2⟩ := h.use
    have := A.put h1 o1 [97, 47, 35] 2 (by decide) ⟨by omega, by omega⟩
    rw [p2, q2] at this
    exact this.mono fun e w' ⟨g1, g2⟩ => ⟨g1, h2 _ _ g2⟩)
  have P3 := Lib.hid (fun V q (h : Held w V (tT q L2)) => show Calls Tryz.prog 13 #[.pointer (some ⟨q, 0, none⟩), tx [98], .int .i64 1] V fun e w' => e = .returned (.int .i64 0) ∧ Held w w' (tT q L3) from by
    obtain ⟨W, h1, h2⟩ := h.use
    have := A.put h1 o2 [98] 1 (by decide) ⟨by omega, by omega⟩
    rw [p3, q3] at this
    exact this.mono fun e w' ⟨g1, g2⟩ => ⟨g1, h2 _ _ g2⟩)
  have M1 := Lib.hid (fun V q (h : Held w V (tT q L3)) => show Calls Tryz.prog 22 #[.pointer (some ⟨q, 0, none⟩), tx [97, 47, 98]] V fun e w' => OutE V [1, 2] 0 e w' ∧ Held w w' (tT q L3) from by
    obtain ⟨W, h1, h2⟩ := h.use
    have := A.mtch h1 o3 [97, 47, 98] (by decide)
    rw [hm, hni, show nmE [97, 47, 98] = 0 by decide] at this
    exact this.mono fun e w' g => ⟨g, h.still (by obtain ⟨_, _, _, _, _, _, _, g⟩ := g; exact g)⟩)
  have N1 := Lib.hid (fun V q (h : Held w V (tT q L3)) => show Calls Tryz.prog 29 #[.pointer (some ⟨q, 0, none⟩)] V fun e w' => e = .returned (.int .i64 5) ∧ Held w w' (tT q L3) from by
    obtain ⟨W, h1, h2⟩ := h.use
    have := A.nodes h1 o3
    rw [hnd] at this
    exact this.mono fun e w' ⟨g1, g2⟩ => ⟨g1, h.still g2⟩)
  have R1 := Lib.hid (fun V q (h : Held w V (tT q L3)) => show Calls Tryz.prog 24 #[.pointer (some ⟨q, 0, none⟩)] V fun e w' => e = .returned (.int .i64 3) ∧ Held w w' (tT q L3) from by
    obtain ⟨W, h1, h2⟩ := h.use
    have := A.pairs h1 o3
    rw [hlen] at this
    exact this.mono fun e w' ⟨g1, g2⟩ => ⟨g1, h.still g2⟩)
  have S1 := Lib.hid (fun V (a b : Option Addr) (n m ca cb : Nat) (hn : n = 2) (hm : m = 2) hA hB => sameI_true V a b [1, 2] n m ca cb hn hm (by decide) hA hB)
  have HM := Lib.hid (A.make w)
  unfold tx at P1 P2 P3 M1
  clear p1 p2 p3 q1 q2 q3 o1 o2 o3 hm hnd hlen hni hL1 hL2 hL3
  go_enter Tryz.func26, Tryz.ntmps26
  go_wp2_with (first
    | (go_at_call 9; ((with_reducible refine HM.out.mono ?_)); rintro e w1 ⟨q, rfl, W1, hW1, hs1, hf1⟩; have h0 := (show Held w w1 (tT q []) from ⟨W1, hW1, hf1, hs1⟩); clear hW1 hf1)
    | (go_at_call 13; ((with_reducible refine (P1.out _ _ (by assumption)).mono ?_)); rintro e w2 ⟨rfl, h2⟩)
    | (go_at_call 13; ((with_reducible refine (P2.out _ _ (by assumption)).mono ?_)); rintro e w3 ⟨rfl, h3⟩)
    | (go_at_call 13; ((with_reducible refine (P3.out _ _ (by assumption)).mono ?_)); rintro e w4 ⟨rfl, h4⟩)
    | (go_at_call 22; ((with_reducible refine (M1.out _ _ (by assumption)).mono ?_)); rintro e w5 ⟨⟨a5, n5, c5, rfl, hn5, hA5, _, hs5⟩, h5⟩; obtain rfl : n5 = 2 := hn5)
    | (go_at_call 21; ((with_reducible refine (S1.out _ _ _ _ _ _ _ rfl rfl (hA5.still ((Turned.refl _ _).alloc _)) (NumsAt.of_blk (l := [1, 2]) (Blk.new w5 [.int .i64 1, .int .i64 2] _))).mono ?_)); rintro e w6 ⟨rfl, hs6⟩; have h6 := h5.still (((Turned.refl (fun _ => False) w5).alloc _).trans hs6))
    | (go_at_call 29; ((with_reducible refine (N1.out _ _ (by assumption)).mono ?_)); rintro e w7 ⟨rfl, h7⟩)
    | (go_at_call 24; ((with_reducible refine (R1.out _ _ (by assumption)).mono ?_)); rintro e w8 ⟨rfl, h8⟩))
  go_ret
  exact ⟨by first | rfl | simp, h8.ground⟩
end Go.Proofs.YtpmkokckjieidaaGreatDoor
