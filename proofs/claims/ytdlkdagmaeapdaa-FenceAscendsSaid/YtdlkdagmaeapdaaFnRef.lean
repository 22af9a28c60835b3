/- The document's track, as it lies in memory: Peek, what skips, Commit. No condition but that it is one. -/
import Derived.Test.YtdlkdagmaeapdaaFnModel
import Derived.Test.YtdlkdagmaeapdaaLgRefAdd
namespace Go.Proofs.Ytdlkdagmaeapdaa
open Go.RowKit
set_option linter.unusedVariables false
set_option linter.unusedSimpArgs false
set_option maxRecDepth 100000

abbrev zfX (q l : Nat) (N : Int) (L : LgM) : Thing := (blkT q [.pointer (some ⟨l, 0, none⟩), .int .i64 N] 35).sep (zLT l L)
/-- The document's track. -/
def zfT (q : Nat) (M : FnM) : Thing where
  at_ w W := ∃ l, (zfX q l M.N M.L).at_ w W
  lt := by rintro w W ⟨l, h⟩; exact Thing.lt _ h
  keep := by rintro w w' W S ⟨l, h⟩ ht hs; exact ⟨l, Thing.keep _ h ht hs⟩
theorem zfcheck_any (h t : Int) (w : World) : Calls Try.prog 48 #[.int .i64 h, .int .i64 t] w fun e w' => e = .returned (.int .i64 (winE h t)) ∧ w = w' := by
  by_cases h0 : h < 0 ∨ t < h ∨ 1099511627776 < t
  · rw [show winE h t = 2 from if_pos h0]
    go_enter Try.func48, Try.ntmps48
    go_wp2_with fail
    all_goals (go_ret; exact ⟨rfl, rfl⟩)
  · have h1 : ¬ h < 0 := by omega
    have h2 : ¬ t < h := by omega
    have h3 : ¬ 1099511627776 < t := by omega
    rw [show winE h t = 0 from if_neg h0]
    clear h0
    go_enter Try.func48, Try.ntmps48
    go_wp2_with fail
    go_ret
    exact ⟨rfl, rfl⟩
section
variable {q l : Nat} {M : FnM} {w V : World} {W : Nat → Prop}
theorem zfn_cells {N : Int} {L : LgM} (h : (zfX q l N L).at_ w W) : w.cell? ⟨q, 0, none⟩ = some (.pointer (some ⟨l, 0, none⟩)) ∧ w.cell? ⟨q, 1, none⟩ = some (.int .i64 N) ∧ ∃ W1, (zLT l L).at_ w W1 := by
  obtain ⟨W1, W2, ⟨h1, _⟩, h2, _⟩ := h
  exact ⟨h1.cell rfl, h1.cell rfl, W2, h2⟩
theorem zfnpeek_any (hX : (zfT q M).at_ w W) (h t : Int) : Calls Try.prog 21 #[.pointer (some ⟨q, 0, none⟩), .int .i64 h, .int .i64 t] w fun e w' => e = .returned (.tuple #[.int .i64 (M.peekV h t), .int .i64 (M.peekE h t)]) ∧ w = w' := by
  obtain ⟨l, hX⟩ := hX
  obtain ⟨c0, c1, _⟩ := zfn_cells hX
  have HC := Lib.hid (zfcheck_any h t w)
  unfold FnM.peekV FnM.peekE
  generalize M.N = n at *
  by_cases hw : winE h t = 0
  · obtain ⟨w1, w2, w3⟩ := win_ok hw
    obtain ⟨m, hm⟩ : ∃ m, m = max n h := ⟨_, rfl⟩
    have hif : (if n < h then h else n) = m := by split <;> omega
    rw [hw] at HC
    simp only [hw, if_true]
    rw [← hm]
    clear hX hm w1 w2 w3 hw
    by_cases hp : t ≤ m
    · rw [if_pos hp, if_neg (by omega)]
      go_enter Try.func21, Try.ntmps21
      go_wp2_with (go_at_call 48; ((with_reducible refine HC.out.mono ?_)); rintro e w1 ⟨rfl, rfl⟩)
      go_ret2
      exact ⟨rfl, rfl⟩
    · rw [if_neg hp, if_pos rfl]
      go_enter Try.func21, Try.ntmps21
      go_wp2_with (go_at_call 48; ((with_reducible refine HC.out.mono ?_)); rintro e w1 ⟨rfl, rfl⟩)
      go_ret2
      exact ⟨rfl, rfl⟩
  · have hw2 : winE h t = 2 := by unfold winE at hw ⊢; split at hw <;> first | (rename_i h9; rw [if_pos h9]) | omega
    rw [hw2] at HC
    simp only [hw, if_false]
    rw [if_neg (by omega)]
    clear hX hw hw2
    go_enter Try.func21, Try.ntmps21
    go_wp2_with (go_at_call 48; ((with_reducible refine HC.out.mono ?_)); rintro e w1 ⟨rfl, rfl⟩)
    go_ret2
    exact ⟨rfl, rfl⟩
/-- What skips, of a track that is being changed: its ledger. -/
theorem zfnskip_any (hX : (zfX q l M.N M.L).at_ w W) (hM : M.L.Ok) (x : Int) : Calls Try.prog 42 #[.pointer (some ⟨q, 0, none⟩), .int .i64 x] w fun e w' => e = .returned (.int .i64 (M.skipE x)) ∧ Goes (zfX q l M.N (M.skipL x)) W w w' := by
  obtain ⟨c0, c1, _⟩ := zfn_cells hX
  obtain ⟨W1, g1, _, g2⟩ := goes_fst (sep_swap hX)
  have HEn := Lib.hid (zlgend_any g1 hM)
  have HAd := Lib.hid (fun V (hs : Still w V) => zlgadd_any (Thing.keep _ g1 hs (fun _ _ h => h)) hM x false)
  have HG := Lib.hid (fun (L : LgM) (V w' : World) (hs : Still w V) (hg : Goes (zLT l L) W1 V w') => show Goes (zfX q l M.N L) W w w' from by
    have h3 := g2 (zLT l L) w' (by
      obtain ⟨W', p1, p2, p3⟩ := hg
      exact ⟨W', p1, (hs.mono (fun _ _ h => h.elim)).trans p2, fun k hk => (p3 k hk).imp id (fun h => Nat.le_trans hs.size h)⟩)
    exact h3.turn sep_swap)
  have HG0 := Lib.hid (fun V (hs : Still w V) => show Goes (zfX q l M.N M.L) W w V from Goes.still hX hs)
  have HC := Lib.hid (fun V (hs : Still w V) => still_cell hs c0 rfl)
  unfold FnM.skipE FnM.skipL
  by_cases hx : x ≤ M.L.fin
  · rw [if_pos hx, if_pos hx]
    generalize M.L.fin = f at *
    clear hX g1 g2 HAd HG
    go_enter Try.func42, Try.ntmps42
    go_wp2_with (go_at_call 11; ((with_reducible refine HEn.out.mono ?_)); rintro e w1 ⟨rfl, hs⟩; have HS := Lib.hid hs; clear hs)
    go_ret
    exact ⟨rfl, HG0.out _ HS.out⟩
  · rw [if_neg hx, if_neg hx]
    generalize M.L.fin = f at *
    clear hX g1 g2
    go_enter Try.func42, Try.ntmps42
    go_wp2_with (first
      | (go_at_call 11; ((with_reducible refine HEn.out.mono ?_)); rintro e w1 ⟨rfl, hs⟩; have HS := Lib.hid hs; have d0 := HC.out _ hs; clear hs)
      | (go_at_call 46; ((with_reducible refine (HAd.out _ HS.out).mono ?_)); rintro e w2 ⟨rfl, hg⟩; have HG2 := Lib.hid hg; clear hg))
    go_ret
    exact ⟨rfl, HG.out _ _ _ HS.out HG2.out⟩
end
end Go.Proofs.Ytdlkdagmaeapdaa
