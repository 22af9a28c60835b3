import Derived.Test.YtdlkdagmaeapdaaFnModel
import Derived.Test.YtdlkdagmaeapdaaBdLgR
import Derived.Test.YtdlkdagmaeapdaaHeld
import Derived.Deep.DeepCutAuto
import Derived.BigRegion

/- The document's track, as it lies in memory: Peek, what skips, Commit. No condition but that it is one. -/
namespace Go.Proofs.Ytdlkdagmaeapdaa
open Go.RowKit
set_option linter.unusedVariables false
set_option linter.unusedSimpArgs false
set_option maxRecDepth 100000

abbrev zfX (q l : Nat) (N : Int) (L : LgM) : Thing := (blkT q [.pointer (some ⟨l, 0, none⟩), .int .i64 N] 35).sep (zLT l L)
/-- The document's track. -/
def zfT (q : Nat) (M : FnM) : Thing where
  at_ w W := ∃ l, (zfX q l M.N M.L).at_ w W
  lt := by rintro w W ⟨l, h⟩; exact Thing.lt _ h
  keep := by rintro w w' W S ⟨l, h⟩ ht hs; exact ⟨l, Thing.keep _ h ht hs⟩
theorem zfcheck_any (h t : Int) (w : World) : Calls Try.prog 48 #[.int .i64 h, .int .i64 t] w fun e w' => e = .returned (.int .i64 (winE h t)) ∧ w = w' := by
  by_cases h0 : h < 0 ∨ t < h ∨ 1099511627776 < t
  · rw [show winE h t = 2 from if_pos h0]
    go_enter Try.func48, Try.ntmps48
    go_wp2_with fail
    all_goals (go_ret; exact ⟨rfl, rfl⟩)
  · have h1 : ¬ h < 0 := by omega
    have h2 : ¬ t < h := by omega
    have h3 : ¬ 1099511627776 < t := by omega
    rw [show winE h t = 0 from if_neg h0]
    clear h0
    go_enter Try.func48, Try.ntmps48
    go_wp2_with fail
    go_ret
    exact ⟨rfl, rfl⟩
section
variable {q l : Nat} {M : FnM} {w V : World} {W : Nat → Prop}
theorem zfn_cells {N : Int} {L : LgM} (h : (zfX q l N L).at_ w W) : w.cell? ⟨q, 0, none⟩ = some (.pointer (some ⟨l, 0, none⟩)) ∧ w.cell? ⟨q, 1, none⟩ = some (.int .i64 N) ∧ ∃ W1, (zLT l L).at_ w W1 := by
  obtain ⟨W1, W2, ⟨h1, _⟩, h2, _⟩ := h
  exact ⟨h1.cell rfl, h1.cell rfl, W2, h2⟩
theorem zfnpeek_any (hX : (zfT q M).at_ w W) (h t : Int) : Calls Try.prog 21 #[.pointer (some ⟨q, 0, none⟩), .int .i64 h, .int .i64 t] w fun e w' => e = .returned (.tuple #[.int .i64 (M.peekV h t), .int .i64 (M.peekE h t)]) ∧ w = w' := by
  obtain ⟨l, hX⟩ := hX
  obtain ⟨c0, c1, _⟩ := zfn_cells hX
  have HC := Lib.hid (zfcheck_any h t w)
  unfold FnM.peekV FnM.peekE
  generalize M.N = n at *
  by_cases hw : winE h t = 0
  · obtain ⟨w1, w2, w3⟩ := win_ok hw
    obtain ⟨m, hm⟩ : ∃ m, m = max n h := ⟨_, rfl⟩
    have hif : (if n < h then h else n) = m := by split <;> omega
    rw [hw] at HC
    simp only [hw, if_true]
    rw [← hm]
    clear hX hm w1 w2 w3 hw
    by_cases hp : t ≤ m
    · rw [if_pos hp, if_neg (by omega)]
      go_enter Try.func21, Try.ntmps21
      go_wp2_with (go_at_call 48; ((with_reducible refine HC.out.mono ?_)); rintro e w1 ⟨rfl, rfl⟩)
      go_ret2
      exact ⟨rfl, rfl⟩
    · rw [if_neg hp, if_pos rfl]
      go_enter Try.func21, Try.ntmps21
      go_wp2_with (go_at_call 48; ((with_reducible refine HC.out.mono ?_)); rintro e w1 ⟨rfl, rfl⟩)
      go_ret2
      exact ⟨rfl, rfl⟩
  · have hw2 : winE h t = 2 := by unfold winE at hw ⊢; split at hw <;> first | (rename_i h9; rw [if_pos h9]) | omega
    rw [hw2] at HC
    simp only [hw, if_false]
    rw [if_neg (by omega)]
    clear hX hw hw2
    go_enter Try.func21, Try.ntmps21
    go_wp2_with (go_at_call 48; ((with_reducible refine HC.out.mono ?_)); rintro e w1 ⟨rfl, rfl⟩)
    go_ret2
    exact ⟨rfl, rfl⟩
/-- What skips, of a track that is being changed: its ledger. -/
theorem zfnskip_any (hX : (zfX q l M.N M.L).at_ w W) (hM : M.L.Ok) (x : Int) : Calls Try.prog 42 #[.pointer (some ⟨q, 0, none⟩), .int .i64 x] w fun e w' => e = .returned (.int .i64 (M.skipE x)) ∧ Goes (zfX q l M.N (M.skipL x)) W w w' := by
  obtain ⟨c0, c1, _⟩ := zfn_cells hX
  obtain ⟨W1, g1, _, g2⟩ := goes_fst (sep_swap hX)
  have HEn := Lib.hid (zlgend_any g1 hM)
  have HAd := Lib.hid (fun V (hs : Still w V) => zlgadd_any (Thing.keep _ g1 hs (fun _ _ h => h)) hM x false)
  have HG := Lib.hid (fun (L : LgM) (V w' : World) (hs : Still w V) (hg : Goes (zLT l L) W1 V w') => show Goes (zfX q l M.N L) W w w' from by
    have h3 := g2 (zLT l L) w' (by
      obtain ⟨W', p1, p2, p3⟩ := hg
      exact ⟨W', p1, (hs.mono (fun _ _ h => h.elim)).trans p2, fun k hk => (p3 k hk).imp id (fun h => Nat.le_trans hs.size h)⟩)
    exact h3.turn sep_swap)
  have HG0 := Lib.hid (fun V (hs : Still w V) => show Goes (zfX q l M.N M.L) W w V from Goes.still hX hs)
  have HC := Lib.hid (fun V (hs : Still w V) => still_cell hs c0 rfl)
  unfold FnM.skipE FnM.skipL
  by_cases hx : x ≤ M.L.fin
  · rw [if_pos hx, if_pos hx]
    generalize M.L.fin = f at *
    clear hX g1 g2 HAd HG
    go_enter Try.func42, Try.ntmps42
    go_wp2_with (go_at_call 11; ((with_reducible refine HEn.out.mono ?_)); rintro e w1 ⟨rfl, hs⟩; have HS := Lib.hid hs; clear hs)
    go_ret
    exact ⟨rfl, HG0.out _ HS.out⟩
  · rw [if_neg hx, if_neg hx]
    generalize M.L.fin = f at *
    clear hX g1 g2
    go_enter Try.func42, Try.ntmps42
    go_wp2_with (first
      | (go_at_call 11; ((with_reducible refine HEn.out.mono ?_)); rintro e w1 ⟨rfl, hs⟩; have HS := Lib.hid hs; have d0 := HC.out _ hs; clear hs)
      | (go_at_call 46; ((with_reducible refine (HAd.out _ HS.out).mono ?_)); rintro e w2 ⟨rfl, hg⟩; have HG2 := Lib.hid hg; clear hg))
    go_ret
    exact ⟨rfl, HG.out _ _ _ HS.out HG2.out⟩
end
end Go.Proofs.Ytdlkdagmaeapdaa

/- The document's track: Make. No condition. -/
namespace Go.Proofs.Ytdlkdagmaeapdaa
open Go.RowKit
set_option linter.unusedVariables false
set_option linter.unusedSimpArgs false
set_option maxRecDepth 100000

/-- A new track. -/
def FNew (FT : Nat → FnM → Thing) (w : World) (M : FnM) (q : Nat) (w' : World) : Prop := ∃ W, (FT q M).at_ w' W ∧ Still w w' ∧ ∀ k, W k → w.heap.size ≤ k
theorem zfnmake_no (b : Int) (w : World) (h : ¬ (0 ≤ b ∧ b ≤ 1099511627776)) : Calls Try.prog 9 #[.int .i64 b] w fun e w' => e = .returned (.tuple #[.pointer none, .int .i64 2]) ∧ Still w w' := by
  have HM := Lib.hid (zlgmake_no b w h)
  clear h
  go_enter Try.func9, Try.ntmps9
  go_wp2_with (go_at_call 40; ((with_reducible refine HM.out.mono ?_)); rintro e w1 ⟨rfl, hs⟩; have HS := Lib.hid hs; clear hs)
  go_ret2
  exact ⟨rfl, HS.out⟩
theorem zfnmake_ok (b : Int) (w : World) (h0 : 0 ≤ b) (h1 : b ≤ 1099511627776) : Calls Try.prog 9 #[.int .i64 b] w fun e w' => ∃ q, e = .returned (.tuple #[.pointer (some ⟨q, 0, none⟩), .int .i64 0]) ∧ FNew zfT w (FnM.new b) q w' := by
  have HM := Lib.hid (zlgmake_ok b w h0 h1)
  clear h0 h1
  go_enter Try.func9, Try.ntmps9
  go_wp2_with (go_at_call 40; ((with_reducible refine HM.out.mono ?_)); rintro e w1 ⟨l, rfl, hn⟩; have HN := Lib.hid hn; clear hn)
  go_ret2
  obtain ⟨W, h, hs, hlo⟩ := HN.out
  refine ⟨_, rfl, fun k => k = w1.heap.size ∨ W k, ⟨l, (· = w1.heap.size), W, ⟨Blk.new w1 [.pointer (some ⟨l, 0, none⟩), .int .i64 b] 35, fun _ => Iff.rfl⟩, Thing.keep _ h ((Turned.refl _ _).alloc _) (fun _ _ h => h), fun k e hk => ?_, fun _ => Iff.rfl⟩, hs.alloc _, fun k hk => ?_⟩
  · have := Thing.lt _ h k hk; omega
  · rcases hk with rfl | hk
    · exact hs.size
    · exact hlo k hk
end Go.Proofs.Ytdlkdagmaeapdaa

/- The document's track: Commit, Deliver. No condition but that it is one. -/
namespace Go.Proofs.Ytdlkdagmaeapdaa
open Go.RowKit
set_option linter.unusedVariables false
set_option linter.unusedSimpArgs false
set_option maxRecDepth 100000

section
variable {q l : Nat} {M : FnM} {w V : World} {W : Nat → Prop}
theorem zfncom_any (hX : (zfT q M).at_ w W) (hM : M.Ok) (x : Int) : Calls Try.prog 16 #[.pointer (some ⟨q, 0, none⟩), .int .i64 x] w fun e w' => e = .returned (.int .i64 (M.comE x)) ∧ Goes (zfT q (M.com x)) W w w' := by
  obtain ⟨l, hX⟩ := hX
  obtain ⟨c0, c1, _⟩ := zfn_cells hX
  obtain ⟨W1, g1, _, g2⟩ := goes_fst (sep_swap hX)
  have HEn := Lib.hid (zlgend_any g1 hM.led)
  have HAd := Lib.hid (fun V (hs : Still w V) => zlgadd_any (Thing.keep _ g1 hs (fun _ _ h => h)) hM.led x true)
  have HG := Lib.hid (fun (L : LgM) (V w' : World) (hs : Still w V) (hg : Goes (zLT l L) W1 V w') => show Goes (zfT q ⟨L, M.N⟩) W w w' from by
    have h3 := g2 (zLT l L) w' (by
      obtain ⟨W', p1, p2, p3⟩ := hg
      exact ⟨W', p1, (hs.mono (fun _ _ h => h.elim)).trans p2, fun k hk => (p3 k hk).imp id (fun h => Nat.le_trans hs.size h)⟩)
    exact h3.turn (fun h => ⟨l, sep_swap h⟩))
  have HG0 := Lib.hid (fun V (hs : Still w V) => show Goes (zfT q M) W w V from Goes.still (Q := zfT q M) ⟨l, hX⟩ hs)
  have HC := Lib.hid (fun V (hs : Still w V) => And.intro (still_cell hs c0 (rfl : 0 = 0)) (still_cell hs c1 (rfl : 1 = 1)))
  have HN := Lib.hid (fun (he : M.comE x ≠ 0) V (hs : Still w V) => show Goes (zfT q (M.com x)) W w V from by unfold FnM.com; rw [if_neg he]; exact HG0.out V hs)
  by_cases h1 : x < 0 ∨ 1099511627776 < x
  · have he : M.comE x = 2 := by unfold FnM.comE; rw [if_pos h1]
    rw [he] at HN ⊢
    have HE := Lib.hid (HN.out (by omega))
    clear hX g1 g2 HAd HG HEn HG0 HN he hM c0 c1
    go_enter Try.func16, Try.ntmps16
    go_wp2_with fail
    all_goals (go_ret; exact ⟨rfl, HE.out _ (Turned.refl _ _)⟩)
  · have h3 : ¬ x < 0 := by omega
    have h4 : ¬ 1099511627776 < x := by omega
    by_cases h2 : x ≤ M.L.fin ∨ M.N < x
    · have he : M.comE x = 61 := by unfold FnM.comE; rw [if_neg h1, if_pos h2]
      rw [he] at HN ⊢
      have HE := Lib.hid (HN.out (by omega))
      have h2' : x ≤ M.L.fin ∨ (¬ x ≤ M.L.fin ∧ M.N < x) := by omega
      generalize M.L.fin = f at *
      generalize M.N = n at *
      clear hX g1 g2 HAd HG HG0 HN he hM h1 h2
      rcases h2' with h5 | ⟨h5, h6⟩
      all_goals (
        go_enter Try.func16, Try.ntmps16
        go_wp2_with (go_at_call 11; ((with_reducible refine HEn.out.mono ?_)); rintro e w1 ⟨rfl, hs⟩; have HS := Lib.hid hs; obtain ⟨d0, d1⟩ := HC.out _ hs; clear hs)
        go_ret
        exact ⟨rfl, HE.out _ HS.out⟩)
    · have he : M.comE x = addE M.L x true := by unfold FnM.comE; rw [if_neg h1, if_neg h2]
      have HE := Lib.hid (fun V w' (hs : Still w V) (hg : Goes (zLT l (M.L.add x true)) W1 V w') => show Goes (zfT q (M.com x)) W w w' from by
        have h := HG.out _ V w' hs hg
        unfold FnM.com
        rw [he]
        by_cases h0 : addE M.L x true = 0
        · rw [if_pos h0]; exact h
        · rw [if_neg h0]
          rw [add_no rfl h0] at h
          exact h)
      rw [he]
      have h5 : ¬ x ≤ M.L.fin := by omega
      have h6 : ¬ M.N < x := by omega
      generalize M.L.fin = f at *
      generalize M.N = n at *
      clear hX g1 g2 HG HG0 HN he hM h1 h2
      go_enter Try.func16, Try.ntmps16
      go_wp2_with (first
        | (go_at_call 11; ((with_reducible refine HEn.out.mono ?_)); rintro e w1 ⟨rfl, hs⟩; have HS := Lib.hid hs; obtain ⟨d0, d1⟩ := HC.out _ hs; clear hs)
        | (go_at_call 46; ((with_reducible refine (HAd.out _ HS.out).mono ?_)); rintro e w2 ⟨rfl, hg⟩; have HG2 := Lib.hid hg; clear hg))
      go_ret
      exact ⟨rfl, HE.out _ _ HS.out HG2.out⟩
end
end Go.Proofs.Ytdlkdagmaeapdaa

/- The document's track: Deliver. No condition but that it is one. -/
namespace Go.Proofs.Ytdlkdagmaeapdaa
open Go.RowKit
set_option linter.unusedVariables false
set_option linter.unusedSimpArgs false
set_option maxRecDepth 100000

section
variable {q l : Nat} {M : FnM} {w V : World} {W : Nat → Prop}
/-- The next offset is told anew. -/
theorem zfn_next {N : Int} {L : LgM} (H : Sit W w V (zfX q l N L)) (x : Int) : V.cell? ⟨q, 1, none⟩ = some (.int .i64 N) ∧ V.frozen? ⟨q, 1, none⟩ = false ∧ Hid (Goes (zfT q ⟨L, x⟩) W w (V.setCell ⟨q, 1, none⟩ (.int .i64 x))) := by
  obtain ⟨h1, h2, h3⟩ := sit_row (o := 1) H rfl (.int .i64 x)
  exact ⟨h1, h2, Lib.hid (h3.out.goes.turn (fun h => ⟨l, h⟩))⟩
theorem goes_sit {A : Thing} {w' : World} (h : Goes A W w w') : Sit W w w' A := by
  obtain ⟨Q', g1, g2⟩ := h.since
  exact ⟨Q', g1, g2⟩
theorem zfndel_any (hX : (zfT q M).at_ w W) (hM : M.Ok) (h t : Int) : Calls Try.prog 14 #[.pointer (some ⟨q, 0, none⟩), .int .i64 h, .int .i64 t] w fun e w' => e = .returned (.tuple #[.int .i64 (M.delV h t), .int .i64 (M.delE h t)]) ∧ Goes (zfT q (M.del h t)) W w w' := by
  have HPk := Lib.hid (zfnpeek_any hX h t)
  have HG0 := Lib.hid (show Goes (zfT q M) W w w from Goes.still (Q := zfT q M) hX (Turned.refl _ _))
  obtain ⟨l, hX⟩ := hX
  obtain ⟨c0, c1, _⟩ := zfn_cells hX
  have HSk := Lib.hid (zfnskip_any hX hM.led h)
  have HS0 := Lib.hid (show Sit W w w (zfX q l M.N M.L) from Sit.start hX)
  by_cases hp : M.peekE h t = 0
  · obtain ⟨p1, p2, p3⟩ := peek_ok hp
    have hm0 : M.peekV h t = max M.N h := by unfold FnM.peekV; rw [if_pos hp]
    have hlo : 0 ≤ M.N := Int.le_trans (hM.led.bnd.1) (Int.le_trans hM.led.bnd.2.1 hM.lo)
    rw [hp, hm0] at HPk
    by_cases hn : M.N < h
    · rw [show max M.N h = h by omega] at HPk
      by_cases hs : M.skipE h = 0
      · have hE : M.delE h t = 0 := by unfold FnM.delE; rw [if_pos hp, if_pos hn]; exact hs
        rw [show M.delV h t = h by unfold FnM.delV; rw [if_pos hE]; omega, hE, show M.del h t = ⟨M.skipL h, h + 1⟩ by unfold FnM.del; rw [if_pos hE, if_pos hn]]
        rw [hs] at HSk
        have hh1 : h ≤ 1099511627775 := by omega
        generalize M.skipL h = L2 at *
        generalize M.N = n at *
        clear hX HG0 HS0 hM hp hm0 hs hE p2 p3
        go_enter Try.func14, Try.ntmps14
        go_wp2_with (first
          | (go_at_call 21; ((with_reducible refine HPk.out.mono ?_)); rintro e w1 ⟨rfl, rfl⟩)
          | (go_at_call 42; ((with_reducible refine HSk.out.mono ?_)); rintro e w2 ⟨rfl, hg⟩; obtain ⟨d1, d2, HG⟩ := zfn_next (goes_sit hg) (h + 1); clear hg))
        go_ret2
        exact ⟨rfl, HG.out⟩
      · have hE : M.delE h t = M.skipE h := by unfold FnM.delE; rw [if_pos hp, if_pos hn]
        have hL : M.skipL h = M.L := by
          unfold FnM.skipE at hs
          unfold FnM.skipL
          by_cases hf : h ≤ M.L.fin
          · rw [if_pos hf]
          · rw [if_neg hf] at hs ⊢; exact add_no rfl hs
        rw [show M.delV h t = 0 by unfold FnM.delV; rw [hE, if_neg hs], show M.del h t = M by unfold FnM.del; rw [hE, if_neg hs], hE]
        have hsb : (M.skipE h != 0) = true := by rw [bne_iff_ne]; exact hs
        have HF := Lib.hid (fun w' (hg : Goes (zfX q l M.N (M.skipL h)) W w w') => show Goes (zfT q M) W w w' from by
          rw [hL] at hg; exact hg.turn (fun h => ⟨l, h⟩))
        generalize M.skipE h = se at *
        generalize M.skipL h = L2 at *
        generalize M.N = n at *
        clear hX HG0 HS0 hM hp hm0 hE p2 p3 hL
        go_enter Try.func14, Try.ntmps14
        go_wp2_with (first
          | (go_at_call 21; ((with_reducible refine HPk.out.mono ?_)); rintro e w1 ⟨rfl, rfl⟩)
          | (go_at_call 42; ((with_reducible refine HSk.out.mono ?_)); rintro e w2 ⟨rfl, hg⟩; have HG := Lib.hid (HF.out _ hg); clear hg))
        go_ret2
        exact ⟨rfl, HG.out⟩
    · rw [show max M.N h = M.N by omega] at HPk
      have hE : M.delE h t = 0 := by unfold FnM.delE; rw [if_pos hp, if_neg hn]
      rw [show M.delV h t = M.N by unfold FnM.delV; rw [if_pos hE]; omega, hE, show M.del h t = ⟨M.L, M.N + 1⟩ by unfold FnM.del; rw [if_pos hE, if_neg hn]]
      have hh1 : M.N ≤ 1099511627775 := by omega
      obtain ⟨d1, d2, HG⟩ := zfn_next HS0.out (M.N + 1)
      generalize M.N = n at *
      clear hX HG0 HS0 HSk hM hp hm0 hE p2 p3
      go_enter Try.func14, Try.ntmps14
      go_wp2_with (go_at_call 21; ((with_reducible refine HPk.out.mono ?_)); rintro e w1 ⟨rfl, rfl⟩)
      go_ret2
      exact ⟨rfl, HG.out⟩
  · have hE : M.delE h t = M.peekE h t := by unfold FnM.delE; rw [if_neg hp]
    rw [show M.delV h t = 0 by unfold FnM.delV; rw [hE, if_neg hp], show M.del h t = M by unfold FnM.del; rw [hE, if_neg hp], hE]
    have hpb : (M.peekE h t != 0) = true := by rw [bne_iff_ne]; exact hp
    generalize M.peekE h t = pe at *
    generalize M.peekV h t = pv at *
    clear hX HSk HS0 hM hE c0 c1
    go_enter Try.func14, Try.ntmps14
    go_wp2_with (go_at_call 21; ((with_reducible refine HPk.out.mono ?_)); rintro e w1 ⟨rfl, rfl⟩)
    go_ret2
    exact ⟨rfl, HG0.out⟩
end
end Go.Proofs.Ytdlkdagmaeapdaa

/- The document's track: Seek. No condition but that it is one. -/
namespace Go.Proofs.Ytdlkdagmaeapdaa
open Go.RowKit
set_option linter.unusedVariables false
set_option linter.unusedSimpArgs false
set_option maxRecDepth 100000

section
variable {q l : Nat} {M : FnM} {w V : World} {W : Nat → Prop}
set_option maxHeartbeats 2000000 in
theorem zfnseek_any (hX : (zfT q M).at_ w W) (hM : M.Ok) (x h t : Int) : Calls Try.prog 18 #[.pointer (some ⟨q, 0, none⟩), .int .i64 x, .int .i64 h, .int .i64 t] w fun e w' => e = .returned (.int .i64 (M.seekE x h t)) ∧ Goes (zfT q (M.seek x h t)) W w w' := by
  have HCk := Lib.hid (zfcheck_any h t w)
  have HG0 := Lib.hid (fun V (hs : Still w V) => show Goes (zfT q M) W w V from Goes.still (Q := zfT q M) hX hs)
  have HNo := Lib.hid (fun (he : M.seekE x h t ≠ 0) V (hs : Still w V) => show Goes (zfT q (M.seek x h t)) W w V from by unfold FnM.seek; rw [if_neg he]; exact HG0.out V hs)
  obtain ⟨l, hX⟩ := hX
  obtain ⟨c0, c1, W1, hz⟩ := zfn_cells hX
  have HEn := Lib.hid (zlgend_any hz hM.led)
  have HS0 := Lib.hid (fun V (hs : Still w V) => show Sit W w V (zfX q l M.N M.L) from (Sit.start hX).still hs)
  have HC := Lib.hid (fun V (hs : Still w V) => And.intro (still_cell hs c0 (rfl : 0 = 0)) (still_cell hs c1 (rfl : 1 = 1)))
  have HSk := Lib.hid (fun V (H : Sit W w V (zfX q l M.N M.L)) => show Calls Try.prog 42 #[.pointer (some ⟨q, 0, none⟩), .int .i64 x] V fun e w' => e = .returned (.int .i64 (M.skipE x)) ∧ Sit W w w' (zfX q l M.N (M.skipL x)) from by
    obtain ⟨U, h1, h2⟩ := H.use
    exact (zfnskip_any h1 hM.led x).mono fun e w' ⟨he, hg⟩ => ⟨he, h2 _ _ hg⟩)
  by_cases hw : winE h t = 0
  · rw [hw] at HCk
    by_cases h1 : x < 0 ∨ 1099511627776 < x
    · have hE : M.seekE x h t = 2 := by unfold FnM.seekE; rw [if_pos hw, if_pos h1]
      rw [hE] at HNo ⊢
      have HE := Lib.hid (HNo.out (by omega))
      have h1' : x < 0 ∨ (¬ x < 0 ∧ 1099511627776 < x) := by omega
      clear hX HG0 HNo HEn HSk HS0 HC hM hE hw h1 hz c0 c1
      rcases h1' with h5 | ⟨h5, h6⟩
      all_goals (
        go_enter Try.func18, Try.ntmps18
        go_wp2_with (go_at_call 48; ((with_reducible refine HCk.out.mono ?_)); rintro e w1 ⟨rfl, rfl⟩)
        go_ret
        exact ⟨rfl, HE.out _ (Turned.refl _ _)⟩)
    · have h3 : ¬ x < 0 := by omega
      have h4 : ¬ 1099511627776 < x := by omega
      by_cases h2 : x < h ∨ t < x ∨ x < M.L.fin
      · have hE : M.seekE x h t = 61 := by unfold FnM.seekE; rw [if_pos hw, if_neg h1, if_pos h2]
        rw [hE] at HNo ⊢
        have HE := Lib.hid (HNo.out (by omega))
        have h2' : x < h ∨ (¬ x < h ∧ t < x) ∨ (¬ x < h ∧ ¬ t < x ∧ x < M.L.fin) := by omega
        generalize M.L.fin = f at *
        clear hX HG0 HNo HSk HS0 HC hM hE hw h1 h2 hz
        rcases h2' with h5 | ⟨h5, h6⟩ | ⟨h5, h6, h7⟩
        case' inl => have HP := HE
        all_goals (
          go_enter Try.func18, Try.ntmps18
          go_wp2_with (first
            | (go_at_call 48; ((with_reducible refine HCk.out.mono ?_)); rintro e w1 ⟨rfl, rfl⟩)
            | (go_at_call 11; ((with_reducible refine HEn.out.mono ?_)); rintro e w2 ⟨rfl, hs⟩; have HS := Lib.hid (HE.out _ hs); clear hs))
          go_ret
          first
            | exact ⟨rfl, HS.out⟩
            | exact ⟨rfl, HE.out _ (Turned.refl _ _)⟩)
      · have h5 : ¬ x < h := by omega
        have h6 : ¬ t < x := by omega
        have h7 : ¬ x < M.L.fin := by omega
        by_cases hn : M.N < x
        · have hE : M.seekE x h t = M.skipE x := by unfold FnM.seekE; rw [if_pos hw, if_neg h1, if_neg h2, if_pos hn]
          by_cases hs : M.skipE x = 0
          · rw [hE, hs, show M.seek x h t = ⟨M.skipL x, x⟩ by unfold FnM.seek; rw [hE, if_pos hs, if_pos hn]]
            rw [hs] at HSk
            generalize M.skipL x = L2 at *
            generalize M.L.fin = f at *
            generalize M.N = n at *
            clear hX HG0 HNo hM hE hw h1 h2 hz hs
            go_enter Try.func18, Try.ntmps18
            go_wp2_with (first
              | (go_at_call 48; ((with_reducible refine HCk.out.mono ?_)); rintro e w1 ⟨rfl, rfl⟩)
              | (go_at_call 11; ((with_reducible refine HEn.out.mono ?_)); rintro e w2 ⟨rfl, hs⟩; have HS := Lib.hid (HS0.out _ hs); obtain ⟨e0, e1⟩ := HC.out _ hs; clear hs)
              | (go_at_call 42; ((with_reducible refine (HSk.out _ HS.out).mono ?_)); rintro e w3 ⟨rfl, hg⟩; obtain ⟨d1, d2, HG⟩ := zfn_next hg x; clear hg))
            go_ret
            exact ⟨rfl, HG.out⟩
          · have hL : M.skipL x = M.L := by
              unfold FnM.skipE at hs
              unfold FnM.skipL
              by_cases hf : x ≤ M.L.fin
              · rw [if_pos hf]
              · rw [if_neg hf] at hs ⊢; exact add_no rfl hs
            rw [hE, show M.seek x h t = M by unfold FnM.seek; rw [hE, if_neg hs]]
            have hsb : (M.skipE x != 0) = true := by rw [bne_iff_ne]; exact hs
            have HF := Lib.hid (fun w' (hg : Sit W w w' (zfX q l M.N (M.skipL x))) => show Goes (zfT q M) W w w' from by
              rw [hL] at hg; exact hg.goes.turn (fun h => ⟨l, h⟩))
            generalize M.skipE x = se at *
            generalize M.skipL x = L2 at *
            generalize M.L.fin = f at *
            generalize M.N = n at *
            clear hX HG0 HNo hM hE hw h1 h2 hz hL
            go_enter Try.func18, Try.ntmps18
            go_wp2_with (first
              | (go_at_call 48; ((with_reducible refine HCk.out.mono ?_)); rintro e w1 ⟨rfl, rfl⟩)
              | (go_at_call 11; ((with_reducible refine HEn.out.mono ?_)); rintro e w2 ⟨rfl, hs⟩; have HS := Lib.hid (HS0.out _ hs); obtain ⟨e0, e1⟩ := HC.out _ hs; clear hs)
              | (go_at_call 42; ((with_reducible refine (HSk.out _ HS.out).mono ?_)); rintro e w3 ⟨rfl, hg⟩; have HG := Lib.hid (HF.out _ hg); clear hg))
            go_ret
            exact ⟨rfl, HG.out⟩
        · have hE : M.seekE x h t = 0 := by unfold FnM.seekE; rw [if_pos hw, if_neg h1, if_neg h2, if_neg hn]
          rw [hE, show M.seek x h t = ⟨M.L, x⟩ by unfold FnM.seek; rw [hE, if_pos rfl, if_neg hn]]
          generalize M.L.fin = f at *
          generalize M.N = n at *
          clear hX HG0 HNo HSk hM hE hw h1 h2 hz
          go_enter Try.func18, Try.ntmps18
          go_wp2_with (first
            | (go_at_call 48; ((with_reducible refine HCk.out.mono ?_)); rintro e w1 ⟨rfl, rfl⟩)
            | (go_at_call 11; ((with_reducible refine HEn.out.mono ?_)); rintro e w2 ⟨rfl, hs⟩; obtain ⟨e0, e1⟩ := HC.out _ hs; obtain ⟨d1, d2, HG⟩ := zfn_next (HS0.out _ hs) x; clear hs))
          go_ret
          exact ⟨rfl, HG.out⟩
  · have hw2 : winE h t = 2 := by unfold winE at hw ⊢; split at hw <;> first | (rename_i h9; rw [if_pos h9]) | omega
    have hE : M.seekE x h t = 2 := by unfold FnM.seekE; rw [if_neg hw]
    rw [hE] at HNo ⊢
    rw [hw2] at HCk
    have HE := Lib.hid (HNo.out (by omega))
    clear hX HG0 HNo HEn HSk HS0 HC hM hE hw hw2 hz c0 c1
    go_enter Try.func18, Try.ntmps18
    go_wp2_with (go_at_call 48; ((with_reducible refine HCk.out.mono ?_)); rintro e w1 ⟨rfl, rfl⟩)
    go_ret
    exact ⟨rfl, HE.out _ (Turned.refl _ _)⟩
end
end Go.Proofs.Ytdlkdagmaeapdaa

/- What the statements of layer 18 want of the program's track, told of the plain one: one word for each call; what works does. No condition but the words. -/
namespace Go.Proofs.Ytdlkdagmaeapdaa
open Go.RowKit
set_option linter.unusedVariables false
set_option linter.unusedSimpArgs false
set_option maxRecDepth 100000

structure FenceApi (FT : Nat → FnM → Thing) (LT : Nat → LgM → Thing) : Prop where
  make_no : ∀ (b : Int) (w : World), ¬ (0 ≤ b ∧ b ≤ 1099511627776) → Calls Try.prog 8 #[.int .i64 b] w fun e w' => e = .returned (.tuple #[.pointer none, .int .i64 2]) ∧ Still w w'
  make_ok : ∀ (b : Int) (w : World), 0 ≤ b → b ≤ 1099511627776 → Calls Try.prog 8 #[.int .i64 b] w fun e w' => ∃ q, e = .returned (.tuple #[.pointer (some ⟨q, 0, none⟩), .int .i64 0]) ∧ FNew FT w (FnM.new b) q w'
  peek : ∀ {w : World} {W : Nat → Prop} {q : Nat} {M : FnM}, (FT q M).at_ w W → M.Ok → ∀ h t : Int, -9223372036854775808 ≤ h → h ≤ 9223372036854775807 → -9223372036854775808 ≤ t → t ≤ 9223372036854775807 →
    Calls Try.prog 20 #[.pointer (some ⟨q, 0, none⟩), .int .i64 h, .int .i64 t] w fun e w' => e = .returned (.tuple #[.int .i64 (M.peekV h t), .int .i64 (M.peekE h t)]) ∧ Still w w'
  del : ∀ {w : World} {W : Nat → Prop} {q : Nat} {M : FnM}, (FT q M).at_ w W → M.Ok → ∀ h t : Int, -9223372036854775808 ≤ h → h ≤ 9223372036854775807 → -9223372036854775808 ≤ t → t ≤ 9223372036854775807 →
    Calls Try.prog 13 #[.pointer (some ⟨q, 0, none⟩), .int .i64 h, .int .i64 t] w fun e w' => e = .returned (.tuple #[.int .i64 (M.delV h t), .int .i64 (M.delE h t)]) ∧ Goes (FT q (M.del h t)) W w w'
  com : ∀ {w : World} {W : Nat → Prop} {q : Nat} {M : FnM}, (FT q M).at_ w W → M.Ok → ∀ x : Int, -9223372036854775808 ≤ x → x ≤ 9223372036854775807 →
    Calls Try.prog 15 #[.pointer (some ⟨q, 0, none⟩), .int .i64 x] w fun e w' => e = .returned (.int .i64 (M.comE x)) ∧ Goes (FT q (M.com x)) W w w'
  seek : ∀ {w : World} {W : Nat → Prop} {q : Nat} {M : FnM}, (FT q M).at_ w W → M.Ok → ∀ x h t : Int, -9223372036854775808 ≤ x → x ≤ 9223372036854775807 → -9223372036854775808 ≤ h → h ≤ 9223372036854775807 → -9223372036854775808 ≤ t → t ≤ 9223372036854775807 →
    Calls Try.prog 17 #[.pointer (some ⟨q, 0, none⟩), .int .i64 x, .int .i64 h, .int .i64 t] w fun e w' => e = .returned (.int .i64 (M.seekE x h t)) ∧ Goes (FT q (M.seek x h t)) W w w'
  back : ∀ {w : World} {W : Nat → Prop} {q : Nat} {M : FnM}, (FT q M).at_ w W → M.Ok →
    Calls Try.prog 19 #[.pointer (some ⟨q, 0, none⟩)] w fun e w' => e = .returned (.tuple #[]) ∧ Goes (FT q M.back) W w w'
  next : ∀ {w : World} {W : Nat → Prop} {q : Nat} {M : FnM}, (FT q M).at_ w W → M.Ok →
    Calls Try.prog 25 #[.pointer (some ⟨q, 0, none⟩)] w fun e w' => e = .returned (.int .i64 M.N) ∧ Still w w'
  committed : ∀ {w : World} {W : Nat → Prop} {q : Nat} {M : FnM}, (FT q M).at_ w W → M.Ok →
    Calls Try.prog 23 #[.pointer (some ⟨q, 0, none⟩)] w fun e w' => e = .returned (.int .i64 M.L.fin) ∧ Still w w'
  ledger : ∀ {w : World} {W : Nat → Prop} {q : Nat} {M : FnM}, (FT q M).at_ w W → M.Ok →
    Calls Try.prog 26 #[.pointer (some ⟨q, 0, none⟩)] w fun e w' => ∃ q', e = .returned (.pointer (some ⟨q', 0, none⟩)) ∧ LNew LT w M.L q' w'
section
variable {FT : Nat → FnM → Thing} {LT : Nat → LgM → Thing} {w0 w : World} {q : Nat} {M : FnM} {R : Thing}
theorem Held.delF (A : FenceApi FT LT) (H : Held w0 w ((FT q M).sep R)) (hM : M.Ok) {h t v r : Int} {M' : FnM} (h1 : -9223372036854775808 ≤ h) (h2 : h ≤ 9223372036854775807) (h3 : -9223372036854775808 ≤ t) (h4 : t ≤ 9223372036854775807) (hv : M.delV h t = v) (he : M.delE h t = r) (hm : M.del h t = M') :
    Calls Try.prog 13 #[.pointer (some ⟨q, 0, none⟩), .int .i64 h, .int .i64 t] w fun e w' => e = .returned (.tuple #[.int .i64 v, .int .i64 r]) ∧ Held w0 w' ((FT q M').sep R) := by
  subst hv he hm; exact H.call (fun _ h' => A.del h' hM h t h1 h2 h3 h4)
theorem Held.comF (A : FenceApi FT LT) (H : Held w0 w ((FT q M).sep R)) (hM : M.Ok) {x r : Int} {M' : FnM} (h1 : -9223372036854775808 ≤ x) (h2 : x ≤ 9223372036854775807) (he : M.comE x = r) (hm : M.com x = M') :
    Calls Try.prog 15 #[.pointer (some ⟨q, 0, none⟩), .int .i64 x] w fun e w' => e = .returned (.int .i64 r) ∧ Held w0 w' ((FT q M').sep R) := by
  subst he hm; exact H.call (fun _ h' => A.com h' hM x h1 h2)
theorem Held.seekF (A : FenceApi FT LT) (H : Held w0 w ((FT q M).sep R)) (hM : M.Ok) {x h t r : Int} {M' : FnM} (x1 : -9223372036854775808 ≤ x) (x2 : x ≤ 9223372036854775807) (h1 : -9223372036854775808 ≤ h) (h2 : h ≤ 9223372036854775807) (h3 : -9223372036854775808 ≤ t) (h4 : t ≤ 9223372036854775807) (he : M.seekE x h t = r) (hm : M.seek x h t = M') :
    Calls Try.prog 17 #[.pointer (some ⟨q, 0, none⟩), .int .i64 x, .int .i64 h, .int .i64 t] w fun e w' => e = .returned (.int .i64 r) ∧ Held w0 w' ((FT q M').sep R) := by
  subst he hm; exact H.call (fun _ h' => A.seek h' hM x h t x1 x2 h1 h2 h3 h4)
theorem Held.backF (A : FenceApi FT LT) (H : Held w0 w ((FT q M).sep R)) (hM : M.Ok) :
    Calls Try.prog 19 #[.pointer (some ⟨q, 0, none⟩)] w fun e w' => e = .returned (.tuple #[]) ∧ Held w0 w' ((FT q M.back).sep R) := H.call (fun _ h' => A.back h' hM)
theorem Held.peekF (A : FenceApi FT LT) (H : Held w0 w ((FT q M).sep R)) (hM : M.Ok) {h t v r : Int} (h1 : -9223372036854775808 ≤ h) (h2 : h ≤ 9223372036854775807) (h3 : -9223372036854775808 ≤ t) (h4 : t ≤ 9223372036854775807) (hv : M.peekV h t = v) (he : M.peekE h t = r) :
    Calls Try.prog 20 #[.pointer (some ⟨q, 0, none⟩), .int .i64 h, .int .i64 t] w fun e w' => e = .returned (.tuple #[.int .i64 v, .int .i64 r]) ∧ Still w w' := by
  subst hv he; obtain ⟨_, h', _⟩ := H.fst; exact A.peek h' hM h t h1 h2 h3 h4
theorem Held.nextF (A : FenceApi FT LT) (H : Held w0 w ((FT q M).sep R)) (hM : M.Ok) {f : Int} (hf : M.N = f) :
    Calls Try.prog 25 #[.pointer (some ⟨q, 0, none⟩)] w fun e w' => e = .returned (.int .i64 f) ∧ Still w w' := by
  subst hf; obtain ⟨_, h, _⟩ := H.fst; exact A.next h hM
theorem Held.cmdF (A : FenceApi FT LT) (H : Held w0 w ((FT q M).sep R)) (hM : M.Ok) {f : Int} (hf : M.L.fin = f) :
    Calls Try.prog 23 #[.pointer (some ⟨q, 0, none⟩)] w fun e w' => e = .returned (.int .i64 f) ∧ Still w w' := by
  subst hf; obtain ⟨_, h, _⟩ := H.fst; exact A.committed h hM
theorem Held.ledF (A : FenceApi FT LT) (H : Held w0 w ((FT q M).sep R)) (hM : M.Ok) :
    Calls Try.prog 26 #[.pointer (some ⟨q, 0, none⟩)] w fun e w' => ∃ q', e = .returned (.pointer (some ⟨q', 0, none⟩)) ∧ Held w0 w' ((LT q' M.L).sep ((FT q M).sep R)) := by
  obtain ⟨_, h, _⟩ := H.fst
  exact (A.ledger h hM).mono fun e w' ⟨q', he, hn⟩ => ⟨q', he, H.new hn⟩
end

def f18a : FnM := ⟨⟨0, []⟩, 1⟩
def f18b : FnM := ⟨⟨0, [(0, 3, false)]⟩, 4⟩
def f18c : FnM := ⟨⟨0, [(0, 3, false), (3, 4, true)]⟩, 4⟩
set_option maxHeartbeats 2000000 in
theorem works18 {FT : Nat → FnM → Thing} {LT : Nat → LgM → Thing} (A : FenceApi FT LT) (w : World) : Calls Try.prog 10 #[] w fun e w' => e = .returned (.bool true) ∧ Still w w' := by
  have o0 : (FnM.new 0).Ok := FnM.new_ok (by omega) (by omega)
  have HMk := Lib.hid (A.make_ok 0 w (by omega) (by omega))
  have H1 := Lib.hid (fun (V : World) (q : Nat) (H : Held w V ((FT q (FnM.new 0)).sep Thing.none)) => Held.delF A H o0 (h := 0) (t := 5) (v := 0) (r := 0) (M' := f18a) (by omega) (by omega) (by omega) (by omega) (by rfl) (by rfl) (by rfl))
  have o1 : f18a.Ok := o0.del 0 5
  have H2 := Lib.hid (fun (V : World) (q : Nat) (H : Held w V ((FT q f18a).sep Thing.none)) => Held.delF A H o1 (h := 3) (t := 5) (v := 3) (r := 0) (M' := f18b) (by omega) (by omega) (by omega) (by omega) (by rfl) (by rfl) (by rfl))
  have o2 : f18b.Ok := o1.del 3 5
  have H3 := Lib.hid (fun (V : World) (q : Nat) (H : Held w V ((FT q f18b).sep Thing.none)) => Held.cmdF A H o2 (f := 3) (by rfl))
  have H4 := Lib.hid (fun (V : World) (q : Nat) (H : Held w V ((FT q f18b).sep Thing.none)) => Held.comF A H o2 (x := 4) (r := 0) (M' := f18c) (by omega) (by omega) (by rfl) (by rfl))
  have o3 : f18c.Ok := o2.com 4
  have H5 := Lib.hid (fun (V : World) (q : Nat) (H : Held w V ((FT q f18c).sep Thing.none)) => Held.comF A H o3 (x := 5) (r := 61) (M' := f18c) (by omega) (by omega) (by rfl) (by rfl))
  have H6 := Lib.hid (fun (V : World) (q : Nat) (H : Held w V ((FT q f18c).sep Thing.none)) => Held.nextF A H o3 (f := 4) (by rfl))
  clear o0 o1 o2 o3
  go_enter Try.func10, Try.ntmps10
  go_wp2_with (first
    | (go_at_call 8; ((with_reducible refine HMk.out.mono ?_)); rintro e w1 ⟨q, rfl, hN⟩; have K1 := Lib.hid ((Held.start (Turned.refl _ w)).new hN); clear hN)
    | (go_at_call 13; ((with_reducible refine (H1.out _ _ K1.out).mono ?_)); rintro e w2 ⟨rfl, k2⟩; have K2 := Lib.hid k2; clear k2 K1)
    | (go_at_call 13; ((with_reducible refine (H2.out _ _ K2.out).mono ?_)); rintro e w3 ⟨rfl, k3⟩; have K3 := Lib.hid k3; clear k3 K2)
    | (go_at_call 23; ((with_reducible refine (H3.out _ _ K3.out).mono ?_)); rintro e w4 ⟨rfl, hs⟩; have K4 := Lib.hid (K3.out.still hs); clear hs K3)
    | (go_at_call 15; ((with_reducible refine (H4.out _ _ K4.out).mono ?_)); rintro e w5 ⟨rfl, k5⟩; have K5 := Lib.hid k5; clear k5 K4)
    | (go_at_call 15; ((with_reducible refine (H5.out _ _ K5.out).mono ?_)); rintro e w6 ⟨rfl, k6⟩; have K6 := Lib.hid k6; clear k6 K5)
    | (go_at_call 25; ((with_reducible refine (H6.out _ _ K6.out).mono ?_)); rintro e w7 ⟨rfl, hs⟩; have K7 := Lib.hid (K6.out.still hs); clear hs K6))
  go_ret
  exact ⟨by first | rfl | simp, K7.out.ground⟩
end Go.Proofs.Ytdlkdagmaeapdaa
