/- The program's track, as it lies in memory: a box, and its ledger beside; made, isOffset, isWindow, Peek, goTo. No condition but that it is one. -/
import Derived.Test.YtdlkdagmaeapdaaFnMk
import Derived.Test.YtdlkdagmaeapdaaFnDel
import Derived.Test.YtdlkdagmaeapdaaLgIs
import Derived.BigQuiet
namespace Go.Proofs.Ytdlkdagmaeapdaa
open Go.RowKit
set_option linter.unusedVariables false
set_option linter.unusedSimpArgs false
set_option maxRecDepth 100000

abbrev fnX (q l : Nat) (N : Int) (L : LgM) : Thing := (blkT q [.pointer (some ⟨l, 0, none⟩), .int .i64 N] 71).sep (lgT l L)
/-- The program's track. -/
def fnT (q : Nat) (M : FnM) : Thing where
  at_ w W := ∃ l, (fnX q l M.N M.L).at_ w W
  lt := by rintro w W ⟨l, h⟩; exact Thing.lt _ h
  keep := by rintro w w' W S ⟨l, h⟩ ht hs; exact ⟨l, Thing.keep _ h ht hs⟩
theorem fnoff_any (x : Int) (w : World) : Calls Try.prog 44 #[.int .i64 x] w fun e w' => e = .returned (.bool (decide (0 ≤ x ∧ x ≤ 1099511627776))) ∧ w = w' := by
  by_cases h0 : 0 ≤ x
  · by_cases h1 : x ≤ 1099511627776
    · rw [decide_eq_true (And.intro h0 h1)]
      go_enter Try.func44, Try.ntmps44
      go_wp2_with fail
      go_ret
      exact ⟨by first | rfl | (simp; done) | (simp; omega), rfl⟩
    · rw [decide_eq_false (fun h => h1 h.2)]
      go_enter Try.func44, Try.ntmps44
      go_wp2_with fail
      go_ret
      exact ⟨by first | rfl | (simp; done) | (simp; omega), rfl⟩
  · rw [decide_eq_false (fun h => h0 h.1)]
    go_enter Try.func44, Try.ntmps44
    go_wp2_with fail
    go_ret
    exact ⟨by first | rfl | (simp; done) | (simp; omega), rfl⟩
theorem fnwin_any (h t : Int) (w : World) : Calls Try.prog 47 #[.int .i64 h, .int .i64 t] w fun e w' => e = .returned (.bool (decide (winE h t = 0))) ∧ w = w' := by
  have H1 := Lib.hid (fnoff_any h w)
  have H2 := Lib.hid (fnoff_any t w)
  by_cases h1 : 0 ≤ h ∧ h ≤ 1099511627776
  · rw [decide_eq_true h1] at H1
    by_cases h2 : 0 ≤ t ∧ t ≤ 1099511627776
    · rw [decide_eq_true h2] at H2
      by_cases h3 : h ≤ t
      · rw [decide_eq_true (show winE h t = 0 from if_neg (by omega))]
        clear h1 h2
        go_enter Try.func47, Try.ntmps47
        go_wp2_with (go_at_call 44; (first | ((with_reducible refine H1.out.mono ?_)) | ((with_reducible refine H2.out.mono ?_))); rintro e w1 ⟨rfl, rfl⟩)
        go_ret
        exact ⟨by first | rfl | (simp; done) | (simp; omega), rfl⟩
      · rw [decide_eq_false (show ¬ winE h t = 0 by unfold winE; rw [if_pos (by omega)]; omega)]
        clear h1 h2
        go_enter Try.func47, Try.ntmps47
        go_wp2_with (go_at_call 44; (first | ((with_reducible refine H1.out.mono ?_)) | ((with_reducible refine H2.out.mono ?_))); rintro e w1 ⟨rfl, rfl⟩)
        go_ret
        exact ⟨by first | rfl | (simp; done) | (simp; omega), rfl⟩
    · rw [decide_eq_false h2] at H2
      rw [decide_eq_false (show ¬ winE h t = 0 by unfold winE; rw [if_pos (by omega)]; omega)]
      clear h1 h2
      go_enter Try.func47, Try.ntmps47
      go_wp2_with (go_at_call 44; (first | ((with_reducible refine H1.out.mono ?_)) | ((with_reducible refine H2.out.mono ?_))); rintro e w1 ⟨rfl, rfl⟩)
      go_ret
      exact ⟨by first | rfl | (simp; done) | (simp; omega), rfl⟩
  · rw [decide_eq_false h1] at H1
    rw [decide_eq_false (show ¬ winE h t = 0 by unfold winE; rw [if_pos (by omega)]; omega)]
    clear h1
    go_enter Try.func47, Try.ntmps47
    go_wp2_with (go_at_call 44; ((with_reducible refine H1.out.mono ?_)); rintro e w1 ⟨rfl, rfl⟩)
    go_ret
    exact ⟨by first | rfl | (simp; done) | (simp; omega), rfl⟩
section
variable {q l : Nat} {M : FnM} {w V : World} {W : Nat → Prop}
theorem fn_cells {N : Int} {L : LgM} (h : (fnX q l N L).at_ w W) : w.cell? ⟨q, 0, none⟩ = some (.pointer (some ⟨l, 0, none⟩)) ∧ w.cell? ⟨q, 1, none⟩ = some (.int .i64 N) ∧ ∃ W1, (lgT l L).at_ w W1 := by
  obtain ⟨W1, W2, ⟨h1, _⟩, h2, _⟩ := h
  exact ⟨h1.cell rfl, h1.cell rfl, W2, h2⟩
theorem fnmade_any (h : (fnT q M).at_ w W) : Calls Try.prog 43 #[.pointer (some ⟨q, 0, none⟩)] w fun e w' => e = .returned (.bool true) ∧ w = w' := by
  obtain ⟨l, h⟩ := h
  obtain ⟨c0, _, _⟩ := fn_cells h
  clear h
  go_enter Try.func43, Try.ntmps43
  go_wp2_with fail
  go_ret
  exact ⟨by first | rfl | (simp; done) | (simp; omega), rfl⟩
theorem fnpeek_any (hX : (fnT q M).at_ w W) (h t : Int) : Calls Try.prog 20 #[.pointer (some ⟨q, 0, none⟩), .int .i64 h, .int .i64 t] w fun e w' => e = .returned (.tuple #[.int .i64 (M.peekV h t), .int .i64 (M.peekE h t)]) ∧ w = w' := by
  have HMd := Lib.hid (fnmade_any hX)
  obtain ⟨l, hX⟩ := hX
  obtain ⟨c0, c1, _⟩ := fn_cells hX
  have HC := Lib.hid (fnwin_any h t w)
  unfold FnM.peekV FnM.peekE
  generalize M.N = n at *
  by_cases hw : winE h t = 0
  · obtain ⟨w1, w2, w3⟩ := win_ok hw
    obtain ⟨m, hm⟩ : ∃ m, m = max n h := ⟨_, rfl⟩
    have hif : (if n < h then h else n) = m := by split <;> omega
    rw [decide_eq_true hw] at HC
    simp only [hw, if_true]
    rw [← hm]
    clear hX hm w1 w2 w3 hw
    by_cases hp : t ≤ m
    · rw [if_pos hp, if_neg (by omega)]
      go_enter Try.func20, Try.ntmps20
      go_wp2_with (first
        | (go_at_call 43; ((with_reducible refine HMd.out.mono ?_)); rintro e w1 ⟨rfl, rfl⟩)
        | (go_at_call 47; ((with_reducible refine HC.out.mono ?_)); rintro e w1 ⟨rfl, rfl⟩))
      go_ret2
      exact ⟨rfl, rfl⟩
    · rw [if_neg hp, if_pos rfl]
      go_enter Try.func20, Try.ntmps20
      go_wp2_with (first
        | (go_at_call 43; ((with_reducible refine HMd.out.mono ?_)); rintro e w1 ⟨rfl, rfl⟩)
        | (go_at_call 47; ((with_reducible refine HC.out.mono ?_)); rintro e w1 ⟨rfl, rfl⟩))
      go_ret2
      exact ⟨rfl, rfl⟩
  · rw [decide_eq_false hw] at HC
    simp only [hw, if_false]
    rw [if_neg (by omega)]
    clear hX hw
    go_enter Try.func20, Try.ntmps20
    go_wp2_with (first
      | (go_at_call 43; ((with_reducible refine HMd.out.mono ?_)); rintro e w1 ⟨rfl, rfl⟩)
      | (go_at_call 47; ((with_reducible refine HC.out.mono ?_)); rintro e w1 ⟨rfl, rfl⟩))
    go_ret2
    exact ⟨rfl, rfl⟩
/-- The next offset is told anew. -/
theorem fn_next {N : Int} {L : LgM} (H : Sit W w V (fnX q l N L)) (x : Int) : V.cell? ⟨q, 1, none⟩ = some (.int .i64 N) ∧ V.frozen? ⟨q, 1, none⟩ = false ∧ Hid (Sit W w (V.setCell ⟨q, 1, none⟩ (.int .i64 x)) (fnT q ⟨L, x⟩)) := by
  obtain ⟨h1, h2, h3⟩ := sit_row (o := 1) H rfl (.int .i64 x)
  exact ⟨h1, h2, Lib.hid (h3.out.imp (fun h => ⟨l, h⟩))⟩
/-- What goTo answers, and leaves. -/
def FnM.goE (M : FnM) (x : Int) : Int := if M.N < x then M.skipE x else 0
def FnM.go (M : FnM) (x : Int) : FnM := if M.goE x = 0 then (if M.N < x then ⟨M.skipL x, x⟩ else ⟨M.L, x⟩) else M
theorem fngoto_any (hX : (fnT q M).at_ w W) (hM : M.Ok) (x : Int) : Calls Try.prog 41 #[.pointer (some ⟨q, 0, none⟩), .int .i64 x] w fun e w' => e = .returned (.int .i64 (M.goE x)) ∧ Sit W w w' (fnT q (M.go x)) := by
  obtain ⟨l, hX⟩ := hX
  obtain ⟨c0, c1, _⟩ := fn_cells hX
  have HS0 := Lib.hid (show Sit W w w (fnX q l M.N M.L) from Sit.start hX)
  by_cases hn : M.N < x
  · have hx : ¬ x ≤ M.L.fin := by have := hM.lo; omega
    have HSk := Lib.hid (show Calls Try.prog 70 #[.pointer (some ⟨l, 0, none⟩), .int .i64 x] w fun e w' => e = .returned (.int .i64 (addE M.L x false)) ∧ Sit W w w' (fnX q l M.N (M.L.add x false)) from by
      have h0 : Sit W w w ((lgT l M.L).sep (blkT q [.pointer (some ⟨l, 0, none⟩), .int .i64 M.N] 71)) := (Sit.start hX).swap
      exact (h0.call (fun _ h' => lgskip_any h' hM.led x)).mono fun e w' ⟨he, hs⟩ => ⟨he, hs.swap⟩)
    by_cases hs : addE M.L x false = 0
    · have hE : M.goE x = 0 := by unfold FnM.goE FnM.skipE; rw [if_pos hn, if_neg hx]; exact hs
      rw [hE, show M.go x = ⟨M.L.add x false, x⟩ by unfold FnM.go FnM.skipL; rw [if_pos hE, if_pos hn, if_neg hx]]
      rw [hs] at HSk
      generalize M.L.add x false = L2 at *
      generalize M.N = n at *
      clear hX HS0 hM hs hE hx
      go_enter Try.func41, Try.ntmps41
      go_wp2_with (go_at_call 70; ((with_reducible refine HSk.out.mono ?_)); rintro e w2 ⟨rfl, hg⟩; obtain ⟨d1, d2, HG⟩ := fn_next hg x; clear hg)
      go_ret
      exact ⟨rfl, HG.out⟩
    · have hE : M.goE x = addE M.L x false := by unfold FnM.goE FnM.skipE; rw [if_pos hn, if_neg hx]
      rw [hE, show M.go x = M by unfold FnM.go; rw [hE, if_neg hs]]
      rw [add_no rfl hs] at HSk
      have hsb : (addE M.L x false != 0) = true := by rw [bne_iff_ne]; exact hs
      have HF := Lib.hid (fun w' (hg : Sit W w w' (fnX q l M.N M.L)) => show Sit W w w' (fnT q M) from hg.imp (fun h => ⟨l, h⟩))
      generalize addE M.L x false = se at *
      generalize M.N = n at *
      clear hX HS0 hM hE hx
      go_enter Try.func41, Try.ntmps41
      go_wp2_with (go_at_call 70; ((with_reducible refine HSk.out.mono ?_)); rintro e w2 ⟨rfl, hg⟩; have HG := Lib.hid (HF.out _ hg); clear hg)
      go_ret
      exact ⟨rfl, HG.out⟩
  · have hE : M.goE x = 0 := by unfold FnM.goE; rw [if_neg hn]
    rw [hE, show M.go x = ⟨M.L, x⟩ by unfold FnM.go; rw [if_pos hE, if_neg hn]]
    obtain ⟨d1, d2, HG⟩ := fn_next HS0.out x
    generalize M.N = n at *
    clear hX HS0 hM hE
    go_enter Try.func41, Try.ntmps41
    go_wp2_with fail
    go_ret
    exact ⟨rfl, HG.out⟩
end
end Go.Proofs.Ytdlkdagmaeapdaa
