import Derived.Test.YtdlkdagmaeapdaaBdFnR
import Derived.Test.YtdlkdagmaeapdaaBdLg
import Derived.BigQuiet

/- The program's track, as it lies in memory: a box, and its ledger beside; made, isOffset, isWindow, Peek, goTo. No condition but that it is one. -/
namespace Go.Proofs.Ytdlkdagmaeapdaa
open Go.RowKit
set_option linter.unusedVariables false
set_option linter.unusedSimpArgs false
set_option maxRecDepth 100000

abbrev fnX (q l : Nat) (N : Int) (L : LgM) : Thing := (blkT q [.pointer (some ⟨l, 0, none⟩), .int .i64 N] 71).sep (lgT l L)
/-- The program's track. -/
def fnT (q : Nat) (M : FnM) : Thing where
  at_ w W := ∃ l, (fnX q l M.N M.L).at_ w W
  lt := by rintro w W ⟨l, h⟩; exact Thing.lt _ h
  keep := by rintro w w' W S ⟨l, h⟩ ht hs; exact ⟨l, Thing.keep _ h ht hs⟩
theorem fnoff_any (x : Int) (w : World) : Calls Try.prog 44 #[.int .i64 x] w fun e w' => e = .returned (.bool (decide (0 ≤ x ∧ x ≤ 1099511627776))) ∧ w = w' := by
  by_cases h0 : 0 ≤ x
  · by_cases h1 : x ≤ 1099511627776
    · rw [decide_eq_true (And.intro h0 h1)]
      go_enter Try.func44, Try.ntmps44
      go_wp2_with fail
      go_ret
      exact ⟨by first | rfl | (simp; done) | (simp; omega), rfl⟩
    · rw [decide_eq_false (fun h => h1 h.2)]
      go_enter Try.func44, Try.ntmps44
      go_wp2_with fail
      go_ret
      exact ⟨by first | rfl | (simp; done) | (simp; omega), rfl⟩
  · rw [decide_eq_false (fun h => h0 h.1)]
    go_enter Try.func44, Try.ntmps44
    go_wp2_with fail
    go_ret
    exact ⟨by first | rfl | (simp; done) | (simp; omega), rfl⟩
theorem fnwin_any (h t : Int) (w : World) : Calls Try.prog 47 #[.int .i64 h, .int .i64 t] w fun e w' => e = .returned (.bool (decide (winE h t = 0))) ∧ w = w' := by
  have H1 := Lib.hid (fnoff_any h w)
  have H2 := Lib.hid (fnoff_any t w)
  by_cases h1 : 0 ≤ h ∧ h ≤ 1099511627776
  · rw [decide_eq_true h1] at H1
    by_cases h2 : 0 ≤ t ∧ t ≤ 1099511627776
    · rw [decide_eq_true h2] at H2
      by_cases h3 : h ≤ t
      · rw [decide_eq_true (show winE h t = 0 from if_neg (by omega))]
        clear h1 h2
        go_enter Try.func47, Try.ntmps47
        go_wp2_with (go_at_call 44; (first | ((with_reducible refine H1.out.mono ?_)) | ((with_reducible refine H2.out.mono ?_))); rintro e w1 ⟨rfl, rfl⟩)
        go_ret
        exact ⟨by first | rfl | (simp; done) | (simp; omega), rfl⟩
      · rw [decide_eq_false (show ¬ winE h t = 0 by unfold winE; rw [if_pos (by omega)]; omega)]
        clear h1 h2
        go_enter Try.func47, Try.ntmps47
        go_wp2_with (go_at_call 44; (first | ((with_reducible refine H1.out.mono ?_)) | ((with_reducible refine H2.out.mono ?_))); rintro e w1 ⟨rfl, rfl⟩)
        go_ret
        exact ⟨by first | rfl | (simp; done) | (simp; omega), rfl⟩
    · rw [decide_eq_false h2] at H2
      rw [decide_eq_false (show ¬ winE h t = 0 by unfold winE; rw [if_pos (by omega)]; omega)]
      clear h1 h2
      go_enter Try.func47, Try.ntmps47
      go_wp2_with (go_at_call 44; (first | ((with_reducible refine H1.out.mono ?_)) | ((with_reducible refine H2.out.mono ?_))); rintro e w1 ⟨rfl, rfl⟩)
      go_ret
      exact ⟨by first | rfl | (simp; done) | (simp; omega), rfl⟩
  · rw [decide_eq_false h1] at H1
    rw [decide_eq_false (show ¬ winE h t = 0 by unfold winE; rw [if_pos (by omega)]; omega)]
    clear h1
    go_enter Try.func47, Try.ntmps47
    go_wp2_with (go_at_call 44; ((with_reducible refine H1.out.mono ?_)); rintro e w1 ⟨rfl, rfl⟩)
    go_ret
    exact ⟨by first | rfl | (simp; done) | (simp; omega), rfl⟩
section
variable {q l : Nat} {M : FnM} {w V : World} {W : Nat → Prop}
theorem fn_cells {N : Int} {L : LgM} (h : (fnX q l N L).at_ w W) : w.cell? ⟨q, 0, none⟩ = some (.pointer (some ⟨l, 0, none⟩)) ∧ w.cell? ⟨q, 1, none⟩ = some (.int .i64 N) ∧ ∃ W1, (lgT l L).at_ w W1 := by
  obtain ⟨W1, W2, ⟨h1, _⟩, h2, _⟩ := h
  exact ⟨h1.cell rfl, h1.cell rfl, W2, h2⟩
theorem fnmade_any (h : (fnT q M).at_ w W) : Calls Try.prog 43 #[.pointer (some ⟨q, 0, none⟩)] w fun e w' => e = .returned (.bool true) ∧ w = w' := by
  obtain ⟨l, h⟩ := h
  obtain ⟨c0, _, _⟩ := fn_cells h
  clear h
  go_enter Try.func43, Try.ntmps43
  go_wp2_with fail
  go_ret
  exact ⟨by first | rfl | (simp; done) | (simp; omega), rfl⟩
theorem fnpeek_any (hX : (fnT q M).at_ w W) (h t : Int) : Calls Try.prog 20 #[.pointer (some ⟨q, 0, none⟩), .int .i64 h, .int .i64 t] w fun e w' => e = .returned (.tuple #[.int .i64 (M.peekV h t), .int .i64 (M.peekE h t)]) ∧ w = w' := by
  have HMd := Lib.hid (fnmade_any hX)
  obtain ⟨l, hX⟩ := hX
  obtain ⟨c0, c1, _⟩ := fn_cells hX
  have HC := Lib.hid (fnwin_any h t w)
  unfold FnM.peekV FnM.peekE
  generalize M.N = n at *
  by_cases hw : winE h t = 0
  · obtain ⟨w1, w2, w3⟩ := win_ok hw
    obtain ⟨m, hm⟩ : ∃ m, m = max n h := ⟨_, rfl⟩
    have hif : (if n < h then h else n) = m := by split <;> omega
    rw [decide_eq_true hw] at HC
    simp only [hw, if_true]
    rw [← hm]
    clear hX hm w1 w2 w3 hw
    by_cases hp : t ≤ m
    · rw [if_pos hp, if_neg (by omega)]
      go_enter Try.func20, Try.ntmps20
      go_wp2_with (first
        | (go_at_call 43; ((with_reducible refine HMd.out.mono ?_)); rintro e w1 ⟨rfl, rfl⟩)
        | (go_at_call 47; ((with_reducible refine HC.out.mono ?_)); rintro e w1 ⟨rfl, rfl⟩))
      go_ret2
      exact ⟨rfl, rfl⟩
    · rw [if_neg hp, if_pos rfl]
      go_enter Try.func20, Try.ntmps20
      go_wp2_with (first
        | (go_at_call 43; ((with_reducible refine HMd.out.mono ?_)); rintro e w1 ⟨rfl, rfl⟩)
        | (go_at_call 47; ((with_reducible refine HC.out.mono ?_)); rintro e w1 ⟨rfl, rfl⟩))
      go_ret2
      exact ⟨rfl, rfl⟩
  · rw [decide_eq_false hw] at HC
    simp only [hw, if_false]
    rw [if_neg (by omega)]
    clear hX hw
    go_enter Try.func20, Try.ntmps20
    go_wp2_with (first
      | (go_at_call 43; ((with_reducible refine HMd.out.mono ?_)); rintro e w1 ⟨rfl, rfl⟩)
      | (go_at_call 47; ((with_reducible refine HC.out.mono ?_)); rintro e w1 ⟨rfl, rfl⟩))
    go_ret2
    exact ⟨rfl, rfl⟩
/-- The next offset is told anew. -/
theorem fn_next {N : Int} {L : LgM} (H : Sit W w V (fnX q l N L)) (x : Int) : V.cell? ⟨q, 1, none⟩ = some (.int .i64 N) ∧ V.frozen? ⟨q, 1, none⟩ = false ∧ Hid (Sit W w (V.setCell ⟨q, 1, none⟩ (.int .i64 x)) (fnT q ⟨L, x⟩)) := by
  obtain ⟨h1, h2, h3⟩ := sit_row (o := 1) H rfl (.int .i64 x)
  exact ⟨h1, h2, Lib.hid (h3.out.imp (fun h => ⟨l, h⟩))⟩
/-- What goTo answers, and leaves. -/
def FnM.goE (M : FnM) (x : Int) : Int := if M.N < x then M.skipE x else 0
def FnM.go (M : FnM) (x : Int) : FnM := if M.goE x = 0 then (if M.N < x then ⟨M.skipL x, x⟩ else ⟨M.L, x⟩) else M
theorem fngoto_any (hX : (fnT q M).at_ w W) (hM : M.Ok) (x : Int) : Calls Try.prog 41 #[.pointer (some ⟨q, 0, none⟩), .int .i64 x] w fun e w' => e = .returned (.int .i64 (M.goE x)) ∧ Sit W w w' (fnT q (M.go x)) := by
  obtain ⟨l, hX⟩ := hX
  obtain ⟨c0, c1, _⟩ := fn_cells hX
  have HS0 := Lib.hid (show Sit W w w (fnX q l M.N M.L) from Sit.start hX)
  by_cases hn : M.N < x
  · have hx : ¬ x ≤ M.L.fin := by have := hM.lo; omega
    have HSk := Lib.hid (show Calls Try.prog 70 #[.pointer (some ⟨l, 0, none⟩), .int .i64 x] w fun e w' => e = .returned (.int .i64 (addE M.L x false)) ∧ Sit W w w' (fnX q l M.N (M.L.add x false)) from by
      have h0 : Sit W w w ((lgT l M.L).sep (blkT q [.pointer (some ⟨l, 0, none⟩), .int .i64 M.N] 71)) := (Sit.start hX).swap
      exact (h0.call (fun _ h' => lgskip_any h' hM.led x)).mono fun e w' ⟨he, hs⟩ => ⟨he, hs.swap⟩)
    by_cases hs : addE M.L x false = 0
    · have hE : M.goE x = 0 := by unfold FnM.goE FnM.skipE; rw [if_pos hn, if_neg hx]; exact hs
      rw [hE, show M.go x = ⟨M.L.add x false, x⟩ by unfold FnM.go FnM.skipL; rw [if_pos hE, if_pos hn, if_neg hx]]
      rw [hs] at HSk
      generalize M.L.add x false = L2 at *
      generalize M.N = n at *
      clear hX HS0 hM hs hE hx
      go_enter Try.func41, Try.ntmps41
      go_wp2_with (go_at_call 70; ((with_reducible refine HSk.out.mono ?_)); rintro e w2 ⟨rfl, hg⟩; obtain ⟨d1, d2, HG⟩ := fn_next hg x; clear hg)
      go_ret
      exact ⟨rfl, HG.out⟩
    · have hE : M.goE x = addE M.L x false := by unfold FnM.goE FnM.skipE; rw [if_pos hn, if_neg hx]
      rw [hE, show M.go x = M by unfold FnM.go; rw [hE, if_neg hs]]
      rw [add_no rfl hs] at HSk
      have hsb : (addE M.L x false != 0) = true := by rw [bne_iff_ne]; exact hs
      have HF := Lib.hid (fun w' (hg : Sit W w w' (fnX q l M.N M.L)) => show Sit W w w' (fnT q M) from hg.imp (fun h => ⟨l, h⟩))
      generalize addE M.L x false = se at *
      generalize M.N = n at *
      clear hX HS0 hM hE hx
      go_enter Try.func41, Try.ntmps41
      go_wp2_with (go_at_call 70; ((with_reducible refine HSk.out.mono ?_)); rintro e w2 ⟨rfl, hg⟩; have HG := Lib.hid (HF.out _ hg); clear hg)
      go_ret
      exact ⟨rfl, HG.out⟩
  · have hE : M.goE x = 0 := by unfold FnM.goE; rw [if_neg hn]
    rw [hE, show M.go x = ⟨M.L, x⟩ by unfold FnM.go; rw [if_pos hE, if_neg hn]]
    obtain ⟨d1, d2, HG⟩ := fn_next HS0.out x
    generalize M.N = n at *
    clear hX HS0 hM hE
    go_enter Try.func41, Try.ntmps41
    go_wp2_with fail
    go_ret
    exact ⟨rfl, HG.out⟩
end
end Go.Proofs.Ytdlkdagmaeapdaa

/- The program's track: Make, Deliver, Commit, Seek, Back, Next, Committed, Ledger. No condition but that it is one. -/
namespace Go.Proofs.Ytdlkdagmaeapdaa
open Go.RowKit
set_option linter.unusedVariables false
set_option linter.unusedSimpArgs false
set_option maxRecDepth 100000

theorem fnmake_no (b : Int) (w : World) (h : ¬ (0 ≤ b ∧ b ≤ 1099511627776)) : Calls Try.prog 8 #[.int .i64 b] w fun e w' => e = .returned (.tuple #[.pointer none, .int .i64 2]) ∧ Still w w' := by
  have HM := Lib.hid (lgmake_no b w h)
  clear h
  go_enter Try.func8, Try.ntmps8
  go_wp2_with (go_at_call 39; ((with_reducible refine HM.out.mono ?_)); rintro e w1 ⟨rfl, hs⟩; have HS := Lib.hid hs; clear hs)
  go_ret2
  exact ⟨rfl, HS.out⟩
theorem fnmake_ok (b : Int) (w : World) (h0 : 0 ≤ b) (h1 : b ≤ 1099511627776) : Calls Try.prog 8 #[.int .i64 b] w fun e w' => ∃ q, e = .returned (.tuple #[.pointer (some ⟨q, 0, none⟩), .int .i64 0]) ∧ FNew fnT w (FnM.new b) q w' := by
  have HM := Lib.hid (lgmake_ok b w h0 h1)
  clear h0 h1
  go_enter Try.func8, Try.ntmps8
  go_wp2_with (go_at_call 39; ((with_reducible refine HM.out.mono ?_)); rintro e w1 ⟨l, rfl, hn⟩; have HN := Lib.hid hn; clear hn)
  go_ret2
  obtain ⟨W, h, hs, hlo⟩ := HN.out
  refine ⟨_, rfl, fun k => k = w1.heap.size ∨ W k, ⟨l, (· = w1.heap.size), W, ⟨Blk.new w1 [.pointer (some ⟨l, 0, none⟩), .int .i64 b] 71, fun _ => Iff.rfl⟩, Thing.keep _ h ((Turned.refl _ _).alloc _) (fun _ _ h => h), fun k e hk => ?_, fun _ => Iff.rfl⟩, hs.alloc _, fun k hk => ?_⟩
  · have := Thing.lt _ h k hk; omega
  · rcases hk with rfl | hk
    · exact hs.size
    · exact hlo k hk
section
variable {q : Nat} {M : FnM} {w V : World} {W : Nat → Prop}
theorem fn_nextT (H : Sit W w V (fnT q M)) (x : Int) : V.cell? ⟨q, 1, none⟩ = some (.int .i64 M.N) ∧ V.frozen? ⟨q, 1, none⟩ = false ∧ Hid (Sit W w (V.setCell ⟨q, 1, none⟩ (.int .i64 x)) (fnT q ⟨M.L, x⟩)) := by
  obtain ⟨Q, ⟨l, h⟩, hs⟩ := H
  exact fn_next ⟨Q, h, hs⟩ x
theorem del_go (M : FnM) (h t : Int) : M.delE h t = (if M.peekE h t = 0 then M.goE (max M.N h) else M.peekE h t) ∧ M.del h t = (if M.delE h t = 0 then ⟨(M.go (max M.N h)).L, max M.N h + 1⟩ else M) := by
  have e1 : M.delE h t = (if M.peekE h t = 0 then M.goE (max M.N h) else M.peekE h t) := by
    unfold FnM.delE FnM.goE
    by_cases hp : M.peekE h t = 0
    · rw [if_pos hp, if_pos hp]
      by_cases hn : M.N < h
      · rw [if_pos hn, show max M.N h = h by omega, if_pos hn]
      · rw [if_neg hn, show max M.N h = M.N by omega, if_neg (Int.lt_irrefl _)]
    · rw [if_neg hp, if_neg hp]
  refine ⟨e1, ?_⟩
  unfold FnM.del
  by_cases he : M.delE h t = 0
  · rw [if_pos he, if_pos he]
    have hp := (del_ok he).1
    rw [e1, if_pos hp] at he
    unfold FnM.go
    rw [if_pos he]
    by_cases hn : M.N < h
    · rw [if_pos hn, show max M.N h = h by omega, if_pos hn]
    · rw [if_neg hn, show max M.N h = M.N by omega, if_neg (Int.lt_irrefl _)]
  · rw [if_neg he, if_neg he]
theorem go_no {M : FnM} {x : Int} (h : M.goE x ≠ 0) : M.go x = M := by unfold FnM.go; rw [if_neg h]
theorem fndel_any (hX : (fnT q M).at_ w W) (hM : M.Ok) (h t : Int) : Calls Try.prog 13 #[.pointer (some ⟨q, 0, none⟩), .int .i64 h, .int .i64 t] w fun e w' => e = .returned (.tuple #[.int .i64 (M.delV h t), .int .i64 (M.delE h t)]) ∧ Goes (fnT q (M.del h t)) W w w' := by
  have HPk := Lib.hid (fnpeek_any hX h t)
  have HG0 := Lib.hid (show Goes (fnT q M) W w w from Goes.still (Q := fnT q M) hX (Turned.refl _ _))
  have HGo := Lib.hid (fngoto_any hX hM (max M.N h))
  obtain ⟨e1, e2⟩ := del_go M h t
  by_cases hp : M.peekE h t = 0
  · rw [if_pos hp] at e1
    obtain ⟨p1, p2, p3⟩ := peek_ok hp
    have hm0 : M.peekV h t = max M.N h := by unfold FnM.peekV; rw [if_pos hp]
    have hlo : 0 ≤ M.N := Int.le_trans (hM.led.bnd.1) (Int.le_trans hM.led.bnd.2.1 hM.lo)
    rw [hp, hm0] at HPk
    have a1 : 0 ≤ max M.N h := by omega
    have a2 : max M.N h ≤ 1099511627775 := by omega
    have hV : M.delV h t = if M.delE h t = 0 then max M.N h else 0 := rfl
    generalize max M.N h = a at *
    by_cases hg : M.goE a = 0
    · rw [hg] at e1 HGo
      rw [e1, if_pos rfl] at e2 hV
      rw [hV, e1, e2]
      have HNx := Lib.hid (fun V (H : Sit W w V (fnT q (M.go a))) => fn_nextT H (a + 1))
      generalize M.go a = M2 at *
      generalize M2.N = n2 at *
      generalize M2.L = L2 at *
      clear hX hM HG0 hm0 hg e1 e2 hV hlo p1 p2 p3 hp
      go_enter Try.func13, Try.ntmps13
      go_wp2_with (first
        | (go_at_call 20; ((with_reducible refine HPk.out.mono ?_)); rintro e w1 ⟨rfl, rfl⟩)
        | (go_at_call 41; ((with_reducible refine HGo.out.mono ?_)); rintro e w2 ⟨rfl, hg⟩; obtain ⟨d1, d2, HG⟩ := HNx.out _ hg; clear hg))
      go_ret2
      exact ⟨rfl, HG.out.goes⟩
    · have hgb : (M.goE a != 0) = true := by rw [bne_iff_ne]; exact hg
      rw [e1, if_neg hg] at e2 hV
      rw [hV, e1, e2]
      rw [go_no hg] at HGo
      generalize M.goE a = ge at *
      generalize M.N = n at *
      clear hX hM HG0 hm0 e1 e2 hV hlo p1 p2 p3 hp
      go_enter Try.func13, Try.ntmps13
      go_wp2_with (first
        | (go_at_call 20; ((with_reducible refine HPk.out.mono ?_)); rintro e w1 ⟨rfl, rfl⟩)
        | (go_at_call 41; ((with_reducible refine HGo.out.mono ?_)); rintro e w2 ⟨rfl, hg⟩; have HG := Lib.hid hg; clear hg))
      go_ret2
      exact ⟨rfl, HG.out.goes⟩
  · rw [if_neg hp] at e1
    rw [e1, if_neg hp] at e2
    rw [show M.delV h t = 0 by unfold FnM.delV; rw [e1, if_neg hp], e1, e2]
    have hpb : (M.peekE h t != 0) = true := by rw [bne_iff_ne]; exact hp
    generalize M.peekE h t = pe at *
    generalize M.peekV h t = pv at *
    clear hX HGo hM e1 e2
    go_enter Try.func13, Try.ntmps13
    go_wp2_with (go_at_call 20; ((with_reducible refine HPk.out.mono ?_)); rintro e w1 ⟨rfl, rfl⟩)
    go_ret2
    exact ⟨rfl, HG0.out⟩
theorem fncom_any (hX : (fnT q M).at_ w W) (hM : M.Ok) (x : Int) : Calls Try.prog 15 #[.pointer (some ⟨q, 0, none⟩), .int .i64 x] w fun e w' => e = .returned (.int .i64 (M.comE x)) ∧ Goes (fnT q (M.com x)) W w w' := by
  have HMd := Lib.hid (fnmade_any hX)
  have HOf := Lib.hid (fnoff_any x w)
  obtain ⟨l, hX⟩ := hX
  obtain ⟨c0, c1, _⟩ := fn_cells hX
  obtain ⟨W1, g1, _, g2⟩ := goes_fst (sep_swap hX)
  have HEn := Lib.hid (lgend_any g1 hM.led)
  have HAd := Lib.hid (fun V (hs : Still w V) => lgaccept_any (Thing.keep _ g1 hs (fun _ _ h => h)) hM.led x)
  have HG := Lib.hid (fun (L : LgM) (V w' : World) (hs : Still w V) (hg : Goes (lgT l L) W1 V w') => show Goes (fnT q ⟨L, M.N⟩) W w w' from by
    have h3 := g2 (lgT l L) w' (by
      obtain ⟨W', p1, p2, p3⟩ := hg
      exact ⟨W', p1, (hs.mono (fun _ _ h => h.elim)).trans p2, fun k hk => (p3 k hk).imp id (fun h => Nat.le_trans hs.size h)⟩)
    exact h3.turn (fun h => ⟨l, sep_swap h⟩))
  have HG0 := Lib.hid (fun V (hs : Still w V) => show Goes (fnT q M) W w V from Goes.still (Q := fnT q M) ⟨l, hX⟩ hs)
  have HC := Lib.hid (fun V (hs : Still w V) => And.intro (still_cell hs c0 (rfl : 0 = 0)) (still_cell hs c1 (rfl : 1 = 1)))
  have HN := Lib.hid (fun (he : M.comE x ≠ 0) V (hs : Still w V) => show Goes (fnT q (M.com x)) W w V from by unfold FnM.com; rw [if_neg he]; exact HG0.out V hs)
  by_cases h1 : x < 0 ∨ 1099511627776 < x
  · have he : M.comE x = 2 := by unfold FnM.comE; rw [if_pos h1]
    rw [he] at HN ⊢
    have HE := Lib.hid (HN.out (by omega))
    rw [decide_eq_false (by omega)] at HOf
    clear hX g1 g2 HAd HG HEn HG0 HN he hM c0 c1 h1
    go_enter Try.func15, Try.ntmps15
    go_wp2_with (first
      | (go_at_call 43; ((with_reducible refine HMd.out.mono ?_)); rintro e w1 ⟨rfl, rfl⟩)
      | (go_at_call 44; ((with_reducible refine HOf.out.mono ?_)); rintro e w1 ⟨rfl, rfl⟩))
    go_ret
    exact ⟨rfl, HE.out _ (Turned.refl _ _)⟩
  · rw [decide_eq_true (by omega)] at HOf
    by_cases h2 : x ≤ M.L.fin ∨ M.N < x
    · have he : M.comE x = 61 := by unfold FnM.comE; rw [if_neg h1, if_pos h2]
      rw [he] at HN ⊢
      have HE := Lib.hid (HN.out (by omega))
      have h2' : x ≤ M.L.fin ∨ (¬ x ≤ M.L.fin ∧ M.N < x) := by omega
      generalize M.L.fin = f at *
      generalize M.N = n at *
      clear hX g1 g2 HAd HG HG0 HN he hM h1 h2
      rcases h2' with h5 | ⟨h5, h6⟩
      all_goals (
        go_enter Try.func15, Try.ntmps15
        go_wp2_with (first
          | (go_at_call 43; ((with_reducible refine HMd.out.mono ?_)); rintro e w1 ⟨rfl, rfl⟩)
          | (go_at_call 44; ((with_reducible refine HOf.out.mono ?_)); rintro e w1 ⟨rfl, rfl⟩)
          | (go_at_call 28; ((with_reducible refine HEn.out.mono ?_)); rintro e w1 ⟨rfl, hs⟩; have HS := Lib.hid hs; obtain ⟨d0, d1⟩ := HC.out _ hs; clear hs))
        go_ret
        exact ⟨rfl, HE.out _ HS.out⟩)
    · have he : M.comE x = addE M.L x true := by unfold FnM.comE; rw [if_neg h1, if_neg h2]
      have HE := Lib.hid (fun V w' (hs : Still w V) (hg : Goes (lgT l (M.L.add x true)) W1 V w') => show Goes (fnT q (M.com x)) W w w' from by
        have h := HG.out _ V w' hs hg
        unfold FnM.com
        rw [he]
        by_cases h0 : addE M.L x true = 0
        · rw [if_pos h0]; exact h
        · rw [if_neg h0]
          rw [add_no rfl h0] at h
          exact h)
      rw [he]
      have h5 : ¬ x ≤ M.L.fin := by omega
      have h6 : ¬ M.N < x := by omega
      generalize M.L.fin = f at *
      generalize M.N = n at *
      clear hX g1 g2 HG HG0 HN he hM h1 h2
      go_enter Try.func15, Try.ntmps15
      go_wp2_with (first
        | (go_at_call 43; ((with_reducible refine HMd.out.mono ?_)); rintro e w1 ⟨rfl, rfl⟩)
        | (go_at_call 44; ((with_reducible refine HOf.out.mono ?_)); rintro e w1 ⟨rfl, rfl⟩)
        | (go_at_call 28; ((with_reducible refine HEn.out.mono ?_)); rintro e w1 ⟨rfl, hs⟩; have HS := Lib.hid hs; obtain ⟨d0, d1⟩ := HC.out _ hs; clear hs)
        | (go_at_call 45; ((with_reducible refine (HAd.out _ HS.out).mono ?_)); rintro e w2 ⟨rfl, hg⟩; have HG2 := Lib.hid hg; clear hg))
      go_ret
      exact ⟨rfl, HE.out _ _ HS.out HG2.out⟩
set_option maxHeartbeats 2000000 in
theorem fnseek_any (hX : (fnT q M).at_ w W) (hM : M.Ok) (x h t : Int) : Calls Try.prog 17 #[.pointer (some ⟨q, 0, none⟩), .int .i64 x, .int .i64 h, .int .i64 t] w fun e w' => e = .returned (.int .i64 (M.seekE x h t)) ∧ Goes (fnT q (M.seek x h t)) W w w' := by
  have HMd := Lib.hid (fnmade_any hX)
  have HOf := Lib.hid (fnoff_any x w)
  have HWi := Lib.hid (fnwin_any h t w)
  have HG0 := Lib.hid (fun V (hs : Still w V) => show Goes (fnT q M) W w V from Goes.still (Q := fnT q M) hX hs)
  have HNo := Lib.hid (fun (he : M.seekE x h t ≠ 0) V (hs : Still w V) => show Goes (fnT q (M.seek x h t)) W w V from by unfold FnM.seek; rw [if_neg he]; exact HG0.out V hs)
  have HGo := Lib.hid (fun V (hs : Still w V) => show Calls Try.prog 41 #[.pointer (some ⟨q, 0, none⟩), .int .i64 x] V fun e w' => e = .returned (.int .i64 (M.goE x)) ∧ Goes (fnT q (M.go x)) W w w' from by
    obtain ⟨U, h1, h2⟩ := ((Sit.start hX).still hs).use
    exact (fngoto_any h1 hM x).mono fun e w' ⟨he, hg⟩ => ⟨he, (h2 _ _ hg.goes).goes⟩)
  obtain ⟨l, hX⟩ := hX
  obtain ⟨c0, c1, W1, hz⟩ := fn_cells hX
  have HEn := Lib.hid (lgend_any hz hM.led)
  have HC := Lib.hid (fun V (hs : Still w V) => And.intro (still_cell hs c0 (rfl : 0 = 0)) (still_cell hs c1 (rfl : 1 = 1)))
  by_cases h1 : 0 ≤ x ∧ x ≤ 1099511627776
  · rw [decide_eq_true h1] at HOf
    by_cases hw : winE h t = 0
    · rw [decide_eq_true hw] at HWi
      by_cases h2 : x < h ∨ t < x ∨ x < M.L.fin
      · have hE : M.seekE x h t = 61 := by unfold FnM.seekE; rw [if_pos hw, if_neg (by omega), if_pos h2]
        rw [hE] at HNo ⊢
        have HE := Lib.hid (HNo.out (by omega))
        have h2' : x < h ∨ (¬ x < h ∧ t < x) ∨ (¬ x < h ∧ ¬ t < x ∧ x < M.L.fin) := by omega
        generalize M.L.fin = f at *
        clear hX HG0 HNo HGo HC hM hE hw h1 h2 hz
        rcases h2' with h5 | ⟨h5, h6⟩ | ⟨h5, h6, h7⟩
        all_goals (
          go_enter Try.func17, Try.ntmps17
          go_wp2_with (first
            | (go_at_call 43; ((with_reducible refine HMd.out.mono ?_)); rintro e w1 ⟨rfl, rfl⟩)
            | (go_at_call 44; ((with_reducible refine HOf.out.mono ?_)); rintro e w1 ⟨rfl, rfl⟩)
            | (go_at_call 47; ((with_reducible refine HWi.out.mono ?_)); rintro e w1 ⟨rfl, rfl⟩)
            | (go_at_call 28; ((with_reducible refine HEn.out.mono ?_)); rintro e w2 ⟨rfl, hs⟩; have HS := Lib.hid (HE.out _ hs); clear hs))
          go_ret
          first
            | exact ⟨rfl, HS.out⟩
            | exact ⟨rfl, HE.out _ (Turned.refl _ _)⟩)
      · have h5 : ¬ x < h := by omega
        have h6 : ¬ t < x := by omega
        have h7 : ¬ x < M.L.fin := by omega
        have hE : M.seekE x h t = M.goE x := by unfold FnM.seekE FnM.goE; rw [if_pos hw, if_neg (by omega), if_neg h2]
        have hS : M.seek x h t = M.go x := by unfold FnM.seek FnM.go; rw [hE]
        rw [hE, hS]
        generalize M.go x = M2 at *
        generalize M.goE x = ge at *
        generalize M.L.fin = f at *
        clear hX HG0 HNo hM hE hS hw h1 h2 hz
        go_enter Try.func17, Try.ntmps17
        go_wp2_with (first
          | (go_at_call 43; ((with_reducible refine HMd.out.mono ?_)); rintro e w1 ⟨rfl, rfl⟩)
          | (go_at_call 44; ((with_reducible refine HOf.out.mono ?_)); rintro e w1 ⟨rfl, rfl⟩)
          | (go_at_call 47; ((with_reducible refine HWi.out.mono ?_)); rintro e w1 ⟨rfl, rfl⟩)
          | (go_at_call 28; ((with_reducible refine HEn.out.mono ?_)); rintro e w2 ⟨rfl, hs⟩; have HS := Lib.hid hs; clear hs)
          | (go_at_call 41; ((with_reducible refine (HGo.out _ HS.out).mono ?_)); rintro e w3 ⟨rfl, hg⟩; have HG := Lib.hid hg; clear hg))
        go_ret
        exact ⟨rfl, HG.out⟩
    · rw [decide_eq_false hw] at HWi
      have hE : M.seekE x h t = 2 := by unfold FnM.seekE; rw [if_neg hw]
      rw [hE] at HNo ⊢
      have HE := Lib.hid (HNo.out (by omega))
      clear hX HG0 HNo HEn HGo HC hM hE hw hz c0 c1 h1
      go_enter Try.func17, Try.ntmps17
      go_wp2_with (first
        | (go_at_call 43; ((with_reducible refine HMd.out.mono ?_)); rintro e w1 ⟨rfl, rfl⟩)
        | (go_at_call 44; ((with_reducible refine HOf.out.mono ?_)); rintro e w1 ⟨rfl, rfl⟩)
        | (go_at_call 47; ((with_reducible refine HWi.out.mono ?_)); rintro e w1 ⟨rfl, rfl⟩))
      go_ret
      exact ⟨rfl, HE.out _ (Turned.refl _ _)⟩
  · rw [decide_eq_false h1] at HOf
    have hE : M.seekE x h t = 2 := by
      unfold FnM.seekE
      by_cases hw : winE h t = 0
      · rw [if_pos hw, if_pos (by omega)]
      · rw [if_neg hw]
    rw [hE] at HNo ⊢
    have HE := Lib.hid (HNo.out (by omega))
    clear hX HG0 HNo HEn HGo HC hM hE hz c0 c1 h1
    go_enter Try.func17, Try.ntmps17
    go_wp2_with (first
      | (go_at_call 43; ((with_reducible refine HMd.out.mono ?_)); rintro e w1 ⟨rfl, rfl⟩)
      | (go_at_call 44; ((with_reducible refine HOf.out.mono ?_)); rintro e w1 ⟨rfl, rfl⟩))
    go_ret
    exact ⟨rfl, HE.out _ (Turned.refl _ _)⟩
theorem fnback_any (hX : (fnT q M).at_ w W) (hM : M.Ok) : Calls Try.prog 19 #[.pointer (some ⟨q, 0, none⟩)] w fun e w' => e = .returned (.tuple #[]) ∧ Goes (fnT q M.back) W w w' := by
  have HMd := Lib.hid (fnmade_any hX)
  have HN := Lib.hid (fun V (hs : Still w V) => fn_nextT ((Sit.start hX).still hs) M.L.fin)
  obtain ⟨l, hX⟩ := hX
  obtain ⟨c0, c1, W1, hz⟩ := fn_cells hX
  have HEn := Lib.hid (lgend_any hz hM.led)
  unfold FnM.back
  generalize M.L.fin = f at *
  generalize M.N = n at *
  generalize M.L = L at *
  clear hX hz c1
  go_enter Try.func19, Try.ntmps19
  go_wp2_with (first
    | (go_at_call 43; ((with_reducible refine HMd.out.mono ?_)); rintro e w1 ⟨rfl, rfl⟩)
    | (go_at_call 28; ((with_reducible refine HEn.out.mono ?_)); rintro e w2 ⟨rfl, hs⟩; obtain ⟨d1, d2, HG⟩ := HN.out _ hs; clear hs))
  go_end0
  exact ⟨rfl, HG.out.goes⟩
theorem fnnext_any (hX : (fnT q M).at_ w W) : Calls Try.prog 25 #[.pointer (some ⟨q, 0, none⟩)] w fun e w' => e = .returned (.int .i64 M.N) ∧ Still w w' := by
  have HMd := Lib.hid (fnmade_any hX)
  obtain ⟨l, hX⟩ := hX
  obtain ⟨c0, c1, _⟩ := fn_cells hX
  generalize M.N = n at *
  clear hX c0
  go_enter Try.func25, Try.ntmps25
  go_wp2_with (go_at_call 43; ((with_reducible refine HMd.out.mono ?_)); rintro e w1 ⟨rfl, rfl⟩)
  go_ret
  exact ⟨rfl, Turned.refl _ _⟩
theorem fncommitted_any (hX : (fnT q M).at_ w W) (hM : M.Ok) : Calls Try.prog 23 #[.pointer (some ⟨q, 0, none⟩)] w fun e w' => e = .returned (.int .i64 M.L.fin) ∧ Still w w' := by
  have HMd := Lib.hid (fnmade_any hX)
  obtain ⟨l, hX⟩ := hX
  obtain ⟨c0, c1, W1, hz⟩ := fn_cells hX
  have HEn := Lib.hid (lgend_any hz hM.led)
  generalize M.L.fin = f at *
  clear hX c1 hz
  go_enter Try.func23, Try.ntmps23
  go_wp2_with (first
    | (go_at_call 43; ((with_reducible refine HMd.out.mono ?_)); rintro e w1 ⟨rfl, rfl⟩)
    | (go_at_call 28; ((with_reducible refine HEn.out.mono ?_)); rintro e w2 ⟨rfl, hs⟩; have HS := Lib.hid hs; clear hs))
  go_ret
  exact ⟨rfl, HS.out⟩
theorem fnledger_any (hX : (fnT q M).at_ w W) (hM : M.Ok) : Calls Try.prog 26 #[.pointer (some ⟨q, 0, none⟩)] w fun e w' => ∃ q', e = .returned (.pointer (some ⟨q', 0, none⟩)) ∧ LNew lgT w M.L q' w' := by
  have HMd := Lib.hid (fnmade_any hX)
  obtain ⟨l, hX⟩ := hX
  obtain ⟨c0, c1, W1, hz⟩ := fn_cells hX
  have HCp := Lib.hid (lgcopy_any hz hM.led)
  generalize M.L = L at *
  clear hX c1 hz
  go_enter Try.func26, Try.ntmps26
  go_wp2_with (first
    | (go_at_call 43; ((with_reducible refine HMd.out.mono ?_)); rintro e w1 ⟨rfl, rfl⟩)
    | (go_at_call 51; ((with_reducible refine HCp.out.mono ?_)); rintro e w2 ⟨q', rfl, hs⟩; have HS := Lib.hid hs; clear hs))
  go_ret
  exact ⟨_, rfl, HS.out⟩
end
end Go.Proofs.Ytdlkdagmaeapdaa

/- The program's track keeps the words of layer 18. No condition. -/
namespace Go.Proofs.Ytdlkdagmaeapdaa
open Go.RowKit
set_option linter.unusedVariables false
set_option linter.unusedSimpArgs false
set_option maxRecDepth 100000

theorem fence_api : FenceApi fnT lgT where
  make_no := fnmake_no
  make_ok := fnmake_ok
  peek := fun h hM x t _ _ _ _ => (fnpeek_any h x t).mono fun e w' ⟨he, hw⟩ => ⟨he, by rw [← hw]; exact Turned.refl _ _⟩
  del := fun h hM x t _ _ _ _ => fndel_any h hM x t
  com := fun h hM x _ _ => fncom_any h hM x
  seek := fun h hM x a b _ _ _ _ _ _ => fnseek_any h hM x a b
  back := fun h hM => fnback_any h hM
  next := fun h hM => fnnext_any h
  committed := fun h hM => fncommitted_any h hM
  ledger := fun h hM => fnledger_any h hM
end Go.Proofs.Ytdlkdagmaeapdaa
