/- The document's track: Deliver. No condition but that it is one. -/
import Derived.Test.YtdlkdagmaeapdaaFnRef2
namespace Go.Proofs.Ytdlkdagmaeapdaa
open Go.RowKit
set_option linter.unusedVariables false
set_option linter.unusedSimpArgs false
set_option maxRecDepth 100000

section
variable {q l : Nat} {M : FnM} {w V : World} {W : Nat → Prop}
/-- The next offset is told anew. -/
theorem zfn_next {N : Int} {L : LgM} (H : Sit W w V (zfX q l N L)) (x : Int) : V.cell? ⟨q, 1, none⟩ = some (.int .i64 N) ∧ V.frozen? ⟨q, 1, none⟩ = false ∧ Hid (Goes (zfT q ⟨L, x⟩) W w (V.setCell ⟨q, 1, none⟩ (.int .i64 x))) := by
  obtain ⟨h1, h2, h3⟩ := sit_row (o := 1) H rfl (.int .i64 x)
  exact ⟨h1, h2, Lib.hid (h3.out.goes.turn (fun h => ⟨l, h⟩))⟩
theorem goes_sit {A : Thing} {w' : World} (h : Goes A W w w') : Sit W w w' A := by
  obtain ⟨Q', g1, g2⟩ := h.since
  exact ⟨Q', g1, g2⟩
theorem zfndel_any (hX : (zfT q M).at_ w W) (hM : M.Ok) (h t : Int) : Calls Try.prog 14 #[.pointer (some ⟨q, 0, none⟩), .int .i64 h, .int .i64 t] w fun e w' => e = .returned (.tuple #[.int .i64 (M.delV h t), .int .i64 (M.delE h t)]) ∧ Goes (zfT q (M.del h t)) W w w' := by
  have HPk := Lib.hid (zfnpeek_any hX h t)
  have HG0 := Lib.hid (show Goes (zfT q M) W w w from Goes.still (Q := zfT q M) hX (Turned.refl _ _))
  obtain ⟨l, hX⟩ := hX
  obtain ⟨c0, c1, _⟩ := zfn_cells hX
  have HSk := Lib.hid (zfnskip_any hX hM.led h)
  have HS0 := Lib.hid (show Sit W w w (zfX q l M.N M.L) from Sit.start hX)
  by_cases hp : M.peekE h t = 0
  · obtain ⟨p1, p2, p3⟩ := peek_ok hp
    have hm0 : M.peekV h t = max M.N h := by unfold FnM.peekV; rw [if_pos hp]
    have hlo : 0 ≤ M.N := Int.le_trans (hM.led.bnd.1) (Int.le_trans hM.led.bnd.2.1 hM.lo)
    rw [hp, hm0] at HPk
    by_cases hn : M.N < h
    · rw [show max M.N h = h by omega] at HPk
      by_cases hs : M.skipE h = 0
      · have hE : M.delE h t = 0 := by unfold FnM.delE; rw [if_pos hp, if_pos hn]; exact hs
        rw [show M.delV h t = h by unfold FnM.delV; rw [if_pos hE]; omega, hE, show M.del h t = ⟨M.skipL h, h + 1⟩ by unfold FnM.del; rw [if_pos hE, if_pos hn]]
        rw [hs] at HSk
        have hh1 : h ≤ 1099511627775 := by omega
        generalize M.skipL h = L2 at *
        generalize M.N = n at *
        clear hX HG0 HS0 hM hp hm0 hs hE p2 p3
        go_enter Try.func14, Try.ntmps14
        go_wp2_with (first
          | (go_at_call 21; ((with_reducible refine HPk.out.mono ?_)); rintro e w1 ⟨rfl, rfl⟩)
          | (go_at_call 42; ((with_reducible refine HSk.out.mono ?_)); rintro e w2 ⟨rfl, hg⟩; obtain ⟨d1, d2, HG⟩ := zfn_next (goes_sit hg) (h + 1); clear hg))
        go_ret2
        exact ⟨rfl, HG.out⟩
      · have hE : M.delE h t = M.skipE h := by unfold FnM.delE; rw [if_pos hp, if_pos hn]
        have hL : M.skipL h = M.L := by
          unfold FnM.skipE at hs
          unfold FnM.skipL
          by_cases hf : h ≤ M.L.fin
          · rw [if_pos hf]
          · rw [if_neg hf] at hs ⊢; exact add_no rfl hs
        rw [show M.delV h t = 0 by unfold FnM.delV; rw [hE, if_neg hs], show M.del h t = M by unfold FnM.del; rw [hE, if_neg hs], hE]
        have hsb : (M.skipE h != 0) = true := by rw [bne_iff_ne]; exact hs
        have HF := Lib.hid (fun w' (hg : Goes (zfX q l M.N (M.skipL h)) W w w') => show Goes (zfT q M) W w w' from by
          rw [hL] at hg; exact hg.turn (fun h => ⟨l, h⟩))
        generalize M.skipE h = se at *
        generalize M.skipL h = L2 at *
        generalize M.N = n at *
        clear hX HG0 HS0 hM hp hm0 hE p2 p3 hL
        go_enter Try.func14, Try.ntmps14
        go_wp2_with (first
          | (go_at_call 21; ((with_reducible refine HPk.out.mono ?_)); rintro e w1 ⟨rfl, rfl⟩)
          | (go_at_call 42; ((with_reducible refine HSk.out.mono ?_)); rintro e w2 ⟨rfl, hg⟩; have HG := Lib.hid (HF.out _ hg); clear hg))
        go_ret2
        exact ⟨rfl, HG.out⟩
    · rw [show max M.N h = M.N by omega] at HPk
      have hE : M.delE h t = 0 := by unfold FnM.delE; rw [if_pos hp, if_neg hn]
      rw [show M.delV h t = M.N by unfold FnM.delV; rw [if_pos hE]; omega, hE, show M.del h t = ⟨M.L, M.N + 1⟩ by unfold FnM.del; rw [if_pos hE, if_neg hn]]
      have hh1 : M.N ≤ 1099511627775 := by omega
      obtain ⟨d1, d2, HG⟩ := zfn_next HS0.out (M.N + 1)
      generalize M.N = n at *
      clear hX HG0 HS0 HSk hM hp hm0 hE p2 p3
      go_enter Try.func14, Try.ntmps14
      go_wp2_with (go_at_call 21; ((with_reducible refine HPk.out.mono ?_)); rintro e w1 ⟨rfl, rfl⟩)
      go_ret2
      exact ⟨rfl, HG.out⟩
  · have hE : M.delE h t = M.peekE h t := by unfold FnM.delE; rw [if_neg hp]
    rw [show M.delV h t = 0 by unfold FnM.delV; rw [hE, if_neg hp], show M.del h t = M by unfold FnM.del; rw [hE, if_neg hp], hE]
    have hpb : (M.peekE h t != 0) = true := by rw [bne_iff_ne]; exact hp
    generalize M.peekE h t = pe at *
    generalize M.peekV h t = pv at *
    clear hX HSk HS0 hM hE c0 c1
    go_enter Try.func14, Try.ntmps14
    go_wp2_with (go_at_call 21; ((with_reducible refine HPk.out.mono ?_)); rintro e w1 ⟨rfl, rfl⟩)
    go_ret2
    exact ⟨rfl, HG0.out⟩
end
end Go.Proofs.Ytdlkdagmaeapdaa
