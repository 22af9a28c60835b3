/- The document's track: Seek. No condition but that it is one. -/
import Derived.Test.YtdlkdagmaeapdaaFnDel
namespace Go.Proofs.Ytdlkdagmaeapdaa
open Go.RowKit
set_option linter.unusedVariables false
set_option linter.unusedSimpArgs false
set_option maxRecDepth 100000

section
variable {q l : Nat} {M : FnM} {w V : World} {W : Nat → Prop}
set_option maxHeartbeats 2000000 in
theorem zfnseek_any (hX : (zfT q M).at_ w W) (hM : M.Ok) (x h t : Int) : Calls Try.prog 18 #[.pointer (some ⟨q, 0, none⟩), .int .i64 x, .int .i64 h, .int .i64 t] w fun e w' => e = .returned (.int .i64 (M.seekE x h t)) ∧ Goes (zfT q (M.seek x h t)) W w w' := by
  have HCk := Lib.hid (zfcheck_any h t w)
  have HG0 := Lib.hid (fun V (hs : Still w V) => show Goes (zfT q M) W w V from Goes.still (Q := zfT q M) hX hs)
  have HNo := Lib.hid (fun (he : M.seekE x h t ≠ 0) V (hs : Still w V) => show Goes (zfT q (M.seek x h t)) W w V from by unfold FnM.seek; rw [if_neg he]; exact HG0.out V hs)
  obtain ⟨l, hX⟩ := hX
  obtain ⟨c0, c1, W1, hz⟩ := zfn_cells hX
  have HEn := Lib.hid (zlgend_any hz hM.led)
  have HS0 := Lib.hid (fun V (hs : Still w V) => show Sit W w V (zfX q l M.N M.L) from (Sit.start hX).still hs)
  have HC := Lib.hid (fun V (hs : Still w V) => And.intro (still_cell hs c0 (rfl : 0 = 0)) (still_cell hs c1 (rfl : 1 = 1)))
  have HSk := Lib.hid (fun V (H : Sit W w V (zfX q l M.N M.L)) => show Calls Try.prog 42 #[.pointer (some ⟨q, 0, none⟩), .int .i64 x] V fun e w' => e = .returned (.int .i64 (M.skipE x)) ∧ Sit W w w' (zfX q l M.N (M.skipL x)) from by
    obtain ⟨U, h1, h2⟩ := H.use
    exact (zfnskip_any h1 hM.led x).mono fun e w' ⟨he, hg⟩ => ⟨he, h2 _ _ hg⟩)
  by_cases hw : winE h t = 0
  · rw [hw] at HCk
    by_cases h1 : x < 0 ∨ 1099511627776 < x
    · have hE : M.seekE x h t = 2 := by unfold FnM.seekE; rw [if_pos hw, if_pos h1]
      rw [hE] at HNo ⊢
      have HE := Lib.hid (HNo.out (by omega))
      have h1' : x < 0 ∨ (¬ x < 0 ∧ 1099511627776 < x) := by omega
      clear hX HG0 HNo HEn HSk HS0 HC hM hE hw h1 hz c0 c1
      rcases h1' with h5 | ⟨h5, h6⟩
      all_goals (
        go_enter Try.func18, Try.ntmps18
        go_wp2_with (go_at_call 48; ((with_reducible refine HCk.out.mono ?_)); rintro e w1 ⟨rfl, rfl⟩)
        go_ret
        exact ⟨rfl, HE.out _ (Turned.refl _ _)⟩)
    · have h3 : ¬ x < 0 := by omega
      have h4 : ¬ 1099511627776 < x := by omega
      by_cases h2 : x < h ∨ t < x ∨ x < M.L.fin
      · have hE : M.seekE x h t = 61 := by unfold FnM.seekE; rw [if_pos hw, if_neg h1, if_pos h2]
        rw [hE] at HNo ⊢
        have HE := Lib.hid (HNo.out (by omega))
        have h2' : x < h ∨ (¬ x < h ∧ t < x) ∨ (¬ x < h ∧ ¬ t < x ∧ x < M.L.fin) := by omega
        generalize M.L.fin = f at *
        clear hX HG0 HNo HSk HS0 HC hM hE hw h1 h2 hz
        rcases h2' with h5 | ⟨h5, h6⟩ | ⟨h5, h6, h7⟩
        case' inl => have HP := HE
        all_goals (
          go_enter Try.func18, Try.ntmps18
          go_wp2_with (first
            | (go_at_call 48; ((with_reducible refine HCk.out.mono ?_)); rintro e w1 ⟨rfl, rfl⟩)
            | (go_at_call 11; ((with_reducible refine HEn.out.mono ?_)); rintro e w2 ⟨rfl, hs⟩; have HS := Lib.hid (HE.out _ hs); clear hs))
          go_ret
          first
            | exact ⟨rfl, HS.out⟩
            | exact ⟨rfl, HE.out _ (Turned.refl _ _)⟩)
      · have h5 : ¬ x < h := by omega
        have h6 : ¬ t < x := by omega
        have h7 : ¬ x < M.L.fin := by omega
        by_cases hn : M.N < x
        · have hE : M.seekE x h t = M.skipE x := by unfold FnM.seekE; rw [if_pos hw, if_neg h1, if_neg h2, if_pos hn]
          by_cases hs : M.skipE x = 0
          · rw [hE, hs, show M.seek x h t = ⟨M.skipL x, x⟩ by unfold FnM.seek; rw [hE, if_pos hs, if_pos hn]]
            rw [hs] at HSk
            generalize M.skipL x = L2 at *
            generalize M.L.fin = f at *
            generalize M.N = n at *
            clear hX HG0 HNo hM hE hw h1 h2 hz hs
            go_enter Try.func18, Try.ntmps18
            go_wp2_with (first
              | (go_at_call 48; ((with_reducible refine HCk.out.mono ?_)); rintro e w1 ⟨rfl, rfl⟩)
              | (go_at_call 11; ((with_reducible refine HEn.out.mono ?_)); rintro e w2 ⟨rfl, hs⟩; have HS := Lib.hid (HS0.out _ hs); obtain ⟨e0, e1⟩ := HC.out _ hs; clear hs)
              | (go_at_call 42; ((with_reducible refine (HSk.out _ HS.out).mono ?_)); rintro e w3 ⟨rfl, hg⟩; obtain ⟨d1, d2, HG⟩ := zfn_next hg x; clear hg))
            go_ret
            exact ⟨rfl, HG.out⟩
          · have hL : M.skipL x = M.L := by
              unfold FnM.skipE at hs
              unfold FnM.skipL
              by_cases hf : x ≤ M.L.fin
              · rw [if_pos hf]
              · rw [if_neg hf] at hs ⊢; exact add_no rfl hs
            rw [hE, show M.seek x h t = M by unfold FnM.seek; rw [hE, if_neg hs]]
            have hsb : (M.skipE x != 0) = true := by rw [bne_iff_ne]; exact hs
            have HF := Lib.hid (fun w' (hg : Sit W w w' (zfX q l M.N (M.skipL x))) => show Goes (zfT q M) W w w' from by
              rw [hL] at hg; exact hg.goes.turn (fun h => ⟨l, h⟩))
            generalize M.skipE x = se at *
            generalize M.skipL x = L2 at *
            generalize M.L.fin = f at *
            generalize M.N = n at *
            clear hX HG0 HNo hM hE hw h1 h2 hz hL
            go_enter Try.func18, Try.ntmps18
            go_wp2_with (first
              | (go_at_call 48; ((with_reducible refine HCk.out.mono ?_)); rintro e w1 ⟨rfl, rfl⟩)
              | (go_at_call 11; ((with_reducible refine HEn.out.mono ?_)); rintro e w2 ⟨rfl, hs⟩; have HS := Lib.hid (HS0.out _ hs); obtain ⟨e0, e1⟩ := HC.out _ hs; clear hs)
              | (go_at_call 42; ((with_reducible refine (HSk.out _ HS.out).mono ?_)); rintro e w3 ⟨rfl, hg⟩; have HG := Lib.hid (HF.out _ hg); clear hg))
            go_ret
            exact ⟨rfl, HG.out⟩
        · have hE : M.seekE x h t = 0 := by unfold FnM.seekE; rw [if_pos hw, if_neg h1, if_neg h2, if_neg hn]
          rw [hE, show M.seek x h t = ⟨M.L, x⟩ by unfold FnM.seek; rw [hE, if_pos rfl, if_neg hn]]
          generalize M.L.fin = f at *
          generalize M.N = n at *
          clear hX HG0 HNo HSk hM hE hw h1 h2 hz
          go_enter Try.func18, Try.ntmps18
          go_wp2_with (first
            | (go_at_call 48; ((with_reducible refine HCk.out.mono ?_)); rintro e w1 ⟨rfl, rfl⟩)
            | (go_at_call 11; ((with_reducible refine HEn.out.mono ?_)); rintro e w2 ⟨rfl, hs⟩; obtain ⟨e0, e1⟩ := HC.out _ hs; obtain ⟨d1, d2, HG⟩ := zfn_next (HS0.out _ hs) x; clear hs))
          go_ret
          exact ⟨rfl, HG.out⟩
  · have hw2 : winE h t = 2 := by unfold winE at hw ⊢; split at hw <;> first | (rename_i h9; rw [if_pos h9]) | omega
    have hE : M.seekE x h t = 2 := by unfold FnM.seekE; rw [if_neg hw]
    rw [hE] at HNo ⊢
    rw [hw2] at HCk
    have HE := Lib.hid (HNo.out (by omega))
    clear hX HG0 HNo HEn HSk HS0 HC hM hE hw hw2 hz c0 c1
    go_enter Try.func18, Try.ntmps18
    go_wp2_with (go_at_call 48; ((with_reducible refine HCk.out.mono ?_)); rintro e w1 ⟨rfl, rfl⟩)
    go_ret
    exact ⟨rfl, HE.out _ (Turned.refl _ _)⟩
end
end Go.Proofs.Ytdlkdagmaeapdaa
