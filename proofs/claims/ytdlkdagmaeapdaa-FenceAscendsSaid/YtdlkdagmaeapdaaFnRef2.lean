/- The document's track: Commit, Deliver. No condition but that it is one. -/
import Derived.Test.YtdlkdagmaeapdaaFnRef
namespace Go.Proofs.Ytdlkdagmaeapdaa
open Go.RowKit
set_option linter.unusedVariables false
set_option linter.unusedSimpArgs false
set_option maxRecDepth 100000

section
variable {q l : Nat} {M : FnM} {w V : World} {W : Nat → Prop}
theorem zfncom_any (hX : (zfT q M).at_ w W) (hM : M.Ok) (x : Int) : Calls Try.prog 16 #[.pointer (some ⟨q, 0, none⟩), .int .i64 x] w fun e w' => e = .returned (.int .i64 (M.comE x)) ∧ Goes (zfT q (M.com x)) W w w' := by
  obtain ⟨l, hX⟩ := hX
  obtain ⟨c0, c1, _⟩ := zfn_cells hX
  obtain ⟨W1, g1, _, g2⟩ := goes_fst (sep_swap hX)
  have HEn := Lib.hid (zlgend_any g1 hM.led)
  have HAd := Lib.hid (fun V (hs : Still w V) => zlgadd_any (Thing.keep _ g1 hs (fun _ _ h => h)) hM.led x true)
  have HG := Lib.hid (fun (L : LgM) (V w' : World) (hs : Still w V) (hg : Goes (zLT l L) W1 V w') => show Goes (zfT q ⟨L, M.N⟩) W w w' from by
    have h3 := g2 (zLT l L) w' (by
      obtain ⟨W', p1, p2, p3⟩ := hg
      exact ⟨W', p1, (hs.mono (fun _ _ h => h.elim)).trans p2, fun k hk => (p3 k hk).imp id (fun h => Nat.le_trans hs.size h)⟩)
    exact h3.turn (fun h => ⟨l, sep_swap h⟩))
  have HG0 := Lib.hid (fun V (hs : Still w V) => show Goes (zfT q M) W w V from Goes.still (Q := zfT q M) ⟨l, hX⟩ hs)
  have HC := Lib.hid (fun V (hs : Still w V) => And.intro (still_cell hs c0 (rfl : 0 = 0)) (still_cell hs c1 (rfl : 1 = 1)))
  have HN := Lib.hid (fun (he : M.comE x ≠ 0) V (hs : Still w V) => show Goes (zfT q (M.com x)) W w V from by unfold FnM.com; rw [if_neg he]; exact HG0.out V hs)
  by_cases h1 : x < 0 ∨ 1099511627776 < x
  · have he : M.comE x = 2 := by unfold FnM.comE; rw [if_pos h1]
    rw [he] at HN ⊢
    have HE := Lib.hid (HN.out (by omega))
    clear hX g1 g2 HAd HG HEn HG0 HN he hM c0 c1
    go_enter Try.func16, Try.ntmps16
    go_wp2_with fail
    all_goals (go_ret; exact ⟨rfl, HE.out _ (Turned.refl _ _)⟩)
  · have h3 : ¬ x < 0 := by omega
    have h4 : ¬ 1099511627776 < x := by omega
    by_cases h2 : x ≤ M.L.fin ∨ M.N < x
    · have he : M.comE x = 61 := by unfold FnM.comE; rw [if_neg h1, if_pos h2]
      rw [he] at HN ⊢
      have HE := Lib.hid (HN.out (by omega))
      have h2' : x ≤ M.L.fin ∨ (¬ x ≤ M.L.fin ∧ M.N < x) := by omega
      generalize M.L.fin = f at *
      generalize M.N = n at *
      clear hX g1 g2 HAd HG HG0 HN he hM h1 h2
      rcases h2' with h5 | ⟨h5, h6⟩
      all_goals (
        go_enter Try.func16, Try.ntmps16
        go_wp2_with (go_at_call 11; ((with_reducible refine HEn.out.mono ?_)); rintro e w1 ⟨rfl, hs⟩; have HS := Lib.hid hs; obtain ⟨d0, d1⟩ := HC.out _ hs; clear hs)
        go_ret
        exact ⟨rfl, HE.out _ HS.out⟩)
    · have he : M.comE x = addE M.L x true := by unfold FnM.comE; rw [if_neg h1, if_neg h2]
      have HE := Lib.hid (fun V w' (hs : Still w V) (hg : Goes (zLT l (M.L.add x true)) W1 V w') => show Goes (zfT q (M.com x)) W w w' from by
        have h := HG.out _ V w' hs hg
        unfold FnM.com
        rw [he]
        by_cases h0 : addE M.L x true = 0
        · rw [if_pos h0]; exact h
        · rw [if_neg h0]
          rw [add_no rfl h0] at h
          exact h)
      rw [he]
      have h5 : ¬ x ≤ M.L.fin := by omega
      have h6 : ¬ M.N < x := by omega
      generalize M.L.fin = f at *
      generalize M.N = n at *
      clear hX g1 g2 HG HG0 HN he hM h1 h2
      go_enter Try.func16, Try.ntmps16
      go_wp2_with (first
        | (go_at_call 11; ((with_reducible refine HEn.out.mono ?_)); rintro e w1 ⟨rfl, hs⟩; have HS := Lib.hid hs; obtain ⟨d0, d1⟩ := HC.out _ hs; clear hs)
        | (go_at_call 46; ((with_reducible refine (HAd.out _ HS.out).mono ?_)); rintro e w2 ⟨rfl, hg⟩; have HG2 := Lib.hid hg; clear hg))
      go_ret
      exact ⟨rfl, HE.out _ _ HS.out HG2.out⟩
end
end Go.Proofs.Ytdlkdagmaeapdaa
