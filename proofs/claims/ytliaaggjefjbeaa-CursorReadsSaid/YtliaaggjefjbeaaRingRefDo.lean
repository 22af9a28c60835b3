/- What the calls of the document's ring do: Tail, find, Publish, Get. No condition but that the ring is one. -/
import Derived.Test.YtliaaggjefjbeaaRingRef
import Derived.BigQuiet
import Derived.Deep.RegionHeld3
import Derived.Deep.DeepCutAuto
namespace Go.Proofs.Ytliaaggjefjbeaa
open Go.RowKit
set_option linter.unusedVariables false
set_option linter.unusedSimpArgs false
set_option maxRecDepth 100000

theorem zrtail_any {w : World} {W : Nat → Prop} {q lc : Nat} {la : Option Addr} {M : RM} {N : Nat} (H : RIn w W q la lc M) (hM : M.Ok N) (hN : N < 1000000) :
    Calls Try.prog 25 #[.pointer (some ⟨q, 0, none⟩)] w fun e w' => e = .returned (.int .i64 M.tail) ∧ Still w w' := by
  obtain ⟨_, _, c2, c3⟩ := H.cells
  have hl := hM.low
  obtain ⟨n, hn⟩ : ∃ n, n = M.l.length := ⟨_, rfl⟩
  have HR := Lib.hid (show ((M.tail : Nat) : Int) = (M.h : Int) + (n : Int) by unfold RM.tail; omega)
  unfold RM.tail at hl
  rw [← hn] at c3 hl
  have h1 : (M.h : Int) < 1000000 := by omega
  have h2 : (n : Int) < 1000000 := by omega
  have h3 : (0 : Int) ≤ (M.h : Int) := by omega
  rw [HR.out]
  generalize (M.h : Int) = h at *
  clear hl hn H hM hN
  go_enter Try.func25, Try.ntmps25
  go_wp2_with fail
  go_quiet (fail)
  go_wp2_with fail
  go_ret
  exact ⟨rfl, (Turned.refl _ _).drewN _⟩

def RM.findS (M : RM) (a : Int) : Int := if M.findE a = 0 then (M.cut a : Nat) else 0
theorem zrfind_any {w : World} {W : Nat → Prop} {q lc : Nat} {la : Option Addr} {M : RM} {N : Nat} (H : RIn w W q la lc M) (hM : M.Ok N) (hN : N < 1000000) (a : Int) :
    Calls Try.prog 45 #[.pointer (some ⟨q, 0, none⟩), .int .i64 a] w fun e w' => e = .returned (.tuple #[.int .i64 (M.findS a), .int .i64 (M.findE a)]) ∧ Still w w' := by
  obtain ⟨_, _, c2, _⟩ := H.cells
  have HT := Lib.hid (zrtail_any H hM hN)
  have hl := hM.low
  have ht : ((M.tail : Nat) : Int) < 1000000 := by omega
  have hht : (M.h : Int) ≤ (M.tail : Nat) := by unfold RM.tail; omega
  have hh0 : (0 : Int) ≤ (M.h : Int) := by omega
  have HC := Lib.hid (fun w' (hst : Still w w') => still_cell hst c2 rfl)
  by_cases h1 : a < 0
  · have HR := Lib.hid (show M.findS a = 0 ∧ M.findE a = 2 by
      have : M.findE a = 2 := by unfold RM.findE; rw [if_pos h1]
      exact ⟨by unfold RM.findS; rw [this]; rfl, this⟩)
    rw [HR.out.1, HR.out.2]
    clear HR H hM hl
    go_enter Try.func45, Try.ntmps45
    go_wp2_with fail
    go_ret2
    exact ⟨rfl, Turned.refl _ _⟩
  · by_cases h2 : a < (M.h : Int)
    · have HR := Lib.hid (show M.findS a = 0 ∧ M.findE a = 61 by
        have : M.findE a = 61 := by unfold RM.findE; rw [if_neg h1, if_pos h2]
        exact ⟨by unfold RM.findS; rw [this]; rfl, this⟩)
      rw [HR.out.1, HR.out.2]
      generalize (M.h : Int) = h at *
      clear HR H hM hl
      go_enter Try.func45, Try.ntmps45
      go_wp2_with fail
      go_ret2
      exact ⟨rfl, Turned.refl _ _⟩
    · by_cases h3 : (M.tail : Int) ≤ a
      · have HR := Lib.hid (show M.findS a = 0 ∧ M.findE a = 5 by
          have : M.findE a = 5 := by unfold RM.findE; rw [if_neg h1, if_neg h2, if_pos h3]
          exact ⟨by unfold RM.findS; rw [this]; rfl, this⟩)
        rw [HR.out.1, HR.out.2]
        generalize (M.h : Int) = h at *
        generalize ((M.tail : Nat) : Int) = t at *
        clear HR H hM hl
        go_enter Try.func45, Try.ntmps45
        go_wp2_with (go_at_call 25; refine HT.out.mono ?_; rintro e w' ⟨rfl, hst⟩)
        go_ret2
        exact ⟨rfl, hst⟩
      · have HR := Lib.hid (show M.findS a = a - (M.h : Int) ∧ M.findE a = 0 by
          have : M.findE a = 0 := by unfold RM.findE; rw [if_neg h1, if_neg h2, if_neg h3]
          exact ⟨by unfold RM.findS RM.cut; rw [if_pos this]; omega, this⟩)
        rw [HR.out.1, HR.out.2]
        have h0 : 0 ≤ a := by omega
        have h4 : (M.h : Int) ≤ a := by omega
        have h5 : a < (M.tail : Int) := by omega
        generalize (M.h : Int) = h at *
        generalize ((M.tail : Nat) : Int) = t at *
        clear HR H hM hl h1 h2 h3
        go_enter Try.func45, Try.ntmps45
        go_wp2_with (go_at_call 25; refine HT.out.mono ?_; rintro e w' ⟨rfl, hst⟩; have cc := HC.out w' hst)
        go_ret2
        exact ⟨rfl, hst⟩
theorem zrfind_ok {w : World} {W : Nat → Prop} {q lc : Nat} {la : Option Addr} {M : RM} {N : Nat} (H : RIn w W q la lc M) (hM : M.Ok N) (hN : N < 1000000) {a : Int} (he : M.findE a = 0) :
    Calls Try.prog 45 #[.pointer (some ⟨q, 0, none⟩), .int .i64 a] w fun e w' => e = .returned (.tuple #[.int .i64 (M.cut a : Nat), .int .i64 0]) ∧ Still w w' := by
  have := zrfind_any H hM hN a
  unfold RM.findS at this
  rwa [if_pos he, he] at this
theorem zrfind_no {w : World} {W : Nat → Prop} {q lc : Nat} {la : Option Addr} {M : RM} {N : Nat} (H : RIn w W q la lc M) (hM : M.Ok N) (hN : N < 1000000) {a : Int} (he : M.findE a ≠ 0) :
    Calls Try.prog 45 #[.pointer (some ⟨q, 0, none⟩), .int .i64 a] w fun e w' => e = .returned (.tuple #[.int .i64 0, .int .i64 (M.findE a)]) ∧ Still w w' := by
  have := zrfind_any H hM hN a
  unfold RM.findS at this
  rwa [if_neg he] at this

theorem zrpub_any {w : World} {W : Nat → Prop} {q : Nat} {M : RM} {N : Nat} (H0 : (zrT q M).at_ w W) (hM : M.Ok N) (hN : N < 1000000) (a : Int) :
    Calls Try.prog 35 #[.pointer (some ⟨q, 0, none⟩), .int .i64 a] w fun e w' => e = .returned (.int .i64 (M.pubE a)) ∧ Goes (zrT q (M.pubM a)) W w w' := by
  obtain ⟨la, lc, H⟩ := H0
  by_cases he : M.findE a = 0
  · obtain ⟨hk, ha, hp⟩ := RM.found he
    have HV := Lib.hid (zrfind_ok H hM hN he)
    obtain ⟨g, rfl, p0, p1, p2, hgq, hWg⟩ := H.place hp
    obtain ⟨n, hn⟩ : ∃ n, n = M.l.length := ⟨_, rfl⟩
    have HC := Lib.hid (fun w' (hst : Still w w') => (⟨hn ▸ (H.still hst).cells.2.2.2, still_cell hst p1 rfl⟩ : w'.cell? ⟨q, 3, none⟩ = some (.slice (some ⟨g, 0, none⟩) n lc) ∧ w'.cell? ⟨g, M.cut a * 2 + 1, none⟩ = some (.bool (M.pl a).d)))
    have HZ := Lib.hid (fun w' (hst : Still w w') => (by
      obtain ⟨g', e, _, _, z, _⟩ := (H.still hst).place hp
      cases e
      exact z : w'.frozen? ⟨g, M.cut a * 2 + 1, none⟩ = false))
    have hkn : M.cut a < n := by omega
    cases hd : (M.pl a).d with
    | true =>
      rw [hd] at HC
      have HR := Lib.hid (show M.pubE a = 6 by unfold RM.pubE; rw [if_neg (by simp [he]), if_pos hd])
      have HG := Lib.hid (fun w' (hst : Still w w') => zrT_still H hst)
      rw [HR.out, show M.pubM a = M by unfold RM.pubM; rw [if_pos (by rw [HR.out]; omega)]]
      generalize M.cut a = k at *
      clear HR H hM hp p0 p1 p2 hn he hd ha
      go_enter Try.func35, Try.ntmps35
      go_wp2_with (go_at_call 45; refine HV.out.mono ?_; rintro e w' ⟨rfl, hst⟩; obtain ⟨c3, cd⟩ := HC.out w' hst)
      go_ret
      exact ⟨rfl, HG.out w' hst⟩
    | false =>
      rw [hd] at HC
      have HR := Lib.hid (show M.pubE a = 0 by unfold RM.pubE; rw [if_neg (by simp [he]), if_neg (by simp [hd])])
      have HG := Lib.hid (fun w' (hst : Still w w') => show Goes (zrT q (M.pubM a)) W w (w'.setCell ⟨g, M.cut a * 2 + 1, none⟩ (.bool true)) by
        rw [show M.pubM a = { M with l := M.l.set (M.cut a) ⟨(M.pl a).r, true⟩ } by unfold RM.pubM; rw [if_neg (by rw [HR.out]; simp)]]
        exact zrT_goes ((H.still hst).setD hp) ((hst.mono (T := W) (fun _ _ h => h.elim)).setCell (p := ⟨g, _, none⟩) (.inl hWg) _) (fun k hk => .inl hk))
      rw [HR.out]
      generalize M.cut a = k at *
      generalize M.pubM a = M2 at *
      clear HR H hM hp p0 p1 p2 hn he hd ha
      go_enter Try.func35, Try.ntmps35
      go_wp2_with (go_at_call 45; refine HV.out.mono ?_; rintro e w' ⟨rfl, hst⟩; obtain ⟨c3, cd⟩ := HC.out w' hst; have fz := HZ.out w' hst)
      go_ret
      exact ⟨rfl, HG.out w' hst⟩
  · have HV := Lib.hid (zrfind_no H hM hN he)
    have hb : (M.findE a != 0) = true := by rw [bne_iff_ne]; exact he
    have HR := Lib.hid (show M.pubE a = M.findE a by unfold RM.pubE; rw [if_pos he])
    have HG := Lib.hid (fun w' (hst : Still w w') => zrT_still H hst)
    rw [show M.pubM a = M by unfold RM.pubM; rw [if_pos (by rw [HR.out]; exact he)], HR.out]
    generalize M.findE a = x at *
    clear HR H hM hN he
    go_enter Try.func35, Try.ntmps35
    go_wp2_with (go_at_call 45; refine HV.out.mono ?_; rintro e w' ⟨rfl, hst⟩)
    go_ret
    exact ⟨rfl, HG.out w' hst⟩

theorem zrget_any {w : World} {W : Nat → Prop} {q : Nat} {M : RM} {N : Nat} (H0 : (zrT q M).at_ w W) (hM : M.Ok N) (hN : N < 1000000) (a : Int) :
    Calls Try.prog 39 #[.pointer (some ⟨q, 0, none⟩), .int .i64 a] w fun e w' => e = .returned (.tuple #[.int .i64 (M.getR a), .int .i64 (M.getE a)]) ∧ Still w w' := by
  obtain ⟨la, lc, H⟩ := H0
  by_cases he : M.findE a = 0
  · obtain ⟨hk, ha, hp⟩ := RM.found he
    have HV := Lib.hid (zrfind_ok H hM hN he)
    obtain ⟨g, rfl, p0, p1, p2, hgq, hWg⟩ := H.place hp
    obtain ⟨n, hn⟩ : ∃ n, n = M.l.length := ⟨_, rfl⟩
    have HC := Lib.hid (fun w' (hst : Still w w') => (⟨hn ▸ (H.still hst).cells.2.2.2, still_cell hst p1 rfl, still_cell hst p0 rfl⟩ : w'.cell? ⟨q, 3, none⟩ = some (.slice (some ⟨g, 0, none⟩) n lc) ∧ w'.cell? ⟨g, M.cut a * 2 + 1, none⟩ = some (.bool (M.pl a).d) ∧ w'.cell? ⟨g, M.cut a * 2, none⟩ = some (.int .i64 (M.pl a).r)))
    have hkn : M.cut a < n := by omega
    cases hd : (M.pl a).d with
    | true =>
      rw [hd] at HC
      have HR := Lib.hid (show M.getE a = 0 by unfold RM.getE; rw [if_neg (by simp [he]), if_pos hd])
      rw [HR.out, show M.getR a = (M.pl a).r by unfold RM.getR; rw [if_neg (by rw [HR.out]; simp)]]
      generalize M.cut a = k at *
      generalize (M.pl a).r = rr at *
      clear HR H hM hp p0 p1 p2 hn he hd ha
      go_enter Try.func39, Try.ntmps39
      go_wp2_with (go_at_call 45; refine HV.out.mono ?_; rintro e w' ⟨rfl, hst⟩; obtain ⟨c3, cd, cr⟩ := HC.out w' hst)
      go_ret2
      exact ⟨rfl, hst⟩
    | false =>
      rw [hd] at HC
      have HR := Lib.hid (show M.getE a = 8 by unfold RM.getE; rw [if_neg (by simp [he]), if_neg (by simp [hd])])
      rw [HR.out, show M.getR a = 0 by unfold RM.getR; rw [if_pos (by rw [HR.out]; simp)]]
      generalize M.cut a = k at *
      generalize (M.pl a).r = rr at *
      clear HR H hM hp p0 p1 p2 hn he hd ha
      go_enter Try.func39, Try.ntmps39
      go_wp2_with (go_at_call 45; refine HV.out.mono ?_; rintro e w' ⟨rfl, hst⟩; obtain ⟨c3, cd, cr⟩ := HC.out w' hst)
      go_ret2
      exact ⟨rfl, hst⟩
  · have HV := Lib.hid (zrfind_no H hM hN he)
    have hb : (M.findE a != 0) = true := by rw [bne_iff_ne]; exact he
    have HR := Lib.hid (show M.getE a = M.findE a by unfold RM.getE; rw [if_pos he])
    rw [show M.getR a = 0 by unfold RM.getR; rw [if_pos (by rw [HR.out]; exact he)], HR.out]
    generalize M.findE a = x at *
    clear HR H hM hN he
    go_enter Try.func39, Try.ntmps39
    go_wp2_with (go_at_call 45; refine HV.out.mono ?_; rintro e w' ⟨rfl, hst⟩)
    go_ret2
    exact ⟨rfl, hst⟩
end Go.Proofs.Ytliaaggjefjbeaa
