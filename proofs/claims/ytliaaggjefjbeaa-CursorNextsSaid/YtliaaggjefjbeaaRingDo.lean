/- What the calls of the program's ring do that read, or mark a place: made, full, Head, Tail, Room, headMayGo, refuse, refuseClaim, Publish, Get. No condition but that the ring is one. -/
import Derived.Test.YtliaaggjefjbeaaRingLay
import Derived.BigQuiet
import Derived.Deep.DeepCutAuto
namespace Go.Proofs.Ytliaaggjefjbeaa
open Go.RowKit
set_option linter.unusedVariables false
set_option linter.unusedSimpArgs false
set_option maxRecDepth 100000

section
variable {w w' : World} {W S : Nat → Prop} {q lc pc n h : Nat} {la pa : Option Addr} {ov : Bool} {R : List Int} {D : List Bool}

theorem rmade_any (H : RgIn w W q la lc pa pc n ov h R D) (hn : 1 ≤ n) : Calls Try.prog 43 #[.pointer (some ⟨q, 0, none⟩)] w fun e w' => e = .returned (.bool true) ∧ w = w' := by
  obtain ⟨c0, _⟩ := H.cells
  clear H
  go_enter Try.func43, Try.ntmps43
  go_wp2_with fail
  go_ret
  exact ⟨by simp; omega, rfl⟩

theorem rfull_any (H : RgIn w W q la lc pa pc n ov h R D) (m : Nat) (hm : m = R.length) : Calls Try.prog 41 #[.pointer (some ⟨q, 0, none⟩)] w fun e w' => e = .returned (.bool (decide (m = n))) ∧ Still w w' := by
  obtain ⟨c0, _, _, c3, _⟩ := H.cells
  rw [← hm] at c3
  have HB := Lib.hid (show ((m : Int) == (n : Int)) = decide (m = n) by
    by_cases e : m = n
    · simp [e]
    · have : ¬ (m : Int) = (n : Int) := by omega
      simp [e, this])
  clear H hm
  go_enter Try.func41, Try.ntmps41
  go_wp2_with fail
  go_quiet (fail)
  go_wp2_with fail
  go_ret
  refine ⟨?_, (Turned.refl _ _).drewN _⟩
  first
    | exact congrArg (fun b => Ending.returned (.bool b)) HB.out
    | rfl
    | simp

theorem rhead_any (H : RgIn w W q la lc pa pc n ov h R D) (hn : 1 ≤ n) : Calls Try.prog 31 #[.pointer (some ⟨q, 0, none⟩)] w fun e w' => e = .returned (.int .i64 h) ∧ w = w' := by
  have HM := Lib.hid (rmade_any H hn)
  obtain ⟨c0, _, c2, _⟩ := H.cells
  clear H
  go_enter Try.func31, Try.ntmps31
  go_wp2_with (go_at_call 43; refine HM.out.mono ?_; rintro e w' ⟨rfl, rfl⟩)
  go_ret
  exact ⟨rfl, rfl⟩

theorem rroom_any (H : RgIn w W q la lc pa pc n ov h R D) (hn : 1 ≤ n) : Calls Try.prog 46 #[.pointer (some ⟨q, 0, none⟩)] w fun e w' => e = .returned (.int .i64 n) ∧ w = w' := by
  have HM := Lib.hid (rmade_any H hn)
  obtain ⟨c0, _, c2, _⟩ := H.cells
  clear H
  go_enter Try.func46, Try.ntmps46
  go_wp2_with (go_at_call 43; refine HM.out.mono ?_; rintro e w' ⟨rfl, rfl⟩)
  go_ret
  exact ⟨rfl, rfl⟩

theorem rtail_any (H : RgIn w W q la lc pa pc n ov h R D) (hn : 1 ≤ n) (t : Nat) (ht : t = h + R.length) (hb : t < 1000000000) : Calls Try.prog 29 #[.pointer (some ⟨q, 0, none⟩)] w fun e w' => e = .returned (.int .i64 t) ∧ Still w w' := by
  have HM := Lib.hid (rmade_any H hn)
  obtain ⟨c0, _, c2, c3, _⟩ := H.cells
  obtain ⟨m, hm⟩ : ∃ m, m = R.length := ⟨_, rfl⟩
  rw [← hm] at ht c3
  have HT := Lib.hid (show ((t : Nat) : Int) = (h : Int) + (m : Int) by omega)
  have h1 : (h : Int) < 1000000000 := by omega
  have h2 : (m : Int) < 1000000000 := by omega
  have h3 : (0 : Int) ≤ (h : Int) := by omega
  rw [HT.out]
  generalize (h : Int) = hh at *
  clear H hm HT ht hb
  go_enter Try.func29, Try.ntmps29
  go_wp2_with (go_at_call 43; refine HM.out.mono ?_; rintro e w' ⟨rfl, rfl⟩)
  go_quiet (fail)
  go_wp2_with fail
  go_ret
  exact ⟨rfl, (Turned.refl _ _).drewN _⟩

theorem rmay_any (H : RgIn w W q la lc pa pc n ov h R D) (d : Bool) (hd : D[0]? = some d) : Calls Try.prog 48 #[.pointer (some ⟨q, 0, none⟩)] w fun e w' => e = .returned (.bool (ov && d)) ∧ Still w w' := by
  obtain ⟨_, c1, _, _, c4⟩ := H.cells
  obtain ⟨g, o, rfl, _, cd, _⟩ := H.ps.cell (bools_get hd)
  rw [Nat.add_zero] at cd
  have h0 : 0 < D.length := (List.getElem?_eq_some_iff.1 hd).1
  obtain ⟨m, hm⟩ : ∃ m, m = D.length := ⟨_, rfl⟩
  rw [← hm] at c4 h0
  have h01 : (0 : Int) < (m : Int) := by omega
  clear H hm hd
  cases ov
  · rw [show polB false = 0 from rfl] at c1
    go_enter Try.func48, Try.ntmps48
    go_wp2_with fail
    go_ret
    exact ⟨rfl, Turned.refl _ _⟩
  · rw [show polB true = 1 from rfl] at c1
    go_enter Try.func48, Try.ntmps48
    go_wp2_with fail
    go_ret
    exact ⟨by simp, Turned.refl _ _⟩
end

theorem rrefuse_any {w : World} {W : Nat → Prop} {q lc pc : Nat} {la pa : Option Addr} {M : RM} {N : Nat} (H : RgM w W q la lc pa pc M) (hM : M.Ok N) (hN : N < 1000000) (a : Int) :
    Calls Try.prog 44 #[.pointer (some ⟨q, 0, none⟩), .int .i64 a] w fun e w' => e = .returned (.int .i64 (M.findE a)) ∧ Still w w' := by
  have HMd := Lib.hid (rmade_any H hM.pos)
  obtain ⟨_, _, c2, _⟩ := H.cells
  have HT := Lib.hid (rtail_any H hM.pos M.tail (by rw [RM.refs_len]; rfl) (by have := hM.low; omega))
  by_cases h1 : a < 0
  · have HR := Lib.hid (show M.findE a = 2 by unfold RM.findE; rw [if_pos h1])
    rw [HR.out]
    clear HR H hM
    go_enter Try.func44, Try.ntmps44
    go_wp2_with (go_at_call 43; refine HMd.out.mono ?_; rintro e w' ⟨rfl, rfl⟩)
    go_ret
    exact ⟨rfl, Turned.refl _ _⟩
  · by_cases h2 : a < (M.h : Int)
    · have HR := Lib.hid (show M.findE a = 61 by unfold RM.findE; rw [if_neg h1, if_pos h2])
      rw [HR.out]
      generalize (M.h : Int) = h at *
      clear HR H hM
      go_enter Try.func44, Try.ntmps44
      go_wp2_with (go_at_call 43; refine HMd.out.mono ?_; rintro e w' ⟨rfl, rfl⟩)
      go_ret
      exact ⟨rfl, Turned.refl _ _⟩
    · by_cases h3 : (M.tail : Int) ≤ a
      · have HR := Lib.hid (show M.findE a = 5 by unfold RM.findE; rw [if_neg h1, if_neg h2, if_pos h3])
        rw [HR.out]
        generalize (M.h : Int) = h at *
        generalize ((M.tail : Nat) : Int) = t at *
        clear HR H hM
        go_enter Try.func44, Try.ntmps44
        go_wp2_with (first
          | (go_at_call 43; refine HMd.out.mono ?_; rintro e w' ⟨rfl, rfl⟩)
          | (go_at_call 29; refine HT.out.mono ?_; rintro e w' ⟨rfl, hst⟩))
        go_ret
        exact ⟨rfl, hst⟩
      · have HR := Lib.hid (show M.findE a = 0 by unfold RM.findE; rw [if_neg h1, if_neg h2, if_neg h3])
        rw [HR.out]
        generalize (M.h : Int) = h at *
        generalize ((M.tail : Nat) : Int) = t at *
        clear HR H hM
        go_enter Try.func44, Try.ntmps44
        go_wp2_with (first
          | (go_at_call 43; refine HMd.out.mono ?_; rintro e w' ⟨rfl, rfl⟩)
          | (go_at_call 29; refine HT.out.mono ?_; rintro e w' ⟨rfl, hst⟩))
        go_ret
        exact ⟨rfl, hst⟩

theorem rget_any {w : World} {W : Nat → Prop} {q : Nat} {M : RM} {N : Nat} (H0 : (rT q M).at_ w W) (hM : M.Ok N) (hN : N < 1000000) (a : Int) (ha64 : w64 a) :
    Calls Try.prog 38 #[.pointer (some ⟨q, 0, none⟩), .int .i64 a] w fun e w' => e = .returned (.tuple #[.int .i64 (M.getR a), .int .i64 (M.getE a)]) ∧ Still w w' := by
  obtain ⟨la, lc, pa, pc, H⟩ := H0
  have HV := Lib.hid (rrefuse_any H hM hN a)
  have hl := hM.low
  have hlo : (M.h : Int) < 1000000 := by unfold RM.tail at hl; omega
  have hlo0 : (0 : Int) ≤ (M.h : Int) := by omega
  by_cases he : M.findE a = 0
  · obtain ⟨hk, ha, hp⟩ := RM.found he
    obtain ⟨⟨g, o, rfl, p0⟩, g', o', rfl, hWg, p1, p2⟩ := H.place hp
    obtain ⟨n, hn⟩ : ∃ n, n = M.l.length := ⟨_, rfl⟩
    have hnl := H.ls.le
    have hnp := H.ps.le
    rw [RM.refs_len, ← hn] at hnl
    rw [RM.dn_len, ← hn] at hnp
    have HC := Lib.hid (fun w' (hst : Still w w') => (by
      obtain ⟨_, _, x2, x3, x4⟩ := (H.still hst).cells
      rw [RM.refs_len, ← hn] at x3
      rw [RM.dn_len, ← hn] at x4
      exact ⟨x2, x3, x4, still_cell hst p1 rfl, still_cell hst p0 rfl⟩ : w'.cell? ⟨q, 2, none⟩ = some (.int .i64 M.h) ∧ w'.cell? ⟨q, 3, none⟩ = some (.slice (some ⟨g, o, none⟩) n lc) ∧ w'.cell? ⟨q, 4, none⟩ = some (.slice (some ⟨g', o', none⟩) n pc) ∧ w'.cell? ⟨g', o' + M.cut a, none⟩ = some (.bool (M.pl a).d) ∧ w'.cell? ⟨g, o + M.cut a, none⟩ = some (.int .i64 (M.pl a).r)))
    have hn64 : n ≤ 64 := by have := hM.len; have := hM.max; omega
    have hkn : M.cut a < n := by omega
    have hsub : a - (M.h : Int) = (M.cut a : Nat) := by omega
    rw [he] at HV
    cases hd : (M.pl a).d with
    | true =>
      rw [hd] at HC
      have HR := Lib.hid (show M.getE a = 0 by unfold RM.getE; rw [if_neg (by simp [he]), if_pos hd])
      rw [HR.out, show M.getR a = (M.pl a).r by unfold RM.getR; rw [if_neg (by rw [HR.out]; simp)]]
      generalize M.cut a = k at *
      generalize (M.pl a).r = rr at *
      generalize (M.h : Int) = h at *
      have hw : IntKind.i64.wrap (a - h) = (k : Int) := by rw [hsub]; simp [IntKind.wrap, IntKind.signed, IntKind.bits]; omega
      have hk1 : (k : Int) < (n : Int) := by omega
      have hk0 : (0 : Int) ≤ (k : Int) := by omega
      clear HR H hM hp p0 p1 p2 hn he hd ha hsub hl
      go_enter Try.func38, Try.ntmps38
      go_wp2_with (go_at_call 44; refine HV.out.mono ?_; rintro e w' ⟨rfl, hst⟩; obtain ⟨c2, c3, c4, cd, cr⟩ := HC.out w' hst)
      go_quiet (fail)
      go_wp2_with fail
      go_quiet (fail)
      go_wp2_with fail
      go_ret2
      exact ⟨rfl, (hst.drewN _).drewN _⟩
    | false =>
      rw [hd] at HC
      have HR := Lib.hid (show M.getE a = 8 by unfold RM.getE; rw [if_neg (by simp [he]), if_neg (by simp [hd])])
      rw [HR.out, show M.getR a = 0 by unfold RM.getR; rw [if_pos (by rw [HR.out]; simp)]]
      generalize M.cut a = k at *
      generalize (M.pl a).r = rr at *
      generalize (M.h : Int) = h at *
      have hw : IntKind.i64.wrap (a - h) = (k : Int) := by rw [hsub]; simp [IntKind.wrap, IntKind.signed, IntKind.bits]; omega
      have hk1 : (k : Int) < (n : Int) := by omega
      have hk0 : (0 : Int) ≤ (k : Int) := by omega
      clear HR H hM hp p0 p1 p2 hn he hd ha hsub hl
      go_enter Try.func38, Try.ntmps38
      go_wp2_with (go_at_call 44; refine HV.out.mono ?_; rintro e w' ⟨rfl, hst⟩; obtain ⟨c2, c3, c4, cd, cr⟩ := HC.out w' hst)
      go_quiet (fail)
      go_wp2_with fail
      go_ret2
      exact ⟨rfl, hst.drewN _⟩
  · have hb : (M.findE a != 0) = true := by rw [bne_iff_ne]; exact he
    have HR := Lib.hid (show M.getE a = M.findE a by unfold RM.getE; rw [if_pos he])
    rw [show M.getR a = 0 by unfold RM.getR; rw [if_pos (by rw [HR.out]; exact he)], HR.out]
    generalize M.findE a = x at *
    clear HR H hM hN he hl hlo hlo0
    go_enter Try.func38, Try.ntmps38
    go_wp2_with (go_at_call 44; refine HV.out.mono ?_; rintro e w' ⟨rfl, hst⟩)
    go_ret2
    exact ⟨rfl, hst⟩

theorem rpub_any {w : World} {W : Nat → Prop} {q : Nat} {M : RM} {N : Nat} (H0 : (rT q M).at_ w W) (hM : M.Ok N) (hN : N < 1000000) (a : Int) (ha64 : w64 a) :
    Calls Try.prog 30 #[.pointer (some ⟨q, 0, none⟩), .int .i64 a] w fun e w' => e = .returned (.int .i64 (M.pubE a)) ∧ Goes (rT q (M.pubM a)) W w w' := by
  obtain ⟨la, lc, pa, pc, H⟩ := H0
  have HV := Lib.hid (rrefuse_any H hM hN a)
  by_cases he : M.findE a = 0
  · obtain ⟨hk, ha, hp⟩ := RM.found he
    obtain ⟨_, g', o', rfl, hWg, p1, p2⟩ := H.place hp
    obtain ⟨n, hn⟩ : ∃ n, n = M.l.length := ⟨_, rfl⟩
    have hnp := H.ps.le
    rw [RM.dn_len, ← hn] at hnp
    have HC := Lib.hid (fun w' (hst : Still w w') => (by
      obtain ⟨_, _, x2, x3, x4⟩ := (H.still hst).cells
      rw [RM.dn_len, ← hn] at x4
      exact ⟨x2, x4, still_cell hst p1 rfl⟩ : w'.cell? ⟨q, 2, none⟩ = some (.int .i64 M.h) ∧ w'.cell? ⟨q, 4, none⟩ = some (.slice (some ⟨g', o', none⟩) n pc) ∧ w'.cell? ⟨g', o' + M.cut a, none⟩ = some (.bool (M.pl a).d)))
    have HZ := Lib.hid (fun w' (hst : Still w w') => (by
      obtain ⟨_, _, _, e, _, _, z⟩ := (H.still hst).place hp
      cases e
      exact z : w'.frozen? ⟨g', o' + M.cut a, none⟩ = false))
    have hn64 : n ≤ 64 := by have := hM.len; have := hM.max; omega
    have hkn : M.cut a < n := by omega
    have hsub : a - (M.h : Int) = (M.cut a : Nat) := by omega
    rw [he] at HV
    cases hd : (M.pl a).d with
    | true =>
      rw [hd] at HC
      have HR := Lib.hid (show M.pubE a = 6 by unfold RM.pubE; rw [if_neg (by simp [he]), if_pos hd])
      have HG := Lib.hid (fun w' (hst : Still w w') => rT_still H hst)
      rw [HR.out, show M.pubM a = M by unfold RM.pubM; rw [if_pos (by rw [HR.out]; omega)]]
      generalize M.cut a = k at *
      generalize (M.h : Int) = h at *
      have hw : IntKind.i64.wrap (a - h) = (k : Int) := by rw [hsub]; simp [IntKind.wrap, IntKind.signed, IntKind.bits]; omega
      have hk1 : (k : Int) < (n : Int) := by omega
      have hk0 : (0 : Int) ≤ (k : Int) := by omega
      clear HR H hM hp p1 p2 hn he hd ha hsub
      go_enter Try.func30, Try.ntmps30
      go_wp2_with (go_at_call 44; refine HV.out.mono ?_; rintro e w' ⟨rfl, hst⟩; obtain ⟨c2, c4, cd⟩ := HC.out w' hst)
      go_quiet (fail)
      go_wp2_with fail
      go_ret
      exact ⟨rfl, HG.out _ (hst.drewN _)⟩
    | false =>
      rw [hd] at HC
      have HR := Lib.hid (show M.pubE a = 0 by unfold RM.pubE; rw [if_neg (by simp [he]), if_neg (by simp [hd])])
      have HG := Lib.hid (fun w' (hst : Still w w') => show Goes (rT q (M.pubM a)) W w (w'.setCell ⟨g', o' + M.cut a, none⟩ (.bool true)) by
        rw [show M.pubM a = { M with l := M.l.set (M.cut a) ⟨(M.pl a).r, true⟩ } by unfold RM.pubM; rw [if_neg (by rw [HR.out]; simp)]]
        have h1 := (H.still hst).setD (k := M.cut a) (by rw [RM.dn_len]; omega) true
        refine rT_goes (la := la) (lc := lc) (pa := some ⟨g', o', none⟩) (pc := pc) ?_ ((hst.mono (T := W) (fun _ _ h => h.elim)).setCell (p := ⟨g', _, none⟩) (.inl hWg) _) (fun k hk => .inl hk)
        have e1 : RM.refs { M with l := M.l.set (M.cut a) ⟨(M.pl a).r, true⟩ } = M.refs := by
          unfold RM.refs
          rw [List.map_set]
          refine List.ext_getElem? fun i => ?_
          by_cases e : M.cut a = i
          · subst e; rw [List.getElem?_set_self (by simpa using hk), List.getElem?_map, hp]; rfl
          · rw [List.getElem?_set_ne e]
        have e2 : RM.dn { M with l := M.l.set (M.cut a) ⟨(M.pl a).r, true⟩ } = M.dn.set (M.cut a) true := by
          unfold RM.dn; rw [List.map_set]
        show RgIn _ W q la lc _ pc M.n M.ov M.h _ _
        rw [e1, e2]
        exact h1)
      rw [HR.out]
      generalize M.cut a = k at *
      generalize M.pubM a = M2 at *
      generalize (M.h : Int) = h at *
      have hw : IntKind.i64.wrap (a - h) = (k : Int) := by rw [hsub]; simp [IntKind.wrap, IntKind.signed, IntKind.bits]; omega
      have hk1 : (k : Int) < (n : Int) := by omega
      have hk0 : (0 : Int) ≤ (k : Int) := by omega
      clear HR H hM hp p1 p2 hn he hd ha hsub
      go_enter Try.func30, Try.ntmps30
      go_upto_region 6 with (go_at_call 44; refine HV.out.mono ?_; rintro e w' ⟨rfl, hst⟩; obtain ⟨c2, c4, cd⟩ := HC.out w' hst)
      go_quiet (fail)
      have HS := Lib.hid (hst.drewN nq)
      have fz := HZ.out _ HS.out
      obtain ⟨c2, c4, cd⟩ := HC.out _ HS.out
      clear hst
      generalize w'.drewN nq = w2 at *
      go_upto_region 6 with fail
      go_region
      all_goals
        go_wp2_with fail
        go_ret
        exact ⟨rfl, (HG.out w2 HS.out).drew⟩
  · have hb : (M.findE a != 0) = true := by rw [bne_iff_ne]; exact he
    have HR := Lib.hid (show M.pubE a = M.findE a by unfold RM.pubE; rw [if_pos he])
    have HG := Lib.hid (fun w' (hst : Still w w') => rT_still H hst)
    rw [show M.pubM a = M by unfold RM.pubM; rw [if_pos (by rw [HR.out]; exact he)], HR.out]
    generalize M.findE a = x at *
    clear HR H hM hN he
    go_enter Try.func30, Try.ntmps30
    go_wp2_with (go_at_call 44; refine HV.out.mono ?_; rintro e w' ⟨rfl, hst⟩)
    go_ret
    exact ⟨rfl, HG.out w' hst⟩
end Go.Proofs.Ytliaaggjefjbeaa
