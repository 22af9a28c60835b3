/- What Trim of the program's ring does. No condition but that the ring is one. -/
import Derived.Test.YtefopajkcpcjpaaRingReady
import Derived.Test.YtefopajkcpcjpaaRingCut
namespace Go.Proofs.Ytefopajkcpcjpaa
open Go.RowKit
set_option linter.unusedVariables false
set_option linter.unusedSimpArgs false
set_option maxRecDepth 100000

theorem tw_all' {α : Type} (f : α → Bool) : ∀ (l : List α) (t : Nat), t ≤ l.length → ((l.take t).all f = true ↔ t ≤ (l.takeWhile f).length)
  | [], t, h => by simp at h; subst h; simp
  | a :: r, 0, _ => by simp
  | a :: r, t + 1, h => by
    have ih := tw_all' f r t (by simp at h; omega)
    by_cases ha : f a = true
    · rw [List.takeWhile_cons_of_pos ha]
      simp only [List.take_succ_cons, List.all_cons, ha, Bool.true_and, ih]
      simp
    · rw [List.takeWhile_cons_of_neg ha]
      simp [ha]
theorem tw_le' {α : Type} (f : α → Bool) (l : List α) : (l.takeWhile f).length ≤ l.length := (List.takeWhile_prefix f).length_le

/-- All places ahead of an offset are published just if what is ready from the head on goes as far. -/
theorem RM.trim_ready {M : RM} {a : Int} (h1 : a ≤ (M.tail : Int)) : (M.l.take (M.cut a)).all (·.d) = true ↔ a ≤ (M.ready (M.h : Nat) : Int) := by
  have h0 : M.cut (M.h : Nat) = 0 := by unfold RM.cut; omega
  have hl := tw_le' (·.d) M.l
  have hr : M.ready (M.h : Nat) = M.h + (M.l.takeWhile (·.d)).length := by
    unfold RM.ready RM.tail
    rw [h0, List.drop_zero]
    omega
  unfold RM.tail at h1
  rw [hr, tw_all' _ _ _ (by unfold RM.cut; omega)]
  unfold RM.cut
  omega

theorem rtrim_same {w w' : World} {W : Nat → Prop} {q lc pc : Nat} {la pa : Option Addr} {M : RM} (H : RgM w W q la lc pa pc M) (hst : Still w w') {tt er : Int} (he : M.trimE tt = er) (h0 : er ≠ 0) : TrimPost rT w W q M tt (.returned (.tuple #[.slice none 0 0, .int .i64 er])) w' := by
  have hl : M.trimL tt = [] := by unfold RM.trimL; rw [if_pos (by rw [he]; exact h0)]
  have hm : M.trimM tt = M := by unfold RM.trimM; rw [if_pos (by rw [he]; exact h0)]
  unfold TrimPost
  rw [hl, hm, he]
  have H' := H.still hst
  exact ⟨none, 0, rfl, W, ⟨⟨W, ⟨la, lc, pa, pc, H'⟩, fun k hk => hk⟩, H'.lt, NumsAt.nil _ _, fun x hx _ => by cases hx⟩, hst.mono (fun _ _ h => h.elim), fun k hk => .inl hk⟩

set_option maxHeartbeats 1000000 in
theorem rtrim_any {w : World} {W : Nat → Prop} {q : Nat} {M : RM} {N : Nat} (H0 : (rT q M).at_ w W) (hM : M.Ok N) (hN : N < 1000000) (tt : Int) :
    Calls Try.prog 19 #[.pointer (some ⟨q, 0, none⟩), .int .i64 tt] w (TrimPost rT w W q M tt) := by
  have HRd := Lib.hid (fun w' (hst : Still w w') => rready_any ((rT q M).keep H0 hst (fun _ _ h => h)) hM hN (M.h : Nat))
  obtain ⟨la, lc, pa, pc, H⟩ := H0
  have HMd := Lib.hid (rmade_any H hM.pos)
  have HT := Lib.hid (rtail_any H hM.pos M.tail (by rw [RM.refs_len]; rfl) (by have := hM.low; omega))
  have hl := hM.low
  obtain ⟨_, _, c2, _⟩ := H.cells
  have HC := Lib.hid (fun w' (hst : Still w w') => still_cell hst c2 rfl)
  by_cases hx : tt < 0
  · have HP := Lib.hid (fun w' (hst : Still w w') => rtrim_same H hst (tt := tt) (er := 2) (by unfold RM.trimE; rw [if_pos (.inl hx)]) (by omega))
    clear H hM hl HRd HT c2
    go_enter Try.func19, Try.ntmps19
    go_wp2_with (go_at_call 35; refine HMd.out.mono ?_; rintro e w' ⟨rfl, rfl⟩)
    go_ret2
    exact HP.out _ (Turned.refl _ _)
  · by_cases hb : (M.tail : Int) < tt
    · have HP := Lib.hid (fun w' (hst : Still w w') => rtrim_same H hst (tt := tt) (er := 2) (by unfold RM.trimE; rw [if_pos (.inr hb)]) (by omega))
      generalize ((M.tail : Nat) : Int) = tl at *
      clear H hM hl HRd c2
      go_enter Try.func19, Try.ntmps19
      go_wp2_with (first
        | (go_at_call 35; refine HMd.out.mono ?_; rintro e w' ⟨rfl, rfl⟩)
        | (go_at_call 25; refine HT.out.mono ?_; rintro e w' ⟨rfl, hst⟩))
      go_ret2
      exact HP.out _ hst
    · have HRT := RM.trim_ready (M := M) (a := tt) (by omega)
      by_cases hr : tt ≤ (M.ready (M.h : Nat) : Int)
      · have h0 : M.trimE tt = 0 := by unfold RM.trimE; rw [if_neg (by omega), if_pos (HRT.2 hr)]
        obtain ⟨c, hc⟩ : ∃ c, c = M.cut tt := ⟨_, rfl⟩
        have hcl : c ≤ M.l.length := by rw [hc]; unfold RM.cut; unfold RM.tail at hb; omega
        have hif : (if tt - (M.h : Int) < 0 then (0 : Int) else tt - (M.h : Int)) = (c : Int) := by rw [hc]; unfold RM.cut; split <;> omega
        have hlen := hM.len
        have hmax := hM.max
        have hhd : M.h < 1000000 := by unfold RM.tail at hl; omega
        have HCu := Lib.hid (fun w' (hst : Still w w') => rcut_any (H.still hst) c (by rw [RM.refs_len]; exact hcl) (by rw [RM.dn_len]; exact hcl) (by rw [RM.refs_len]; omega) (by rw [RM.dn_len]; omega) hhd)
        have HP := Lib.hid (fun (w1 w2 : World) (hst : Still w w1) (h2 : ∃ la' pa', RgIn w2 W q la' (lc - c) pa' (pc - c) M.n M.ov (M.h + c) (M.refs.drop c) (M.dn.drop c)) (ht : Turned (· = q) w1 w2) => show TrimPost rT w W q M tt (.returned (.tuple #[.slice la c c, .int .i64 0])) w2 by
          obtain ⟨la', pa', R⟩ := h2
          have e1 : M.trimL tt = (M.l.take c).map (·.r) := by unfold RM.trimL; rw [if_neg (by rw [h0]; simp), ← hc]
          have e2 : M.trimM tt = { M with h := M.h + c, l := M.l.drop c } := by unfold RM.trimM; rw [if_neg (by rw [h0]; simp), ← hc]
          have e3 : ((M.l.take c).map (·.r)).length = c := by rw [List.length_map, List.length_take]; omega
          unfold TrimPost
          rw [e1, e2, h0, e3]
          have hPB : c ≠ 0 → ∀ x, la = some x → W x.block ∧ x.block ≠ q := fun hc0 x hx => H.lW x.block ⟨by have := H.ls.le; rw [RM.refs_len] at this; omega, x, hx, rfl⟩
          refine ⟨la, c, rfl, W, ⟨⟨W, ⟨la', lc - c, pa', pc - c, ?_⟩, fun k hk => hk⟩, R.lt, ?_, fun x hx hne => (hPB (fun h => hne (by rw [h]; rfl)) x hx).1⟩, (hst.mono (fun _ _ h => h.elim)).trans (ht.mono (fun k _ e => e ▸ H.own)), fun k hk => .inl hk⟩
          · show RgIn w2 W q la' (lc - c) pa' (pc - c) M.n M.ov (M.h + c) _ _
            have r1 : RM.refs { M with h := M.h + c, l := M.l.drop c } = M.refs.drop c := by simp [RM.refs, List.map_drop]
            have r2 : RM.dn { M with h := M.h + c, l := M.l.drop c } = M.dn.drop c := by simp [RM.dn, List.map_drop]
            rw [r1, r2]
            exact R
          · by_cases hc0 : c = 0
            · rw [hc0]; exact NumsAt.nil _ _
            · have h1 : NumsAt w1 la ((M.l.take c).map (·.r)) := by
                have := ((H.still hst).ls.nums).take c
                simpa [RM.refs, List.map_take] using this
              exact h1.turned ht (fun a ha => (hPB hc0 a ha).2))
        have hbnd : tt < 1000000 := by omega
        have hh0 : (0 : Int) ≤ (M.h : Int) := by omega
        have hh1 : (M.h : Int) < 1000000 := by omega
        generalize ((M.tail : Nat) : Int) = tl at *
        generalize ((M.ready (M.h : Nat) : Nat) : Int) = rd at *
        generalize (M.h : Int) = h at *
        clear H hM hl c2 HRT h0 hc hcl hlen hmax hN hhd
        go_enter Try.func19, Try.ntmps19
        go_wp2_with (first
          | (go_at_call 35; refine HMd.out.mono ?_; rintro e w' ⟨rfl, rfl⟩)
          | (go_at_call 25; refine HT.out.mono ?_; rintro e w' ⟨rfl, hst⟩; have k2 := HC.out w' hst)
          | (go_at_call 22; refine (HRd.out _ hst).mono ?_; rintro e w2 ⟨rfl, hst2⟩; have k3 := HC.out w2 (hst.trans hst2))
          | (go_at_call 32; refine (HCu.out _ (hst.trans hst2)).mono ?_; rintro e w3 ⟨rfl, hR, hT3⟩))
        go_ret2
        exact HP.out _ _ (hst.trans hst2) hR hT3
      · have HP := Lib.hid (fun w' (hst : Still w w') => rtrim_same H hst (tt := tt) (er := 8) (by unfold RM.trimE; rw [if_neg (by omega), if_neg (fun h => hr (HRT.1 h))]) (by omega))
        generalize ((M.tail : Nat) : Int) = tl at *
        generalize ((M.ready (M.h : Nat) : Nat) : Int) = rd at *
        generalize (M.h : Int) = h at *
        clear H hM hl c2 HRT
        go_enter Try.func19, Try.ntmps19
        go_wp2_with (first
          | (go_at_call 35; refine HMd.out.mono ?_; rintro e w' ⟨rfl, rfl⟩)
          | (go_at_call 25; refine HT.out.mono ?_; rintro e w' ⟨rfl, hst⟩; have k2 := HC.out w' hst)
          | (go_at_call 22; refine (HRd.out _ hst).mono ?_; rintro e w2 ⟨rfl, hst2⟩))
        go_ret2
        exact HP.out _ (hst.trans hst2)
end Go.Proofs.Ytefopajkcpcjpaa
