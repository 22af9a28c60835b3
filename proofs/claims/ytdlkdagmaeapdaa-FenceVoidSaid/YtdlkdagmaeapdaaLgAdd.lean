/- What Accept and Skip of the program's ledger do. No condition but that it is one. -/
import Derived.Test.YtdlkdagmaeapdaaLgDo
namespace Go.Proofs.Ytdlkdagmaeapdaa
open Go.RowKit
set_option linter.unusedVariables false
set_option linter.unusedSimpArgs false
set_option maxRecDepth 100000

section
variable {q : Nat} {a a6 : Option Addr} {c c6 N n : Nat} {f : Bool} {M : LgM} {w V w6 w' : World} {W : Nat → Prop}
set_option maxHeartbeats 4000000 in
theorem lggoon_any (h : (lgT q M).at_ w W) (hM : M.Ok) (tt : Int) (kd : Bool) :
    Calls Try.prog 71 #[.pointer (some ⟨q, 0, none⟩), .int .i64 tt, .bool kd] w fun e w' => e = .returned (.int .i64 (addE M tt kd)) ∧ Goes (lgT q (M.add tt kd)) W w w' := by
  have HEn := Lib.hid (lgend_any h hM)
  have HS := Lib.hid (fun V (hs : Still w V) => Goes.still h hs)
  obtain ⟨a, c, f, h, hf⟩ := h
  obtain ⟨n, hn⟩ : ∃ n, n = M.L.length := ⟨_, rfl⟩
  obtain ⟨N, hN⟩ : ∃ N, N = n + 1 := ⟨_, rfl⟩
  rw [← hn, ← hN] at h
  have hNM : N = M.L.length + 1 := by omega
  have HRd := Lib.hid (fun V (hs : Still w V) => (lgX_rd hNM h).still hs)
  have HSit := Lib.hid (fun V (hs : Still w V) => (Sit.start h).still hs)
  have hn256 : n ≤ 256 := by have := hM.len; omega
  have HMd := Lib.hid (lgmade_any (HRd.out w (Turned.refl _ _)).c0 (by omega))
  have HCt := Lib.hid (fun V (hs : Still w V) => lgcount_any (n := n) (HRd.out V hs).c0 hN hn256)
  unfold LgM.add addL
  by_cases hto : tt ≤ M.fin ∨ 1099511627776 < tt
  · have he : addE M tt kd = 2 := by unfold addE; rw [if_pos hto]
    rw [he, if_pos (by omega)]
    generalize M.fin = fi at *
    clear hM hn hN hNM h HRd HSit he HCt hf
    by_cases h1 : tt ≤ fi
    · clear hto
      go_enter Try.func71, Try.ntmps71
      go_wp2_with (first
        | (go_at_call 52; ((with_reducible refine HMd.out.mono ?_)); rintro e w0 ⟨rfl, rfl⟩)
        | (go_at_call 28; ((with_reducible refine HEn.out.mono ?_)); rintro e w1 ⟨rfl, hs1⟩; have HS1 := Lib.hid hs1; clear hs1))
      go_ret
      exact ⟨rfl, HS.out _ HS1.out⟩
    · have h2 : 1099511627776 < tt := by omega
      clear hto
      go_enter Try.func71, Try.ntmps71
      go_wp2_with (first
        | (go_at_call 52; ((with_reducible refine HMd.out.mono ?_)); rintro e w0 ⟨rfl, rfl⟩)
        | (go_at_call 28; ((with_reducible refine HEn.out.mono ?_)); rintro e w1 ⟨rfl, hs1⟩; have HS1 := Lib.hid hs1; clear hs1))
      go_ret
      exact ⟨rfl, HS.out _ HS1.out⟩
  · have h1 : ¬ tt ≤ M.fin := fun h => hto (.inl h)
    have h2 : ¬ 1099511627776 < tt := fun h => hto (.inr h)
    have HT := chn_turns hM.ch hf
    by_cases hk : lastK none M.L = some kd
    · have he : addE M tt kd = 0 := by unfold addE; rw [if_neg hto, if_pos hk]
      rw [he, if_neg (by omega), if_pos hk]
      obtain ⟨l', x, hl, hx⟩ := lastK_split hk
      have hnl : n = l'.length + 1 := by rw [hn, hl]; simp
      have HX := Lib.hid (fun V (hs : Still w V) => show ∃ g, a = some ⟨g, 0, none⟩ ∧ V.cell? ⟨g, l'.length + 1, none⟩ = some (.int .i64 x.2.1) ∧ V.frozen? ⟨g, l'.length + 1, none⟩ = false ∧ Hid (Goes (lgT q ⟨M.b, setTo M.L tt⟩) W w (V.setCell ⟨g, l'.length + 1, none⟩ (.int .i64 tt))) from by
        obtain ⟨g, rfl, _⟩ := (HRd.out V hs).row _ _ (marks_fin M)
        obtain ⟨z1, z2, z3⟩ := lg_last (tt := tt) hl hNM hf (HSit.out V hs)
        exact ⟨g, rfl, z1, z2, z3⟩)
      have HKd := Lib.hid (fun V (hs : Still w V) => show Calls Try.prog 76 #[.pointer (some ⟨q, 0, none⟩), .int .i64 (l'.length : Int)] V fun e w' => e = .returned (.bool kd) ∧ V = w' from by
        rw [← hx, HT l'.length x (by rw [hl]; simp)]
        exact lgkind_any (HRd.out V hs).c1 _ (by omega))
      have HC := Lib.hid (fun V (hs : Still w V) => (HRd.out V hs).c0)
      generalize M.fin = fi at *
      generalize l'.length = i at *
      subst hnl
      have hi0 : (0 : Int) < ((i + 1 : Nat) : Int) := by omega
      have hiN : ((i + 1 : Nat) : Int) < (N : Int) := by omega
      clear hM h HRd HSit he hto hl hk hn hx HS HT hf hN hNM
      go_enter Try.func71, Try.ntmps71
      go_wp2_with (first
        | (go_at_call 52; ((with_reducible refine HMd.out.mono ?_)); rintro e w0 ⟨rfl, rfl⟩)
        | (go_at_call 28; ((with_reducible refine HEn.out.mono ?_)); rintro e w1 ⟨rfl, hs1⟩; have c0 := HC.out w1 hs1; obtain ⟨g, rfl, y1, y2, y3⟩ := HX.out w1 hs1; have HS1 := Lib.hid hs1; clear hs1)
        | (go_at_call 75; ((with_reducible refine (HCt.out _ HS1.out).mono ?_)); rintro e w2 ⟨rfl, rfl⟩)
        | (go_at_call 76; ((with_reducible refine (HKd.out _ HS1.out).mono ?_)); rintro e w3 ⟨rfl, rfl⟩))
      go_ret
      exact ⟨rfl, y3.out⟩
    · by_cases hfull : 256 ≤ M.L.length
      · have he : addE M tt kd = 4 := by unfold addE; rw [if_neg hto, if_neg hk, if_pos hfull]
        rw [he, if_pos (by omega)]
        have hne : M.L ≠ [] := by intro h0; rw [h0] at hfull; simp at hfull
        obtain ⟨l', x, hl⟩ := last_split hne
        have hnl : n = l'.length + 1 := by rw [hn, hl]; simp
        have hx : (x.2.2 == kd) = false := by
          rw [beq_eq_false_iff_ne]
          intro hx
          apply hk
          rw [hl, lastK_app, ← hx]; rfl
        have HKd := Lib.hid (fun V (hs : Still w V) => show Calls Try.prog 76 #[.pointer (some ⟨q, 0, none⟩), .int .i64 (l'.length : Int)] V fun e w' => e = .returned (.bool x.2.2) ∧ V = w' from by
          rw [HT l'.length x (by rw [hl]; simp)]
          exact lgkind_any (HRd.out V hs).c1 _ (by omega))
        have hfi : (256 : Int) ≤ (n : Int) := by omega
        generalize M.fin = fi at *
        generalize l'.length = i at *
        generalize x.2.2 = xk at *
        subst hnl
        have hi0 : (0 : Int) < ((i + 1 : Nat) : Int) := by omega
        clear hM h HRd HSit he hto hl hk hn hfull hne HT hf hN hNM
        go_enter Try.func71, Try.ntmps71
        go_wp2_with (first
          | (go_at_call 52; ((with_reducible refine HMd.out.mono ?_)); rintro e w0 ⟨rfl, rfl⟩)
          | (go_at_call 28; ((with_reducible refine HEn.out.mono ?_)); rintro e w1 ⟨rfl, hs1⟩; have HS1 := Lib.hid hs1; clear hs1)
          | (go_at_call 75; ((with_reducible refine (HCt.out _ HS1.out).mono ?_)); rintro e w2 ⟨rfl, rfl⟩)
          | (go_at_call 76; ((with_reducible refine (HKd.out _ HS1.out).mono ?_)); rintro e w3 ⟨rfl, rfl⟩))
        go_ret
        exact ⟨rfl, HS.out _ HS1.out⟩
      · have he : addE M tt kd = 0 := by unfold addE; rw [if_neg hto, if_neg hk, if_neg hfull]
        rw [he, if_neg (by omega), if_neg hk]
        have hlt : (n : Int) < 256 := by omega
        obtain ⟨i0, hi, hz0, hz1, hz2⟩ := info_parts infoIntW
        by_cases h0 : M.L = []
        · obtain rfl : n = 0 := by rw [hn, h0]; rfl
          have HF := Lib.hid (fun V (hs : Still w V) => lg_first (kd := kd) (HSit.out V hs))
          have hf' : ∀ x, M.L[0]? = some x → x.2.2 = kd := fun x hx => by rw [h0] at hx; cases hx
          have HR1 := Lib.hid (fun V (H : Sit W w V (lgX q a c N kd M)) => show V.cell? ⟨q, 0, none⟩ = some (.slice a N c) ∧ V.ownsRow 0 3 1 (.slice a N c) N (ints (marks M)) from by
            obtain ⟨_, g1, _⟩ := H.fst
            obtain ⟨_, g2, _⟩ := H.swap.fst
            exact ⟨g1.1.cell rfl, g2.1⟩)
          have HM1 := Lib.hid (fun (V w6 : World) (o : Obj) (a6 : Option Addr) (c6 : Nat) (H : Sit W w V (lgX q a c N kd M)) hown hg hat => lg_more (w6 := w6) (o := o) (a6 := a6) (c6 := c6) (tt := tt) (kd := kd) hn hN hf' (fun _ => rfl) H hown hg hat)
          have hNl : N ≤ 257 := by omega
          generalize M.fin = fi at *
          clear hM h HRd HSit he hto hk hn hfull HS HT hf hf' hN hNM h0
          go_enter Try.func71, Try.ntmps71
          go_wp2_with (first
            | (go_at_call 52; ((with_reducible refine HMd.out.mono ?_)); rintro e w0 ⟨rfl, rfl⟩)
            | (go_at_call 28; ((with_reducible refine HEn.out.mono ?_)); rintro e w1 ⟨rfl, hs1⟩; have HS1 := Lib.hid hs1; obtain ⟨f1, f2, HF3⟩ := HF.out w1 hs1; obtain ⟨r1, r2⟩ := HR1.out _ HF3.out; have HO := Lib.hid r2; clear hs1 r2)
            | (go_at_call 75; ((with_reducible refine (HCt.out _ HS1.out).mono ?_)); rintro e w2 ⟨rfl, rfl⟩)
            | (at_builtin; refine wpList_append_own_at _ rfl _ _ 44 rfl 0 3 i0 (.int .i64 0) 1 8 Try.underlying44 hi hz0 hz1 hz2 rfl (by decide) (.slice a N c) N (ints (marks M)) rfl (ow_still HO.out ((Turned.refl _ _).alloc _)) ⟨w1.heap.size, 0, none⟩ 1 1 [.int .i64 tt] rfl rfl (by intro j u hj; have := ow_cells (w1.setCell ⟨q, 1, none⟩ (.bool kd)) [.int .i64 tt] 3 j u hj; simpa [World.setCell] using this) (ow_ints rfl) (by unfold maxLen; omega) (by omega) (Nat.zero_le _) ?_; intro v6 w6 hown6 hg6 _ hat6; obtain ⟨a6, c6, rfl⟩ := ow_slice hown6; obtain ⟨z1, z2, HZ6⟩ := HM1.out _ w6 _ a6 c6 HF3.out hown6 hg6 hat6; clear hown6 hg6 hat6))
          go_ret
          exact ⟨rfl, HZ6.out⟩
        · obtain ⟨l', x, hl⟩ := last_split h0
          have hnl : n = l'.length + 1 := by rw [hn, hl]; simp
          have hx : (x.2.2 == kd) = false := by
            rw [beq_eq_false_iff_ne]
            intro hx
            apply hk
            rw [hl, lastK_app, ← hx]; rfl
          have HKd := Lib.hid (fun V (hs : Still w V) => show Calls Try.prog 76 #[.pointer (some ⟨q, 0, none⟩), .int .i64 (l'.length : Int)] V fun e w' => e = .returned (.bool x.2.2) ∧ V = w' from by
            rw [HT l'.length x (by rw [hl]; simp)]
            exact lgkind_any (HRd.out V hs).c1 _ (by omega))
          have HR1 := Lib.hid (fun V (hs : Still w V) => show V.cell? ⟨q, 0, none⟩ = some (.slice a N c) ∧ V.ownsRow 0 3 1 (.slice a N c) N (ints (marks M)) from by
            obtain ⟨_, g1, _⟩ := (HSit.out V hs).fst
            obtain ⟨_, g2, _⟩ := (HSit.out V hs).swap.fst
            exact ⟨g1.1.cell rfl, g2.1⟩)
          have HM1 := Lib.hid (fun (V w6 : World) (o : Obj) (a6 : Option Addr) (c6 : Nat) (hs : Still w V) hown hg hat => lg_more (w6 := w6) (o := o) (a6 := a6) (c6 := c6) (tt := tt) (kd := kd) hn hN hf (fun h => by omega) (HSit.out V hs) hown hg hat)
          generalize M.fin = fi at *
          generalize l'.length = i at *
          generalize x.2.2 = xk at *
          subst hnl
          have hi0 : (0 : Int) < ((i + 1 : Nat) : Int) := by omega
          have hNl : N ≤ 257 := by omega
          clear hM h HRd HSit he hto hk hn hfull HS HT hf hNM h0 hl hN
          go_enter Try.func71, Try.ntmps71
          go_wp2_with (first
            | (go_at_call 52; ((with_reducible refine HMd.out.mono ?_)); rintro e w0 ⟨rfl, rfl⟩)
            | (go_at_call 28; ((with_reducible refine HEn.out.mono ?_)); rintro e w1 ⟨rfl, hs1⟩; have HS1 := Lib.hid hs1; obtain ⟨r1, r2⟩ := HR1.out _ hs1; have HO := Lib.hid r2; clear hs1 r2)
            | (go_at_call 75; ((with_reducible refine (HCt.out _ HS1.out).mono ?_)); rintro e w2 ⟨rfl, rfl⟩)
            | (go_at_call 76; ((with_reducible refine (HKd.out _ HS1.out).mono ?_)); rintro e w3 ⟨rfl, rfl⟩)
            | (at_builtin; refine wpList_append_own_at _ rfl _ _ 44 rfl 0 3 i0 (.int .i64 0) 1 8 Try.underlying44 hi hz0 hz1 hz2 rfl (by decide) (.slice a N c) N (ints (marks M)) rfl (ow_still HO.out ((Turned.refl _ _).alloc _)) ⟨w1.heap.size, 0, none⟩ 1 1 [.int .i64 tt] rfl rfl (ow_cells w1 _ _) (ow_ints rfl) (by unfold maxLen; omega) (by omega) (Nat.zero_le _) ?_; intro v6 w6 hown6 hg6 _ hat6; obtain ⟨a6, c6, rfl⟩ := ow_slice hown6; obtain ⟨z1, z2, HZ6⟩ := HM1.out _ w6 _ a6 c6 HS1.out hown6 hg6 hat6; clear hown6 hg6 hat6))
          go_ret
          exact ⟨rfl, HZ6.out⟩
theorem lgaccept_any (h : (lgT q M).at_ w W) (hM : M.Ok) (tt : Int) :
    Calls Try.prog 45 #[.pointer (some ⟨q, 0, none⟩), .int .i64 tt] w fun e w' => e = .returned (.int .i64 (addE M tt true)) ∧ Goes (lgT q (M.add tt true)) W w w' := by
  have HG := Lib.hid (lggoon_any h hM tt true)
  clear h hM
  go_enter Try.func45, Try.ntmps45
  go_wp2_with (go_at_call 71; ((with_reducible refine HG.out.mono ?_)); rintro e w1 ⟨rfl, hs1⟩; have H1 := Lib.hid hs1; clear hs1)
  go_ret
  exact ⟨rfl, H1.out⟩
theorem lgskip_any (h : (lgT q M).at_ w W) (hM : M.Ok) (tt : Int) :
    Calls Try.prog 70 #[.pointer (some ⟨q, 0, none⟩), .int .i64 tt] w fun e w' => e = .returned (.int .i64 (addE M tt false)) ∧ Goes (lgT q (M.add tt false)) W w w' := by
  have HG := Lib.hid (lggoon_any h hM tt false)
  clear h hM
  go_enter Try.func70, Try.ntmps70
  go_wp2_with (go_at_call 71; ((with_reducible refine HG.out.mono ?_)); rintro e w1 ⟨rfl, hs1⟩; have H1 := Lib.hid hs1; clear hs1)
  go_ret
  exact ⟨rfl, H1.out⟩
end
end Go.Proofs.Ytdlkdagmaeapdaa
