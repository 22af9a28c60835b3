/- Sort of the landed program: the places of each part's keys, rising. No condition but that there are no more keys, and none longer, than the statements make. -/
import Derived.Test.YtdblhflebaffcaaRouteRows
import Derived.Test.YtdblhflebaffcaaRegRound
import Derived.Test.YtdblhflebaffcaaStepApp
import Derived.Maps.OwnIn
import Derived.Sort.CutIn
namespace Go.Proofs.Ytdblhflebaffcaa
open Go.RowKit Go.Shelf
attribute [local go_sem] Oper.semAt_some
set_option linter.unusedVariables false
set_option linter.unusedSimpArgs false
set_option maxRecDepth 100000

/-- The first rows, all empty. -/
theorem RowsIn.made {w W : World} {g B p : Nat} (hg : g = w.heap.size) (hB : B = w.heap.size + 1) (hW : W = (w.alloc (.cells (nilsV p).toArray 33)).alloc (.cells #[.slice (some ⟨w.heap.size, 0, none⟩) p p] 24)) (L : List (List Int)) (hL : L = List.replicate p []) :
    (rowsT g B g p L).at_ W (fun k => k = B ∨ k = g) ∧ Still w W ∧ W.heap.size = g + 2 := by
  subst hg; subst hB; subst hW; subst hL
  have hb := Blk.new (w.alloc (.cells (nilsV p).toArray 33)) [.slice (some ⟨w.heap.size, 0, none⟩) p p] 24
  rw [World.size_alloc] at hb
  refine ⟨⟨List.replicate p ⟨none, 0, 0, []⟩, hb, (RsOwn.made w p).still ((Turned.refl _ _).alloc _), List.length_replicate, by rw [List.map_replicate], by omega, fun r hr x hx => ?_, fun k => ?_⟩, ((Turned.refl _ _).alloc _).alloc _, by simp⟩
  · obtain ⟨_, rfl⟩ := List.mem_replicate.1 hr
    cases hx
  · constructor
    · rintro (h | h)
      · exact .inl h
      · exact .inr (.inl h)
    · rintro (h | h | ⟨r, hr, x, hx, _⟩)
      · exact .inl h
      · exact .inr h
      · obtain ⟨_, rfl⟩ := List.mem_replicate.1 hr
        cases hx

/-- What the iterator reads, once it is made. -/
theorem rtR_new {w V : World} (hs : Still w V) (a : Option Addr) (n c p : Nat) : (rtR w (V.heap.size + 1) V.heap.size a n c p).at_ ((V.alloc (.cells #[.int .i64 (p : Int)] 3)).alloc (.cells #[.slice a n c] 22)) (fun k => k < w.heap.size ∨ k = V.heap.size + 1 ∨ k = V.heap.size) := by
  have h1 := (Blk.new V [.int .i64 (p : Int)] 3).alloc (.cells #[.slice a n c] 22)
  have h2 := Blk.new (V.alloc (.cells #[.int .i64 (p : Int)] 3)) [.slice a n c] 22
  rw [World.size_alloc] at h2
  have hz := hs.size
  exact ⟨(· < w.heap.size), fun k => k = V.heap.size + 1 ∨ k = V.heap.size, ⟨(hs.alloc _).alloc _, fun _ => Iff.rfl⟩,
    ⟨(· = V.heap.size + 1), (· = V.heap.size), ⟨h2, fun _ => Iff.rfl⟩, ⟨h1, fun _ => Iff.rfl⟩, fun k hk e => by omega, fun _ => Iff.rfl⟩, fun k hk e => by omega, fun _ => Iff.rfl⟩

set_option maxHeartbeats 4000000 in
theorem sort_ok (p : Nat) (ks : List (Sl UInt8)) (w : World) (ao : Option Addr) (m cap : Nat) (hm : m = ks.length) (hK : KysAt w ao ks) (hmax : m ≤ 300) (hs : ∀ k ∈ ks, k.xs.length ≤ 100) (h0 : stE (p : Int) (kxs ks) = 0) :
    Calls Try.prog 8 #[.int .i64 (p : Int), .slice ao m cap] w (OutR w (srL p (kxs ks)) 0) := by
  obtain ⟨hp1, hp8, _, _⟩ := stE_zero.1 h0
  have hp1 : 1 ≤ p := by omega
  have hp8 : p ≤ 8 := by omega
  have HC := Lib.hid (check_any (p : Int) ks w ao m cap hm hK (by omega))
  rw [h0] at HC
  obtain ⟨i0, hi, hz0, hz1, hz2⟩ := info_parts infoIntsR
  obtain ⟨j0, ji, jz0, jz1, jz2⟩ := info_parts infoIntW
  have hmk := fun W : World => run_make (P := Try.prog) W 24 33 i0 _ Try.underlying24 hi hz0 .i64 .i64 (p : Int) (p : Int) (Int.natCast_nonneg p) (Int.le_refl _) (by rw [hz2]; omega) (by omega)
  simp only [hz1, Int.toNat_natCast, Nat.mul_one, show Value.cells (.slice none 0 0) = #[.slice none 0 0] from rfl, made_nil] at hmk
  have HRo := Lib.hid (fun V => routed_any (p : Int) ao m cap V)
  have HIt := Lib.hid (fun Bk Bp => routed_it (c := cap) hK hm hmax hp1 hp8 hs Bk Bp)
  have HLen := Lib.hid (show (rtL p (kxs ks)).length = (kxs ks).length from rtL_length _ _)
  have HGet := Lib.hid (fun (k i q : Nat) (hx : (rtL p (kxs ks))[k]? = some (i, q)) => show i = k ∧ q < p ∧ srL p ((kxs ks).take (k + 1)) = (srL p ((kxs ks).take k)).set q (plG p q 0 ((kxs ks).take k) ++ [(k : Int)]) from by
    unfold rtL at hx
    rw [List.getElem?_mapIdx] at hx
    cases hk : (kxs ks)[k]? with
    | none => rw [hk] at hx; cases hx
    | some x =>
      rw [hk] at hx
      obtain ⟨rfl, rfl⟩ : k = i ∧ pt p x = q := by simpa using hx
      exact ⟨rfl, Nat.mod_lt _ (by omega), srL_step hk (by omega)⟩)
  have HSm := Lib.hid (fun k q => Nat.le_trans (plG_len p q 0 ((kxs ks).take k)) (show ((kxs ks).take k).length ≤ 300 by rw [List.length_take, List.length_map, ← hm]; omega))
  refine (callsIn_wide (n := 9)).1 (callsIn_of_wp_marks Try.func8 rfl trivial ?_ rfl)
  simp only [Try.ntmps8, List.size_toArray, List.length_cons, List.length_nil, Nat.reduceAdd, Nat.reduceSub, Array.replicate_succ, Array.replicate_zero, List.push_toArray, List.append_toArray, List.nil_append, List.cons_append]
  have hf1 : Fence.wide.fn 20 := trivial
  have hf2 : Fence.wide.fn 21 := trivial
  clear hK hm hs h0
  gi_upto_region 5 with (gi_at_call 20; ((with_reducible refine (callsIn_wide.2 HC.out).mono ?_)); rintro e w1 ⟨rfl, hw⟩; rw [hw]; clear hw)
  obtain ⟨g, hg⟩ : ∃ g, g = w.heap.size := ⟨_, rfl⟩
  obtain ⟨B, hB⟩ : ∃ B, B = w.heap.size + 1 := ⟨_, rfl⟩
  obtain ⟨W1, hW1⟩ : ∃ W1, W1 = (w.alloc (.cells (nilsV p).toArray 33)).alloc (.cells #[.slice (some ⟨w.heap.size, 0, none⟩) p p] 24) := ⟨_, rfl⟩
  obtain ⟨HT0, hs1, hw1⟩ := RowsIn.made hg hB hW1 (srL p ((kxs ks).take 0)) (by rw [List.take_zero, srL_nil])
  rw [← hW1, ← hB, ← hg]
  have ht2 : Still W1 ((W1.alloc (.cells #[.int .i64 (p : Int)] 3)).alloc (.cells #[.slice ao m cap] 22)) := ((Turned.refl _ _).alloc _).alloc _
  have HR := Lib.hid (rtR_new hs1 ao m cap p)
  have HQ0 := Lib.hid ((rowsT g B g p (srL p ((kxs ks).take 0))).keep HT0 ht2 (fun _ _ h => h))
  have HD := Lib.hid (show ∀ k, (k = B ∨ k = g) → ¬ (k < w.heap.size ∨ k = W1.heap.size + 1 ∨ k = W1.heap.size) from by
    rintro k (rfl | rfl) <;> omega)
  have HSt := Lib.hid (hs1.trans ht2)
  have HB0 := Lib.hid (show g = w.heap.size ∧ B = w.heap.size + 1 ∧ W1.heap.size = g + 2 from ⟨hg, hB, hw1⟩)
  clear hmk hg hB hW1 hw1 HT0 hs1 ht2 hz0 hz1 hz2 hi HC
  gi_wp2_with (gi_at_call 21; ((with_reducible refine (callsIn_wide.2 (HRo.out _)).mono ?_)); rintro e w2 ⟨rfl, hw⟩; rw [hw]; clear hw)
  refine loopT_outerE rfl (enters_of Try.func29 (by kernel_rfl) rfl) (HIt.out _ _) (by exact fun _ => rfl) (fun k => rowsT g B g p (srL p ((kxs ks).take k))) HR.out HQ0.out HD.out ?_ ?_
  · rintro ⟨i, q⟩
    apply Exists.intro
    apply And.intro
    · intro l1 V K hK1
      dsimp only [encP]
      gi_wp2
      exact hK1
    · intro l1 k V Q' hr hl1 hx hI hQl hsk
      obtain ⟨rfl, hq, hstep⟩ := HGet.out k i q hx
      obtain ⟨rs, hin⟩ := hI
      have HStep := Lib.hid hstep
      have hrl := hin.len
      obtain ⟨r, hrq⟩ := get_some (l := rs) (i := q) (by omega)
      have hrx : r.xs = plG p q 0 ((kxs ks).take i) := by
        have h1 := srL_get (K := (kxs ks).take i) hq
        rw [← hin.map, List.getElem?_map, hrq] at h1
        exact Option.some.inj h1
      obtain ⟨o1, o2, o3⟩ := hin.rows.own q r hrq
      have hr300 : r.len ≤ 300 := by rw [o2, hrx]; exact HSm.out i q
      obtain ⟨U, hU⟩ : ∃ U, U = V.drew := ⟨_, rfl⟩
      have hUV : Still V U := by rw [hU]; exact (Turned.refl _ V).drew
      have HIn := Lib.hid (hin.still hUV)
      have HF := Lib.hid (fun V' (hg : Goes (rowsT g B g p ((srL p ((kxs ks).take i)).set q (r.xs ++ [(i : Int)]))) Q' U V') => show Goes (rowsT g B g p (srL p ((kxs ks).take (i + 1)))) Q' V V' from by
        rw [HStep.out, ← hrx]
        obtain ⟨Q2, h1, h2, h3⟩ := hg
        exact ⟨Q2, h1, (hUV.mono (fun _ _ h => h.elim)).trans h2, fun k hk => (h3 k hk).imp id (fun h => Nat.le_trans hUV.size h)⟩)
      have HApp := Lib.hid (fun w6 a' c' hown hg hat => HIn.out.app (w6 := w6) (a' := a') (c' := c') (x := (i : Int)) (o := .cells #[.int .i64 (i : Int)] 3) hrq hg hown hat)
      have HOwn := Lib.hid (ow_still o1 (hUV.alloc (.cells #[.int .i64 (i : Int)] 3)))
      have hSa : (fun X : World => X.cell? ⟨B, 0, none⟩ = some (.slice (some ⟨g, 0, none⟩) p p)) U := HIn.out.box.cell rfl
      have hSb : (fun X : World => X.cell? ⟨B, 0, none⟩ = some (.slice (some ⟨g, 0, none⟩) p p)) (U.alloc (.cells #[.int .i64 (i : Int)] 3)) := (HIn.out.box.alloc _).cell rfl
      have hc1 : U.cell? ⟨g, q, none⟩ = some (.slice r.a r.len r.cap) := HIn.out.rows.cell hrq
      have hc2 : (U.alloc (.cells #[.int .i64 (i : Int)] 3)).cell? ⟨g, q, none⟩ = some (.slice r.a r.len r.cap) := still_cell ((Turned.refl _ U).alloc _) hc1 rfl
      have hqi : (q : Int) < (p : Int) := by omega
      have HVg := Lib.hid (show g ≤ U.heap.size from by have := hin.rows.hd.lt; have := hUV.size; omega)
      have HU := Lib.hid hU
      obtain ⟨ra, rl, rc, rx⟩ := r
      dsimp only at *
      clear hr hl1 hx hQl hsk hstep hin hrl hrq hrx o1 o2 o3 hUV hU
      gi_wp2
      refine region_round (S := (fun X : World => X.cell? ⟨B, 0, none⟩ = some (.slice (some ⟨g, 0, none⟩) p p))) (by kernel_rfl) (by rintro ⟨_, _, h⟩; exact h) (by kernel_rfl) ?_
      rw [← HU.out]
      refine wpAnyH_take (i := 0) (v := ?_) rfl (by kernel_rfl) (by kernel_rfl) (by kernel_rfl) (fun _ _ _ h => h) (Or.inl ⟨by rfl, ?_⟩) hSa ?_
      rotate_left
      · intro w hSw
        have k0 := hSw
        go_simp
        all_goals with_reducible rfl
      try simp only [Act.put, List.setIfInBounds_toArray, List.set_cons_zero, List.set_cons_succ]
      refine wpAnyH_take (i := 1) (v := ?_) rfl (by kernel_rfl) (by kernel_rfl) (by kernel_rfl) (fun _ _ _ h => h) (Or.inl ⟨by rfl, ?_⟩) hSa ?_
      rotate_left
      · intro w hSw
        have k0 := hSw
        go_simp
        all_goals with_reducible rfl
      try simp only [Act.put, List.setIfInBounds_toArray, List.set_cons_zero, List.set_cons_succ]
      refine wpAnyH_take (i := 2) (v := ?_) rfl (by kernel_rfl) (by kernel_rfl) (by kernel_rfl) (fun _ _ _ h => h) (Or.inl ⟨by rfl, ?_⟩) hSa ?_
      rotate_left
      · intro w hSw
        have k0 := hSw
        go_simp
        all_goals with_reducible rfl
      try simp only [Act.put, List.setIfInBounds_toArray, List.set_cons_zero, List.set_cons_succ]
      refine wpAnyH_take (i := 3) (v := ?_) rfl (by kernel_rfl) (by kernel_rfl) (by kernel_rfl) (fun _ _ _ h => h) (Or.inl ⟨by rfl, ?_⟩) hSa ?_
      rotate_left
      · intro w hSw
        have k0 := hSw
        go_simp
        all_goals with_reducible rfl
      try simp only [Act.put, List.setIfInBounds_toArray, List.set_cons_zero, List.set_cons_succ]
      refine wpAnyH_take (i := 4) (v := ?_) rfl (by kernel_rfl) (by kernel_rfl) (by kernel_rfl) (fun _ _ _ h => h) (Or.inl ⟨by rfl, ?_⟩) hSa ?_
      rotate_left
      · intro w hSw
        have k0 := hSw
        go_simp
        all_goals with_reducible rfl
      try simp only [Act.put, List.setIfInBounds_toArray, List.set_cons_zero, List.set_cons_succ]
      refine wpAnyH_take (i := 6) (v := ?_) rfl (by kernel_rfl) (by kernel_rfl) (by kernel_rfl) (fun _ _ _ h => h) (Or.inl ⟨by rfl, ?_⟩) hSa ?_
      rotate_left
      · intro w hSw
        have k0 := hSw
        go_simp
        all_goals with_reducible rfl
      try simp only [Act.put, List.setIfInBounds_toArray, List.set_cons_zero, List.set_cons_succ]
      refine wpAnyH_ready (rs := [5, 7]) (by kernel_rfl) (by simp) ?_
      refine AllReadyH.cons rfl (fun K hK => ?_) ?_
      · go_simp
        refine hK.out _ _ hSa (fun _ => ?_)
        clear hK K
        try simp only [Act.put, List.setIfInBounds_toArray, List.set_cons_zero, List.set_cons_succ]
        refine wpAnyH_ready (rs := [7]) (by kernel_rfl) (by simp) ?_
        refine AllReadyH.cons rfl (fun K hK => ?_) AllReadyH.nil
        go_simp
        refine hK.out _ _ hSb (fun _ => ?_)
        clear hK K
        try simp only [Act.put, List.setIfInBounds_toArray, List.set_cons_zero, List.set_cons_succ]
        refine wpAnyH_ready (rs := [8]) (by kernel_rfl) (by simp) ?_
        refine AllReadyH.cons rfl (fun K hK => ?_) AllReadyH.nil
        refine step_app_own rfl (.tmp 28) (.tmp 30) 33 rfl g 3 j0 (.int .i64 0) 1 8 Try.underlying33 ji jz0 jz1 jz2 rfl (by decide) (.slice ra rl rc) rl (ints rx) rfl HOwn.out ⟨U.heap.size, 0, none⟩ 1 1 [.int .i64 (i : Int)] rfl rfl (ow_cells U _ _) (ow_ints rfl) (by unfold maxLen; omega) (by omega) (by have := HVg.out; simp; omega) ?_
        intro v6 w6 hown6 hg6 hat6
        obtain ⟨a6, c6, rfl⟩ := ow_slice hown6
        obtain ⟨f1, f2, f3, f4, f5⟩ := HApp.out w6 a6 c6 (by simpa [ints] using hown6) hg6 hat6
        clear hown6 hg6 hat6
        refine hK.out _ _ f1 (fun _ => ?_)
        clear hK K
        try simp only [Act.put, List.setIfInBounds_toArray, List.set_cons_zero, List.set_cons_succ]
        refine wpAnyH_take (i := 9) (v := ?_) rfl (by kernel_rfl) (by kernel_rfl) (by kernel_rfl) (fun _ _ _ h => h) (Or.inl ⟨by rfl, ?_⟩) f1 ?_
        rotate_left
        · intro w hSw
          have k0 := hSw
          go_simp
          all_goals with_reducible rfl
        try simp only [Act.put, List.setIfInBounds_toArray, List.set_cons_zero, List.set_cons_succ]
        refine wpAnyH_ready (rs := [10]) (by kernel_rfl) (by simp) ?_
        refine AllReadyH.cons rfl (fun K hK => ?_) AllReadyH.nil
        go_simp
        refine hK.out _ _ f4 (fun _ => ?_)
        clear hK K
        try simp only [Act.put, List.setIfInBounds_toArray, List.set_cons_zero, List.set_cons_succ]
        refine wpAnyH_done (by kernel_rfl) ?_ _
        exact HF.out _ f5.out
      · refine AllReadyH.cons rfl (fun K hK => ?_) AllReadyH.nil
        go_simp
        refine hK.out _ _ hSb (fun _ => ?_)
        clear hK K
        try simp only [Act.put, List.setIfInBounds_toArray, List.set_cons_zero, List.set_cons_succ]
        refine wpAnyH_ready (rs := [5]) (by kernel_rfl) (by simp) ?_
        refine AllReadyH.cons rfl (fun K hK => ?_) AllReadyH.nil
        go_simp
        refine hK.out _ _ hSb (fun _ => ?_)
        clear hK K
        try simp only [Act.put, List.setIfInBounds_toArray, List.set_cons_zero, List.set_cons_succ]
        refine wpAnyH_ready (rs := [8]) (by kernel_rfl) (by simp) ?_
        refine AllReadyH.cons rfl (fun K hK => ?_) AllReadyH.nil
        refine step_app_own rfl (.tmp 28) (.tmp 30) 33 rfl g 3 j0 (.int .i64 0) 1 8 Try.underlying33 ji jz0 jz1 jz2 rfl (by decide) (.slice ra rl rc) rl (ints rx) rfl HOwn.out ⟨U.heap.size, 0, none⟩ 1 1 [.int .i64 (i : Int)] rfl rfl (ow_cells U _ _) (ow_ints rfl) (by unfold maxLen; omega) (by omega) (by have := HVg.out; simp; omega) ?_
        intro v6 w6 hown6 hg6 hat6
        obtain ⟨a6, c6, rfl⟩ := ow_slice hown6
        obtain ⟨f1, f2, f3, f4, f5⟩ := HApp.out w6 a6 c6 (by simpa [ints] using hown6) hg6 hat6
        clear hown6 hg6 hat6
        refine hK.out _ _ f1 (fun _ => ?_)
        clear hK K
        try simp only [Act.put, List.setIfInBounds_toArray, List.set_cons_zero, List.set_cons_succ]
        refine wpAnyH_take (i := 9) (v := ?_) rfl (by kernel_rfl) (by kernel_rfl) (by kernel_rfl) (fun _ _ _ h => h) (Or.inl ⟨by rfl, ?_⟩) f1 ?_
        rotate_left
        · intro w hSw
          have k0 := hSw
          go_simp
          all_goals with_reducible rfl
        try simp only [Act.put, List.setIfInBounds_toArray, List.set_cons_zero, List.set_cons_succ]
        refine wpAnyH_ready (rs := [10]) (by kernel_rfl) (by simp) ?_
        refine AllReadyH.cons rfl (fun K hK => ?_) AllReadyH.nil
        go_simp
        refine hK.out _ _ f4 (fun _ => ?_)
        clear hK K
        try simp only [Act.put, List.setIfInBounds_toArray, List.set_cons_zero, List.set_cons_succ]
        refine wpAnyH_done (by kernel_rfl) ?_ _
        exact HF.out _ f5.out
  · intro D V Q' hD hK hQD hI hsk
    have hall : (kxs ks).take (rtL p (kxs ks)).length = kxs ks := by rw [HLen.out, List.take_length]
    rw [hall] at hI
    obtain ⟨rs, hin⟩ := hI
    have cc := hin.box.cell (o := 0) rfl
    have hp := putObj_since (.deferred none) (Array.getElem?_eq_some_iff.1 hK).1
    obtain ⟨rs2, hin2⟩ := (rowsT g B g p (srL p (kxs ks))).keep ⟨rs, hin⟩ hp (fun k hk e => hQD (e ▸ hk))
    have hT0 : Still w (V.putObj D (.deferred none)) := by
      obtain ⟨b1, b2, _⟩ := HB0.out
      have hz := HSt.out.size
      exact (HSt.out.past hsk.turn (fun i hi => .inr (by omega))).past hp (fun i e => .inr (by omega))
    have HO := Lib.hid (show OutR w (srL p (kxs ks)) 0 (.returned (.tuple #[.slice (some ⟨g, 0, none⟩) p p, .int .i64 0])) (V.putObj D (.deferred none)) from
      ⟨some ⟨g, 0, none⟩, p, p, rs2, rfl, hin2.len.symm, hin2.map, hin2.rows.rws, ⟨Nat.le_refl _, by unfold maxLen; omega, fun h => by cases h⟩, hT0⟩)
    clear hall hin hp hin2 hT0 hsk hQD
    gi_wp2
    refine ⟨by simp, .inl ⟨_, _, rfl, run_takeDeferred hK, ?_⟩⟩
    refine ⟨_, results_tmp2 rfl _ _ _, ?_⟩
    exact HO.out
end Go.Proofs.Ytdblhflebaffcaa
