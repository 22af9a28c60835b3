/- What cell.Copy hands out: a new memory with the same cells. No condition but that the memory was made. -/
import Derived.Test.YtgdpalefhikbfaaCellAll
import Derived.Test.YtgdpalefhikbfaaRound
namespace Go.Proofs.Ytgdpalefhikbfaa
open Go.RowKit Go.Shelf
attribute [local go_sem] Oper.semAt_some
set_option linter.unusedVariables false
set_option linter.unusedSimpArgs false

set_option maxRecDepth 100000 in
set_option maxHeartbeats 2000000 in
theorem copy_in (F : Fence) (hFw : F = Fence.wide) (n : Nat) (h3 : F.fn 30) (h4 : F.fn 37) (h5 : F.fn 38) (h6 : F.fn 36) (hro : F.round = none) (hn : 3 ≤ n) (w : World) (mb ab : Nat) (st : List Cel) (hM : Mem w mb ab st) :
    CallsIn F n Try.prog 30 #[.pointer (some ⟨mb, 0, none⟩)] w fun e W' => ∃ mb2 ab2, e = .returned (.pointer (some ⟨mb2, 0, none⟩)) ∧ Mem W' mb2 ab2 st ∧ w.heap.size ≤ mb2 ∧ w.heap.size ≤ ab2 ∧ Below w.heap.size w W' := by
  have h1 : 1 ≤ n := by omega
  have HF := Lib.hid hFw
  clear hFw
  have hhd := hM.cellHd
  have hpos := hM.pos
  have hle := hM.le
  have HM := Lib.hid hM
  clear hM
  obtain ⟨i0, hi, hz0, hz1, hz2⟩ := info_parts infoState
  refine callsIn_of_wp_marks Try.func30 rfl h3 ?_ hro
  simp only [Try.ntmps30, List.size_toArray, List.length_cons, List.length_nil, Nat.reduceAdd, Nat.reduceSub, Array.replicate_succ, Array.replicate_zero, List.push_toArray, List.append_toArray, List.nil_append, List.cons_append]
  gi_wp2_with (first
    | (gi_at_call 36; refine (made_in F (n - 1) _ mb ab st.length hhd hpos h6 hro).mono ?_; rintro e w' ⟨rfl, rfl⟩)
    | (gi_at_call 37; refine (each_in F (n - 1) h4 hro _ _).mono ?_; rintro e w' ⟨rfl, rfl⟩)
    | (gi_at_make; refine wpListIn_make_own _ rfl _ _ 52 rfl w.heap.size 56 i0 _ 3 Try.underlying52 hi hz0 hz1 _ _ _ st.length rfl rfl rfl (by rw [hz2]; omega) (by unfold maxLen; omega) (Nat.le_refl _) ?_; intro w1 hown1 hgrow1))
  have hM1 : Mem w1 mb ab st := ⟨HM.out.hd.of_eq (hgrow1.block mb HM.out.hd.lt (by simp)), HM.out.row.of_eq (hgrow1.block ab HM.out.row.lt (by simp)), HM.out.ne, HM.out.pos, HM.out.le⟩
  have hlt1 : w.heap.size < w1.heap.size := by
    rcases hown1.2 with ⟨h0, _⟩ | ⟨g, cap, cur, hv, _, hh, _⟩
    · cases h0
    · simp at hv
      rw [hv.1]
      exact (Array.getElem?_eq_some_iff.1 hh).1
  have hmb := HM.out.hd.lt
  have hab := HM.out.row.lt
  have bO := ((Boxed.new w1 54 (.slice (some ⟨w.heap.size, 0, none⟩) 0 st.length)).alloc (.cells #[.pointer (some ⟨w1.heap.size, 0, none⟩)] 23)).alloc (.cells #[.pointer (some ⟨mb, 0, none⟩)] 23)
  have bP := (Boxed.new (w1.alloc (.cells #[.slice (some ⟨w.heap.size, 0, none⟩) 0 st.length] 54)) 23 (.pointer (some ⟨w1.heap.size, 0, none⟩))).alloc (.cells #[.pointer (some ⟨mb, 0, none⟩)] 23)
  have bN := Boxed.new ((w1.alloc (.cells #[.slice (some ⟨w.heap.size, 0, none⟩) 0 st.length] 54)).alloc (.cells #[.pointer (some ⟨w1.heap.size, 0, none⟩)] 23)) 23 (.pointer (some ⟨mb, 0, none⟩))
  simp only [World.size_alloc] at bP bN
  have hM0 : Mem (((w1.alloc (.cells #[.slice (some ⟨w.heap.size, 0, none⟩) 0 st.length] 54)).alloc (.cells #[.pointer (some ⟨w1.heap.size, 0, none⟩)] 23)).alloc (.cells #[.pointer (some ⟨mb, 0, none⟩)] 23)) mb ab st := hM1.turned (S := fun _ => False) ((((Turned.refl _ _).alloc _).alloc _).alloc _) (fun h => h) (fun h => h)
  have hown0 := ((hown1.alloc (.cells #[.slice (some ⟨w.heap.size, 0, none⟩) 0 st.length] 54)).alloc (.cells #[.pointer (some ⟨w1.heap.size, 0, none⟩)] 23)).alloc (.cells #[.pointer (some ⟨mb, 0, none⟩)] 23)
  have hB0 : Below w.heap.size w (((w1.alloc (.cells #[.slice (some ⟨w.heap.size, 0, none⟩) 0 st.length] 54)).alloc (.cells #[.pointer (some ⟨w1.heap.size, 0, none⟩)] 23)).alloc (.cells #[.pointer (some ⟨mb, 0, none⟩)] 23)) :=
    ((((Below.refl _ w).grown hgrow1 (Nat.le_refl _) (fun k e => by cases e)).alloc (by omega) _).alloc (by simp; omega) _).alloc (by simp; omega) _
  have hsz : (((w1.alloc (.cells #[.slice (some ⟨w.heap.size, 0, none⟩) 0 st.length] 54)).alloc (.cells #[.pointer (some ⟨w1.heap.size, 0, none⟩)] 23)).alloc (.cells #[.pointer (some ⟨mb, 0, none⟩)] 23)).heap.size = w1.heap.size + 3 := by simp
  obtain ⟨W0, hW0⟩ : ∃ W0, (((w1.alloc (.cells #[.slice (some ⟨w.heap.size, 0, none⟩) 0 st.length] 54)).alloc (.cells #[.pointer (some ⟨w1.heap.size, 0, none⟩)] 23)).alloc (.cells #[.pointer (some ⟨mb, 0, none⟩)] 23)) = W0 := ⟨_, rfl⟩
  rw [hW0] at bO bP bN hM0 hown0 hB0 hsz ⊢
  clear hW0 hM1 hown1 hgrow1
  refine wpIn_rangeFunc_ownH hro h1 (gf := 38) (lb := #[.pointer (some ⟨w1.heap.size + 1 + 1, 0, none⟩)]) rfl h5 (enters_of Try.func38 (by kernel_rfl) rfl)
    (each_stops F (n - 1) h5 hro (by omega) (w1.heap.size + 1 + 1) w.heap.size mb ab st W0 hab hmb (by omega) bN.cell hM0) belowK_t (belowK_b (by omega)) (Below.refl _ _) (fun _ => rfl)
    (fun pre W => ((∃ v, Boxed W w1.heap.size 54 v ∧ W.ownsRow w.heap.size 56 3 v pre.length (rowOf celEnc pre) ∧ v = .slice (some ⟨w.heap.size, 0, none⟩) pre.length st.length) ∧ Boxed W (w1.heap.size + 1) 23 (.pointer (some ⟨w1.heap.size, 0, none⟩))) ∧ Below w.heap.size w W)
    (fun _ _ _ => False)
    (OwnFrom.and (OwnFrom.and (Own.from (holdsRow_own w.heap.size w1.heap.size 54 56 3 (fun pre : List Cel => pre.length) (fun pre => rowOf celEnc pre) (fun pre v => v = .slice (some ⟨w.heap.size, 0, none⟩) pre.length st.length)) _) (Own.from (boxed_own _ _ _) _)) (ownFrom_below (Nat.le_refl _) (by omega)))
    (fun _ _ _ _ _ hs _ _ => hs)
    ⟨⟨⟨_, bO, hown0, rfl⟩, bP⟩, hB0⟩
    (fun x a' W => ∃ Bx, w1.heap.size + 1 < Bx ∧ Blk W Bx (celEnc x) 56 ∧ a' = { tmps := #[.pointer (some ⟨mb, 0, none⟩), undef, .pointer none, .pointer (some ⟨w1.heap.size + 1, 0, none⟩), .pointer (some ⟨Bx, 0, none⟩), .pointer (some ⟨mb, 0, none⟩), .bool true, .bool false, .pointer (some ⟨mb, 0, none⟩), .pointer (some ⟨mb, 0, none⟩), .pointer (some ⟨mb, 0, none⟩), .slice (some ⟨ab, 0, none⟩) st.length st.length, .int .i64 st.length, .slice (some ⟨w.heap.size, 0, none⟩) 0 st.length, .agg #[.slice (some ⟨w.heap.size, 0, none⟩) 0 st.length], .pointer (some ⟨w1.heap.size, 0, none⟩), .pointer (some ⟨mb, 0, none⟩), .func (.func 38) #[] #[.pointer (some ⟨w1.heap.size + 1 + 1, 0, none⟩)], x.val, undef, undef, undef, undef, undef, undef, undef, undef, undef, undef, undef], defers := [] })
    (fun x a' _ X Y row hs hg hr => by obtain ⟨Bx, h1, h2, h3⟩ := hs; exact ⟨Bx, h1, blk_own Bx (celEnc x) 56 () X Y row h2 hg (fun r e => (hr r e).2), h3⟩)
    ?assign ?body ?done ?stop
  case assign =>
    rintro l pre x W K ⟨⟨⟨v, hv, hrow, hG⟩, hP⟩, hB⟩ hK
    obtain ⟨xn, xh, xw⟩ := x
    dsimp only [Cel.val]
    have hvl := hP.lt
    gi_wp2
    exact hK _ _ ((KeepsOthers.alloc _ _).from _) ((Below.refl _ W).alloc hB.size _) ⟨⟨⟨v, hv.alloc _, hrow.alloc _, hG⟩, hP.alloc _⟩, hB.alloc hB.size _⟩ ⟨W.heap.size, hvl, Blk.new W (celEnc ⟨xn, xh, xw⟩) _, rfl⟩
  case body =>
    rintro l pre x a' W hl ⟨r, hr⟩ ⟨⟨⟨v, hv, hrow, hG⟩, hP⟩, hB⟩ ⟨Bx, hBx, bX, rfl⟩ hlt
    subst hG
    have hc := hv.cell
    have hp := hP.cell
    have hpf := hP.frozen
    have hvf := hv.frozen
    have c0 : W.cell? ⟨Bx, 0, none⟩ = some (.int .i64 x.n) := bX.cell rfl
    have c1 : W.cell? ⟨Bx, 1, none⟩ = some (.int .i64 x.h) := bX.cell rfl
    have c2 : W.cell? ⟨Bx, 2, none⟩ = some (.int .i64 x.w) := bX.cell rfl
    have hS : (fun W' : World => W'.cell? ⟨w1.heap.size + 1, 0, none⟩ = some (.pointer (some ⟨w1.heap.size, 0, none⟩)) ∧ W'.cell? ⟨Bx, 0, none⟩ = some (.int .i64 x.n) ∧ W'.cell? ⟨Bx, 1, none⟩ = some (.int .i64 x.h) ∧ W'.cell? ⟨Bx, 2, none⟩ = some (.int .i64 x.w)) W.drew := ⟨hp, c0, c1, c2⟩
    have hv6 := hv.alloc (.cells #[.int .i64 x.n, .int .i64 x.h, .int .i64 x.w] 56)
    have hc6 : (W.alloc (.cells #[.int .i64 x.n, .int .i64 x.h, .int .i64 x.w] 56)).cell? ⟨w1.heap.size, 0, none⟩ = some (.slice (some ⟨w.heap.size, 0, none⟩) pre.length st.length) := hv6.cell
    have hP6 := hP.alloc (.cells #[.int .i64 x.n, .int .i64 x.h, .int .i64 x.w] 56)
    have bX6 := bX.alloc (.cells #[.int .i64 x.n, .int .i64 x.h, .int .i64 x.w] 56)
    have hS6 : (fun W' : World => W'.cell? ⟨w1.heap.size + 1, 0, none⟩ = some (.pointer (some ⟨w1.heap.size, 0, none⟩)) ∧ W'.cell? ⟨Bx, 0, none⟩ = some (.int .i64 x.n) ∧ W'.cell? ⟨Bx, 1, none⟩ = some (.int .i64 x.h) ∧ W'.cell? ⟨Bx, 2, none⟩ = some (.int .i64 x.w)) (W.alloc (.cells #[.int .i64 x.n, .int .i64 x.h, .int .i64 x.w] 56)).drew := ⟨hP6.cell, bX6.cell rfl, bX6.cell rfl, bX6.cell rfl⟩
    have hrow2 : (W.alloc (.cells #[.int .i64 x.n, .int .i64 x.h, .int .i64 x.w] 56)).drew.ownsRow w.heap.size 56 3 (.slice (some ⟨w.heap.size, 0, none⟩) pre.length st.length) pre.length (rowOf celEnc pre) := (hrow.alloc _).drew
    clear hr
    gi_wp2_with fail
    obtain rfl := HF.out
    refine region_round (S := (fun W' : World => W'.cell? ⟨w1.heap.size + 1, 0, none⟩ = some (.pointer (some ⟨w1.heap.size, 0, none⟩)) ∧ W'.cell? ⟨Bx, 0, none⟩ = some (.int .i64 x.n) ∧ W'.cell? ⟨Bx, 1, none⟩ = some (.int .i64 x.h) ∧ W'.cell? ⟨Bx, 2, none⟩ = some (.int .i64 x.w))) (by kernel_rfl) (by rintro ⟨_, _, h⟩; exact h) (by kernel_rfl) ?_
    refine wpAnyH_take (i := 0) (v := ?_) rfl (by kernel_rfl) (by kernel_rfl) (by kernel_rfl) (fun _ _ _ h => h) (Or.inl ⟨by rfl, ?_⟩) hS ?_
    rotate_left
    · intro w hSw
      obtain ⟨k0, k1, k2, k3⟩ := hSw
      go_simp
      with_reducible rfl
    try simp only [Act.put, List.setIfInBounds_toArray, List.set_cons_zero, List.set_cons_succ]
    refine wpAnyH_take (i := 1) (v := ?_) rfl (by kernel_rfl) (by kernel_rfl) (by kernel_rfl) (fun _ _ _ h => h) (Or.inl ⟨by rfl, ?_⟩) hS ?_
    rotate_left
    · intro w hSw
      obtain ⟨k0, k1, k2, k3⟩ := hSw
      go_simp
      with_reducible rfl
    try simp only [Act.put, List.setIfInBounds_toArray, List.set_cons_zero, List.set_cons_succ]
    refine wpAnyH_take (i := 2) (v := ?_) rfl (by kernel_rfl) (by kernel_rfl) (by kernel_rfl) (fun _ _ _ h => h) (Or.inl ⟨by rfl, ?_⟩) hS ?_
    rotate_left
    · intro w hSw
      obtain ⟨k0, k1, k2, k3⟩ := hSw
      go_simp
      with_reducible rfl
    try simp only [Act.put, List.setIfInBounds_toArray, List.set_cons_zero, List.set_cons_succ]
    refine wpAnyH_take (i := 3) (v := ?_) rfl (by kernel_rfl) (by kernel_rfl) (by kernel_rfl) (fun _ _ _ h => h) (Or.inl ⟨by rfl, ?_⟩) hS ?_
    rotate_left
    · intro w hSw
      obtain ⟨k0, k1, k2, k3⟩ := hSw
      go_simp
      with_reducible rfl
    try simp only [Act.put, List.setIfInBounds_toArray, List.set_cons_zero, List.set_cons_succ]
    refine wpAnyH_take (i := 5) (v := ?_) rfl (by kernel_rfl) (by kernel_rfl) (by kernel_rfl) (fun _ _ _ h => h) (Or.inl ⟨by rfl, ?_⟩) hS ?_
    rotate_left
    · intro w hSw
      obtain ⟨k0, k1, k2, k3⟩ := hSw
      go_simp
      with_reducible rfl
    try simp only [Act.put, List.setIfInBounds_toArray, List.set_cons_zero, List.set_cons_succ]
    refine wpAnyH_ready (rs := [4, 6]) (by kernel_rfl) (by simp) ?_
    refine AllReadyH.cons rfl (fun K hK => ?_) ?_
    · go_simp
      refine hK.out _ _ hS (fun _ => ?_)
      clear hK K
      try simp only [Act.put, List.setIfInBounds_toArray, List.set_cons_zero, List.set_cons_succ]
      refine wpAnyH_ready (rs := [6]) (by kernel_rfl) (by simp) ?_
      refine AllReadyH.cons rfl (fun K hK => ?_) AllReadyH.nil
      go_simp
      refine hK.out _ _ hS6 (fun _ => ?_)
      clear hK K
      try simp only [Act.put, List.setIfInBounds_toArray, List.set_cons_zero, List.set_cons_succ]
      refine wpAnyH_ready (rs := [7]) (by kernel_rfl) (by simp) ?_
      refine AllReadyH.cons rfl (fun K hK => ?_) AllReadyH.nil
      refine step_append_fits rfl _ _ 52 rfl w.heap.size 56 i0 3 Try.underlying52 hi hz1 w.heap.size pre.length st.length _ rfl hrow2 ⟨W.heap.size, 0, none⟩ 1 1 (celEnc x) rfl rfl (fun j u hj => by rw [Addr.add_lit, Nat.zero_add]; exact (Blk.new W (celEnc x) 56).cell hj) (by simp [celEnc, Value.oneCell']) (by omega) ?_
      intro w2 hown' hgrow
      have hgrow' : (W.alloc (.cells (celEnc x).toArray 56)).grownBy w2 (some w.heap.size) := ⟨hgrow.os, hgrow.tape, hgrow.output, hgrow.size, hgrow.block⟩
      obtain ⟨hv1, hv2, hr2, hk2, hb2⟩ := hv.appended (by decide) hrow hB.size (Nat.le_of_lt hlt1) hown' hgrow'
      have hP3 := (hP.alloc (.cells (celEnc x).toArray 56)).kept hgrow' (by simp; omega)
      have bX3 : Blk w2 Bx (celEnc x) 56 := (hgrow'.block Bx ((bX.alloc (.cells (celEnc x).toArray 56)).lt) (by simp; omega)).trans (bX.alloc (.cells (celEnc x).toArray 56))
      have hS3 : (fun W' : World => W'.cell? ⟨w1.heap.size + 1, 0, none⟩ = some (.pointer (some ⟨w1.heap.size, 0, none⟩)) ∧ W'.cell? ⟨Bx, 0, none⟩ = some (.int .i64 x.n) ∧ W'.cell? ⟨Bx, 1, none⟩ = some (.int .i64 x.h) ∧ W'.cell? ⟨Bx, 2, none⟩ = some (.int .i64 x.w)) w2 := ⟨hP3.cell, bX3.cell rfl, bX3.cell rfl, bX3.cell rfl⟩
      have hP4 := hP3.other (B' := w1.heap.size) (by omega) (.slice (some ⟨w.heap.size, 0, none⟩) (pre.length + 1) st.length)
      have bX4 := bX3.other (p := ⟨w1.heap.size, 0, none⟩) (by show w1.heap.size ≠ Bx; omega) (.slice (some ⟨w.heap.size, 0, none⟩) (pre.length + 1) st.length)
      have hS4 : (fun W' : World => W'.cell? ⟨w1.heap.size + 1, 0, none⟩ = some (.pointer (some ⟨w1.heap.size, 0, none⟩)) ∧ W'.cell? ⟨Bx, 0, none⟩ = some (.int .i64 x.n) ∧ W'.cell? ⟨Bx, 1, none⟩ = some (.int .i64 x.h) ∧ W'.cell? ⟨Bx, 2, none⟩ = some (.int .i64 x.w)) (w2.setCell ⟨w1.heap.size, 0, none⟩ (.slice (some ⟨w.heap.size, 0, none⟩) (pre.length + 1) st.length)) := ⟨hP4.cell, bX4.cell rfl, bX4.cell rfl, bX4.cell rfl⟩
      have hc3 := hv1.cell
      have hf3 := hv1.frozen
      refine hK.out _ _ hS3 (fun _ => ?_)
      clear hK K
      try simp only [Act.put, List.setIfInBounds_toArray, List.set_cons_zero, List.set_cons_succ]
      refine wpAnyH_take (i := 8) (v := ?_) rfl (by kernel_rfl) (by kernel_rfl) (by kernel_rfl) (fun _ _ _ h => h) (Or.inl ⟨by rfl, ?_⟩) hS3 ?_
      rotate_left
      · intro w hSw
        obtain ⟨k0, k1, k2, k3⟩ := hSw
        go_simp
        with_reducible rfl
      try simp only [Act.put, List.setIfInBounds_toArray, List.set_cons_zero, List.set_cons_succ]
      refine wpAnyH_take (i := 9) (v := ?_) rfl (by kernel_rfl) (by kernel_rfl) (by kernel_rfl) (fun _ _ _ h => h) (Or.inl ⟨by rfl, ?_⟩) hS3 ?_
      rotate_left
      · intro w hSw
        obtain ⟨k0, k1, k2, k3⟩ := hSw
        go_simp
        with_reducible rfl
      try simp only [Act.put, List.setIfInBounds_toArray, List.set_cons_zero, List.set_cons_succ]
      refine wpAnyH_ready (rs := [10]) (by kernel_rfl) (by simp) ?_
      refine AllReadyH.cons rfl (fun K hK => ?_) AllReadyH.nil
      go_simp
      refine hK.out _ _ hS4 (fun _ => ?_)
      clear hK K
      try simp only [Act.put, List.setIfInBounds_toArray, List.set_cons_zero, List.set_cons_succ]
      refine wpAnyH_done (by kernel_rfl) ?_ _
      gi_wp2
      exact ⟨hk2.from _, hb2, ⟨⟨by simpa using hv2, by simpa [rowOf_append, rowOf_cons, rowOf_nil] using hr2⟩, hP4⟩, hB.trans hb2⟩
    · refine AllReadyH.cons rfl (fun K hK => ?_) AllReadyH.nil
      go_simp
      refine hK.out _ _ hS6 (fun _ => ?_)
      clear hK K
      try simp only [Act.put, List.setIfInBounds_toArray, List.set_cons_zero, List.set_cons_succ]
      refine wpAnyH_ready (rs := [4]) (by kernel_rfl) (by simp) ?_
      refine AllReadyH.cons rfl (fun K hK => ?_) AllReadyH.nil
      go_simp
      refine hK.out _ _ hS6 (fun _ => ?_)
      clear hK K
      try simp only [Act.put, List.setIfInBounds_toArray, List.set_cons_zero, List.set_cons_succ]
      refine wpAnyH_ready (rs := [7]) (by kernel_rfl) (by simp) ?_
      refine AllReadyH.cons rfl (fun K hK => ?_) AllReadyH.nil
      refine step_append_fits rfl _ _ 52 rfl w.heap.size 56 i0 3 Try.underlying52 hi hz1 w.heap.size pre.length st.length _ rfl hrow2 ⟨W.heap.size, 0, none⟩ 1 1 (celEnc x) rfl rfl (fun j u hj => by rw [Addr.add_lit, Nat.zero_add]; exact (Blk.new W (celEnc x) 56).cell hj) (by simp [celEnc, Value.oneCell']) (by omega) ?_
      intro w2 hown' hgrow
      have hgrow' : (W.alloc (.cells (celEnc x).toArray 56)).grownBy w2 (some w.heap.size) := ⟨hgrow.os, hgrow.tape, hgrow.output, hgrow.size, hgrow.block⟩
      obtain ⟨hv1, hv2, hr2, hk2, hb2⟩ := hv.appended (by decide) hrow hB.size (Nat.le_of_lt hlt1) hown' hgrow'
      have hP3 := (hP.alloc (.cells (celEnc x).toArray 56)).kept hgrow' (by simp; omega)
      have bX3 : Blk w2 Bx (celEnc x) 56 := (hgrow'.block Bx ((bX.alloc (.cells (celEnc x).toArray 56)).lt) (by simp; omega)).trans (bX.alloc (.cells (celEnc x).toArray 56))
      have hS3 : (fun W' : World => W'.cell? ⟨w1.heap.size + 1, 0, none⟩ = some (.pointer (some ⟨w1.heap.size, 0, none⟩)) ∧ W'.cell? ⟨Bx, 0, none⟩ = some (.int .i64 x.n) ∧ W'.cell? ⟨Bx, 1, none⟩ = some (.int .i64 x.h) ∧ W'.cell? ⟨Bx, 2, none⟩ = some (.int .i64 x.w)) w2 := ⟨hP3.cell, bX3.cell rfl, bX3.cell rfl, bX3.cell rfl⟩
      have hP4 := hP3.other (B' := w1.heap.size) (by omega) (.slice (some ⟨w.heap.size, 0, none⟩) (pre.length + 1) st.length)
      have bX4 := bX3.other (p := ⟨w1.heap.size, 0, none⟩) (by show w1.heap.size ≠ Bx; omega) (.slice (some ⟨w.heap.size, 0, none⟩) (pre.length + 1) st.length)
      have hS4 : (fun W' : World => W'.cell? ⟨w1.heap.size + 1, 0, none⟩ = some (.pointer (some ⟨w1.heap.size, 0, none⟩)) ∧ W'.cell? ⟨Bx, 0, none⟩ = some (.int .i64 x.n) ∧ W'.cell? ⟨Bx, 1, none⟩ = some (.int .i64 x.h) ∧ W'.cell? ⟨Bx, 2, none⟩ = some (.int .i64 x.w)) (w2.setCell ⟨w1.heap.size, 0, none⟩ (.slice (some ⟨w.heap.size, 0, none⟩) (pre.length + 1) st.length)) := ⟨hP4.cell, bX4.cell rfl, bX4.cell rfl, bX4.cell rfl⟩
      have hc3 := hv1.cell
      have hf3 := hv1.frozen
      refine hK.out _ _ hS3 (fun _ => ?_)
      clear hK K
      try simp only [Act.put, List.setIfInBounds_toArray, List.set_cons_zero, List.set_cons_succ]
      refine wpAnyH_take (i := 8) (v := ?_) rfl (by kernel_rfl) (by kernel_rfl) (by kernel_rfl) (fun _ _ _ h => h) (Or.inl ⟨by rfl, ?_⟩) hS3 ?_
      rotate_left
      · intro w hSw
        obtain ⟨k0, k1, k2, k3⟩ := hSw
        go_simp
        with_reducible rfl
      try simp only [Act.put, List.setIfInBounds_toArray, List.set_cons_zero, List.set_cons_succ]
      refine wpAnyH_take (i := 9) (v := ?_) rfl (by kernel_rfl) (by kernel_rfl) (by kernel_rfl) (fun _ _ _ h => h) (Or.inl ⟨by rfl, ?_⟩) hS3 ?_
      rotate_left
      · intro w hSw
        obtain ⟨k0, k1, k2, k3⟩ := hSw
        go_simp
        with_reducible rfl
      try simp only [Act.put, List.setIfInBounds_toArray, List.set_cons_zero, List.set_cons_succ]
      refine wpAnyH_ready (rs := [10]) (by kernel_rfl) (by simp) ?_
      refine AllReadyH.cons rfl (fun K hK => ?_) AllReadyH.nil
      go_simp
      refine hK.out _ _ hS4 (fun _ => ?_)
      clear hK K
      try simp only [Act.put, List.setIfInBounds_toArray, List.set_cons_zero, List.set_cons_succ]
      refine wpAnyH_done (by kernel_rfl) ?_ _
      gi_wp2
      exact ⟨hk2.from _, hb2, ⟨⟨by simpa using hv2, by simpa [rowOf_append, rowOf_cons, rowOf_nil] using hr2⟩, hP4⟩, hB.trans hb2⟩

  case done =>
    rintro D ys W hD rfl ⟨⟨⟨v, hv, hrow, hG⟩, hP⟩, hB⟩ hK
    subst hG
    have hc := hv.cell
    have hp := hP.cell
    gi_wp2
    refine ⟨by simp, .inl ⟨_, _, rfl, run_takeDeferred hK, ?_⟩⟩
    refine ⟨_, results_tmp rfl _ _ _, w1.heap.size, w.heap.size, rfl, ⟨?_, blk_of_owns_m (ownsRow_putObj hrow _ hK rfl) hpos, by omega, hpos, hle⟩, by omega, Nat.le_refl _, hB.trans (belowK_b (w := w) (Nat.le_refl _) W D _ _ (by omega) hK rfl rfl)⟩
    exact boxed_own w1.heap.size 54 (fun (_ : Unit) => Value.slice (some ⟨w.heap.size, 0, none⟩) ys.length ys.length) () W _ (some D) hv (grownBy_putObj' W D _) (fun r e => by cases e; exact ⟨_, hK, rfl⟩)
  case stop =>
    rintro D c pre W _ _ h _
    exact h.elim

theorem copy_ok {w : World} {mb ab : Nat} {st : List Cel} (hM : Mem w mb ab st) :
    Calls Try.prog 30 #[.pointer (some ⟨mb, 0, none⟩)] w fun e W' => ∃ mb2 ab2, e = .returned (.pointer (some ⟨mb2, 0, none⟩)) ∧ Mem W' mb2 ab2 st ∧ w.heap.size ≤ mb2 ∧ w.heap.size ≤ ab2 ∧ Still w W' :=
  (callsIn_wide (n := 3)).1 ((copy_in Fence.wide rfl 3 trivial trivial trivial trivial rfl (by omega) w mb ab st hM).mono fun e W' ⟨mb2, ab2, h1, h2, h3, h4, h5⟩ => ⟨mb2, ab2, h1, h2, h3, h4, below_turned h5 (Nat.le_refl _)⟩)
end Go.Proofs.Ytgdpalefhikbfaa
