/- What Ready of the program's ring answers. No condition but that the ring is one. -/
import Derived.Test.YtefopajkcpcjpaaRingRefs
namespace Go.Proofs.Ytefopajkcpcjpaa
open Go.RowKit Go.Shelf
attribute [local go_sem] Oper.semAt_some
set_option linter.unusedVariables false
set_option linter.unusedSimpArgs false
set_option maxRecDepth 100000

theorem tw_len {α : Type} (f : α → Bool) : ∀ (l : List α) (t : Nat), t ≤ l.length → (∀ j x, j < t → l[j]? = some x → f x = true) → (t < l.length → ∃ x, l[t]? = some x ∧ f x = false) → (l.takeWhile f).length = t
  | [], t, h, _, _ => by simp at h; subst h; rfl
  | a :: r, 0, _, _, h => by
    obtain ⟨x, hx, hf⟩ := h (by simp)
    simp at hx
    subst hx
    rw [List.takeWhile_cons_of_neg (by simp [hf])]; rfl
  | a :: r, t + 1, h0, h1, h2 => by
    rw [List.takeWhile_cons_of_pos (h1 0 a (by omega) rfl)]
    have := tw_len f r t (by simp at h0; omega) (fun j x hj hx => h1 (j + 1) x (by omega) (by simpa using hx)) (fun h => by simpa using h2 (by simp; omega))
    simp [this]

/-- How far one comes who looks at place after place: each is ahead of what was asked, or published; and the next is neither. -/
theorem RM.ready_eq {M : RM} {a : Int} {k : Nat} (hk : k ≤ M.l.length) (h1 : ∀ j p, j < k → M.l[j]? = some p → (M.h : Int) + (j : Int) < a ∨ p.d = true) (h2 : k < M.l.length → ∃ p, M.l[k]? = some p ∧ ¬ (M.h : Int) + (k : Int) < a ∧ p.d = false) : M.ready a = M.h + k := by
  unfold RM.ready RM.tail
  obtain ⟨c, hc⟩ : ∃ c, c = M.cut a := ⟨_, rfl⟩
  have hca : ∀ j : Nat, c ≤ j → ¬ (M.h : Int) + (j : Int) < a := fun j hj => by rw [hc] at hj; unfold RM.cut at hj; omega
  have hca2 : ∀ j : Nat, ¬ (M.h : Int) + (j : Int) < a → c ≤ j := fun j hj => by rw [hc]; unfold RM.cut; omega
  rw [← hc]
  by_cases hck : c ≤ k
  · have ht := tw_len (·.d) (M.l.drop c) (k - c) (by rw [List.length_drop]; omega)
      (fun j x hj hx => by
        rw [List.getElem?_drop] at hx
        rcases h1 (c + j) x (by omega) hx with h | h
        · exact absurd h (hca _ (by omega))
        · exact h)
      (fun h => by
        rw [List.length_drop] at h
        obtain ⟨p, hp, _, hd⟩ := h2 (by omega)
        exact ⟨p, by rw [List.getElem?_drop, show c + (k - c) = k by omega]; exact hp, hd⟩)
    rw [ht]
    omega
  · have : k = M.l.length := by
      rcases Nat.lt_or_ge k M.l.length with h | h
      · obtain ⟨p, _, hn, _⟩ := h2 h
        exact absurd (hca2 k hn) (by omega)
      · omega
    omega

/-- How far one has come behind some places. -/
def rdOf (h : Nat) {L : List Plc} (l : List (PlcAt L)) : Nat := match l.getLast? with
  | some x => h + x.1.1 + 1
  | none => h
theorem rdOf_snoc (h : Nat) {L : List Plc} (l : List (PlcAt L)) (x : PlcAt L) : rdOf h (l ++ [x]) = h + x.1.1 + 1 := by simp [rdOf]
theorem rdOf_to (h : Nat) (L : List Plc) : ∀ k, k ≤ L.length → rdOf h (plTo L k) = h + k
  | 0, _ => rfl
  | k + 1, hk => by 
    rw [plTo_step (List.getElem?_eq_getElem (show k < L.length by omega)), rdOf_snoc]
    exact Nat.add_assoc h k 1
theorem plTo_mem {L : List Plc} {x : PlcAt L} : ∀ {k : Nat}, k ≤ L.length → (x ∈ plTo L k ↔ x.1.1 < k)
  | 0, _ => by simp [plTo]
  | k + 1, hk => by
    have hlt : k < L.length := by omega
    rw [plTo_step (List.getElem?_eq_getElem hlt), List.mem_append, plTo_mem (k := k) (by omega), List.mem_singleton]
    constructor
    · rintro (h | h)
      · omega
      · subst h; exact Nat.lt_succ_self _
    · intro h
      rcases Nat.lt_succ_iff_lt_or_eq.1 h with h | h
      · exact .inl h
      · refine .inr (Subtype.ext ?_)
        obtain ⟨⟨x1, x2⟩, hx⟩ := x
        dsimp only at h hx ⊢
        subst h
        rw [List.getElem?_eq_getElem hlt] at hx
        cases hx
        rfl
/-- A beginning of the places, with a last one, is the first so many and the next. -/
theorem plTo_front {L : List Plc} {pre : List (PlcAt L)} {x : PlcAt L} (h : pre ++ [x] <+: plTo L L.length) : x.1.1 < L.length ∧ pre = plTo L x.1.1 := by
  have hl : pre.length + 1 ≤ L.length := by
    have := h.length_le
    rw [List.length_append, plTo_len L _ (Nat.le_refl _)] at this
    simpa using this
  have h2 := plTo_pre L hl
  have e : pre ++ [x] = plTo L (pre.length + 1) := by
    refine List.IsPrefix.eq_of_length (List.prefix_of_prefix_length_le h h2 ?_) ?_ <;> rw [plTo_len L _ hl] <;> simp
  rw [plTo_step (List.getElem?_eq_getElem (show pre.length < L.length by omega))] at e
  obtain ⟨e1, e2⟩ := List.append_inj' e rfl
  have e3 : x = ⟨(pre.length, L[pre.length]), List.getElem?_eq_getElem (show pre.length < L.length by omega)⟩ := by simpa using e2
  have e4 : x.1.1 = pre.length := by rw [e3]
  rw [e4]
  exact ⟨by omega, e1⟩

theorem rhead_in (F : Fence) (n q m hd : Nat) (w : World) (hm : 0 < m) (hn : 1 ≤ n) (h : F.fn 24) (h2 : F.fn 35) (hro : F.round = none) (c0 : w.cell? ⟨q, 0, none⟩ = some (.int .i64 m)) (c2 : w.cell? ⟨q, 2, none⟩ = some (.int .i64 hd)) :
    CallsIn F n Try.prog 24 #[.pointer (some ⟨q, 0, none⟩)] w fun e w' => e = .returned (.int .i64 hd) ∧ w = w' := by
  refine callsIn_of_wp Try.func24 rfl h ?_ hro
  simp only [Try.ntmps24, List.size_toArray, List.length_cons, List.length_nil, Nat.reduceAdd, Nat.reduceSub, Array.replicate_succ, Array.replicate_zero, List.push_toArray, List.append_toArray, List.nil_append, List.cons_append]
  gi_wp2_with (gi_at_call 35; refine (rmade_in F (n - 1) q m w hm h2 hro c0).mono ?_; rintro e w' ⟨rfl, rfl⟩)
  go_ret
  exact ⟨rfl, rfl⟩

/-- What holds between two rounds; and where one has left. -/
def RdI (w W0 : World) (M : RM) (a : Int) (pre : List (PlcAt M.l)) (W : World) : Prop :=
  (Boxed W (w.heap.size + 1) 3 (.int .i64 (rdOf M.h pre : Nat)) ∧ ∀ x ∈ pre, (M.h : Int) + (x.1.1 : Int) < a ∨ x.1.2.d = true) ∧ Keeps2 (w.heap.size + 1) (w.heap.size + 2) W0 W
def RdX (w W0 : World) (M : RM) (a : Int) (c : Code) (pre : List (PlcAt M.l)) (W : World) : Prop :=
  c = .exit 0 ∧ ∃ pre0 x, pre = pre0 ++ [x] ∧ ¬ (M.h : Int) + (x.1.1 : Int) < a ∧ x.1.2.d = false ∧ RdI w W0 M a pre0 W
theorem RdI.own {w W0 : World} {M : RM} {a : Int} (h : W0.heap.size = w.heap.size + 3) : OwnFrom W0.heap.size (RdI w W0 M a) := fun s W W' row hs hg hr =>
  ⟨⟨boxed_own (β := Unit) _ _ (fun _ => _) () W W' row hs.1.1 hg (fun r e => (hr r e).2), hs.1.2⟩, ownFrom_keeps2 (β := Unit) (by omega) (by omega) (by omega) (by omega) () W W' row hs.2 hg hr⟩

set_option maxHeartbeats 2000000 in
theorem rready_any {w : World} {W : Nat → Prop} {q : Nat} {M : RM} {N : Nat} (H0 : (rT q M).at_ w W) (hM : M.Ok N) (hN : N < 1000000) (a : Int) :
    Calls Try.prog 22 #[.pointer (some ⟨q, 0, none⟩), .int .i64 a] w fun e w' => e = .returned (.int .i64 (M.ready a)) ∧ Still w w' := by
  obtain ⟨la, lc, pa, pc, H⟩ := H0
  refine (callsIn_wide (n := 3)).1 ?_
  obtain ⟨m, hm⟩ : ∃ m, m = M.l.length := ⟨_, rfl⟩
  have hm64 : m ≤ 64 := by have := hM.len; have := hM.max; omega
  have hhd : M.h < 1000000 := by have := hM.low; unfold RM.tail at this; omega
  have HP := Lib.hid hM.pos
  have HM := Lib.hid hm
  have HH := Lib.hid H
  have HLt := Lib.hid H.lt
  obtain ⟨c0, _, c2, _, _⟩ := H.cells
  have HHd := Lib.hid (fun (V : World) (hst : Still w V) d (hd : 1 ≤ d) => rhead_in Fence.wide d q M.n M.h V hM.pos hd trivial trivial rfl (still_cell hst c0 rfl) (still_cell hst c2 rfl))
  have hro : Fence.wide.round = none := rfl
  clear hm hM hN H c0 c2
  refine callsIn_of_wp_marks Try.func22 rfl trivial ?_ rfl
  simp only [Try.ntmps22, List.size_toArray, List.length_cons, List.length_nil, Nat.reduceAdd, Nat.reduceSub, Array.replicate_succ, Array.replicate_zero, List.push_toArray, List.append_toArray, List.nil_append, List.cons_append]
  have hs1 : Still w (w.alloc (.cells #[.int .i64 a] 3)) := (Turned.refl _ w).alloc _
  gi_wp2_with fail
  refine wpIn_wide.2 (wp_scope_straight ((wpIn_wide (n := 3)).1 ?_))
  gi_wp2_with (refine ⟨trivial, ?_⟩; gi_at_call 24; refine (HHd.out _ hs1 _ (by omega)).mono ?_; rintro e w' ⟨rfl, rfl⟩)
  refine wpIn_label ?_
  gi_wp2_with (refine ⟨trivial, ?_⟩; gi_at_call 36; refine (places_in Fence.wide _ trivial rfl _ _).mono ?_; rintro e w' ⟨rfl, rfl⟩)
  rw [show w.heap.size + 1 + 1 = w.heap.size + 2 by omega]
  obtain ⟨o1, ho1⟩ : ∃ o : Obj, o = .cells #[.int .i64 a] 3 := ⟨_, rfl⟩
  obtain ⟨o2, ho2⟩ : ∃ o : Obj, o = .cells #[.int .i64 (M.h : Nat)] 3 := ⟨_, rfl⟩
  obtain ⟨o3, ho3⟩ : ∃ o : Obj, o = .cells #[.pointer (some ⟨q, 0, none⟩)] 23 := ⟨_, rfl⟩
  have bA : Boxed (((w.alloc o1).alloc o2).alloc o3) w.heap.size 3 (.int .i64 a) := by rw [ho1]; exact ((Boxed.new w 3 _).alloc o2).alloc o3
  have bO : Boxed (((w.alloc o1).alloc o2).alloc o3) (w.heap.size + 1) 3 (.int .i64 (M.h : Nat)) := by
    have := (Boxed.new (w.alloc o1) 3 (.int .i64 (M.h : Nat))).alloc o3
    rw [ho2]; rwa [World.size_alloc] at this
  have bN : Boxed (((w.alloc o1).alloc o2).alloc o3) (w.heap.size + 2) 23 (.pointer (some ⟨q, 0, none⟩)) := by
    have := Boxed.new ((w.alloc o1).alloc o2) 23 (.pointer (some ⟨q, 0, none⟩))
    rw [ho3]; rwa [World.size_alloc, World.size_alloc] at this
  have hT0 : Still w (((w.alloc o1).alloc o2).alloc o3) := (((Turned.refl _ w).alloc o1).alloc o2).alloc o3
  have hsz : (((w.alloc o1).alloc o2).alloc o3).heap.size = w.heap.size + 3 := by simp
  rw [← ho1, ← ho2, ← ho3]
  obtain ⟨W0, hW0⟩ : ∃ W0, ((w.alloc o1).alloc o2).alloc o3 = W0 := ⟨_, rfl⟩
  rw [hW0] at bA bO bN hT0 hsz ⊢
  have hH0 := HH.out.still hT0
  have hlow : ∀ k, W k → k < w.heap.size + 1 := fun k hk => Nat.lt_succ_of_lt (HLt.out k hk)
  have HB0 := Lib.hid hT0
  have HA := Lib.hid bA
  have HSZ := Lib.hid hsz
  have hszl : w.heap.size + 3 ≤ W0.heap.size := by omega
  clear hW0 ho1 ho2 ho3 hs1 hT0 hsz
  refine wpIn_rangeFunc_ownH rfl (by omega) (gf := 38) (lb := #[.pointer (some ⟨w.heap.size + 2, 0, none⟩)]) rfl trivial (enters_of Try.func38 (by kernel_rfl) rfl)
    (places_stops Fence.wide (3 - 1) trivial trivial rfl (by omega) (w.heap.size + 2) (w.heap.size + 1) q m W0 HM.out hm64 HP.out hhd hlow (by omega) (by omega) bN.cell hH0) (fun h k => h.trans k) (keeps2K_b (by omega) (by omega)) (Below.refl _ _) (fun _ => rfl)
    (RdI w W0 M a) (RdX w W0 M a) (RdI.own HSZ.out) (fun c s W W' row ⟨h1, p0, x, h2, h3, h4, h5⟩ hg hr => ⟨h1, p0, x, h2, h3, h4, RdI.own HSZ.out p0 W W' row h5 hg hr⟩)
    ⟨⟨bO, fun x hx => by cases hx⟩, Keeps2.refl _ _ _⟩
    (fun x a' W => ∃ Bx, w.heap.size + 2 < Bx ∧ Blk W Bx (plEnc M.h x) 64 ∧ a' = { tmps := #[.pointer (some ⟨q, 0, none⟩), .int .i64 a, undef, .pointer (some ⟨w.heap.size, 0, none⟩), .int .i64 0, .pointer (some ⟨w.heap.size + 1, 0, none⟩), .pointer (some ⟨Bx, 0, none⟩), .pointer (some ⟨q, 0, none⟩), .int .i64 (M.h : Nat), .pointer (some ⟨q, 0, none⟩), .func (.func 38) #[] #[.pointer (some ⟨w.heap.size + 2, 0, none⟩)], plVal M.h x, undef, undef, undef, undef, undef, undef, undef, undef, undef, undef, undef, undef, undef], defers := [] })
    (fun x a' _ X Y row hs hg hr => by obtain ⟨Bx, h1, h2, h3⟩ := hs; exact ⟨Bx, h1, blkOwn Bx (plEnc M.h x) 64 () X Y row h2 hg (fun r e => (hr r e).2), h3⟩)
    ?assign ?body ?done ?stop
  case assign =>
    rintro l pre ⟨⟨x1, x2⟩, x3⟩ W K hI hK
    dsimp only [plVal, plEnc] at hK ⊢
    have hsW := hI.2.1.size
    have hK2 := (Keeps2.refl (w.heap.size + 1) (w.heap.size + 2) W).alloc (by omega) (by omega) (.cells #[.int .i64 ((M.h : Int) + (x1 : Int)), .int .i64 x2.r, .bool x2.d] 64)
    have hI2 : RdI w W0 M a pre (W.alloc (.cells #[.int .i64 ((M.h : Int) + (x1 : Int)), .int .i64 x2.r, .bool x2.d] 64)) := ⟨⟨hI.1.1.alloc _, hI.1.2⟩, hI.2.trans hK2⟩
    have HI2 := Lib.hid hI2
    clear hI hI2
    gi_wp2
    exact hK _ _ ((KeepsOthers.alloc _ _).from _) hK2 HI2.out ⟨W.heap.size, by omega, Blk.new W (plEnc M.h ⟨(x1, x2), x3⟩) _, rfl⟩
  case body =>
    rintro l pre x a' W hl ⟨r, hr⟩ hI ⟨Bx, hBx, bX, rfl⟩ hlt
    have HI := Lib.hid hI
    have hrd := hI.1.1.cell
    have hrf := hI.1.1.frozen
    have cA : W.cell? ⟨w.heap.size, 0, none⟩ = some (.int .i64 a) := (hI.2.1.cell (p := ⟨w.heap.size, 0, none⟩) (Nat.lt_succ_self _)).trans HA.out.cell
    have hsW := hI.2.1.size
    have k0 : W.cell? ⟨Bx, 0, none⟩ = some (.int .i64 ((M.h : Int) + (x.1.1 : Int))) := bX.cell rfl
    have k2 : W.cell? ⟨Bx, 2, none⟩ = some (.bool x.1.2.d) := bX.cell rfl
    have hxl : x.1.1 < m := by rw [HM.out]; exact (List.getElem?_eq_some_iff.1 x.2).1
    have HGo := Lib.hid (fun (hok : (M.h : Int) + (x.1.1 : Int) < a ∨ x.1.2.d = true) => show ownPostG W0.heap.size (Keeps2 (w.heap.size + 1) (w.heap.size + 2)) (RdI w W0 M a) (RdX w W0 M a) (pre ++ [x]) W .normal { tmps := #[], defers := [] } (W.setCell ⟨w.heap.size + 1, 0, none⟩ (.int .i64 ((M.h : Int) + (x.1.1 : Int) + 1))) by
      have hk : Keeps2 (w.heap.size + 1) (w.heap.size + 2) W (W.setCell ⟨w.heap.size + 1, 0, none⟩ (.int .i64 ((M.h : Int) + (x.1.1 : Int) + 1))) :=
        ⟨(Below.refl _ W).setCell (p := ⟨w.heap.size + 1, 0, none⟩) (Nat.le_refl _) _, Below.heap_setCell _ _ _ _ (by simp)⟩
      refine ⟨(KeepsOthers.setCell _ _ _).from _, hk, ⟨?_, fun y hy => ?_⟩, HI.out.2.trans hk⟩
      · rw [rdOf_snoc]
        have := HI.out.1.1.set (.int .i64 ((M.h : Int) + (x.1.1 : Int) + 1))
        rwa [show ((M.h + x.1.1 + 1 : Nat) : Int) = (M.h : Int) + (x.1.1 : Int) + 1 by omega]
      · rcases List.mem_append.1 hy with hy | hy
        · exact HI.out.1.2 y hy
        · obtain rfl : y = x := by simpa using hy
          exact hok)
    have HStop := Lib.hid (fun (h1 : ¬ (M.h : Int) + (x.1.1 : Int) < a) (h2 : x.1.2.d = false) => show RdX w W0 M a (.exit 0) (pre ++ [x]) W from ⟨rfl, pre, x, rfl, h1, h2, HI.out⟩)
    obtain ⟨y, hy⟩ : ∃ y : Int, y = (M.h : Int) + (x.1.1 : Int) := ⟨_, rfl⟩
    have hyb : y < 10000000 := by omega
    have hy0 : 0 ≤ y := by omega
    rw [← hy] at HGo HStop k0
    clear hr hI bX hy
    by_cases hya : y < a
    · gi_wp2
      exact HGo.out (.inl hya)
    · cases hd : x.1.2.d with
      | true =>
        rw [hd] at k2
        have HG := Lib.hid (HGo.out (.inr hd))
        clear HGo HStop hd
        gi_wp2
        exact HG.out
      | false =>
        rw [hd] at k2
        have HS := Lib.hid (HStop.out hya hd)
        clear HGo HStop hd
        gi_wp2
        exact ⟨(KeepsOthers.refl _).from _, (show RdX w W0 M a (.exit 0) (pre ++ [x]) W from HS.out)⟩
  case done =>
    rintro D ys W hD rfl hI hK
    have hc := hI.1.1.cell
    have HI := Lib.hid hI
    clear hI
    gi_wp2
    try rw [Exit.noGoto_ret]
    refine ⟨by simp, .inl ⟨_, _, rfl, run_takeDeferred hK, ?_⟩⟩
    have hst : Still w (W.putObj D (.deferred none)) := below_turned ((((⟨HB0.out.os, HB0.out.tape, HB0.out.output, HB0.out.size, fun k hk => HB0.out.block k hk (fun h => h)⟩ : Below w.heap.size w W0)).trans (HI.out.2.1.mono (Nat.le_succ _))).trans (belowK_b (w := w) (Nat.le_refl _) W D _ _ (by omega) hK rfl rfl)) (Nat.le_refl _)
    have hv : M.ready a = rdOf M.h (plTo M.l m) := by
      rw [rdOf_to M.h M.l m (by rw [HM.out]; exact Nat.le_refl _), HM.out]
      refine RM.ready_eq (Nat.le_refl _) (fun j p hj hp => ?_) (fun h => absurd h (Nat.lt_irrefl _))
      exact HI.out.1.2 ⟨(j, p), hp⟩ ((plTo_mem (by rw [HM.out]; exact Nat.le_refl _)).2 (by rw [HM.out]; exact hj))
    rw [hv]
    exact ⟨_, results_tmp rfl _ _ _, rfl, hst⟩
  case stop =>
    rintro D c pre W hD hpre ⟨rfl, pre0, x, rfl, hx1, hx2, hI⟩ hK
    have hc := hI.1.1.cell
    have HI := Lib.hid hI
    clear hI
    gi_wp2
    try rw [Exit.noGoto_ret]
    refine ⟨by simp, .inl ⟨_, _, rfl, run_takeDeferred hK, ?_⟩⟩
    have hst : Still w (W.putObj D (.deferred none)) := below_turned ((((⟨HB0.out.os, HB0.out.tape, HB0.out.output, HB0.out.size, fun k hk => HB0.out.block k hk (fun h => h)⟩ : Below w.heap.size w W0)).trans (HI.out.2.1.mono (Nat.le_succ _))).trans (belowK_b (w := w) (Nat.le_refl _) W D _ _ (by omega) hK rfl rfl)) (Nat.le_refl _)
    have hv : M.ready a = rdOf M.h pre0 := by
      rw [HM.out] at hpre
      obtain ⟨hxl, hp0⟩ := plTo_front hpre
      rw [hp0, rdOf_to M.h M.l _ (Nat.le_of_lt hxl)]
      refine RM.ready_eq (Nat.le_of_lt hxl) (fun j p hj hp => ?_) (fun _ => ⟨x.1.2, x.2, by omega, hx2⟩)
      exact HI.out.1.2 ⟨(j, p), hp⟩ (by rw [hp0]; exact (plTo_mem (Nat.le_of_lt hxl)).2 hj)
    rw [hv]
    exact ⟨_, results_tmp rfl _ _ _, rfl, hst⟩
end Go.Proofs.Ytefopajkcpcjpaa
