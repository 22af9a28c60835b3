/- What Refs of the program's ring hands out. No condition but that the ring is one. -/
import Derived.Test.YtefopajkcpcjpaaRingEach
namespace Go.Proofs.Ytefopajkcpcjpaa
open Go.RowKit Go.Shelf
attribute [local go_sem] Oper.semAt_some
set_option linter.unusedVariables false
set_option linter.unusedSimpArgs false
set_option maxRecDepth 100000

theorem ownFrom_keeps2 {β : Type} {n₀ C D : Nat} {w₀ : World} (hn : n₀ ≤ w₀.heap.size) (hC : C < w₀.heap.size) (hD : n₀ ≤ D) (hCD : C < D) : OwnFrom D (fun (_ : β) W => Keeps2 n₀ C w₀ W) :=
  fun s W W' row hs hg hr => ⟨ownFrom_below hn hD s W W' row hs.1 hg hr, (hg.block C (Nat.lt_of_lt_of_le hC hs.1.size) (fun e => by have := (hr C e.symm).1; omega)).trans hs.2⟩
/-- Another box lies as it lay behind an append and the store of what it yields. -/
theorem Boxed.past {W w1 : World} {n₀ B C : Nat} {e tc : TypeId} {size : Nat} {v v' vc : Value} {k : Nat} {xs : List Value} {tmp : Obj} (hC : Boxed W C tc vc) (hCB : C ≠ B) (htc : tc ≠ e) (hrow : W.ownsRow n₀ e size v k xs) (hgrow : (W.alloc tmp).grownBy w1 v.ownBlock) :
    (w1.setCell ⟨B, 0, none⟩ v').heap[C]? = W.heap[C]? := by
  have h1 : Boxed w1 C tc vc := (hC.alloc tmp).kept hgrow (hC.not_row htc hrow)
  exact (Below.heap_setCell _ _ _ _ (by simpa using hCB)).trans (Eq.trans h1 (Eq.symm hC))

theorem blkOwn {β : Type} (B : Nat) (xs : List Value) (e : TypeId) : Own (fun (_ : β) W => Blk W B xs e) := fun s X Y row hs hg hrow =>
  (hg.block B hs.lt (fun e' => by obtain ⟨o, ho, hc⟩ := hrow B e'.symm; rw [show X.heap[B]? = _ from hs] at ho; cases ho; cases hc)).trans hs
/-- A place's cells. -/
def plEnc (h : Nat) {L : List Plc} (x : PlcAt L) : List Value := [.int .i64 ((h : Int) + (x.1.1 : Int)), .int .i64 x.1.2.r, .bool x.1.2.d]

/-- The references of places that have come. -/
def plRefs {L : List Plc} (l : List (PlcAt L)) : List Int := l.map (·.1.2.r)
theorem plRefs_to (L : List Plc) : ∀ k, k ≤ L.length → plRefs (plTo L k) = (L.map (·.r)).take k
  | 0, _ => by simp [plTo, plRefs]
  | k + 1, h => by
    have hk : k < L.length := by omega
    rw [plTo_step (List.getElem?_eq_getElem hk), plRefs, List.map_append]
    have := plRefs_to L k (by omega)
    unfold plRefs at this
    rw [this, List.take_add_one, List.getElem?_map, List.getElem?_eq_getElem hk]
    rfl

set_option maxHeartbeats 2000000 in
theorem rrefs_in (F : Fence) (n : Nat) (h3 : F.fn 28) (h4 : F.fn 36) (h5 : F.fn 38) (h7 : F.fn 35) (hro : F.round = none) (hn : 3 ≤ n) (w : World) {W : Nat → Prop} {q lc pc : Nat} {la pa : Option Addr} {M : RM} {N : Nat} (H : RgM w W q la lc pa pc M) (hM : M.Ok N) (hN : N < 1000000) (m : Nat) (hm : m = M.l.length) :
    CallsIn F n Try.prog 28 #[.pointer (some ⟨q, 0, none⟩)] w (OutNums w M.refs m) := by
  have h1 : 1 ≤ n := by omega
  have hm64 : m ≤ 64 := by have := hM.len; have := hM.max; omega
  have hhd : M.h < 1000000 := by have := hM.low; unfold RM.tail at this; omega
  have HP := Lib.hid hM.pos
  have HM := Lib.hid hm
  have HH := Lib.hid H
  have HLt := Lib.hid H.lt
  obtain ⟨i0, hi, hz0, hz1, hz2⟩ := info_parts infoIntW
  clear hm hM hN H
  refine callsIn_of_wp_marks Try.func28 rfl h3 ?_ hro
  simp only [Try.ntmps28, List.size_toArray, List.length_cons, List.length_nil, Nat.reduceAdd, Nat.reduceSub, Array.replicate_succ, Array.replicate_zero, List.push_toArray, List.append_toArray, List.nil_append, List.cons_append]
  gi_wp2_with (gi_at_call 36; refine (places_in F (n - 1) h4 hro _ _).mono ?_; rintro e w' ⟨rfl, rfl⟩)
  have bO := (Boxed.new w 39 (.slice none 0 0)).alloc (.cells #[.pointer (some ⟨q, 0, none⟩)] 23)
  have bN := Boxed.new (w.alloc (.cells #[.slice none 0 0] 39)) 23 (.pointer (some ⟨q, 0, none⟩))
  rw [World.size_alloc] at bN
  have hH0 := HH.out.still ((((Turned.refl _ w).alloc (.cells #[.slice none 0 0] 39)).alloc (.cells #[.pointer (some ⟨q, 0, none⟩)] 23)))
  have hB0 : Below w.heap.size w ((w.alloc (.cells #[.slice none 0 0] 39)).alloc (.cells #[.pointer (some ⟨q, 0, none⟩)] 23)) := ((Below.refl _ w).alloc (Nat.le_refl _) _).alloc (by simp) _
  have hsz : ((w.alloc (.cells #[.slice none 0 0] 39)).alloc (.cells #[.pointer (some ⟨q, 0, none⟩)] 23)).heap.size = w.heap.size + 2 := by simp
  obtain ⟨W0, hW0⟩ : ∃ W0, (w.alloc (.cells #[.slice none 0 0] 39)).alloc (.cells #[.pointer (some ⟨q, 0, none⟩)] 23) = W0 := ⟨_, rfl⟩
  rw [hW0] at bO bN hH0 hB0 hsz ⊢
  clear hW0
  have hlenT := plTo_len M.l m (by rw [HM.out]; exact Nat.le_refl _)
  have hRef : plRefs (plTo M.l m) = M.refs := by rw [plRefs_to M.l m (by rw [HM.out]; exact Nat.le_refl _), HM.out]; exact List.take_of_length_le (by simp)
  have HR := Lib.hid hRef
  have HL := Lib.hid hlenT
  clear hRef hlenT
  obtain ⟨hh, hhe⟩ : ∃ hh, hh = M.h := ⟨_, rfl⟩
  have HHE := Lib.hid hhe
  clear hhe
  refine wpIn_rangeFunc_ownH hro h1 (gf := 38) (lb := #[.pointer (some ⟨w.heap.size + 1, 0, none⟩)]) rfl h5 (enters_of Try.func38 (by kernel_rfl) rfl)
    (places_stops F (n - 1) h5 h7 hro (by omega) (w.heap.size + 1) w.heap.size q m W0 HM.out hm64 HP.out hhd HLt.out (by omega) (by omega) bN.cell hH0) (fun h k => h.trans k) (keeps2K_b (by omega) (by omega)) (Below.refl _ _) (fun _ => rfl)
    (fun pre W => (∃ v, Boxed W w.heap.size 39 v ∧ W.ownsRow w.heap.size 3 1 v pre.length (ints (plRefs pre)) ∧ True) ∧ Keeps2 w.heap.size (w.heap.size + 1) W0 W)
    (fun _ _ _ => False)
    (OwnFrom.and (Own.from (holdsRow_own w.heap.size w.heap.size 39 3 1 (fun pre : List (PlcAt M.l) => pre.length) (fun pre => ints (plRefs pre)) (fun _ _ => True)) _) (ownFrom_keeps2 (by omega) (by omega) (by omega) (by omega)))
    (fun _ _ _ _ _ hs _ _ => hs)
    ⟨⟨_, bO, World.ownsRow_nil _ _ _ _, trivial⟩, Keeps2.refl _ _ _⟩
    (fun x a' W => ∃ Bx, w.heap.size + 1 < Bx ∧ Blk W Bx (plEnc M.h x) 64 ∧ a' = { tmps := #[.pointer (some ⟨q, 0, none⟩), undef, .slice none 0 0, .pointer (some ⟨w.heap.size, 0, none⟩), .pointer (some ⟨Bx, 0, none⟩), .pointer (some ⟨q, 0, none⟩), .func (.func 38) #[] #[.pointer (some ⟨w.heap.size + 1, 0, none⟩)], plVal M.h x, undef, undef, undef, undef, undef, undef], defers := [] })
    (fun x a' _ X Y row hs hg hr => by obtain ⟨Bx, h1, h2, h3⟩ := hs; exact ⟨Bx, h1, blkOwn Bx (plEnc M.h x) 64 () X Y row h2 hg (fun r e => (hr r e).2), h3⟩)
    ?assign ?body ?done ?stop
  case assign =>
    rintro l pre ⟨⟨x1, x2⟩, x3⟩ W K ⟨⟨v, hv, hrow, _⟩, hB⟩ hK
    dsimp only [plVal, plEnc] at hK ⊢
    have hsW := hB.1.size
    have hK2 := (Keeps2.refl w.heap.size (w.heap.size + 1) W).alloc (by omega) (by omega) (.cells #[.int .i64 ((M.h : Int) + (x1 : Int)), .int .i64 x2.r, .bool x2.d] 64)
    gi_wp2
    exact hK _ _ ((KeepsOthers.alloc _ _).from _) hK2 ⟨⟨v, hv.alloc _, hrow.alloc _, trivial⟩, hB.trans hK2⟩ ⟨W.heap.size, by omega, Blk.new W (plEnc M.h ⟨(x1, x2), x3⟩) _, rfl⟩
  case body =>
    rintro l pre x a' W hl ⟨r, hr⟩ ⟨⟨v, hv, hrow, _⟩, hB⟩ ⟨Bx, hBx, bX, rfl⟩ hlt
    have hc := hv.cell
    have hC : Boxed W (w.heap.size + 1) 23 (.pointer (some ⟨q, 0, none⟩)) := Eq.trans hB.2 bN
    have c1 : W.cell? ⟨Bx, 1, none⟩ = some (.int .i64 x.1.2.r) := bX.cell rfl
    have hsW := hB.1.size
    obtain ⟨xr, hxr⟩ : ∃ xr, xr = x.1.2.r := ⟨_, rfl⟩
    rw [← hxr] at c1
    have HX := Lib.hid hxr
    clear hr hxr
    gi_wp2_with (gi_at_builtin; refine wpListIn_append_own _ rfl _ _ 39 rfl w.heap.size 3 i0 (.int .i64 0) 1 8 Try.underlying39 hi hz0 hz1 hz2 rfl (by decide) _ pre.length _ rfl (hrow.alloc _) ⟨W.heap.size, 0, none⟩ 1 1 [.int .i64 xr] rfl rfl (cell_one_new _ _ _) (by simp [Value.oneCell']) (by unfold maxLen; omega) (by omega) (by simp; omega) ?_; intro v' w2 hown' hgrow _; obtain ⟨g', cap', e'⟩ := (show ∃ g cap, v' = .slice (some ⟨g, 0, none⟩) (pre.length + 1) cap from ownsRow_succ hown'); subst e'; have hk := Boxed.past (v' := .slice (some ⟨g', 0, none⟩) (pre.length + 1) cap') (B := w.heap.size) hC (by omega) (by decide) hrow hgrow; obtain ⟨hv1, hv2, hr2, hk2, hb2⟩ := hv.appended (by decide) hrow (by omega) (Nat.le_refl _) hown' hgrow; have hc1 := hv1.cell; have hf1 := hv1.frozen)
    exact ⟨hk2.from _, ⟨hb2, hk⟩, ⟨_, hv2, by have := HX.out; subst this; simpa [plRefs, ints] using hr2, trivial⟩, hB.trans ⟨hb2, hk⟩⟩
  case done =>
    rintro D ys W hD rfl ⟨⟨v, hv, hrow, _⟩, hB⟩ hK
    rw [HL.out, HR.out] at hrow
    obtain ⟨ao, cc, rfl⟩ := ow_slice hrow
    have hc := hv.cell
    gi_wp2
    refine ⟨by simp, .inl ⟨_, _, rfl, run_takeDeferred hK, ?_⟩⟩
    exact ⟨_, results_tmp rfl _ _ _, ao, cc, rfl, ownsRow_putObj hrow _ hK rfl, below_turned (hB0.trans (hB.1.trans (belowK_b (w := w) (Nat.le_refl _) W D _ _ (by omega) hK rfl rfl))) (Nat.le_refl _)⟩
  case stop =>
    rintro D c pre W _ _ h _
    exact h.elim

theorem rrefs_any {w : World} {W : Nat → Prop} {q : Nat} {M : RM} {N : Nat} (H0 : (rT q M).at_ w W) (hM : M.Ok N) (hN : N < 1000000) (m : Nat) (hm : m = M.l.length) : Calls Try.prog 28 #[.pointer (some ⟨q, 0, none⟩)] w (OutNums w M.refs m) := by
  obtain ⟨la, lc, pa, pc, H⟩ := H0
  exact (callsIn_wide (n := 3)).1 (rrefs_in Fence.wide 3 trivial trivial trivial trivial rfl (by omega) w H hM hN m hm)
end Go.Proofs.Ytefopajkcpcjpaa
