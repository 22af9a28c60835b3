/- What cell.All hands out: a new slice of all numbers, in the cells' order. No condition but that the memory was made. -/
import Derived.Test.YtdbmieofcdafkaaCellEach
import Derived.Test.YtdbmieofcdafkaaRefMake
namespace Go.Proofs.Ytdbmieofcdafkaa
open Go.RowKit Go.Shelf
attribute [local go_sem] Oper.semAt_some
set_option linter.unusedVariables false

theorem made_in (F : Fence) (n : Nat) (w : World) (mb ab k : Nat) (hm : w.cell? ⟨mb, 0, none⟩ = some (.slice (some ⟨ab, 0, none⟩) k k)) (hn : 0 < k) (h : F.fn 79) (hro : F.round = none) :
    CallsIn F n Try.prog 79 #[.pointer (some ⟨mb, 0, none⟩)] w fun e w' => e = .returned (.bool true) ∧ w = w' := by
  refine callsIn_of_wp Try.func79 rfl h ?_ hro
  simp only [Try.ntmps79, List.size_toArray, List.length_cons, List.length_nil, Nat.reduceAdd, Nat.reduceSub, Array.replicate_succ, Array.replicate_zero, List.push_toArray, List.append_toArray, List.nil_append, List.cons_append]
  gi_wp2
  go_ret
  exact ⟨rfl, rfl⟩

set_option maxRecDepth 100000 in
set_option maxHeartbeats 2000000 in
theorem all_in (F : Fence) (n : Nat) (h3 : F.fn 62) (h4 : F.fn 80) (h5 : F.fn 86) (h6 : F.fn 79) (hro : F.round = none) (hn : 3 ≤ n) (w : World) (mb ab : Nat) (st : List Cel) (hM : Mem w mb ab st) :
    CallsIn F n Try.prog 62 #[.pointer (some ⟨mb, 0, none⟩)] w fun e W' => ∃ nb, e = .returned (.slice (some ⟨nb, 0, none⟩) st.length st.length) ∧ Blk W' nb (ints (vs st)) 3 ∧ w.heap.size ≤ nb ∧ Below w.heap.size w W' := by
  have h1 : 1 ≤ n := by omega
  have hhd := hM.cellHd
  have hpos := hM.pos
  have hle := hM.le
  have HM := Lib.hid hM
  clear hM
  obtain ⟨i0, hi, hz0, hz1, hz2⟩ := info_parts infoInt
  refine callsIn_of_wp_marks Try.func62 rfl h3 ?_ hro
  simp only [Try.ntmps62, List.size_toArray, List.length_cons, List.length_nil, Nat.reduceAdd, Nat.reduceSub, Array.replicate_succ, Array.replicate_zero, List.push_toArray, List.append_toArray, List.nil_append, List.cons_append]
  gi_wp2_with (first
    | (gi_at_call 79; refine (made_in F (n - 1) _ mb ab st.length hhd hpos h6 hro).mono ?_; rintro e w' ⟨rfl, rfl⟩)
    | (gi_at_call 80; refine (each_in F (n - 1) h4 hro _ _).mono ?_; rintro e w' ⟨rfl, rfl⟩)
    | (gi_at_make; refine wpListIn_make_own _ rfl _ _ 23 rfl w.heap.size 3 i0 (.int .i64 0) 1 Try.underlying23 hi hz0 hz1 _ _ _ st.length rfl rfl rfl (by rw [hz2]; omega) (by unfold maxLen; omega) (Nat.le_refl _) ?_; intro w1 hown1 hgrow1))
  have hM1 : Mem w1 mb ab st := ⟨HM.out.hd.of_eq (hgrow1.block mb HM.out.hd.lt (by simp)), HM.out.row.of_eq (hgrow1.block ab HM.out.row.lt (by simp)), HM.out.ne, HM.out.pos, HM.out.le⟩
  have hlt1 : w.heap.size < w1.heap.size := by
    rcases hown1.2 with ⟨h0, _⟩ | ⟨g, cap, cur, hv, _, hh, _⟩
    · cases h0
    · simp at hv
      rw [hv.1]
      exact (Array.getElem?_eq_some_iff.1 hh).1
  have hmb := HM.out.hd.lt
  have hab := HM.out.row.lt
  have bO := (Boxed.new w1 23 (.slice (some ⟨w.heap.size, 0, none⟩) 0 st.length)).alloc (.cells #[.pointer (some ⟨mb, 0, none⟩)] 60)
  have bN := Boxed.new (w1.alloc (.cells #[.slice (some ⟨w.heap.size, 0, none⟩) 0 st.length] 23)) 60 (.pointer (some ⟨mb, 0, none⟩))
  rw [World.size_alloc] at bN
  have hM0 : Mem ((w1.alloc (.cells #[.slice (some ⟨w.heap.size, 0, none⟩) 0 st.length] 23)).alloc (.cells #[.pointer (some ⟨mb, 0, none⟩)] 60)) mb ab st :=
    hM1.turned (S := fun _ => False) (((Turned.refl _ _).alloc _).alloc _) (fun h => h) (fun h => h)
  have hown0 := (hown1.alloc (.cells #[.slice (some ⟨w.heap.size, 0, none⟩) 0 st.length] 23)).alloc (.cells #[.pointer (some ⟨mb, 0, none⟩)] 60)
  have hB0 : Below w.heap.size w ((w1.alloc (.cells #[.slice (some ⟨w.heap.size, 0, none⟩) 0 st.length] 23)).alloc (.cells #[.pointer (some ⟨mb, 0, none⟩)] 60)) :=
    (((Below.refl _ w).grown hgrow1 (Nat.le_refl _) (fun k e => by cases e)).alloc (by omega) _).alloc (by simp; omega) _
  have hsz : ((w1.alloc (.cells #[.slice (some ⟨w.heap.size, 0, none⟩) 0 st.length] 23)).alloc (.cells #[.pointer (some ⟨mb, 0, none⟩)] 60)).heap.size = w1.heap.size + 2 := by simp
  obtain ⟨W0, hW0⟩ : ∃ W0, (w1.alloc (.cells #[.slice (some ⟨w.heap.size, 0, none⟩) 0 st.length] 23)).alloc (.cells #[.pointer (some ⟨mb, 0, none⟩)] 60) = W0 := ⟨_, rfl⟩
  rw [hW0] at bO bN hM0 hown0 hB0 hsz ⊢
  clear hW0 hM1 hown1 hgrow1
  refine wpIn_rangeFunc_ownH hro h1 (gf := 86) (lb := #[.pointer (some ⟨w1.heap.size + 1, 0, none⟩)]) rfl h5 (enters_of Try.func86 (by kernel_rfl) rfl)
    (each_stops F (n - 1) h5 hro (by omega) (w1.heap.size + 1) w.heap.size mb ab st W0 hab hmb (by omega) bN.cell hM0) belowK_t (belowK_b (by omega)) (Below.refl _ _) (fun _ => rfl)
    (fun pre W => (∃ v, Boxed W w1.heap.size 23 v ∧ W.ownsRow w.heap.size 3 1 v pre.length (ints (vs pre)) ∧ v = .slice (some ⟨w.heap.size, 0, none⟩) pre.length st.length) ∧ Below w.heap.size w W)
    (fun _ _ _ => False)
    (OwnFrom.and (Own.from (holdsRow_own w.heap.size w1.heap.size 23 3 1 (fun pre : List Cel => pre.length) (fun pre => ints (vs pre)) (fun pre v => v = .slice (some ⟨w.heap.size, 0, none⟩) pre.length st.length)) _) (ownFrom_below (Nat.le_refl _) (by omega)))
    (fun _ _ _ _ _ hs _ _ => hs)
    ⟨⟨_, bO, hown0, rfl⟩, hB0⟩
    (fun x a' W => ∃ Bx, w1.heap.size < Bx ∧ Blk W Bx (celEnc x) 107 ∧ a' = { tmps := #[.pointer (some ⟨mb, 0, none⟩), undef, .slice none 0 0, .pointer (some ⟨w1.heap.size, 0, none⟩), .pointer (some ⟨Bx, 0, none⟩), .pointer (some ⟨mb, 0, none⟩), .bool true, .bool false, .pointer (some ⟨mb, 0, none⟩), .pointer (some ⟨mb, 0, none⟩), .pointer (some ⟨mb, 0, none⟩), .slice (some ⟨ab, 0, none⟩) st.length st.length, .int .i64 st.length, .slice (some ⟨w.heap.size, 0, none⟩) 0 st.length, .pointer (some ⟨mb, 0, none⟩), .func (.func 86) #[] #[.pointer (some ⟨w1.heap.size + 1, 0, none⟩)], x.val, undef, undef, undef, undef, undef, undef], defers := [] })
    (fun x a' _ X Y row hs hg hr => by obtain ⟨Bx, h1, h2, h3⟩ := hs; exact ⟨Bx, h1, blk_own Bx (celEnc x) 107 () X Y row h2 hg (fun r e => (hr r e).2), h3⟩)
    ?assign ?body ?done ?stop
  case assign =>
    rintro l pre x W K ⟨⟨v, hv, hrow, hG⟩, hB⟩ hK
    obtain ⟨xn, xh, xw⟩ := x
    dsimp only [Cel.val]
    have hvl := hv.lt
    gi_wp2
    exact hK _ _ ((KeepsOthers.alloc _ _).from _) ((Below.refl _ W).alloc hB.size _) ⟨⟨v, hv.alloc _, hrow.alloc _, hG⟩, hB.alloc hB.size _⟩ ⟨W.heap.size, hvl, Blk.new W (celEnc ⟨xn, xh, xw⟩) _, rfl⟩
  case body =>
    rintro l pre x a' W hl ⟨r, hr⟩ ⟨⟨v, hv, hrow, hG⟩, hB⟩ ⟨Bx, hBx, bX, rfl⟩ hlt
    subst hG
    have hc := hv.cell
    have c0 : W.cell? ⟨Bx, 0, none⟩ = some (.int .i64 x.n) := bX.cell rfl
    clear hr
    gi_wp2_with (gi_at_builtin; refine wpListIn_append_fits _ rfl _ _ 23 rfl w.heap.size 3 i0 1 Try.underlying23 hi hz1 w.heap.size pre.length st.length _ rfl (hrow.alloc _) ⟨W.heap.size, 0, none⟩ 1 1 [.int .i64 x.n] rfl rfl (cell_one_new _ _ _) (by simp [Value.oneCell']) (by omega) ?_; intro w2 hown' hgrow; obtain ⟨hv1, hv2, hr2, hk2, hb2⟩ := hv.appended (by decide) hrow hB.size (Nat.le_of_lt hlt1) hown' hgrow; have hc1 := hv1.cell; have hf1 := hv1.frozen)
    exact ⟨hk2.from _, hb2, ⟨_, hv2, by simpa [vs, ints] using hr2, by simp⟩, hB.trans hb2⟩
  case done =>
    rintro D ys W hD rfl ⟨⟨v, hv, hrow, hG⟩, hB⟩ hK
    subst hG
    have hc := hv.cell
    gi_wp2
    refine ⟨by simp, .inl ⟨_, _, rfl, run_takeDeferred hK, ?_⟩⟩
    exact ⟨_, results_tmp rfl _ _ _, w.heap.size, rfl, blk_of_owns (ownsRow_putObj hrow _ hK rfl) hpos, Nat.le_refl _, hB.trans (belowK_b (w := w) (Nat.le_refl _) W D _ _ (by omega) hK rfl rfl)⟩
  case stop =>
    rintro D c pre W _ _ h _
    exact h.elim

theorem all_ok {w : World} {mb ab : Nat} {st : List Cel} (hM : Mem w mb ab st) :
    Calls Try.prog 62 #[.pointer (some ⟨mb, 0, none⟩)] w fun e W' => ∃ nb, e = .returned (.slice (some ⟨nb, 0, none⟩) st.length st.length) ∧ Blk W' nb (ints (vs st)) 3 ∧ w.heap.size ≤ nb ∧ Still w W' :=
  (callsIn_wide (n := 3)).1 ((all_in Fence.wide 3 trivial trivial trivial trivial rfl (by omega) w mb ab st hM).mono fun e W' ⟨nb, h1, h2, h3, h4⟩ => ⟨nb, h1, h2, h3, below_turned h4 (Nat.le_refl _)⟩)
end Go.Proofs.Ytdbmieofcdafkaa
