/- What handle.All hands out: a new slice of all handles, slot by slot. No condition but that there are no more slots than may be, and that the generations may be. -/
import Derived.Test.YtefjlanibemdaaaHandleEach
import Derived.Test.YtefjlanibemdaaaOwn
namespace Go.Proofs.Ytefjlanibemdaaa
open Go.RowKit Go.Shelf
attribute [local go_sem] Oper.semAt_some
set_option linter.unusedVariables false

theorem infoInt4 : (Try.prog.info? 3).map (fun i => (i.zero, i.size, i.bytes)) = some (some (.int .i64 0), 1, 8) := by kernel_rfl
theorem results_cell2 {fn : Func} {p q : Tmp} {t u : TypeId} (h : fn.results = #[.cell p t, .cell q u]) (tmps : Array Value) (P : Program) (w : World) :
    (results fn tmps).run P w =
      ((asAddr (tmps.getD p undef)).run P w).andThen fun a w₁ => ((loadVar t a).run P w₁).andThen fun v w₂ =>
        ((asAddr (tmps.getD q undef)).run P w₂).andThen fun a' w₃ => ((loadVar u a').run P w₃).andThen fun v' w₄ => .ok (.tuple #[v, v']) w₄ := by
  simp only [results, h]
  simp [Sem.run_bind, Result.andThen]

set_option maxRecDepth 100000 in
set_option maxHeartbeats 2000000 in
theorem hall_in (F : Fence) (n : Nat) (h3 : F.fn 17) (h4 : F.fn 23) (h5 : F.fn 24) (h7 : F.fn 7) (hro : F.round = none) (hn : 3 ≤ n) (w : World) (ao : Option Addr) (cap : Nat) (st : List Int)
    (hst : st.length ≤ 128) (hgs : ∀ g ∈ st, genOk g) (hA : NumsAt w ao st) (hlow : NumsLow w.heap.size ao) :
    CallsIn F n Try.prog 17 #[.slice ao st.length cap] w fun e W' => ∃ nb, e = .returned (.tuple #[.slice (some ⟨nb, 0, none⟩) st.length st.length, .int .i64 0]) ∧ NumsAt W' (some ⟨nb, 0, none⟩) (hsOf st) ∧ w.heap.size ≤ nb ∧ Below w.heap.size w W' := by
  have h1 : 1 ≤ n := by omega
  have HA := Lib.hid hA
  have HG := Lib.hid hgs
  have HLO := Lib.hid hlow
  clear hA hgs hlow
  obtain ⟨i0, hi, hz0, hz1, hz2⟩ := info_parts infoInt4
  refine callsIn_of_wp_marks Try.func17 rfl h3 ?_ hro
  simp only [Try.ntmps17, List.size_toArray, List.length_cons, List.length_nil, Nat.reduceAdd, Nat.reduceSub, Array.replicate_succ, Array.replicate_zero, List.push_toArray, List.append_toArray, List.nil_append, List.cons_append]
  gi_wp2_with (first
    | (gi_at_call 23; refine (handles_in F (n - 1) h4 hro _ _ _ _).mono ?_; rintro e w' ⟨rfl, rfl⟩)
    | (gi_at_make; refine wpListIn_make_own _ rfl _ _ 28 rfl (w.heap.size + 2) 3 i0 (.int .i64 0) 1 Try.underlying28 hi hz0 hz1 _ _ _ st.length rfl rfl rfl (by rw [hz2]; omega) (by unfold maxLen; omega) (by simp) ?_; intro w1 hown1 hgrow1))
  have hsz0 : ((w.alloc (.cells #[.slice none 0 0] 28)).alloc (.cells #[.int .i64 0] 22)).heap.size = w.heap.size + 2 := by simp
  have b2 : Boxed ((w.alloc (.cells #[.slice none 0 0] 28)).alloc (.cells #[.int .i64 0] 22)) w.heap.size 28 (.slice none 0 0) := (Boxed.new w 28 _).alloc _
  have b3 : Boxed ((w.alloc (.cells #[.slice none 0 0] 28)).alloc (.cells #[.int .i64 0] 22)) (w.heap.size + 1) 22 (.int .i64 0) := by
    have := Boxed.new (w.alloc (.cells #[.slice none 0 0] 28)) 22 (.int .i64 0)
    rwa [World.size_alloc] at this
  have hB2 : Below w.heap.size w ((w.alloc (.cells #[.slice none 0 0] 28)).alloc (.cells #[.int .i64 0] 22)) := ((Below.refl _ w).alloc (Nat.le_refl _) _).alloc (by simp) _
  obtain ⟨W2, hW2⟩ : ∃ W2, (w.alloc (.cells #[.slice none 0 0] 28)).alloc (.cells #[.int .i64 0] 22) = W2 := ⟨_, rfl⟩
  rw [hW2] at hown1 hgrow1 hsz0 b2 b3 hB2
  rw [hsz0] at hown1
  clear hW2
  have hlt1 : w.heap.size + 2 < w1.heap.size := by
    rcases hown1.2 with ⟨h0, _⟩ | ⟨g, cap, cur, hv, _, hh, _⟩
    · cases h0
    · simp at hv
      rw [hv.1]
      exact (Array.getElem?_eq_some_iff.1 hh).1
  have hB1 : Below (w.heap.size + 2) W2 w1 := (Below.refl _ W2).grown hgrow1 (by omega) (fun k e => by cases e)
  have bO := (Boxed.new w1 28 (.slice (some ⟨w.heap.size + 2, 0, none⟩) 0 st.length)).alloc (.cells #[.slice ao st.length cap] 28)
  have bN := Boxed.new (w1.alloc (.cells #[.slice (some ⟨w.heap.size + 2, 0, none⟩) 0 st.length] 28)) 28 (.slice ao st.length cap)
  rw [World.size_alloc] at bN
  have hown0 := (hown1.alloc (.cells #[.slice (some ⟨w.heap.size + 2, 0, none⟩) 0 st.length] 28)).alloc (.cells #[.slice ao st.length cap] 28)
  have hB0 : Below (w.heap.size + 2) W2 ((w1.alloc (.cells #[.slice (some ⟨w.heap.size + 2, 0, none⟩) 0 st.length] 28)).alloc (.cells #[.slice ao st.length cap] 28)) :=
    (hB1.alloc (by omega) _).alloc (by simp; omega) _
  have hsz : ((w1.alloc (.cells #[.slice (some ⟨w.heap.size + 2, 0, none⟩) 0 st.length] 28)).alloc (.cells #[.slice ao st.length cap] 28)).heap.size = w1.heap.size + 2 := by simp
  rw [show w.heap.size + 1 + 1 = w.heap.size + 2 by omega]
  obtain ⟨W0, hW0⟩ : ∃ W0, (w1.alloc (.cells #[.slice (some ⟨w.heap.size + 2, 0, none⟩) 0 st.length] 28)).alloc (.cells #[.slice ao st.length cap] 28) = W0 := ⟨_, rfl⟩
  rw [hW0] at bO bN hown0 hB0 hsz ⊢
  have hlow2 : NumsLow (w.heap.size + 2) ao := fun a ha => by have := HLO.out a ha; omega
  have hA2 : NumsAt W2 ao st := HA.out.below hB2 HLO.out
  have hA0 : NumsAt W0 ao st := hA2.below hB0 hlow2
  clear hW0 hown1 hgrow1
  have hN := hsOf_length st
  refine wpIn_rangeFunc_ownH hro h1 (gf := 24) (lb := #[.pointer (some ⟨w1.heap.size + 1, 0, none⟩)]) rfl h5 (enters_of Try.func24 (by kernel_rfl) rfl)
    (handles_stops F (n - 1) h5 h7 hro (by omega) (w1.heap.size + 1) (w.heap.size + 2) ao cap st W0 hst HG.out hlow2 (by omega) bN.cell hA0) belowK_t (belowK_b (by omega)) (Below.refl _ _) (fun _ => rfl)
    (fun pre W => (∃ v, Boxed W w1.heap.size 28 v ∧ W.ownsRow (w.heap.size + 2) 3 1 v pre.length (ints pre) ∧ v = .slice (some ⟨w.heap.size + 2, 0, none⟩) pre.length st.length) ∧ Below (w.heap.size + 2) W2 W)
    (fun _ _ _ => False)
    (OwnFrom.and (Own.from (holdsRow_own (w.heap.size + 2) w1.heap.size 28 3 1 (fun pre : List Int => pre.length) (fun pre => ints pre) (fun pre v => v = .slice (some ⟨w.heap.size + 2, 0, none⟩) pre.length st.length)) _) (ownFrom_below (by omega) (by omega)))
    (fun _ _ _ _ _ hs _ _ => hs)
    ⟨⟨_, bO, hown0, rfl⟩, hB0⟩
    (fun x a' W => a' = { tmps := #[.slice ao st.length cap, undef, .pointer (some ⟨w.heap.size, 0, none⟩), .pointer (some ⟨w.heap.size + 1, 0, none⟩), .pointer (some ⟨w1.heap.size, 0, none⟩), .int .i64 x, .int .i64 0, .slice ao st.length cap, .int .i64 st.length, .bool (decide ((128 : Int) < (st.length : Int))), .slice ao st.length cap, .int .i64 st.length, .slice (some ⟨w.heap.size + 2, 0, none⟩) 0 st.length, .slice ao st.length cap, .func (.func 24) #[] #[.pointer (some ⟨w1.heap.size + 1, 0, none⟩)], .int .i64 x, .int .i64 0, undef, undef, undef, undef, undef, undef, undef, undef], defers := [] })
    (fun x a' _ X Y row hs hg hr => hs)
    ?assign ?body ?done ?stop
  case assign =>
    rintro l pre x W K hI hK
    gi_wp2
    exact hK _ _ (KeepsFrom.refl _ _) (Below.refl _ W) hI rfl
  case body =>
    rintro l pre x a' W hl ⟨r, hr⟩ ⟨⟨v, hv, hrow, hG⟩, hB⟩ rfl hlt
    subst hG
    have hc := hv.cell
    have hsW := hB.size
    clear hr
    gi_wp2_with (gi_at_builtin; refine wpListIn_append_fits _ rfl _ _ 28 rfl (w.heap.size + 2) 3 i0 1 Try.underlying28 hi hz1 (w.heap.size + 2) pre.length st.length _ rfl (hrow.alloc _) ⟨W.heap.size, 0, none⟩ 1 1 [.int .i64 x] rfl rfl (cell_one_new _ _ _) (by simp [Value.oneCell']) (by omega) ?_; intro w2 hown' hgrow; obtain ⟨hv1, hv2, hr2, hk2, hb2⟩ := hv.appended (by decide) hrow (by omega) (Nat.le_of_lt hlt1) hown' hgrow; have hc1 := hv1.cell; have hf1 := hv1.frozen)
    exact ⟨hk2.from _, hb2, ⟨_, hv2, by simpa [ints] using hr2, by simp⟩, hB.trans hb2⟩
  case done =>
    rintro D ys W hD rfl ⟨⟨v, hv, hrow, hG⟩, hB⟩ hK
    subst hG
    have hc := hv.cell
    have c2 : Boxed W w.heap.size 28 (.slice none 0 0) := (hB.block _ (by omega)).trans b2
    have c3 : Boxed W (w.heap.size + 1) 22 (.int .i64 0) := (hB.block _ (by omega)).trans b3
    have f2 := c2.frozen
    have f3 := c3.frozen
    have g2 := c2.cell
    have g3 := c3.cell
    gi_wp2
    have hNA : NumsAt W (some ⟨w.heap.size + 2, 0, none⟩) (hsOf st) := NumsAt.of_own hrow rfl
    have hT : Turned (fun k => k = w.heap.size ∨ k = w.heap.size + 1 ∨ k = D) W ((W.setCell ⟨w.heap.size, 0, none⟩ (.slice (some ⟨w.heap.size + 2, 0, none⟩) st.length st.length)).setCell ⟨w.heap.size + 1, 0, none⟩ (.int .i64 0)) :=
      ((Turned.refl _ W).setCell (.inl (.inl rfl)) _).setCell (.inl (.inr (.inl rfl))) _
    have d2 := (Blk.set (b := w.heap.size) (xs := [.slice none 0 0]) c2 0 (.slice (some ⟨w.heap.size + 2, 0, none⟩) st.length st.length)).other (p := ⟨w.heap.size + 1, 0, none⟩) (by simp) (.int .i64 0)
    have d3 := (Blk.other (b := w.heap.size + 1) (xs := [.int .i64 0]) c3 (p := ⟨w.heap.size, 0, none⟩) (by simp) (.slice (some ⟨w.heap.size + 2, 0, none⟩) st.length st.length)).set 0 (.int .i64 0)
    have hK2 : ((W.setCell ⟨w.heap.size, 0, none⟩ (.slice (some ⟨w.heap.size + 2, 0, none⟩) st.length st.length)).setCell ⟨w.heap.size + 1, 0, none⟩ (.int .i64 0)).heap[D]? = some (.deferred (some [])) := by
      rw [Below.heap_setCell _ _ _ _ (by simp; omega), Below.heap_setCell _ _ _ _ (by simp; omega)]
      exact hK
    obtain ⟨W3, hW3⟩ : ∃ W3, (W.setCell ⟨w.heap.size, 0, none⟩ (.slice (some ⟨w.heap.size + 2, 0, none⟩) st.length st.length)).setCell ⟨w.heap.size + 1, 0, none⟩ (.int .i64 0) = W3 := ⟨_, rfl⟩
    rw [hW3] at hT d2 d3 hK2 ⊢
    clear hW3
    have hP : Turned (· = D) W3 (W3.putObj D (.deferred none)) := (Turned.refl _ _).grown (grownBy_putObj' W3 D _) (fun k e => by cases e; exact .inl rfl)
    have e2 := (d2.turned hP (by omega)).cell (o := 0) rfl
    have e3 := (d3.turned hP (by omega)).cell (o := 0) rfl
    have hT2 : Turned (fun k => k = w.heap.size ∨ k = w.heap.size + 1 ∨ k = D) W (W3.putObj D (.deferred none)) := hT.trans (hP.mono (fun k _ h => .inr (.inr h)))
    refine ⟨by simp, .inl ⟨_, _, rfl, run_takeDeferred hK2, ?_⟩⟩
    refine ⟨.tuple #[.slice (some ⟨w.heap.size + 2, 0, none⟩) st.length st.length, .int .i64 0], ?_, w.heap.size + 2, rfl, hNA.turned hT2 (fun a ha => by cases ha; simp; omega), by omega,
      (hB2.trans (hB.mono (by omega))).trans (hT2.below (by have := hB.size; omega) (fun k hk => by omega))⟩
    rw [results_cell2 rfl]
    go_simp
  case stop =>
    rintro D c pre W _ _ h _
    exact h.elim

/-- All handles of a book, in a slice of their own. -/
def HAllPost (w : World) (st : List Int) (m : Nat) (e : Ending) (W' : World) : Prop :=
  ∃ nb, e = .returned (.tuple #[.slice (some ⟨nb, 0, none⟩) m m, .int .i64 0]) ∧ NumsAt W' (some ⟨nb, 0, none⟩) (hsOf st) ∧ w.heap.size ≤ nb ∧ Still w W'
theorem hall_ok (w : World) (ao : Option Addr) (cap m : Nat) (st : List Int) (hm : m = st.length) (hst : m ≤ 128) (hgs : ∀ g ∈ st, genOk g) (hA : NumsAt w ao st) (hlow : NumsLow w.heap.size ao) :
    Calls Try.prog 17 #[.slice ao m cap] w (HAllPost w st m) := by
  subst hm
  exact (callsIn_wide (n := 3)).1 ((hall_in Fence.wide 3 trivial trivial trivial trivial rfl (by omega) w ao cap st hst hgs hA hlow).mono fun e W' ⟨nb, h1, h2, h3, h4⟩ => ⟨nb, h1, h2, h3, below_turned h4 (Nat.le_refl _)⟩)
end Go.Proofs.Ytefjlanibemdaaa
