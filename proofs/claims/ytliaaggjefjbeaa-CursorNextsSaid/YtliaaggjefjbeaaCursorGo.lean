/- What Next of the program's cursor answers of a ring. No condition but that the ring is one. -/
import Derived.Test.YtliaaggjefjbeaaCursorEach
import Derived.Test.YtliaaggjefjbeaaBx3
namespace Go.Proofs.Ytliaaggjefjbeaa
open Go.RowKit Go.Shelf
attribute [local go_sem] Oper.semAt_some
set_option linter.unusedVariables false
set_option linter.unusedSimpArgs false
set_option maxRecDepth 100000

theorem blkOwn7 {β : Type} (B : Nat) (xs : List Value) (e : TypeId) : Own (fun (_ : β) W => Blk W B xs e) := fun s X Y row hs hg hrow =>
  (hg.block B hs.lt (fun e' => by obtain ⟨o, ho, hc⟩ := hrow B e'.symm; rw [show X.heap[B]? = _ from hs] at ho; cases ho; cases hc)).trans hs

theorem results_cell3 {fn : Func} {p q r : Tmp} {t u s : TypeId} (h : fn.results = #[.cell p t, .cell q u, .cell r s]) (tmps : Array Value) (P : Program) (w : World) :
    (results fn tmps).run P w =
      ((asAddr (tmps.getD p undef)).run P w).andThen fun a w₁ => ((loadVar t a).run P w₁).andThen fun v w₂ =>
        ((asAddr (tmps.getD q undef)).run P w₂).andThen fun a' w₃ => ((loadVar u a').run P w₃).andThen fun v' w₄ =>
        ((asAddr (tmps.getD r undef)).run P w₄).andThen fun a'' w₅ => ((loadVar s a'').run P w₅).andThen fun v'' w₆ => .ok (.tuple #[v, v', v'']) w₆ := by
  simp only [results, h]
  simp [Sem.run_bind, Result.andThen]

/-- How a round leaves Next. -/
def NxX (w : World) (c : Code) (pre : List (Int × Int)) (W : World) : Prop := c = .ret ∧ ∃ y : Int × Int, pre = [y] ∧ Bx3 w.heap.size y.1 y.2 0 W ∧ Below w.heap.size w W
/-- How a round is met. -/
def NxI (W0 : World) (pre : List (Int × Int)) (W : World) : Prop := pre = [] ∧ Below W0.heap.size W0 W

theorem nxX_own {w : World} {B : Nat} (hB : w.heap.size ≤ B) (c : Code) : OwnFrom B (NxX w c) := fun s X Y row hs hg hr => by
  obtain ⟨h1, y, h2, ⟨h3, h4, h5⟩, h6⟩ := hs
  exact ⟨h1, y, h2, ⟨blkOwn7 _ _ _ () X Y row h3 hg (fun r e => (hr r e).2), blkOwn7 _ _ _ () X Y row h4 hg (fun r e => (hr r e).2), blkOwn7 _ _ _ () X Y row h5 hg (fun r e => (hr r e).2)⟩,
    ownFrom_below (Nat.le_refl _) hB () X Y row h6 hg hr⟩
theorem nxI_own {W0 : World} : OwnFrom W0.heap.size (NxI W0) := fun s X Y row hs hg hr => ⟨hs.1, ownFrom_below (Nat.le_refl _) (Nat.le_refl _) () X Y row hs.2 hg hr⟩

/-- How Next ends where a loop lies behind it. -/
theorem next_end {F : Fence} {n : Nat} {w V : World} {D : Nat} {r t e : Int} {a : Act} {fn : Func} {R : Ending → World → Prop} (hfn : fn.results = #[.cell 4 3, .cell 5 3, .cell 6 25])
    (h4 : a.tmps.getD 4 undef = .pointer (some ⟨w.heap.size, 0, none⟩)) (h5 : a.tmps.getD 5 undef = .pointer (some ⟨w.heap.size + 1, 0, none⟩)) (h6 : a.tmps.getD 6 undef = .pointer (some ⟨w.heap.size + 1 + 1, 0, none⟩))
    (hd : a.defers = [{ target := .collected D, args := #[] }]) (hD : w.heap.size + 3 ≤ D) (hB : Bx3 w.heap.size r t e V) (hst : Below w.heap.size w V) (hK : V.heap[D]? = some (.deferred (some [])))
    (hR : ∀ W', Still w W' → R (.returned (.tuple #[.int .i64 r, .int .i64 t, .int .i64 e])) W') : bodyPostM F n Try.prog fn R .ret a V := by
  show LeavesInM F n Try.prog fn a.tmps R a.defers .returning V
  rw [hd]
  refine ⟨by simp, .inl ⟨_, _, rfl, run_takeDeferred hK, ?_⟩⟩
  have hP : Turned (· = D) V (V.putObj D (.deferred none)) := (Turned.refl _ _).grown (grownBy_putObj' V D _) (fun k e => by cases e; exact .inl rfl)
  obtain ⟨b1, b2, b3, _⟩ := (hB.turned hP (fun k h1 h2 h3 => by omega)).cells
  refine ⟨.tuple #[.int .i64 r, .int .i64 t, .int .i64 e], ?_, hR _ (below_turned (hst.trans (belowK_b (w := w) (Nat.le_refl _) V D _ _ (by omega) hK rfl rfl)) (Nat.le_refl _))⟩
  rw [results_cell3 hfn, h4, h5, h6]
  go_simp

set_option maxHeartbeats 2000000 in
theorem next_in (F : Fence) (n : Nat) (hw : F = Fence.wide) (hro : F.round = none) (h3 : F.fn 22) (h4 : F.fn 36) (h5 : F.fn 37) (h6 : F.fn 47) (h8 : F.fn 38) (hn : 3 ≤ n) {w : World} {W : Nat → Prop} {q : Nat} {M : RM} {N : Nat} (H0 : (rT q M).at_ w W) (hM : M.Ok N) (hN : N < 1000000) (a : Int) :
    CallsIn F n Try.prog 22 #[.int .i64 a, .pointer (some ⟨q, 0, none⟩)] w fun e w' => e = .returned (.tuple #[.int .i64 (M.nxR a), .int .i64 (M.nxT a), .int .i64 (M.nxE a)]) ∧ Still w w' := by
  have h1 : 1 ≤ n := by omega
  obtain ⟨W3, hW3⟩ : ∃ W3, W3 = ((w.alloc (.cells #[.int .i64 0] 3)).alloc (.cells #[.int .i64 0] 3)).alloc (.cells #[.int .i64 0] 25) := ⟨_, rfl⟩
  have hs3 : Still w W3 := by rw [hW3]; exact (((Turned.refl _ _).alloc _).alloc _).alloc _
  have hB3 : Bx3 w.heap.size 0 0 0 W3 := by
    rw [hW3]
    refine ⟨((Blk.new w _ _).alloc _).alloc _, ?_, ?_⟩
    · have := (Blk.new (w.alloc (.cells #[.int .i64 0] 3)) [.int .i64 0] 3).alloc (.cells #[.int .i64 0] 25)
      rwa [World.size_alloc] at this
    · have := Blk.new ((w.alloc (.cells #[.int .i64 0] 3)).alloc (.cells #[.int .i64 0] 3)) [.int .i64 0] 25
      rwa [World.size_alloc, World.size_alloc] at this
  have hz3 : W3.heap.size = w.heap.size + 3 := by rw [hW3]; simp
  have HI := Lib.hid (show CallsIn F (n - 1) Try.prog 36 #[.int .i64 a, .pointer (some ⟨q, 0, none⟩)] W3 fun e w' => e = .returned (moveV a (M.h : Int) (M.tail : Nat)) ∧ Still W3 w' from by
    subst hw
    refine callsIn_wide.2 (movein_any (by obtain ⟨la, lc, pa, pc, H⟩ := H0; exact ⟨la, lc, pa, pc, H.still hs3⟩) hM hN a))
  have HG := Lib.hid (fun (V : World) (hst : Still w V) (y : Int) (hy : w64 y) => show CallsIn F (n - 1) Try.prog 38 #[.pointer (some ⟨q, 0, none⟩), .int .i64 y] V fun e w' => e = .returned (.tuple #[.int .i64 (M.getR y), .int .i64 (M.getE y)]) ∧ Still V w' from by
    subst hw
    exact callsIn_wide.2 (rget_any (by obtain ⟨la, lc, pa, pc, H⟩ := H0; exact ⟨la, lc, pa, pc, H.still hst⟩) hM hN y hy))
  have HAt := Lib.hid (fun (V : World) (hst : Still w V) => show (rT q M).at_ V W from by obtain ⟨la, lc, pa, pc, H⟩ := H0; exact ⟨la, lc, pa, pc, H.still hst⟩)
  have HLow := Lib.hid (show ∀ k, W k → k < w.heap.size from by obtain ⟨la, lc, pa, pc, H⟩ := H0; exact H.lt)
  have HB := Lib.hid (fun V (hst : Still W3 V) => show Bx3 w.heap.size 0 0 0 V from ⟨hB3.1.turned hst (fun h => h), hB3.2.1.turned hst (fun h => h), hB3.2.2.turned hst (fun h => h)⟩)
  have HM := Lib.hid hM
  have HN := Lib.hid hN
  have HWd := Lib.hid hw
  clear hw
  have htb : M.tail < 1000000 := by have := hM.low; omega
  unfold moveV spanV at HI
  rw [show Go.Proofs.Ytliaaggjefjbeaa.mvE a (M.h : Int) (M.tail : Nat) = M.mvE a from rfl, show mvA a (M.h : Int) (M.tail : Nat) = M.mv a from rfl] at HI
  refine callsIn_of_wp_marks Try.func22 rfl h3 ?_ hro
  simp only [Try.ntmps22, List.size_toArray, List.length_cons, List.length_nil, Nat.reduceAdd, Nat.reduceSub, Array.replicate_succ, Array.replicate_zero, List.push_toArray, List.append_toArray, List.nil_append, List.cons_append]
  rcases mvE_or a (M.h : Int) (M.tail : Nat) with h0 | h0
  · have h0' : M.mvE a = 0 := h0
    rw [h0'] at HI
    generalize mvF a (M.h : Int) (M.tail : Nat) = f at *
    generalize mvT a (M.h : Int) (M.tail : Nat) = g at *
    clear hM hN hB3 H0
    obtain ⟨x1, x2, x3, _⟩ := moved_in h0
    have HX := Lib.hid (show (M.getE (M.mv a) = 0 → M.nxE a = 0 ∧ M.nxR a = M.getR (M.mv a) ∧ M.nxT a = M.mv a + 1) ∧ (M.getE (M.mv a) ≠ 0 → M.nxE a = M.getE (M.mv a) ∧ M.nxR a = 0 ∧ M.nxT a = M.mv a) from ⟨nx_on h0', nx_stay h0'⟩)
    rw [show mvA a (M.h : Int) (M.tail : Nat) = M.mv a from rfl] at x1 x2 x3
    clear h0 h0'
    generalize M.mv a = x at *
    generalize M.nxE a = ne at *
    generalize M.nxR a = nr at *
    generalize M.nxT a = nt at *
    gi_wp2_with (first
      | (gi_at_call 36; rw [← hW3]; ((with_reducible refine HI.out.mono ?_)); rintro e w5 ⟨rfl, hT5⟩)
      | (gi_at_call 37; ((with_reducible refine (readable_in F (n - 1) h5 hro _ _ _).mono ?_)); rintro e w6 ⟨rfl, rfl⟩))
    have hT6 : Still W3 (((w5.alloc (.cells #[.int .i64 f, .int .i64 g] 24)).alloc (.cells #[.int .i64 x] 3)).alloc (.cells #[.pointer (some ⟨q, 0, none⟩)] 37)) := ((hT5.alloc _).alloc _).alloc _
    have cA := ((Blk.new (w5.alloc (.cells #[.int .i64 f, .int .i64 g] 24)) [.int .i64 x] 3).alloc (.cells #[.pointer (some ⟨q, 0, none⟩)] 37)).cell (o := 0) rfl
    have cB := (Blk.new ((w5.alloc (.cells #[.int .i64 f, .int .i64 g] 24)).alloc (.cells #[.int .i64 x] 3)) [.pointer (some ⟨q, 0, none⟩)] 37).cell (o := 0) rfl
    simp only [World.size_alloc] at cA cB
    have hz6 : (((w5.alloc (.cells #[.int .i64 f, .int .i64 g] 24)).alloc (.cells #[.int .i64 x] 3)).alloc (.cells #[.pointer (some ⟨q, 0, none⟩)] 37)).heap.size = w5.heap.size + 3 := by simp
    obtain ⟨W0, hW0⟩ : ∃ W0, (((w5.alloc (.cells #[.int .i64 f, .int .i64 g] 24)).alloc (.cells #[.int .i64 x] 3)).alloc (.cells #[.pointer (some ⟨q, 0, none⟩)] 37)) = W0 := ⟨_, rfl⟩
    rw [hW0] at hT6 cA cB hz6 ⊢
    have hz5 := hT5.size
    have hB6 := HB.out _ hT6
    have hst6 : Still w W0 := hs3.trans hT6
    clear hW0 hT5
    refine wpIn_rangeFunc_ownH hro h1 (gf := 47) (lb := #[.pointer (some ⟨w5.heap.size + 1, 0, none⟩), .pointer (some ⟨w5.heap.size + 1 + 1, 0, none⟩)]) rfl h6 (enters_of Try.func47 (by kernel_rfl) rfl)
      (readable_stops F (n - 1) h6 h8 HWd.out hro (by omega) (w5.heap.size + 1) (w5.heap.size + 1 + 1) W0.heap.size q HM.out HN.out x x3 x2 W0 (fun k hk => by have := HLow.out k hk; have := hst6.size; omega) (by omega) (by omega) (Nat.le_refl _) cA cB (HAt.out _ hst6)) belowK_t (belowK_b (Nat.le_refl _)) (Below.refl _ _) (fun _ => rfl)
      (NxI W0) (NxX w) nxI_own (nxX_own hst6.size) ⟨rfl, Below.refl _ _⟩
      (fun y a' W => a' = { tmps := #[.int .i64 a, .pointer (some ⟨q, 0, none⟩), undef, undef, .pointer (some ⟨w.heap.size, 0, none⟩), .pointer (some ⟨w.heap.size + 1, 0, none⟩), .pointer (some ⟨w.heap.size + 1 + 1, 0, none⟩), .int .i64 x, .pointer (some ⟨w5.heap.size, 0, none⟩), .int .i64 0, .int .i64 y.1, .int .i64 y.2, .tuple #[.int .i64 x, .agg #[.int .i64 f, .int .i64 g], .int .i64 0], .int .i64 a, .pointer (some ⟨q, 0, none⟩), .tuple #[.int .i64 x, .agg #[.int .i64 f, .int .i64 g], .int .i64 0], .int .i64 x, .agg #[.int .i64 f, .int .i64 g], .int .i64 0, .int .i64 0, .bool false, undef, .int .i64 x, .pointer (some ⟨q, 0, none⟩), .func (.func 47) #[] #[.pointer (some ⟨w5.heap.size + 1, 0, none⟩), .pointer (some ⟨w5.heap.size + 1 + 1, 0, none⟩)], .int .i64 y.1, .int .i64 y.2, undef, undef, undef, undef, undef, undef, undef, undef, undef, undef], defers := [] })
      (fun x a' _ X Y row hs hg hr => hs)
      ?assign ?body ?done ?stop
    case assign =>
      rintro l pre ⟨y1, y2⟩ V K hI hK
      gi_wp2
      exact hK _ _ (KeepsFrom.refl _ _) (Below.refl _ _) hI rfl
    case body =>
      rintro l pre ⟨y1, y2⟩ a' V hl ⟨r, hr⟩ ⟨rfl, hB⟩ rfl hlt
      have hB7 : Bx3 w.heap.size 0 0 0 V := hB6.turned (below_turned2 hB) (fun k h1 h2 => by omega)
      obtain ⟨b1, b2, b3, f1, f2, f3⟩ := hB7.cells
      have HB7 := Lib.hid hB7
      clear hr hB7
      gi_wp2
      refine ⟨((KeepsOthers.setCell _ _ _).trans ((KeepsOthers.setCell _ _ _).trans (KeepsOthers.setCell _ _ _))).from _, rfl, _, rfl, HB7.out.set y1 y2 0, ?_⟩
      exact ((still_below hst6 (Nat.le_refl _)).trans (hB.mono hst6.size)).trans (set3_below _ _ _)
    case done =>
      rintro D ys V hD ⟨k, rfl, hk⟩ ⟨hys, hB⟩ hK
      have hB7 : Bx3 w.heap.size 0 0 0 V := hB6.turned (below_turned2 hB) (fun k h1 h2 => by omega)
      obtain rfl : k = 0 := by have := congrArg List.length hys; rw [rdEls_len] at this; simpa using this
      rw [Int.natCast_zero, Int.add_zero] at hk
      obtain ⟨n1, n2, n3⟩ := HX.out.2 hk
      subst n1 n2 n3
      have hst7 : Still w V := hst6.trans (below_turned hB (Nat.le_refl _))
      have HGx := Lib.hid (HG.out V hst7 nt ⟨by omega, by omega⟩)
      have HB7 := Lib.hid hB7
      obtain ⟨ge, hge⟩ : ∃ ge, ge = M.getE nt := ⟨_, rfl⟩
      rw [← hge] at HGx
      have HGE := Lib.hid hge
      clear hge
      generalize M.getR nt = gr at *
      have HK := Lib.hid hK
      clear hK hB7 hys hk HX
      gi_wp2_with (gi_at_call 38; ((with_reducible refine HGx.out.mono ?_)); rintro e V8 ⟨rfl, hT8⟩; have z8 := HB7.out.turned hT8 (fun k h1 h2 h => h); obtain ⟨b1, b2, b3, f1, f2, f3⟩ := z8.cells)
      have hDl := (Array.getElem?_eq_some_iff.1 HK.out).1
      refine next_end (r := 0) (t := nt) (e := ge) rfl rfl rfl rfl rfl (by omega) (z8.set 0 nt ge) ((still_below (hst7.trans hT8) (Nat.le_refl _)).trans (set3_below _ _ _)) ?_ (fun W' h => ⟨by rw [HGE.out], h⟩)
      rw [Below.heap_setCell _ _ _ _ (by simp; omega), Below.heap_setCell _ _ _ _ (by simp; omega), Below.heap_setCell _ _ _ _ (by simp; omega), hT8.block D hDl (fun h => h)]
      exact HK.out
    case stop =>
      rintro D c pre V hD ⟨k, rfl, hk⟩ ⟨rfl, y, hy, hY, hB⟩ hK
      obtain rfl : k = 0 := by have := congrArg List.length hy; rw [rdEls_len] at this; simpa using this
      obtain rfl : rdEl M x 0 = y := by simpa [rdEls] using hy
      obtain ⟨n1, n2, n3⟩ := HX.out.1 (hk (by omega))
      subst n1 n2 n3
      unfold rdEl at hY
      rw [Int.natCast_zero, Int.add_zero] at hY
      have HYd := Lib.hid hY
      have HK := Lib.hid hK
      clear hK hY hy hk HX
      gi_wp2
      try rw [Exit.noGoto_ret]
      exact next_end rfl rfl rfl rfl rfl (by omega) HYd.out hB HK.out (fun W' h => ⟨rfl, h⟩)
  · have h0' : M.mvE a = 2 := h0
    obtain ⟨e1, e2, e3⟩ := nx_no (M := M) (a := a) (by omega)
    rw [h0'] at HI
    rw [e1, e2, e3]
    generalize mvF a (M.h : Int) (M.tail : Nat) = f at *
    generalize mvT a (M.h : Int) (M.tail : Nat) = g at *
    generalize M.mv a = x at *
    clear hM hN hB3 H0 h0 h0' e1 e2 e3 HG HAt HM
    gi_wp2_with (first
      | (gi_at_call 36; rw [← hW3]; ((with_reducible refine HI.out.mono ?_)); rintro e w5 ⟨rfl, hT5⟩; have z1 := HB.out _ (hT5.alloc (.cells #[.int .i64 f, .int .i64 g] 24)); obtain ⟨b1, b2, b3, f1, f2, f3⟩ := z1.cells))
    obtain ⟨d1, d2, d3, _⟩ := (z1.set 0 0 2).cells
    refine ⟨.tuple #[.int .i64 0, .int .i64 0, .int .i64 2], ?_, rfl, ?_⟩
    · rw [results_cell3 rfl]
      go_simp
    · exact below_turned ((still_below ((hs3.trans hT5).alloc _) (Nat.le_refl _)).trans (set3_below _ _ _)) (Nat.le_refl _)

theorem next_any {w : World} {W : Nat → Prop} {q : Nat} {M : RM} {N : Nat} (H0 : (rT q M).at_ w W) (hM : M.Ok N) (hN : N < 1000000) (a : Int) :
    Calls Try.prog 22 #[.int .i64 a, .pointer (some ⟨q, 0, none⟩)] w fun e w' => e = .returned (.tuple #[.int .i64 (M.nxR a), .int .i64 (M.nxT a), .int .i64 (M.nxE a)]) ∧ Still w w' :=
  (callsIn_wide (n := 3)).1 (next_in Fence.wide 3 rfl rfl trivial trivial trivial trivial trivial (by omega) H0 hM hN a)
end Go.Proofs.Ytliaaggjefjbeaa
