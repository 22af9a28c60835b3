/- What Take of the program's pool does. No condition but that the pool is one. -/
import Derived.Test.YtinfckoaphgmkaaPoolBegin
import Derived.Test.YtinfckoaphgmkaaPoolBack
import Derived.Test.YtinfckoaphgmkaaDelete
import Derived.Test.YtinfckoaphgmkaaHandleAll
import Derived.Test.YtinfckoaphgmkaaRegRound
namespace Go.Proofs.Ytinfckoaphgmkaa
open Go.RowKit Go.Shelf
attribute [local go_sem] Oper.semAt_some
set_option linter.unusedVariables false
set_option linter.unusedSimpArgs false
set_option maxRecDepth 100000

/-- The slot at a place of the stack is taken. -/
def PM.takeAt (M : PM) (i k n : Nat) : PM := { M with sl := M.sl.set k ⟨(M.sl[k]?.getD ⟨0, 0, []⟩).g, 1, List.replicate n 0⟩, fr := (M.fr.reverse.eraseIdx i).reverse }

/-- The four boxes that Take has. -/
def tkW (w : World) (q : Nat) (n a b : Int) : World := (((w.alloc (.cells #[.pointer (some ⟨q, 0, none⟩)] 23)).alloc (.cells #[.int .i64 n] 3)).alloc (.cells #[.int .i64 a] 3)).alloc (.cells #[.int .i64 b] 24)
theorem tkW_below (w : World) (q : Nat) (n a b : Int) : Below w.heap.size w (tkW w q n a b) := ((((Below.refl _ w).alloc (Nat.le_refl _) _).alloc (by simp) _).alloc (by simp; omega) _).alloc (by simp; omega) _
theorem tkW_still (w : World) (q : Nat) (n a b : Int) : Still w (tkW w q n a b) := below_turned (tkW_below w q n a b) (Nat.le_refl _)
theorem tkW_size (w : World) (q : Nat) (n a b : Int) : (tkW w q n a b).heap.size = w.heap.size + 4 := by simp [tkW]
theorem tkW_cells (w : World) (q : Nat) (n a b : Int) : (tkW w q n a b).cell? ⟨w.heap.size, 0, none⟩ = some (.pointer (some ⟨q, 0, none⟩)) ∧ (tkW w q n a b).cell? ⟨w.heap.size + 1, 0, none⟩ = some (.int .i64 n) ∧
    (tkW w q n a b).cell? ⟨w.heap.size + 2, 0, none⟩ = some (.int .i64 a) ∧ (tkW w q n a b).cell? ⟨w.heap.size + 3, 0, none⟩ = some (.int .i64 b) ∧ (tkW w q n a b).frozen? ⟨w.heap.size + 2, 0, none⟩ = false ∧ (tkW w q n a b).frozen? ⟨w.heap.size + 3, 0, none⟩ = false := by
  have c0 := cnew w (.pointer (some ⟨q, 0, none⟩)) 23
  have c1 := cnew (w.alloc (.cells #[.pointer (some ⟨q, 0, none⟩)] 23)) (.int .i64 n) 3
  have c2 := cnew ((w.alloc (.cells #[.pointer (some ⟨q, 0, none⟩)] 23)).alloc (.cells #[.int .i64 n] 3)) (.int .i64 a) 3
  have c3 := cnew (((w.alloc (.cells #[.pointer (some ⟨q, 0, none⟩)] 23)).alloc (.cells #[.int .i64 n] 3)).alloc (.cells #[.int .i64 a] 3)) (.int .i64 b) 24
  simp only [World.size_alloc] at c1 c2 c3
  exact ⟨calloc _ (calloc _ (calloc _ c0.1)), calloc _ (calloc _ c1.1), calloc _ c2.1, c3.1, falloc _ c2.1 c2.2, c3.2⟩

theorem Turned.frozen {S : Nat → Prop} {w w' : World} (h : Turned S w w') {p : Addr} (hp : p.block < w.heap.size) (hs : ¬ S p.block) : w'.frozen? p = w.frozen? p := World.frozen?_of_block (w := w) (h.block p.block hp hs)

theorem takeAt_last {M : PM} {i k n : Nat} (h : M.fr.reverse[i]? = some k) (hi : i = M.fr.reverse.length - 1) (hl : 0 < M.fr.reverse.length) (hn : n ≤ M.size) : M.takeAt i k n = M.takeM n ∧ M.takeH n = ((M.sl[k]?.getD ⟨0, 0, []⟩).g : Int) * 128 + (k : Nat) + 1 ∧ M.takeE n = 0 := by
  cases hf : M.fr with
  | nil => rw [hf] at hl; simp at hl
  | cons a r =>
    rw [hf] at h hi
    rw [List.reverse_cons] at h hi
    rw [List.length_append, List.length_singleton, Nat.add_sub_cancel] at hi
    subst hi
    rw [List.getElem?_append_right (Nat.le_refl _), Nat.sub_self] at h
    obtain rfl : a = k := by simpa using h
    have h0 : ¬ ((n : Int) < 0 ∨ (M.size : Int) < n) := by omega
    refine ⟨?_, ?_, ?_⟩
    · unfold PM.takeAt PM.takeM
      rw [if_neg h0, hf]
      simp only [List.reverse_cons, Int.toNat_natCast]
      rw [List.eraseIdx_append_of_length_le (Nat.le_refl _)]
      simp
    · unfold PM.takeH
      rw [if_neg h0, hf]
    · unfold PM.takeE
      rw [if_neg (by omega), if_neg (by omega), hf]
      simp
theorem take_none {M : PM} {n : Nat} (h : M.fr = []) (hn : n ≤ M.size) : M.takeM n = M ∧ M.takeH n = 0 ∧ M.takeE n = 50 := by
  have h0 : ¬ ((n : Int) < 0 ∨ (M.size : Int) < n) := by omega
  refine ⟨?_, ?_, ?_⟩
  · unfold PM.takeM; rw [if_neg h0, h]
  · unfold PM.takeH; rw [if_neg h0, h]
  · unfold PM.takeE; rw [if_neg (by omega), if_neg (by omega), h]; rfl

theorem keepsFrom_turned {S : Nat → Prop} {B : Nat} {V W : World} (h : Turned S V W) (hS : ∀ k, S k → k < B) : KeepsFrom B V W :=
  ⟨h.size, fun k o hB hk _ => (h.block k (Array.getElem?_eq_some_iff.1 hk).1 (fun e => by have := hS k e; omega)).trans hk⟩

theorem two_set {V : World} {b2 b3 : Nat} {x y a b : Value} (h2 : V.cell? ⟨b2, 0, none⟩ = some x) (h3 : V.cell? ⟨b3, 0, none⟩ = some y) (hne : b2 ≠ b3) :
    ((V.setCell ⟨b2, 0, none⟩ a).setCell ⟨b3, 0, none⟩ b).cell? ⟨b2, 0, none⟩ = some a ∧ ((V.setCell ⟨b2, 0, none⟩ a).setCell ⟨b3, 0, none⟩ b).cell? ⟨b3, 0, none⟩ = some b := by
  constructor
  · rw [World.cell?_setCell_far _ _ _ _ (Ne.symm hne)]
    exact World.cell?_setCell_same' _ _ _ (by rw [h2]; rfl)
  · refine World.cell?_setCell_same' _ _ _ ?_
    rw [World.cell?_setCell_far _ _ _ _ hne, h3]
    rfl

theorem tkW_two (w : World) (q : Nat) (n : Int) (nq : Nat) (a b : Value) : ((((tkW w q n 0 0).drewN nq).setCell ⟨w.heap.size + 1 + 1, 0, none⟩ a).setCell ⟨w.heap.size + 1 + 1 + 1, 0, none⟩ b).cell? ⟨w.heap.size + 1 + 1, 0, none⟩ = some a ∧
    ((((tkW w q n 0 0).drewN nq).setCell ⟨w.heap.size + 1 + 1, 0, none⟩ a).setCell ⟨w.heap.size + 1 + 1 + 1, 0, none⟩ b).cell? ⟨w.heap.size + 1 + 1 + 1, 0, none⟩ = some b := by
  obtain ⟨_, _, y2, y3, _, _⟩ := tkW_cells w q n 0 0
  exact two_set (V := (tkW w q n 0 0).drewN nq) (b2 := w.heap.size + 1 + 1) (b3 := w.heap.size + 1 + 1 + 1) (x := .int .i64 0) (y := .int .i64 0) y2 y3 (by omega)

/-- The ways of Take that return ahead of the loop. -/
theorem take_early (F : Fence) (hF : F = Fence.wide) {w : World} {W : Nat → Prop} {q : Nat} {L : PLay} {M : PM} {N : Nat} (H : PIn w W q L M) (hM : M.Ok N) (n : Int) (hn : n < 0 ∨ (M.size : Int) < n) (er : Int) (her : er = if n < 0 then 2 else 3) :
    CallsIn F 3 Try.prog 14 #[.pointer (some ⟨q, 0, none⟩), .int .i64 n] w fun e w' => e = .returned (.tuple #[.int .i64 0, .int .i64 er]) ∧ Still w w' := by
  have HF := Lib.hid hF
  have HM := Lib.hid (fun m w' (hb : Below w.heap.size w w') => made_in F m q _ _ _ w' hM.pos (by rw [hF]; trivial) (by rw [hF]; rfl) ((hb.cell (p := ⟨q, 1, none⟩) (H.lt _ (H.fix _ (.inl rfl)))).trans (H.hd.cell rfl)))
  have hro : F.round = none := by rw [hF]; rfl
  have h3 : F.fn 14 := by rw [hF]; trivial
  have h4 : F.fn 34 := by rw [hF]; trivial
  have hq : q < w.heap.size := H.lt _ (H.fix _ (.inl rfl))
  have cs : (tkW w q n 0 0).cell? ⟨q, 0, none⟩ = some (.int .i64 M.size) := ((tkW_below w q n 0 0).cell (p := ⟨q, 0, none⟩) hq).trans (H.hd.cell rfl)
  obtain ⟨b0, b1, b2, b3, f2, f3⟩ := tkW_cells w q n 0 0
  have HE := Lib.hid (tkW_cells w q n 0 er)
  have HS := Lib.hid (tkW_still w q n 0 er)
  generalize M.size = sz at *
  clear H hF hM
  have HR := Lib.hid her
  refine callsIn_of_wp_marks Try.func14 rfl h3 ?_ hro
  simp only [Try.ntmps14, List.size_toArray, List.length_cons, List.length_nil, Nat.reduceAdd, Nat.reduceSub, Array.replicate_succ, Array.replicate_zero, List.push_toArray, List.append_toArray, List.nil_append, List.cons_append]
  by_cases h0 : n < 0
  · rw [if_pos h0] at her
    subst her
    clear hn
    gi_wp2_with (gi_at_call 34; refine (HM.out _ _ (((((Below.refl _ w).alloc (Nat.le_refl _) _).alloc (by simp) _).alloc (by simp; omega) _).alloc (by simp; omega) _)).mono ?_; rintro e w' ⟨rfl, rfl⟩)
    obtain ⟨_, _, e2, e3, _, _⟩ := HE.out
    refine ⟨.tuple #[.int .i64 0, .int .i64 2], ?_, rfl, HS.out⟩
    unfold tkW at e2 e3
    rw [results_cell2 rfl]
    go_simp
  · rw [if_neg h0] at her
    subst her
    have h1 : (sz : Int) < n := by omega
    have h2 : 0 ≤ n := by omega
    unfold tkW at cs
    clear hn
    gi_wp2_with (gi_at_call 34; refine (HM.out _ _ (((((Below.refl _ w).alloc (Nat.le_refl _) _).alloc (by simp) _).alloc (by simp; omega) _).alloc (by simp; omega) _)).mono ?_; rintro e w' ⟨rfl, rfl⟩)
    have hmx : Try.prog.follows .mixedOrders = true := by kernel_rfl
    obtain rfl := HF.out
    gi_quiet (fail)
    gi_wp2
    obtain ⟨_, _, e2, e3, _, _⟩ := HE.out
    have hS := (tkW_still w q n 0 0).drewN nq
    have hz := tkW_two w q n nq (.int .i64 0) (.int .i64 3)
    unfold tkW at hz hS
    obtain ⟨z2, z3⟩ := hz
    refine ⟨.tuple #[.int .i64 0, .int .i64 3], ?_, rfl, ?_⟩
    rotate_left
    · exact (hS.setCell (p := ⟨w.heap.size + 1 + 1, 0, none⟩) (.inr (by simp; omega)) _).setCell (p := ⟨w.heap.size + 1 + 1 + 1, 0, none⟩) (.inr (by simp; omega)) _
    rw [results_cell2 rfl]
    go_simp

set_option maxHeartbeats 2000000 in
theorem take_loop (F : Fence) (hF : F = Fence.wide) {w : World} {W : Nat → Prop} {q : Nat} {L : PLay} {M : PM} {N : Nat} (H : PIn w W q L M) (hM : M.Ok N) (hN : N < 1000000) (n : Nat) (hn : n ≤ M.size) :
    CallsIn F 3 Try.prog 14 #[.pointer (some ⟨q, 0, none⟩), .int .i64 (n : Int)] w fun e w' => e = .returned (.tuple #[.int .i64 (M.takeH n), .int .i64 (M.takeE n)]) ∧ Goes (pT q (M.takeM n)) W w w' := by
  have HF := Lib.hid hF
  have HM := Lib.hid (fun m w' (hb : Below w.heap.size w w') => made_in F m q _ _ _ w' hM.pos (by rw [hF]; trivial) (by rw [hF]; rfl) ((hb.cell (p := ⟨q, 1, none⟩) (H.lt _ (H.fix _ (.inl rfl)))).trans (H.hd.cell rfl)))
  have hro : F.round = none := by rw [hF]; rfl
  have h3 : F.fn 14 := by rw [hF]; trivial
  have h4 : F.fn 34 := by rw [hF]; trivial
  have h5 : F.fn 35 := by rw [hF]; trivial
  have h6 : F.fn 48 := by rw [hF]; trivial
  have h7 : F.fn 36 := by rw [hF]; trivial
  have hq : q < w.heap.size := H.lt _ (H.fix _ (.inl rfl))
  have hsb : L.sb < w.heap.size := H.lt _ H.st.1
  have cs0 : (tkW w q n 0 0).cell? ⟨q, 0, none⟩ = some (.int .i64 M.size) := ((tkW_below w q n 0 0).cell (p := ⟨q, 0, none⟩) hq).trans (H.hd.cell rfl)
  obtain ⟨fl, hfl⟩ : ∃ fl, fl = M.fr.reverse.length := ⟨_, rfl⟩
  have hfl2 : fl = M.fr.length := by rw [hfl, List.length_reverse]
  have hfm : fl ≤ 128 := by rw [hfl2]; exact hM.frlen
  have cs3 : (tkW w q n 0 0).cell? ⟨q, 3, none⟩ = some (.slice (some ⟨L.sb, 0, none⟩) fl L.sc) := by
    refine ((tkW_below w q n 0 0).cell (p := ⟨q, 3, none⟩) hq).trans ?_
    rw [hfl2]; exact H.hd.cell rfl
  have hrow : RowLow w L.sb M.fr.reverse := fun i x hx => by
    have hss := NumsAt.of_own (l := nums M.fr.reverse) H.ss (by rw [nums_length, List.length_reverse])
    obtain ⟨b, o, e, hc⟩ := hss i (x : Int) (nums_get hx)
    cases e
    rwa [Nat.zero_add] at hc
  obtain ⟨b0, b1, b2, b3, f2, f3⟩ := tkW_cells w q n 0 0
  have hn1 : (n : Int) ≤ (M.size : Int) := by omega
  have hn0 : (0 : Int) ≤ (n : Int) := by omega
  have hmx : Try.prog.follows .mixedOrders = true := by kernel_rfl
  obtain ⟨sz, hsz⟩ : ∃ sz, sz = M.size := ⟨_, rfl⟩
  rw [← hsz] at cs0 hn1
  have HSZ := Lib.hid hsz
  have HFL := Lib.hid hfl
  have HFL2 := Lib.hid hfl2
  have HH := Lib.hid H
  have HMO := Lib.hid hM
  unfold tkW at cs0 cs3
  clear H hF hM hsz hfl hfl2 hn
  refine callsIn_of_wp_marks Try.func14 rfl h3 ?_ hro
  simp only [Try.ntmps14, List.size_toArray, List.length_cons, List.length_nil, Nat.reduceAdd, Nat.reduceSub, Array.replicate_succ, Array.replicate_zero, List.push_toArray, List.append_toArray, List.nil_append, List.cons_append]
  gi_wp2_with (gi_at_call 34; refine (HM.out _ _ (((((Below.refl _ w).alloc (Nat.le_refl _) _).alloc (by simp) _).alloc (by simp; omega) _).alloc (by simp; omega) _)).mono ?_; rintro e w' ⟨rfl, rfl⟩)
  obtain rfl := HF.out
  gi_quiet (fail)
  gi_wp2_with (gi_at_call 35; refine (back_in _ _ h5 hro _ _ _ _).mono ?_; rintro e w' ⟨rfl, rfl⟩)
  simp only [show w.heap.size + 1 + 1 + 1 + 1 = w.heap.size + 4 from rfl, show w.heap.size + 1 + 1 + 1 = w.heap.size + 3 from rfl, show w.heap.size + 1 + 1 = w.heap.size + 2 from rfl]
  obtain ⟨W1, hW1⟩ : ∃ W1, (tkW w q n 0 0).drewN nq = W1 := ⟨_, rfl⟩
  have hB1 : Below w.heap.size w W1 := by rw [← hW1]; exact ⟨(tkW_below w q n 0 0).os, (tkW_below w q n 0 0).tape, (tkW_below w q n 0 0).output, (tkW_below w q n 0 0).size, (tkW_below w q n 0 0).block⟩
  have hsz1 : W1.heap.size = w.heap.size + 4 := by rw [← hW1]; exact tkW_size w q n 0 0
  have d : W1.cell? ⟨w.heap.size, 0, none⟩ = some (.pointer (some ⟨q, 0, none⟩)) ∧ W1.cell? ⟨w.heap.size + 1, 0, none⟩ = some (.int .i64 n) ∧
    W1.cell? ⟨w.heap.size + 2, 0, none⟩ = some (.int .i64 0) ∧ W1.cell? ⟨w.heap.size + 3, 0, none⟩ = some (.int .i64 0) ∧ W1.frozen? ⟨w.heap.size + 2, 0, none⟩ = false ∧ W1.frozen? ⟨w.heap.size + 3, 0, none⟩ = false := by rw [← hW1]; exact tkW_cells w q n 0 0
  unfold tkW at hW1
  rw [hW1]
  obtain ⟨d0, d1, d2, d3, g2, g3⟩ := d
  have hcN := cnew W1 (.slice (some ⟨L.sb, 0, none⟩) fl L.sc) 31
  rw [hsz1] at hcN
  have hB2 : Below w.heap.size w (W1.alloc (.cells #[.slice (some ⟨L.sb, 0, none⟩) fl L.sc] 31)) := hB1.alloc (by omega) _
  have hWq := fun k (hk : W k) => HH.out.lt k hk
  have HWQ := Lib.hid hWq
  have hsz2 : (W1.alloc (.cells #[.slice (some ⟨L.sb, 0, none⟩) fl L.sc] 31)).heap.size = w.heap.size + 5 := by rw [World.size_alloc, hsz1]
  clear hWq b0 b1 b2 b3 f2 f3 cs0 cs3 hW1
  refine wpIn_rangeFunc_ownG hro (by omega) (gf := 48) (lb := #[.pointer (some ⟨w.heap.size + 4, 0, none⟩)]) rfl h6 (enters_of Try.func48 (by kernel_rfl) rfl)
    (back_stops _ _ h6 hro (by omega) (w.heap.size + 4) (w.heap.size + 5) L.sb L.sc fl M.fr.reverse _ HFL.out hfm (by omega) (by omega) (by omega) hcN.1 (hrow.below hB2 hsb)) belowK_t (belowK_b (by omega)) (Below.refl _ _) (fun _ => rfl)
    (fun pre V => (pre = [] ∧ V.cell? ⟨w.heap.size, 0, none⟩ = some (.pointer (some ⟨q, 0, none⟩)) ∧ V.cell? ⟨w.heap.size + 1, 0, none⟩ = some (.int .i64 n) ∧
      V.cell? ⟨w.heap.size + 2, 0, none⟩ = some (.int .i64 0) ∧ V.cell? ⟨w.heap.size + 3, 0, none⟩ = some (.int .i64 0) ∧ V.frozen? ⟨w.heap.size + 2, 0, none⟩ = false ∧ V.frozen? ⟨w.heap.size + 3, 0, none⟩ = false) ∧ Below w.heap.size w V)
    (fun c pre V => c = .ret ∧ ∃ x : PlaceOf M.fr.reverse, pre = [x] ∧ V.cell? ⟨w.heap.size + 2, 0, none⟩ = some (.int .i64 (((M.sl[x.1.2]?.getD ⟨0, 0, []⟩).g : Int) * 128 + (x.1.2 : Nat) + 1)) ∧ V.cell? ⟨w.heap.size + 3, 0, none⟩ = some (.int .i64 0) ∧
      PIn V W q L (M.takeAt x.1.1 x.1.2 n) ∧ Turned W w V)
    (OwnFrom.and (Own.from (fun s A B row hs hg hr => ⟨hs.1, cell_kept hs.2.1 hg hr, cell_kept hs.2.2.1 hg hr, cell_kept hs.2.2.2.1 hg hr, cell_kept hs.2.2.2.2.1 hg hr, (frozen_kept hs.2.2.2.1 hg hr).trans hs.2.2.2.2.2.1, (frozen_kept hs.2.2.2.2.1 hg hr).trans hs.2.2.2.2.2.2⟩) _) (ownFrom_below (Nat.le_refl _) (by omega)))
    (fun c s A B row hs hg hr => by
      obtain ⟨e1, x, e2, e3, e4, e5, e6⟩ := hs
      have ht : Turned (fun k => row = some k) A B := (Turned.refl _ A).grown hg (fun k e => .inl e)
      exact ⟨e1, x, e2, cell_kept e3 hg (fun r e => (hr r e).2), cell_kept e4 hg (fun r e => (hr r e).2), e5.turned ht (fun k hk e => by have := (hr k e).1; have := HWQ.out k hk; omega), e6.past ht (fun i e => .inr (by have := (hr i e).1; omega))⟩)
    ⟨⟨rfl, calloc _ d0, calloc _ d1, calloc _ d2, calloc _ d3, falloc _ d2 g2, falloc _ d3 g3⟩, hB2⟩
    (fun x => { tmps := #[.pointer (some ⟨q, 0, none⟩), .int .i64 (n : Int), .pointer (some ⟨w.heap.size, 0, none⟩), .pointer (some ⟨w.heap.size + 1, 0, none⟩), .pointer (some ⟨w.heap.size + 2, 0, none⟩), .pointer (some ⟨w.heap.size + 3, 0, none⟩), .int .i64 (x.1.1 : Nat), .int .i64 (x.1.2 : Nat), undef, undef, .pointer (some ⟨q, 0, none⟩), .bool true, .bool false, .int .i64 (n : Int), .bool (decide ((n : Int) < 0)), .int .i64 (n : Int), .pointer (some ⟨q, 0, none⟩), .pointer (some ⟨q, 0, none⟩), .pointer (some ⟨q, 0, none⟩), .int .i64 (sz : Int), .bool false, .pointer (some ⟨q, 0, none⟩), .pointer (some ⟨q, 0, none⟩), .pointer (some ⟨q, 3, none⟩), .slice (some ⟨L.sb, 0, none⟩) fl L.sc, .func (.func 48) #[] #[.pointer (some ⟨w.heap.size + 4, 0, none⟩)], .int .i64 (x.1.1 : Nat), .int .i64 (x.1.2 : Nat), undef, undef, undef, undef, undef, undef, undef, undef, undef, undef, undef, undef, undef, undef, undef, undef, undef, undef, undef, undef, undef, undef, undef, undef, undef, undef, undef, undef, undef, undef, undef, undef, undef, undef], defers := [] }) ?assign ?body ?done ?stop
  case assign =>
    intro l x V K hK
    gi_wp2
    exact hK
  case body =>
    rintro l pre x V ⟨⟨rfl, hcw, hcn, hc2, hc3, hf2, hf3⟩, hB⟩ hlt
    have hSt : Still w V := below_turned hB (Nat.le_refl _)
    have hx := x.2
    have hxm : x.1.2 ∈ M.fr := List.mem_reverse.1 (List.mem_of_getElem? hx)
    obtain ⟨s, hs⟩ := get_some (HMO.out.lt _ hxm)
    obtain ⟨m, hm⟩ : ∃ m, m = M.sl.length := ⟨_, rfl⟩
    have hsm : x.1.2 < m := by rw [hm]; exact get_lt hs
    have HV := HH.out.still hSt
    have p1 : V.cell? ⟨q, 1, none⟩ = some (.slice (some ⟨L.gb, 0, none⟩) m m) := by rw [hm]; exact HV.hd.cell rfl
    have pg := (HV.slot hs).2.2.2
    have hg0 := (HMO.out.low _ _ hs).1
    have HOf := Lib.hid (fun k U => of_in Fence.wide k x.1.2 s.g U (by have := HMO.out.len; omega) ⟨by omega, by omega⟩ trivial rfl)
    have HVV := Lib.hid HV
    have HXX := Lib.hid hx
    have HSS := Lib.hid hs
    have HST := Lib.hid hSt
    have hd1 : 1 ≤ 3 - 1 - 1 := by omega
    obtain ⟨xa, hxa⟩ : ∃ xa, xa = x.1.1 := ⟨_, rfl⟩
    obtain ⟨xs, hxs⟩ : ∃ xs, xs = x.1.2 := ⟨_, rfl⟩
    have hxal : (xa : Int) ≤ 128 := by have := get_lt hx; have := HFL.out; omega
    have hxa0 : (0 : Int) ≤ (xa : Int) := by omega
    rw [← hxs] at hsm pg HOf
    rw [← hxs, ← hxa]
    have HXA := Lib.hid hxa
    have HXS := Lib.hid hxs
    have hg1 : (s.g : Int) < 1099511627776 := by omega
    have hg2 : (0 : Int) ≤ (s.g : Int) := by omega
    have p3 : V.cell? ⟨q, 3, none⟩ = some (.slice (some ⟨L.sb, 0, none⟩) fl L.sc) := by rw [HFL2.out]; exact HV.hd.cell rfl
    have hpos : 0 < fl := by have := get_lt hx; have := HFL.out; omega
    obtain ⟨f', rfl⟩ : ∃ f', fl = f' + 1 := ⟨fl - 1, by omega⟩
    have hss : V.ownsRow 0 3 1 (.slice (some ⟨L.sb, 0, none⟩) (f' + 1) L.sc) (f' + 1) (ints (nums M.fr.reverse)) := by
      have := HV.ss
      rwa [← HFL2.out] at this
    have HDel := Lib.hid (fun U (hU : Still V U) => delete_any (w := U) (ow_still hss hU) hx HFL.out (by omega))
    rw [← hxa] at HDel
    have hwr : IntKind.i64.wrap ((xa : Int) + 1) = (xa : Int) + 1 := by simp [IntKind.wrap, IntKind.signed, IntKind.bits]; omega
    rw [← hwr] at HDel
    clear hwr
    have hnq : q ≠ L.sb := fun e => HV.st.2 (.inl e.symm)
    have HQ := Lib.hid (fun U w2 (hU : Still V U) (hT : Turned (· = L.sb) U w2) => (⟨by
        rw [hT.cell (p := ⟨w.heap.size, 0, none⟩) (Nat.lt_of_lt_of_le (cell_lt hcw) hU.size) (by show ¬ (w.heap.size = L.sb); omega)]; exact still_cell hU hcw rfl,
      ((HV.still hU).hd.turned hT hnq).cell rfl, ((HV.still hU).hd.turned hT hnq).free 3⟩ : w2.cell? ⟨w.heap.size, 0, none⟩ = some (.pointer (some ⟨q, 0, none⟩)) ∧ w2.cell? ⟨q, 3, none⟩ = some (.slice (some ⟨L.sb, 0, none⟩) M.fr.length L.sc) ∧ w2.frozen? ⟨q, 3, none⟩ = false))
    rw [← HFL2.out] at HQ
    have HP := Lib.hid (fun w2 (hT : Turned (· = L.sb) V.drew w2) (hown : w2.ownsRow 0 3 1 (.slice (some ⟨L.sb, 0, none⟩) f' L.sc) f' (ints (nums (M.fr.reverse.eraseIdx x.1.1)))) => (HV.still (Turned.refl _ V).drew).reF hT (fl := f') (fr := (M.fr.reverse.eraseIdx x.1.1).reverse) (by rw [List.length_reverse, List.length_eraseIdx_of_lt (get_lt hx)]; have := HFL.out; omega) (by rw [List.reverse_reverse]; exact hown))
    have HBg := Lib.hid (fun U (hU : PIn U W q L { M with fr := (M.fr.reverse.eraseIdx x.1.1).reverse }) => begin_any hU (k := x.1.2) (s := s) hs n (by rw [← HSZ.out]; omega) HMO.out.size1)
    rw [← hxs, ← hxa] at HBg
    rw [← hxa] at HP
    have HMM := Lib.hid hm
    have hwq : w.heap.size ≠ q := by omega
    have hqw : q ≠ w.heap.size := by omega
    clear HV hx hs hSt hxa hxs hxm hg0 hN hm hss hpos
    dsimp only
    gi_wp2_with (gi_at_call 36; refine (CallsIn.inRound l (HOf.out _ _)).mono ?_; rintro e w' ⟨rfl, rfl⟩)
    have hdr : Still V V.drew := (Turned.refl _ V).drew
    have hSa : (fun U : World => U.cell? ⟨w.heap.size, 0, none⟩ = some (.pointer (some ⟨q, 0, none⟩))) V.drew := hcw
    refine region_round (S := (fun U : World => U.cell? ⟨w.heap.size, 0, none⟩ = some (.pointer (some ⟨q, 0, none⟩)))) (by kernel_rfl) (by rintro ⟨_, _, h⟩; exact h) (by kernel_rfl) ?_
    refine wpAnyH_take (i := 0) (v := ?_) rfl (by kernel_rfl) (by kernel_rfl) (by kernel_rfl) (fun _ _ _ h => h) (Or.inl ⟨by rfl, ?_⟩) hSa ?_
    rotate_left
    · intro w hSw
      obtain k0 := hSw
      go_simp
      with_reducible rfl
    try simp only [Act.put, List.setIfInBounds_toArray, List.set_cons_zero, List.set_cons_succ]
    refine wpAnyH_take (i := 1) (v := ?_) rfl (by kernel_rfl) (by kernel_rfl) (by kernel_rfl) (fun _ _ _ h => h) (Or.inl ⟨by rfl, ?_⟩) hSa ?_
    rotate_left
    · intro w hSw
      obtain k0 := hSw
      go_simp
      with_reducible rfl
    try simp only [Act.put, List.setIfInBounds_toArray, List.set_cons_zero, List.set_cons_succ]
    refine wpAnyH_take (i := 2) (v := ?_) rfl (by kernel_rfl) (by kernel_rfl) (by kernel_rfl) (fun _ _ _ h => h) (Or.inl ⟨by rfl, ?_⟩) hSa ?_
    rotate_left
    · intro w hSw
      obtain k0 := hSw
      go_simp
      with_reducible rfl
    try simp only [Act.put, List.setIfInBounds_toArray, List.set_cons_zero, List.set_cons_succ]
    refine wpAnyH_take (i := 3) (v := ?_) rfl (by kernel_rfl) (by kernel_rfl) (by kernel_rfl) (fun _ _ _ h => h) (Or.inl ⟨by rfl, ?_⟩) hSa ?_
    rotate_left
    · intro w hSw
      obtain k0 := hSw
      go_simp
      with_reducible rfl
    try simp only [Act.put, List.setIfInBounds_toArray, List.set_cons_zero, List.set_cons_succ]
    refine wpAnyH_take (i := 5) (v := ?_) rfl (by kernel_rfl) (by kernel_rfl) (by kernel_rfl) (fun _ _ _ h => h) (Or.inl ⟨by rfl, ?_⟩) hSa ?_
    rotate_left
    · intro w hSw
      obtain k0 := hSw
      go_simp
      with_reducible rfl
    try simp only [Act.put, List.setIfInBounds_toArray, List.set_cons_zero, List.set_cons_succ]
    refine wpAnyH_take (i := 6) (v := ?_) rfl (by kernel_rfl) (by kernel_rfl) (by kernel_rfl) (fun _ _ _ h => h) (Or.inl ⟨by rfl, ?_⟩) hSa ?_
    rotate_left
    · intro w hSw
      obtain k0 := hSw
      go_simp
      with_reducible rfl
    try simp only [Act.put, List.setIfInBounds_toArray, List.set_cons_zero, List.set_cons_succ]
    refine wpAnyH_take (i := 7) (v := ?_) rfl (by kernel_rfl) (by kernel_rfl) (by kernel_rfl) (fun _ _ _ h => h) (Or.inl ⟨by rfl, ?_⟩) hSa ?_
    rotate_left
    · intro w hSw
      obtain k0 := hSw
      go_simp
      with_reducible rfl
    try simp only [Act.put, List.setIfInBounds_toArray, List.set_cons_zero, List.set_cons_succ]
    refine wpAnyH_ready (rs := [4]) (by kernel_rfl) (by simp) ?_
    refine AllReadyH.cons rfl (fun K hK => ?_) AllReadyH.nil
    go_simp
    refine hK.out _ _ hSa (fun _ => ?_)
    clear hK K
    try simp only [Act.put, List.setIfInBounds_toArray, List.set_cons_zero, List.set_cons_succ]
    refine wpAnyH_ready (rs := [8]) (by kernel_rfl) (by simp) ?_
    refine AllReadyH.cons rfl (fun K hK => ?_) AllReadyH.nil
    go_simp
    go_at_call 37
    with_reducible refine (HDel.out _ hdr).mono ?_
    rintro e w2 ⟨rfl, hown, hT⟩
    obtain ⟨y0, y3, y4⟩ := HQ.out _ w2 hdr hT
    have hSb : (fun U : World => U.cell? ⟨w.heap.size, 0, none⟩ = some (.pointer (some ⟨q, 0, none⟩))) w2 := y0
    refine hK.out _ _ hSb (fun _ => ?_)
    clear hK K
    try simp only [Act.put, List.setIfInBounds_toArray, List.set_cons_zero, List.set_cons_succ]
    refine wpAnyH_take (i := 9) (v := ?_) rfl (by kernel_rfl) (by kernel_rfl) (by kernel_rfl) (fun _ _ _ h => h) (Or.inl ⟨by rfl, ?_⟩) hSb ?_
    rotate_left
    · intro w hSw
      obtain k0 := hSw
      go_simp
      with_reducible rfl
    try simp only [Act.put, List.setIfInBounds_toArray, List.set_cons_zero, List.set_cons_succ]
    refine wpAnyH_take (i := 10) (v := ?_) rfl (by kernel_rfl) (by kernel_rfl) (by kernel_rfl) (fun _ _ _ h => h) (Or.inl ⟨by rfl, ?_⟩) hSb ?_
    rotate_left
    · intro w hSw
      obtain k0 := hSw
      go_simp
      with_reducible rfl
    try simp only [Act.put, List.setIfInBounds_toArray, List.set_cons_zero, List.set_cons_succ]
    refine wpAnyH_ready (rs := [11]) (by kernel_rfl) (by simp) ?_
    refine AllReadyH.cons rfl (fun K hK => ?_) AllReadyH.nil
    go_simp
    have hSc : (fun U : World => U.cell? ⟨w.heap.size, 0, none⟩ = some (.pointer (some ⟨q, 0, none⟩))) (w2.setCell ⟨q, 3, none⟩ (.slice (some ⟨L.sb, 0, none⟩) f' L.sc)) := by
      show World.cell? _ _ = _
      rw [World.cell?_setCell_far _ _ _ _ hqw]
      exact y0
    refine hK.out _ _ hSc (fun _ => ?_)
    clear hK K
    try simp only [Act.put, List.setIfInBounds_toArray, List.set_cons_zero, List.set_cons_succ]
    refine wpAnyH_done (by kernel_rfl) ?_ _
    gi_wp2
    have hP3 := HP.out w2 hT hown
    have hT3 : Turned (fun k => k = L.sb ∨ k = q) V (w2.setCell ⟨q, 3, none⟩ (.slice (some ⟨L.sb, 0, none⟩) f' L.sc)) := ((Turned.refl _ V).drew.trans (hT.mono (fun _ _ e => .inl e))).setCell (p := ⟨q, 3, none⟩) (.inl (.inr rfl)) _
    obtain ⟨V3, hV3⟩ : ∃ V3, w2.setCell ⟨q, 3, none⟩ (.slice (some ⟨L.sb, 0, none⟩) f' L.sc) = V3 := ⟨_, rfl⟩
    rw [hV3] at hP3 hT3 hSc ⊢
    have hfar : ∀ i, ¬ (w.heap.size + i = L.sb ∨ w.heap.size + i = q) := fun i => by omega
    have x1 : V3.cell? ⟨w.heap.size + 1, 0, none⟩ = some (.int .i64 n) := (hT3.cell (p := ⟨w.heap.size + 1, 0, none⟩) (cell_lt hcn) (hfar 1)).trans hcn
    have x2 : V3.cell? ⟨w.heap.size + 2, 0, none⟩ = some (.int .i64 0) := (hT3.cell (p := ⟨w.heap.size + 2, 0, none⟩) (cell_lt hc2) (hfar 2)).trans hc2
    have x3 : V3.cell? ⟨w.heap.size + 3, 0, none⟩ = some (.int .i64 0) := (hT3.cell (p := ⟨w.heap.size + 3, 0, none⟩) (cell_lt hc3) (hfar 3)).trans hc3
    have xq : V3.cell? ⟨q, 2, none⟩ = some (.slice (some ⟨L.eb, 0, none⟩) m L.ec) := by rw [HMM.out]; exact hP3.hd.cell rfl
    have hSd : (fun U : World => U.cell? ⟨w.heap.size, 0, none⟩ = some (.pointer (some ⟨q, 0, none⟩)) ∧ U.cell? ⟨q, 2, none⟩ = some (.slice (some ⟨L.eb, 0, none⟩) m L.ec) ∧ U.cell? ⟨w.heap.size + 1, 0, none⟩ = some (.int .i64 n)) V3.drew := ⟨hSc, xq, x1⟩
    have HP3 := Lib.hid hP3
    have HT3 := Lib.hid hT3
    clear hV3 hSc hSb hSa y0 y3 y4 hown hT hdr p1 p3 pg hP3 hT3 HDel HQ HP
    refine region_round (S := (fun U : World => U.cell? ⟨w.heap.size, 0, none⟩ = some (.pointer (some ⟨q, 0, none⟩)) ∧ U.cell? ⟨q, 2, none⟩ = some (.slice (some ⟨L.eb, 0, none⟩) m L.ec) ∧ U.cell? ⟨w.heap.size + 1, 0, none⟩ = some (.int .i64 n))) (by kernel_rfl) (by rintro ⟨_, _, h⟩; exact h) (by kernel_rfl) ?_
    refine wpAnyH_take (i := 0) (v := ?_) rfl (by kernel_rfl) (by kernel_rfl) (by kernel_rfl) (fun _ _ _ h => h) (Or.inl ⟨by rfl, ?_⟩) hSd ?_
    rotate_left
    · intro w hSw
      obtain ⟨k0, k1, k2⟩ := hSw
      go_simp
      with_reducible rfl
    try simp only [Act.put, List.setIfInBounds_toArray, List.set_cons_zero, List.set_cons_succ]
    refine wpAnyH_take (i := 1) (v := ?_) rfl (by kernel_rfl) (by kernel_rfl) (by kernel_rfl) (fun _ _ _ h => h) (Or.inl ⟨by rfl, ?_⟩) hSd ?_
    rotate_left
    · intro w hSw
      obtain ⟨k0, k1, k2⟩ := hSw
      go_simp
      with_reducible rfl
    try simp only [Act.put, List.setIfInBounds_toArray, List.set_cons_zero, List.set_cons_succ]
    refine wpAnyH_take (i := 2) (v := ?_) rfl (by kernel_rfl) (by kernel_rfl) (by kernel_rfl) (fun _ _ _ h => h) (Or.inl ⟨by rfl, ?_⟩) hSd ?_
    rotate_left
    · intro w hSw
      obtain ⟨k0, k1, k2⟩ := hSw
      go_simp
      with_reducible rfl
    try simp only [Act.put, List.setIfInBounds_toArray, List.set_cons_zero, List.set_cons_succ]
    refine wpAnyH_take (i := 3) (v := ?_) rfl (by kernel_rfl) (by kernel_rfl) (by kernel_rfl) (fun _ _ _ h => h) (Or.inl ⟨by rfl, ?_⟩) hSd ?_
    rotate_left
    · intro w hSw
      obtain ⟨k0, k1, k2⟩ := hSw
      go_simp
      with_reducible rfl
    try simp only [Act.put, List.setIfInBounds_toArray, List.set_cons_zero, List.set_cons_succ]
    refine wpAnyH_take (i := 4) (v := ?_) rfl (by kernel_rfl) (by kernel_rfl) (by kernel_rfl) (fun _ _ _ h => h) (Or.inl ⟨by rfl, ?_⟩) hSd ?_
    rotate_left
    · intro w hSw
      obtain ⟨k0, k1, k2⟩ := hSw
      go_simp
      with_reducible rfl
    try simp only [Act.put, List.setIfInBounds_toArray, List.set_cons_zero, List.set_cons_succ]
    refine wpAnyH_take (i := 5) (v := ?_) rfl (by kernel_rfl) (by kernel_rfl) (by kernel_rfl) (fun _ _ _ h => h) (Or.inl ⟨by rfl, ?_⟩) hSd ?_
    rotate_left
    · intro w hSw
      obtain ⟨k0, k1, k2⟩ := hSw
      go_simp
      with_reducible rfl
    try simp only [Act.put, List.setIfInBounds_toArray, List.set_cons_zero, List.set_cons_succ]
    refine wpAnyH_take (i := 6) (v := ?_) rfl (by kernel_rfl) (by kernel_rfl) (by kernel_rfl) (fun _ _ _ h => h) (Or.inl ⟨by rfl, ?_⟩) hSd ?_
    rotate_left
    · intro w hSw
      obtain ⟨k0, k1, k2⟩ := hSw
      go_simp
      with_reducible rfl
    try simp only [Act.put, List.setIfInBounds_toArray, List.set_cons_zero, List.set_cons_succ]
    refine wpAnyH_ready (rs := [7]) (by kernel_rfl) (by simp) ?_
    refine AllReadyH.cons rfl (fun K hK => ?_) AllReadyH.nil
    go_simp
    go_at_call 38
    with_reducible refine (HBg.out _ (HP3.out.still (Turned.refl _ V3).drew)).mono ?_
    rintro e w4 ⟨⟨v, rfl⟩, hP4, hT4⟩
    have hfar4 : ∀ i, ¬ W (w.heap.size + i) := fun i hi => by have := HWQ.out _ hi; omega
    have z0 : w4.cell? ⟨w.heap.size, 0, none⟩ = some (.pointer (some ⟨q, 0, none⟩)) := (hT4.cell (p := ⟨w.heap.size, 0, none⟩) (cell_lt hSd.1) (hfar4 0)).trans hSd.1
    have z1 : w4.cell? ⟨w.heap.size + 1, 0, none⟩ = some (.int .i64 n) := (hT4.cell (p := ⟨w.heap.size + 1, 0, none⟩) (cell_lt hSd.2.2) (hfar4 1)).trans hSd.2.2
    have z2 : w4.cell? ⟨w.heap.size + 2, 0, none⟩ = some (.int .i64 0) := (hT4.cell (p := ⟨w.heap.size + 2, 0, none⟩) (cell_lt x2) (hfar4 2)).trans x2
    have z3 : w4.cell? ⟨w.heap.size + 3, 0, none⟩ = some (.int .i64 0) := (hT4.cell (p := ⟨w.heap.size + 3, 0, none⟩) (cell_lt x3) (hfar4 3)).trans x3
    have zq : w4.cell? ⟨q, 2, none⟩ = some (.slice (some ⟨L.eb, 0, none⟩) m L.ec) := by rw [HMM.out]; have := hP4.hd.cell (o := 2) rfl; simpa using this
    have hSe : (fun U : World => U.cell? ⟨w.heap.size, 0, none⟩ = some (.pointer (some ⟨q, 0, none⟩)) ∧ U.cell? ⟨q, 2, none⟩ = some (.slice (some ⟨L.eb, 0, none⟩) m L.ec) ∧ U.cell? ⟨w.heap.size + 1, 0, none⟩ = some (.int .i64 n)) w4 := ⟨z0, zq, z1⟩
    have HP4 := Lib.hid hP4
    have HT4 := Lib.hid hT4
    clear hP4 hT4
    refine hK.out _ _ hSe (fun _ => ?_)
    clear hK K
    try simp only [Act.put, List.setIfInBounds_toArray, List.set_cons_zero, List.set_cons_succ]
    refine wpAnyH_done (by kernel_rfl) ?_ _
    have f2 : w4.frozen? ⟨w.heap.size + 2, 0, none⟩ = false := (HT4.out.frozen (p := ⟨w.heap.size + 2, 0, none⟩) (cell_lt x2) (hfar4 2)).trans ((HT3.out.frozen (p := ⟨w.heap.size + 2, 0, none⟩) (cell_lt hc2) (hfar 2)).trans hf2)
    have f3 : w4.frozen? ⟨w.heap.size + 3, 0, none⟩ = false := (HT4.out.frozen (p := ⟨w.heap.size + 3, 0, none⟩) (cell_lt x3) (hfar4 3)).trans ((HT3.out.frozen (p := ⟨w.heap.size + 3, 0, none⟩) (cell_lt hc3) (hfar 3)).trans hf3)
    clear hSe hSd x1 x2 x3 xq z0 z1 zq hg1 hg2 hxal hxa0 hn0 hn1
    gi_wp2
    have hW3 : Turned W V V3 := HT3.out.mono (fun i _ e => e.elim (fun e => by subst e; exact HH.out.st.1) (fun e => by subst e; exact HH.out.fix _ (.inl rfl)))
    have hTW : Turned W V w4 := hW3.trans ((Turned.refl W V3).drew.trans HT4.out)
    have hT5 : Turned (fun i => i = w.heap.size + 2 ∨ i = w.heap.size + 3) w4 ((w4.setCell ⟨w.heap.size + 2, 0, none⟩ (.int .i64 ((s.g : Int) * 128 + (xs : Int) + 1))).setCell ⟨w.heap.size + 3, 0, none⟩ (.int .i64 0)) :=
      ((Turned.refl _ _).setCell (p := ⟨w.heap.size + 2, 0, none⟩) (.inl (.inl rfl)) _).setCell (p := ⟨w.heap.size + 3, 0, none⟩) (.inl (.inr rfl)) _
    have hTot : Turned (fun i => W i ∨ i = w.heap.size + 2 ∨ i = w.heap.size + 3) V ((w4.setCell ⟨w.heap.size + 2, 0, none⟩ (.int .i64 ((s.g : Int) * 128 + (xs : Int) + 1))).setCell ⟨w.heap.size + 3, 0, none⟩ (.int .i64 0)) :=
      (hTW.mono (fun _ _ h => .inl h)).trans (hT5.mono (fun _ _ h => .inr h))
    obtain ⟨q2, q3⟩ := two_set (V := w4) (b2 := w.heap.size + 2) (b3 := w.heap.size + 3) (a := .int .i64 ((s.g : Int) * 128 + (xs : Int) + 1)) (b := .int .i64 0) z2 z3 (by omega)
    have hPE : PIn w4 W q L (M.takeAt x.1.1 x.1.2 n) := by
      have := HP4.out
      rw [HXS.out, HXA.out] at this
      unfold PM.takeAt
      rw [HSS.out]
      exact this
    refine ⟨keepsFrom_turned hTot (fun k hk => ?_), rfl, x, rfl, ?_, q3, hPE.turned hT5 (fun k hk e => ?_), (HST.out.mono (fun _ _ h => h.elim)).past hTot (fun i hi => ?_)⟩
    · rw [hsz2]
      rcases hk with hk | hk | hk
      · have := HWQ.out k hk; omega
      · omega
      · omega
    · rw [← HXS.out, show (M.sl[xs]?.getD ⟨0, 0, []⟩).g = s.g by rw [HXS.out, HSS.out]; rfl]
      exact q2
    · have := HWQ.out k hk; omega
    · rcases hi with hi | hi | hi
      · exact .inl hi
      · exact .inr (by omega)
      · exact .inr (by omega)
  case done =>
    rintro D ys V hD rfl ⟨⟨hp, hcw, hcn, hc2, hc3, hf2, hf3⟩, hB⟩ hK
    have h0 : fl = 0 := by
      have := bkTo_len M.fr.reverse fl (by rw [← HFL.out]; exact Nat.le_refl _)
      rw [hp] at this
      exact this.symm
    have hfr : M.fr = [] := List.eq_nil_of_length_eq_zero (by rw [← HFL2.out]; exact h0)
    obtain ⟨t1, t2, t3⟩ := take_none (n := n) hfr (by rw [← HSZ.out]; omega)
    have hT0 : Turned (fun i => i = w.heap.size + 2 ∨ i = w.heap.size + 3) V ((V.setCell ⟨w.heap.size + 2, 0, none⟩ (.int .i64 0)).setCell ⟨w.heap.size + 3, 0, none⟩ (.int .i64 50)) :=
      ((Turned.refl _ _).setCell (p := ⟨w.heap.size + 2, 0, none⟩) (.inl (.inl rfl)) _).setCell (p := ⟨w.heap.size + 3, 0, none⟩) (.inl (.inr rfl)) _
    have hK2 : ((V.setCell ⟨w.heap.size + 2, 0, none⟩ (.int .i64 0)).setCell ⟨w.heap.size + 3, 0, none⟩ (.int .i64 50)).heap[D]? = some (.deferred (some [])) := by
      rw [Below.heap_setCell _ _ _ _ (by simp; omega), Below.heap_setCell _ _ _ _ (by simp; omega)]
      exact hK
    obtain ⟨q2, q3⟩ := two_set (V := V) (b2 := w.heap.size + 2) (b3 := w.heap.size + 3) (a := .int .i64 0) (b := .int .i64 50) hc2 hc3 (by omega)
    have u2 := cell_kept q2 (grownBy_putObj' _ D (.deferred none)) (fun r e => by cases e; exact ⟨_, hK2, rfl⟩)
    have u3 := cell_kept q3 (grownBy_putObj' _ D (.deferred none)) (fun r e => by cases e; exact ⟨_, hK2, rfl⟩)
    have hT : Turned (· = D) ((V.setCell ⟨w.heap.size + 2, 0, none⟩ (.int .i64 0)).setCell ⟨w.heap.size + 3, 0, none⟩ (.int .i64 50)) (World.putObj _ D (.deferred none)) := (Turned.refl _ _).grown (grownBy_putObj' _ D _) (fun k e => by cases e; exact .inl rfl)
    have HG : Hid (Goes (pT q (M.takeM n)) W w (((V.setCell ⟨w.heap.size + 2, 0, none⟩ (.int .i64 0)).setCell ⟨w.heap.size + 3, 0, none⟩ (.int .i64 50)).putObj D (.deferred none))) := Lib.hid (by
      rw [t1]
      exact pT_still HH.out (((below_turned hB (Nat.le_refl _)).past hT0 (fun i hi => .inr (by omega))).past hT (fun i hi => .inr (by omega))))
    have HT2 := Lib.hid t2
    have HT3 := Lib.hid t3
    have HK2 := Lib.hid hK2
    clear t1 t2 t3 q2 q3 hT hT0 hK2 hn0 hn1
    gi_wp2
    refine ⟨by simp, .inl ⟨_, _, rfl, run_takeDeferred HK2.out, ?_⟩⟩
    refine ⟨.tuple #[.int .i64 0, .int .i64 50], ?_, by rw [HT2.out, HT3.out], HG.out⟩
    rw [results_cell2 rfl]
    go_simp
  case stop =>
    rintro D c pre V hD hpre ⟨rfl, x, rfl, e3, e4, e5, e6⟩ hK
    obtain ⟨j1, j2⟩ := bkTo_one (by rw [← HFL.out]; exact hpre)
    obtain ⟨t1, t2, t3⟩ := takeAt_last x.2 j1 j2 (n := n) (by rw [← HSZ.out]; omega)
    have hDw : w.heap.size ≤ D := by omega
    have hT : Turned (· = D) V (V.putObj D (.deferred none)) := (Turned.refl _ _).grown (grownBy_putObj' V D _) (fun k e => by cases e; exact .inl rfl)
    have u3 := cell_kept e3 (grownBy_putObj' V D (.deferred none)) (fun r e => by cases e; exact ⟨_, hK, rfl⟩)
    have u4 := cell_kept e4 (grownBy_putObj' V D (.deferred none)) (fun r e => by cases e; exact ⟨_, hK, rfl⟩)
    have HG : Hid (Goes (pT q (M.takeM n)) W w (V.putObj D (.deferred none))) := Lib.hid (by
      rw [← t1]
      exact pT_goes (e5.turned hT (fun k hk e => by have := HWQ.out k hk; omega)) (e6.past hT (fun i e => .inr (by omega))) (fun k hk => .inl hk))
    have HT2 := Lib.hid t2
    have HT3 := Lib.hid t3
    obtain ⟨th, hth⟩ : ∃ th, th = ((M.sl[x.1.2]?.getD ⟨0, 0, []⟩).g : Int) * 128 + (x.1.2 : Nat) + 1 := ⟨_, rfl⟩
    rw [← hth] at HT2 u3
    clear t1 t2 t3 e3 e4 e5 e6 hn0 hn1 hth
    gi_wp2
    refine ⟨by simp, .inl ⟨_, _, rfl, run_takeDeferred hK, ?_⟩⟩
    refine ⟨.tuple #[.int .i64 th, .int .i64 0], ?_, by rw [HT2.out, HT3.out], HG.out⟩
    rw [results_cell2 rfl]
    go_simp

theorem take_any {w : World} {W : Nat → Prop} {q : Nat} {M : PM} {N : Nat} (H0 : (pT q M).at_ w W) (hM : M.Ok N) (hN : N < 1000000) (n : Int) :
    Calls Try.prog 14 #[.pointer (some ⟨q, 0, none⟩), .int .i64 n] w fun e w' => e = .returned (.tuple #[.int .i64 (M.takeH n), .int .i64 (M.takeE n)]) ∧ Goes (pT q (M.takeM n)) W w w' := by
  obtain ⟨L, H⟩ := H0
  by_cases h : n < 0 ∨ (M.size : Int) < n
  · refine ((callsIn_wide (n := 3)).1 (take_early Fence.wide rfl H hM n h _ rfl)).mono ?_
    rintro e w' ⟨rfl, hs⟩
    refine ⟨?_, ?_⟩
    · rw [show M.takeH n = 0 by unfold PM.takeH; rw [if_pos h]]
      have : M.takeE n = if n < 0 then 2 else 3 := by
        unfold PM.takeE
        by_cases h0 : n < 0
        · rw [if_pos h0, if_pos h0]
        · rw [if_neg h0, if_neg h0, if_pos (by omega)]
      rw [this]
    · rw [show M.takeM n = M by unfold PM.takeM; rw [if_pos h]]
      exact pT_still H hs
  · obtain ⟨k, rfl⟩ : ∃ k : Nat, n = k := ⟨n.toNat, by omega⟩
    exact (callsIn_wide (n := 3)).1 (take_loop Fence.wide rfl H hM hN k (by omega))
end Go.Proofs.Ytinfckoaphgmkaa
