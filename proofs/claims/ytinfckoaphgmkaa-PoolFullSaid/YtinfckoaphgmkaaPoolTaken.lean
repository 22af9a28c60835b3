/- What finds a live slot among those of the program's pool, and what finds a handle's slot. No condition but that the pool is one. -/
import Derived.Test.YtinfckoaphgmkaaPoolLive
namespace Go.Proofs.Ytinfckoaphgmkaa
open Go.RowKit Go.Shelf
attribute [local go_sem] Oper.semAt_some
set_option linter.unusedVariables false
set_option linter.unusedSimpArgs false
set_option maxRecDepth 100000

/-- The live slot of a number. -/
def tkV (eb m : Nat) (cs : List Nat) (k : Int) : Value :=
  .pointer (if 0 ≤ k ∧ k < m ∧ cs[k.toNat]?.getD 0 ≠ 0 then some ⟨eb, k.toNat * 3, none⟩ else none)

theorem tkV_in {eb m : Nat} {cs : List Nat} {k : Int} {x : SlotOf m} (hx : (x.1 : Int) = k) (hm : x ∈ lvTo cs m m) : tkV eb m cs k = .pointer (some ⟨eb, x.1 * 3, none⟩) := by
  subst hx
  obtain ⟨h1, h2⟩ := lvTo_mem.1 hm
  unfold tkV
  rw [if_pos ⟨by omega, by omega, by simpa using h2⟩, Int.toNat_natCast]
theorem tkV_out {eb m : Nat} {cs : List Nat} {k : Int} (h : ∀ y ∈ lvTo cs m m, (y.1 : Int) ≠ k) : tkV eb m cs k = .pointer none := by
  unfold tkV
  rw [if_neg]
  rintro ⟨h1, h2, h3⟩
  exact h ⟨k.toNat, by omega⟩ (lvTo_mem.2 ⟨by show k.toNat < m; omega, h3⟩) (by show ((k.toNat : Nat) : Int) = k; omega)

set_option maxHeartbeats 1000000 in
theorem taken_in (F : Fence) (n : Nat) (h4 : F.fn 47) (h5 : F.fn 53) (h6 : F.fn 56) (h7 : F.fn 34) (hro : F.round = none) (hn : 3 ≤ n) (q eb ec m : Nat) (cs : List Nat) (hm : m = cs.length) (hst : m ≤ 128) (k : Int) (w : World) (hL : CntAt w q eb ec cs) (hq : q < w.heap.size) (he : eb < w.heap.size) :
    CallsIn F n Try.prog 47 #[.pointer (some ⟨q, 0, none⟩), .int .i64 k] w fun e W' => e = .returned (tkV eb m cs k) ∧ Below w.heap.size w W' := by
  have h1 : 1 ≤ n := by omega
  have HL := Lib.hid hL
  clear hL
  refine callsIn_of_wp_marks Try.func47 rfl h4 ?_ hro
  simp only [Try.ntmps47, List.size_toArray, List.length_cons, List.length_nil, Nat.reduceAdd, Nat.reduceSub, Array.replicate_succ, Array.replicate_zero, List.push_toArray, List.append_toArray, List.nil_append, List.cons_append]
  gi_wp2_with (gi_at_call 53; refine (live_in F (n - 1) h5 hro _ _).mono ?_; rintro e w' ⟨rfl, rfl⟩)
  have c0 := cnew w (.int .i64 k) 3
  have c1 := cnew (w.alloc (.cells #[.int .i64 k] 3)) (.pointer none) 75
  have c2 := cnew ((w.alloc (.cells #[.int .i64 k] 3)).alloc (.cells #[.pointer none] 75)) (.pointer (some ⟨q, 0, none⟩)) 23
  simp only [World.size_alloc] at c1 c2
  have hB0 : Below w.heap.size w (((w.alloc (.cells #[.int .i64 k] 3)).alloc (.cells #[.pointer none] 75)).alloc (.cells #[.pointer (some ⟨q, 0, none⟩)] 23)) := (((Below.refl _ w).alloc (Nat.le_refl _) _).alloc (by simp) _).alloc (by simp; omega) _
  have hA := HL.out.below hB0 hq he
  refine wpIn_rangeFunc_ownF hro h1 (gf := 56) (lb := #[.pointer (some ⟨w.heap.size + 1 + 1, 0, none⟩)]) rfl h6 (enters_of Try.func56 (by kernel_rfl) rfl)
    (live_stops F (n - 1) h6 h7 hro (by omega) (w.heap.size + 1 + 1) (w.heap.size + 3) q eb ec m cs _ hm hst (by omega) (by omega) (by omega) (by simp) c2.1 hA) belowK_t (belowK_b (by simp)) (Below.refl _ _) (fun _ => rfl)
    (fun pre W => ((∀ y ∈ pre, (y.1 : Int) ≠ k) ∧ W.cell? ⟨w.heap.size, 0, none⟩ = some (.int .i64 k) ∧ W.cell? ⟨w.heap.size + 1, 0, none⟩ = some (.pointer none) ∧ W.frozen? ⟨w.heap.size + 1, 0, none⟩ = false) ∧ Below w.heap.size w W)
    (fun c pre W => (c = .ret ∧ (∃ x ∈ pre, (x.1 : Int) = k ∧ W.cell? ⟨w.heap.size + 1, 0, none⟩ = some (.pointer (some ⟨eb, x.1 * 3, none⟩)))) ∧ Below w.heap.size w W)
    (OwnFrom.and (Own.from (fun s A B row hs hg hr => ⟨hs.1, cell_kept hs.2.1 hg hr, cell_kept hs.2.2.1 hg hr, (frozen_kept hs.2.2.1 hg hr).trans hs.2.2.2⟩) _) (ownFrom_below (Nat.le_refl _) (by simp; omega)))
    (fun c => OwnFrom.and (Own.from (fun s A B row hs hg hr => ⟨hs.1, by obtain ⟨x, x1, x2, x3⟩ := hs.2; exact ⟨x, x1, x2, cell_kept x3 hg hr⟩⟩) _) (ownFrom_below (Nat.le_refl _) (by simp; omega)))
    ⟨⟨by simp, calloc _ (calloc _ c0.1), calloc _ c1.1, falloc _ c1.1 c1.2⟩, hB0⟩
    (fun x => { tmps := #[.pointer (some ⟨q, 0, none⟩), .int .i64 k, undef, .pointer (some ⟨w.heap.size, 0, none⟩), .pointer (some ⟨w.heap.size + 1, 0, none⟩), .pointer (some ⟨eb, x.1 * 3, none⟩), .pointer (some ⟨q, 0, none⟩), .func (.func 56) #[] #[.pointer (some ⟨w.heap.size + 1 + 1, 0, none⟩)], .pointer (some ⟨eb, x.1 * 3, none⟩), undef, undef, undef, undef, undef, undef, undef], defers := [] }) ?assign ?body ?done ?stop
  case assign =>
    intro l x W K hK
    gi_wp2
    exact hK
  case body =>
    rintro l pre x W ⟨⟨hp, hcw, hcr, hfr⟩, hB⟩ hlt
    have cx : W.cell? ⟨eb, x.1 * 3, none⟩ = some (.int .i64 (x.1 : Nat)) := (HL.out.below hB hq he).c0 x.1 (hm ▸ x.2)
    have hmx : Try.prog.follows .mixedOrders = true := by kernel_rfl
    gi_wp2
    gi_region_o
    all_goals gi_wp2
    all_goals first
      | (rename_i hx
         have hx' := eq_of_beq hx
         exact ⟨(KeepsOthers.setCell _ _ _).trans (KeepsOthers.drew _), ⟨rfl, x, List.mem_append.2 (.inr (by simp)), hx', World.cell?_setCell_same' _ _ _ (by rw [hcr]; rfl)⟩, (hB.setCell (p := ⟨w.heap.size + 1, 0, none⟩) (by simp) _).drew⟩)
      | (rename_i hx
         have hx' := ne_of_beq_false hx
         exact ⟨KeepsOthers.drew _, (Below.refl _ _).drew, ⟨fun y hy => (List.mem_append.1 hy).elim (hp y) (fun e => by simp at e; subst e; exact hx'), hcw, hcr, hfr⟩, hB.drew⟩)
  case done =>
    rintro D ys W hD rfl ⟨⟨hne, _, hcr, hfr⟩, hB⟩ hK
    gi_wp2
    have hK' := (KeepsOthers.setCell W ⟨w.heap.size + 1, 0, none⟩ (.pointer none)).same D _ hK rfl
    refine ⟨by simp, .inl ⟨_, _, rfl, run_takeDeferred hK', ?_⟩⟩
    have hc5 := cell_kept (World.cell?_setCell_same' W ⟨w.heap.size + 1, 0, none⟩ (.pointer none) (by rw [hcr]; rfl)) (grownBy_putObj' _ D (.deferred none)) (fun r e => by cases e; exact ⟨_, hK', rfl⟩)
    refine ⟨.pointer none, ?_, by rw [tkV_out hne], (hB.setCell (p := ⟨w.heap.size + 1, 0, none⟩) (by simp) _).trans (belowK_b (w := w) (Nat.le_refl _) _ D _ _ (by simp at hD; omega) hK' rfl rfl)⟩
    simp [results, Try.f47, go_sem, hc5]
  case stop =>
    rintro D c pre W hD hpre ⟨⟨rfl, x, hx, hxk, hcr⟩, hB⟩ hK
    gi_wp2
    refine ⟨by simp, .inl ⟨_, _, rfl, run_takeDeferred hK, ?_⟩⟩
    have hc5 := cell_kept hcr (grownBy_putObj' _ D (.deferred none)) (fun r e => by cases e; exact ⟨_, hK, rfl⟩)
    refine ⟨.pointer (some ⟨eb, x.1 * 3, none⟩), ?_, by rw [tkV_in hxk (hpre.subset hx)], hB.trans (belowK_b (w := w) (Nat.le_refl _) W D _ _ (by simp at hD; omega) hK rfl rfl)⟩
    simp [results, Try.f47, go_sem, hc5]
end Go.Proofs.Ytinfckoaphgmkaa
