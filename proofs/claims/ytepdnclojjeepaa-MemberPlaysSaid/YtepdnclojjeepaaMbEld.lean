/- What Eldest of the program's list answers. No condition but that it is one. -/
import Derived.Test.YtepdnclojjeepaaMbEach
import Derived.Test.YtepdnclojjeepaaHandT
namespace Go.Proofs.Ytepdnclojjeepaa
open Go.RowKit Go.Shelf
attribute [local go_sem] Oper.semAt_some
set_option linter.unusedVariables false
set_option linter.unusedSimpArgs false
set_option maxRecDepth 100000

/-- The eldest of the first k members: none yet, or the one with the least since. -/
def ElAt (M : MbM) (k e l : Nat) : Prop := (l = 0 ∧ e = 0 ∧ k = 0) ∨ (0 < l ∧ (∃ j : Nat, (evM M)[j]? = some (e, l)) ∧ ∀ (j : Nat) (z : Nat × Nat), j < k → (evM M)[j]? = some z → l ≤ z.2)
theorem el_new {M : MbM} {k e l : Nat} {z : Nat × Nat} (h : ElAt M k e l) (hz : (evM M)[k]? = some z) (hl : l = 0 ∨ z.2 < l) : ElAt M (k + 1) z.1 z.2 := by
  obtain ⟨_, _, _, h0⟩ := evM_some hz
  refine .inr ⟨h0, ⟨k, hz⟩, fun j y hj hy => ?_⟩
  rcases Nat.lt_succ_iff_lt_or_eq.1 hj with hj | rfl
  · rcases h with ⟨_, _, h⟩ | ⟨h1, _, h2⟩
    · omega
    · have := h2 j y hj hy; omega
  · rw [hz] at hy
    obtain rfl := Option.some.inj hy
    exact Nat.le_refl _
theorem el_stay {M : MbM} {k e l : Nat} {z : Nat × Nat} (h : ElAt M k e l) (hz : (evM M)[k]? = some z) (h0 : 0 < l) (hl : ¬ z.2 < l) : ElAt M (k + 1) e l := by
  rcases h with ⟨h, _⟩ | ⟨h1, h2, h3⟩
  · omega
  · refine .inr ⟨h1, h2, fun j y hj hy => ?_⟩
    rcases Nat.lt_succ_iff_lt_or_eq.1 hj with hj | rfl
    · exact h3 j y hj hy
    · rw [hz] at hy
      obtain rfl := Option.some.inj hy
      omega
theorem el_end {M : MbM} {K e l : Nat} (hM : M.Ok K) (h : ElAt M (evM M).length e l) : (l = 0 ∧ M.eldV = 0 ∧ M.eldE = 150) ∨ (0 < l ∧ M.eldV = e ∧ M.eldE = 0) := by
  rcases h with ⟨h1, _, h2⟩ | ⟨h1, ⟨j, hj⟩, h2⟩
  · refine .inl ⟨h1, eld_no ?_⟩
    rw [evM_length] at h2
    exact List.eq_nil_of_length_eq_zero h2
  · obtain ⟨_, e1, e2, e3⟩ := evM_some hj
    dsimp only at e1 e2 e3
    refine .inr ⟨h1, eld_is hM (by omega) (fun i hi => ?_)⟩
    have := evM_get M (at_lt hM hi) hi
    have := h2 _ _ (List.getElem?_eq_some_iff.1 this).1 this
    dsimp only at this
    omega

def elI (B1 B2 : Nat) (M : MbM) (k : Nat) : Thing where
  at_ w W := ∃ e l : Nat, ((blkT B1 [.int .i64 ((e : Nat) : Int)] 3).sep (blkT B2 [.int .i64 ((l : Nat) : Int)] 3)).at_ w W ∧ ElAt M k e l
  lt := by rintro w W ⟨e, l, h, _⟩; exact Thing.lt _ h
  keep := by rintro w w' W S ⟨e, l, h, h1⟩ ht hs; exact ⟨e, l, Thing.keep _ h ht hs, h1⟩

set_option maxHeartbeats 2000000 in
theorem mbeldest_any {q K : Nat} {M : MbM} {w : World} {W : Nat → Prop} (h : (mbT q M).at_ w W) (hM : M.Ok K) :
    Calls Try.prog 18 #[.pointer (some ⟨q, 0, none⟩)] w fun e w' => e = .returned (.tuple #[.int .i64 ((M.eldV : Nat) : Int), .int .i64 M.eldE]) ∧ Still w w' := by
  obtain ⟨g, h⟩ := h
  have HMd := Lib.hid (mbmade_any (mbX_rd hM h).c0)
  obtain ⟨W1, hW1⟩ : ∃ W1, W1 = (w.alloc (.cells #[.int .i64 0] 3)).alloc (.cells #[.int .i64 0] 3) := ⟨_, rfl⟩
  have hs1 : Still w W1 := by rw [hW1]; exact ((Turned.refl _ _).alloc _).alloc _
  have hz1 : W1.heap.size = w.heap.size + 2 := by rw [hW1]; simp
  have hb0 : Blk W1 w.heap.size [.int .i64 0] 3 := by rw [hW1]; exact (Blk.new w [.int .i64 0] 3).alloc _
  have hb1 : Blk W1 (w.heap.size + 1) [.int .i64 0] 3 := by
    rw [hW1]
    have := Blk.new (w.alloc (.cells #[.int .i64 0] 3)) [.int .i64 0] 3
    rwa [World.size_alloc] at this
  have HIt := Lib.hid (mbmembers_it (q := q) (g := g) hM W1.heap.size).all
  have HEnd := Lib.hid (fun e l (h : ElAt M (evM M).length e l) => el_end hM h)
  have hx1 : (mbX q g M).at_ W1 W := (mbX q g M).keep h hs1 (fun _ _ h => h)
  have hSl := (mbX q g M).lt h
  have HE := Lib.hid (mbmembers_any (some ⟨q, 0, none⟩) W1)
  have HR := Lib.hid (evMb_new hx1)
  have ht2 : Still W1 (W1.alloc (.cells #[.pointer (some ⟨q, 0, none⟩)] 23)) := (Turned.refl _ _).alloc _
  have HB := Lib.hid (show (elI w.heap.size (w.heap.size + 1) M 0).at_ (W1.alloc (.cells #[.pointer (some ⟨q, 0, none⟩)] 23)) (fun k => k = w.heap.size ∨ k = w.heap.size + 1) from
    ⟨0, 0, ⟨(· = w.heap.size), (· = w.heap.size + 1), ⟨hb0.turned ht2 (fun h => h), fun _ => Iff.rfl⟩, ⟨hb1.turned ht2 (fun h => h), fun _ => Iff.rfl⟩, fun k h1 h2 => by omega, fun _ => Iff.rfl⟩, .inl ⟨rfl, rfl, rfl⟩⟩)
  have HD := Lib.hid (show ∀ k, (k = w.heap.size ∨ k = w.heap.size + 1) → ¬ (k = W1.heap.size ∨ W k) from by
    rintro k h1 (hk | hk)
    · omega
    · have := hSl _ hk; omega)
  have HSt := Lib.hid (hs1.trans ht2)
  have HZ := Lib.hid (show w.heap.size + 2 ≤ (W1.alloc (.cells #[.pointer (some ⟨q, 0, none⟩)] 23)).heap.size from by rw [World.size_alloc]; omega)
  generalize M.eldV = ev at *
  generalize M.eldE = ee at *
  have HZ1 := Lib.hid hz1
  clear h hM hSl ht2 hb0 hb1 hx1 hz1 hs1
  refine (callsIn_wide (n := 9)).1 (callsIn_of_wp_marks Try.func18 rfl trivial ?_ rfl)
  simp only [Try.ntmps18, List.size_toArray, List.length_cons, List.length_nil, Nat.reduceAdd, Nat.reduceSub, Array.replicate_succ, Array.replicate_zero, List.push_toArray, List.append_toArray, List.nil_append, List.cons_append]
  have hf1 : Fence.wide.fn 36 := trivial
  have hf2 : Fence.wide.fn 30 := trivial
  gi_wp2_with (first
    | (gi_at_call 30; ((with_reducible refine (callsIn_wide.2 HMd.out).mono ?_)); rintro e w4 ⟨rfl, rfl⟩)
    | (gi_at_call 36; rw [← hW1]; ((with_reducible refine (callsIn_wide.2 HE.out).mono ?_)); rintro e w2 ⟨rfl, rfl⟩))
  rw [← hW1, show w.heap.size + 1 + 1 = W1.heap.size from by have := HZ1.out; omega]
  clear hW1
  refine loopT_outerE rfl (enters_of Try.func37 (by kernel_rfl) rfl) HIt.out (by exact fun _ => rfl) (elI w.heap.size (w.heap.size + 1) M) HR.out HB.out HD.out ?_ ?_
  · rintro ⟨y, z⟩
    apply Exists.intro
    apply And.intro
    · intro l1 V K hK
      dsimp only [encM]
      gi_wp2
      exact hK
    · intro l1 k V Q' hr hl1 hx hI hQl hsk
      obtain ⟨e, l, hbb, hE⟩ := hI
      have HBB := Lib.hid hbb
      obtain ⟨W2, W3, ⟨hB, hQ2⟩, ⟨hC, hQ3⟩, hdd, hQ⟩ := hbb
      have cB := hB.cell (o := 0) rfl
      have cF := hB.free 0
      have cC := hC.cell (o := 0) rfl
      have cG := hC.free 0
      have HG0 := Lib.hid (show (l = 0 ∨ z < l) → Goes (elI w.heap.size (w.heap.size + 1) M (k + 1)) Q' V ((V.setCell ⟨w.heap.size, 0, none⟩ (.int .i64 (y : Int))).setCell ⟨w.heap.size + 1, 0, none⟩ (.int .i64 (z : Int))) from fun hlz =>
        ⟨Q', ⟨y, z, ⟨W2, W3, ⟨by have := (hB.set 0 (.int .i64 (y : Int))).other (p := ⟨w.heap.size + 1, 0, none⟩) (show w.heap.size + 1 ≠ w.heap.size by omega) (.int .i64 (z : Int)); exact this, hQ2⟩,
          ⟨by have := (hC.other (p := ⟨w.heap.size, 0, none⟩) (show w.heap.size ≠ w.heap.size + 1 by omega) (.int .i64 (y : Int))).set 0 (.int .i64 (z : Int)); exact this, hQ3⟩, hdd, hQ⟩, el_new hE hx hlz⟩,
          ((Turned.refl _ V).setCell (p := ⟨w.heap.size, 0, none⟩) (.inl ((hQ _).2 (.inl ((hQ2 _).2 rfl)))) _).setCell (p := ⟨w.heap.size + 1, 0, none⟩) (.inl ((hQ _).2 (.inr ((hQ3 _).2 rfl)))) _, fun _ h => .inl h⟩)
      have cG2 : (V.setCell ⟨w.heap.size, 0, none⟩ (.int .i64 (y : Int))).frozen? ⟨w.heap.size + 1, 0, none⟩ = false := (hC.other (p := ⟨w.heap.size, 0, none⟩) (show w.heap.size ≠ w.heap.size + 1 by omega) (.int .i64 (y : Int))).free 0
      have cC2 : (V.setCell ⟨w.heap.size, 0, none⟩ (.int .i64 (y : Int))).cell? ⟨w.heap.size + 1, 0, none⟩ = some (.int .i64 (l : Int)) := (hC.other (p := ⟨w.heap.size, 0, none⟩) (show w.heap.size ≠ w.heap.size + 1 by omega) (.int .i64 (y : Int))).cell rfl
      by_cases hl0 : l = 0
      · subst hl0
        have HG := Lib.hid (HG0.out (.inl rfl))
        clear hr hl1 hx hQl hsk hB hQ hC hQ2 hQ3 hdd hE HG0 HBB
        gi_wp2
        exact HG.out
      · have hl1' : ((l : Int) == 0) = false := by simpa using hl0
        have hl2 : ¬ (l : Int) = 0 := by omega
        by_cases hzl : z < l
        · have HG := Lib.hid (HG0.out (.inr hzl))
          have hzi : (z : Int) < (l : Int) := by omega
          clear hr hl1 hx hQl hsk hB hQ hC hQ2 hQ3 hdd hE HG0 HBB hzl
          gi_wp2
          exact HG.out
        · have HG := Lib.hid (show Goes (elI w.heap.size (w.heap.size + 1) M (k + 1)) Q' V V from ⟨Q', ⟨e, l, HBB.out, el_stay hE hx (by omega) hzl⟩, Turned.refl _ _, fun _ h => .inl h⟩)
          have hzi : ¬ (z : Int) < (l : Int) := by omega
          clear hr hl1 hx hQl hsk hB hQ hC hQ2 hQ3 hdd hE HG0 HBB hzl
          gi_wp2
          exact HG.out
  · intro D V Q' hD hK hQD hI hsk
    obtain ⟨e, l, ⟨W2, W3, ⟨hB, hQ2⟩, ⟨hC, hQ3⟩, hdd, hQ⟩, hE⟩ := hI
    have cB := hB.cell (o := 0) rfl
    have cC := hC.cell (o := 0) rfl
    have hE' := HEnd.out _ _ hE
    have hp := putObj_since (.deferred none) (Array.getElem?_eq_some_iff.1 hK).1
    have HS := Lib.hid (show Still w (V.putObj D (.deferred none)) from by
      have hT0 : Turned (fun k => w.heap.size ≤ k) w V := (HSt.out.mono (fun _ _ h => h.elim)).trans (hsk.turn.mono (fun k _ h => by omega))
      have := HZ.out
      exact (hT0.trans (hp.mono (fun k _ e => by omega))).mono (fun k hk hh => by omega))
    clear hB hC hQ hdd hQ2 hQ3 hE hQD hsk hp
    rcases hE' with ⟨rfl, rfl, rfl⟩ | ⟨hl0, rfl, rfl⟩
    · gi_wp2
      refine ⟨by simp, .inl ⟨_, _, rfl, run_takeDeferred hK, ?_⟩⟩
      refine ⟨_, results_tmp2 rfl _ _ _, ?_⟩
      exact ⟨rfl, HS.out⟩
    · have hl1' : ((l : Int) == 0) = false := by simp; omega
      have hl2 : ¬ (l : Int) = 0 := by omega
      gi_wp2
      refine ⟨by simp, .inl ⟨_, _, rfl, run_takeDeferred hK, ?_⟩⟩
      refine ⟨_, results_tmp2 rfl _ _ _, ?_⟩
      exact ⟨rfl, HS.out⟩
end Go.Proofs.Ytepdnclojjeepaa
