/- What All of the program's list hands out. No condition but that it is one. -/
import Derived.Test.YtepdnclojjeepaaMbEach
import Derived.Test.YtepdnclojjeepaaHandT
import Derived.Maps.OwnIn
namespace Go.Proofs.Ytepdnclojjeepaa
open Go.RowKit Go.Shelf
attribute [local go_sem] Oper.semAt_some
set_option linter.unusedVariables false
set_option linter.unusedSimpArgs false
set_option maxRecDepth 100000

set_option maxHeartbeats 2000000 in
theorem mball_any {q K : Nat} {M : MbM} {w : World} {W : Nat → Prop} (h : (mbT q M).at_ w W) (hM : M.Ok K) (n : Nat) (hn : n = M.memb.length) :
    Calls Try.prog 23 #[.pointer (some ⟨q, 0, none⟩)] w (OutNums w (intsN M.memb) n) := by
  obtain ⟨g, h⟩ := h
  obtain ⟨i0, hi, hz0, hz1, hz2⟩ := info_parts infoIntW
  have HIt := Lib.hid (mbmembers_it (q := q) (g := g) hM w.heap.size.succ).all
  have hn64 : n ≤ 16 := by rw [hn]; exact membN_len M 16
  obtain ⟨R, hR⟩ : ∃ R, R = intsN M.memb := ⟨_, rfl⟩
  have hRn : R.length = n := by rw [hR, hn, intsN_len]
  have HEl := Lib.hid (fun (k : Nat) (z : Nat × Nat) (hz : (evM M)[k]? = some z) => show R[k]? = some ((z.1 : Nat) : Int) from by
    rw [hR]; unfold intsN; rw [List.getElem?_map, (evM_some hz).1]; rfl)
  obtain ⟨W1, hW1⟩ : ∃ W1, W1 = w.alloc (.cells #[.slice none 0 0] 35) := ⟨_, rfl⟩
  have hs1 : Still w W1 := by rw [hW1]; exact (Turned.refl _ _).alloc _
  have hb1 : Blk W1 w.heap.size [.slice none 0 0] 35 := by rw [hW1]; exact Blk.new w [.slice none 0 0] 35
  have hz1' : W1.heap.size = w.heap.size + 1 := by rw [hW1]; simp
  have hx1 : (mbX q g M).at_ W1 W := (mbX q g M).keep h hs1 (fun _ _ h => h)
  have hSl := (mbX q g M).lt h
  have HE := Lib.hid (mbmembers_any (some ⟨q, 0, none⟩) W1)
  have HR := Lib.hid (evMb_new hx1)
  have ht2 : Still W1 (W1.alloc (.cells #[.pointer (some ⟨q, 0, none⟩)] 23)) := (Turned.refl _ _).alloc _
  have HB := Lib.hid (show (handT w.heap.size w.heap.size (R.take 0)).at_ (W1.alloc (.cells #[.pointer (some ⟨q, 0, none⟩)] 23)) (fun k => k = w.heap.size ∨ (Value.slice none 0 0).ownBlock = some k) from
    ⟨none, 0, hb1.turned ht2 (fun h => h), World.ownsRow_nil _ _ _ _, by simp [Value.ownBlock], fun _ => Iff.rfl⟩)
  have hD' : ∀ k, k = w.heap.size ∨ (Value.slice none 0 0).ownBlock = some k → k = w.heap.size := fun k hk => hk.elim id (fun hk => by simp [Value.ownBlock] at hk)
  have HD := Lib.hid (show ∀ k, (k = w.heap.size ∨ (Value.slice none 0 0).ownBlock = some k) → ¬ (k = W1.heap.size ∨ W k) from by
    intro k hk0
    obtain rfl := hD' k hk0
    rintro (hk | hk)
    · omega
    · have := hSl _ hk; omega)
  have HSt := Lib.hid (hs1.trans ht2)
  have HD2 := Lib.hid hD'
  have HAll := Lib.hid (show R.take (evM M).length = R from by rw [evM_length, ← hn, ← hRn, List.take_length])
  have HZ1 := Lib.hid hz1'
  have HRn := Lib.hid hRn
  have HLk := Lib.hid (fun k => show (R.take k).length ≤ 16 from by rw [List.length_take]; omega)
  rw [show w.heap.size.succ = W1.heap.size from hz1'.symm] at HIt
  rw [← hR]
  clear h hM hSl ht2 hb1 hz1' hD' hx1 hR hRn hn
  refine (callsIn_wide (n := 9)).1 (callsIn_of_wp_marks Try.func23 rfl trivial ?_ rfl)
  simp only [Try.ntmps23, List.size_toArray, List.length_cons, List.length_nil, Nat.reduceAdd, Nat.reduceSub, Array.replicate_succ, Array.replicate_zero, List.push_toArray, List.append_toArray, List.nil_append, List.cons_append]
  have hf1 : Fence.wide.fn 36 := trivial
  gi_wp2_with (gi_at_call 36; rw [← hW1]; ((with_reducible refine (callsIn_wide.2 HE.out).mono ?_)); rintro e w2 ⟨rfl, rfl⟩)
  rw [← hW1, show w.heap.size + 1 = W1.heap.size from HZ1.out.symm]
  clear hW1
  refine loopT_outerE rfl (enters_of Try.func37 (by kernel_rfl) rfl) HIt.out (by exact fun _ => rfl) (fun k => handT w.heap.size w.heap.size (R.take k)) HR.out HB.out HD.out ?_ ?_
  · rintro ⟨y, z⟩
    apply Exists.intro
    apply And.intro
    · intro l1 V K hK
      dsimp only [encM]
      gi_wp2
      exact hK
    · intro l1 k V Q' hr hl1 hx hI hQl hsk
      have hyx := HEl.out _ _ hx
      obtain ⟨u, hu⟩ : ∃ u : Int, u = ((y : Nat) : Int) := ⟨_, rfl⟩
      dsimp only at hyx
      rw [← hu] at hyx
      rw [← hu]
      have HSm := Lib.hid (take_step hyx)
      have hln := HLk.out k
      obtain ⟨a, c, hB, hrow, hne, hQ⟩ := hI
      have cc := hB.cell (o := 0) rfl
      have HF := Lib.hid (fun V' (hg : Goes (handT w.heap.size w.heap.size (R.take k ++ [u])) Q' V V') => show Goes (handT w.heap.size w.heap.size (R.take (k + 1))) Q' V V' from by
        rw [HSm.out]; exact hg)
      have HAp := Lib.hid (fun w6 a' c' o hown hg hat => hand_app (b0 := w.heap.size) (w6 := w6) (a' := a') (c' := c') (o := o) (x := u) rfl hB hne hQ hown hg hat)
      have HRow := Lib.hid hrow
      have hsz : w.heap.size ≤ V.heap.size + 1 := by
        have := hsk.turn.size
        have := HSt.out.size
        omega
      obtain ⟨m, hm⟩ : ∃ m, m = (R.take k).length := ⟨_, rfl⟩
      rw [← hm] at HAp HRow cc hln
      clear hr hl1 hx hQl hsk hB hQ hyx hrow hne hm hu
      gi_wp2_with (gi_at_builtin; refine wpListIn_append_own_at _ rfl _ _ 35 rfl w.heap.size 3 i0 (.int .i64 0) 1 8 Try.underlying35 hi hz0 hz1 hz2 rfl (by decide) _ _ _ rfl (HRow.out.alloc _) ⟨V.heap.size, 0, none⟩ 1 1 [.int .i64 u] rfl rfl (cell_one_new _ _ _) (by simp [Value.oneCell']) (by unfold maxLen; omega) (by omega) (by simp; omega) ?_; intro v' w6 hown6 hg6 _ hat6; obtain ⟨a6, c6, rfl⟩ := ow_slice hown6; obtain ⟨hc6, hf6, HG6⟩ := HAp.out w6 a6 c6 _ hown6 hg6 hat6; clear hown6 hg6 hat6)
      exact HF.out _ HG6.out
  · intro D V Q' hD hK hQD hI hsk
    rw [HAll.out] at hI
    obtain ⟨a, c, hB, hrow, hne, hQ⟩ := hI
    have cc := hB.cell (o := 0) rfl
    rw [HRn.out] at cc
    have hD1 : w.heap.size ≤ D := Nat.le_trans HSt.out.size hD
    have hT0 : Turned (fun k => w.heap.size ≤ k) w V := (HSt.out.mono (fun _ _ h => h.elim)).trans (hsk.turn.mono (fun k _ h => by have := HD2.out k h; omega))
    have hp := putObj_since (.deferred none) (Array.getElem?_eq_some_iff.1 hK).1
    have HP := Lib.hid (show OutNums w R n (.returned (.slice a n c)) (V.putObj D (.deferred none)) from by
      rw [HRn.out] at hrow hQ
      refine ⟨a, c, rfl, ow_turned hrow hp (fun b hb e => ?_), ?_⟩
      · obtain rfl := e
        exact hQD ((hQ _).2 (.inr hb))
      · exact (hT0.trans (hp.mono (fun k _ e => by rw [e]; exact hD1))).mono (fun k hk hh => by omega))
    clear hB hrow hne hQ hT0 hsk hp
    gi_wp2
    refine ⟨by simp, .inl ⟨_, _, rfl, run_takeDeferred hK, ?_⟩⟩
    refine ⟨_, results_tmp rfl _ _ _, ?_⟩
    exact HP.out
end Go.Proofs.Ytepdnclojjeepaa
