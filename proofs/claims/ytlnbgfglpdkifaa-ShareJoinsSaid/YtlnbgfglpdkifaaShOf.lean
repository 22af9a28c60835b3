/- Of of the program's shares: the places that an id has. No condition but that each place is told of once. -/
import Derived.Test.YtlnbgfglpdkifaaShBy
import Derived.Test.YtlnbgfglpdkifaaShHand
namespace Go.Proofs.Ytlnbgfglpdkifaa
open Go.RowKit Go.Shelf
attribute [local go_sem] Oper.semAt_some
set_option linter.unusedVariables false
set_option linter.unusedSimpArgs false
set_option maxRecDepth 100000

theorem ofI_step {os : List Own} {k : Nat} {o : Own} (h : os[k]? = some o) (x : Int) : ofI (os.take (k + 1)) x = ofI (os.take k) x ++ if o.2 = x then [o.1] else [] := by
  have e : os.take (k + 1) = os.take k ++ [o] := by rw [List.take_add_one, h]; rfl
  unfold ofI
  rw [e, List.filter_append, List.map_append, List.filter_cons, List.filter_nil]
  by_cases hx : o.2 = x
  · rw [if_pos hx, if_pos (by simpa using hx)]; rfl
  · rw [if_neg hx, if_neg (by simpa using hx)]; rfl
theorem ofI_le (os : List Own) (x : Int) : (ofI os x).length ≤ os.length := by
  unfold ofI; rw [List.length_map]; exact List.length_filter_le _ _

set_option maxHeartbeats 4000000 in
theorem shof_any (w : World) (ao : Option Addr) (os : List Own) (n c r : Nat) (x : Int) (hn : n = os.length) (hn1 : n ≤ 1000) (h : OwAt w ao os) (hnd : (os.map (·.1)).Nodup) (hr : r = (ofI os x).length) :
    Calls Try.prog 16 #[.slice ao n c, .int .i64 x] w fun e w' => ∃ a cc, e = .returned (.slice a r cc) ∧ PlAt w' a (ofI os x) ∧ Still w w' := by
  obtain ⟨i0, hi, hz0, hz1, hz2⟩ := info_parts infoPlH
  obtain ⟨Bx, hBx⟩ : ∃ b, b = w.heap.size := ⟨_, rfl⟩
  obtain ⟨B, hB⟩ : ∃ b, b = w.heap.size + 1 := ⟨_, rfl⟩
  obtain ⟨W1, hW1⟩ : ∃ W1, W1 = (w.alloc (.cells #[.int .i64 x] 3)).alloc (.cells #[.slice none 0 0] 23) := ⟨_, rfl⟩
  have hs1 : Still w W1 := by rw [hW1]; exact ((Turned.refl _ _).alloc _).alloc _
  have hz1' : W1.heap.size = B + 1 := by rw [hW1, hB]; simp
  have hbx : Blk W1 Bx [.int .i64 x] 3 := by rw [hW1, hBx]; exact (Blk.new w [.int .i64 x] 3).alloc _
  have hbb : Blk W1 B [.slice none 0 0] 23 := by
    have := Blk.new (w.alloc (.cells #[.int .i64 x] 3)) [.slice none 0 0] 23
    rw [World.size_alloc] at this
    rw [hW1, hB]; exact this
  have hfr := frs_all hnd
  have HIt0 := shcount_it ao n c os hn hn1 W1.heap.size
  rw [hfr] at HIt0
  have HIt := Lib.hid HIt0
  have HE := Lib.hid (shcount_any ao n c W1)
  have hr1 := row_still h hs1
  have HR := Lib.hid (evO_new (n := n) (c := c) hr1)
  have ht2 : Still W1 (W1.alloc (.cells #[.slice ao n c] 24)) := (Turned.refl _ _).alloc _
  have HBs := Lib.hid (show ((shHand w.heap.size B (ofI (os.take 0) x)).sep (blkT Bx [.int .i64 x] 3)).at_ (W1.alloc (.cells #[.slice ao n c] 24)) (fun k => (k = B ∨ (Value.slice none 0 0).ownBlock = some k) ∨ k = Bx) from
    ⟨fun k => k = B ∨ (Value.slice none 0 0).ownBlock = some k, (· = Bx), ⟨none, 0, hbb.turned ht2 (fun h => h), World.ownsRow_nil _ _ _ _, by simp [Value.ownBlock], fun _ => Iff.rfl⟩, ⟨hbx.turned ht2 (fun h => h), fun _ => Iff.rfl⟩, fun k hk e => by
      rcases hk with hk | hk
      · omega
      · simp [Value.ownBlock] at hk, fun _ => Iff.rfl⟩)
  have hD' : ∀ k, ((k = B ∨ (Value.slice none 0 0).ownBlock = some k) ∨ k = Bx) → k = B ∨ k = Bx := fun k hk => by
    rcases hk with (hk | hk) | hk
    · exact .inl hk
    · simp [Value.ownBlock] at hk
    · exact .inr hk
  have HD := Lib.hid (show ∀ k, ((k = B ∨ (Value.slice none 0 0).ownBlock = some k) ∨ k = Bx) → ¬ (k = W1.heap.size ∨ (os ≠ [] ∧ ∃ x, ao = some x ∧ x.block = k)) from by
    intro k hk hk2
    have hk := hD' k hk
    rcases hk2 with hk2 | hk2
    · omega
    · have := own_lt h hk2; omega)
  have HD2 := Lib.hid hD'
  have HSt := Lib.hid (hs1.trans ht2)
  have HZ := Lib.hid hz1'
  have HAll := Lib.hid (show ofI (os.take os.length) x = ofI os x from by rw [List.take_length])
  have HRl := Lib.hid hr
  have HLk := Lib.hid (fun k => show (ofI (os.take k) x).length ≤ 1000 from by
    have := ofI_le (os.take k) x
    rw [List.length_take] at this
    omega)
  have HBx' := Lib.hid hBx
  have HB' := Lib.hid hB
  clear h hr1 ht2 hbx hbb hs1 hn hz1' hfr HIt0 hnd hr hD'
  refine (callsIn_wide (n := 9)).1 (callsIn_of_wp_marks Try.func16 rfl trivial ?_ rfl)
  simp only [Try.ntmps16, List.size_toArray, List.length_cons, List.length_nil, Nat.reduceAdd, Nat.reduceSub, Array.replicate_succ, Array.replicate_zero, List.push_toArray, List.append_toArray, List.nil_append, List.cons_append]
  have hf1 : Fence.wide.fn 25 := trivial
  clear hBx hB
  gi_wp2_with (gi_at_call 25; rw [← hW1]; ((with_reducible refine (callsIn_wide.2 HE.out).mono ?_)); rintro e w2 ⟨rfl, rfl⟩)
  rw [← hW1, ← HB'.out, ← HBx'.out, show B + 1 = W1.heap.size from HZ.out.symm]
  clear hW1
  refine loopA_outer rfl (enters_of Try.func31 (by kernel_rfl) rfl) HIt.out (by exact fun _ => rfl) (fun k => (shHand w.heap.size B (ofI (os.take k) x)).sep (blkT Bx [.int .i64 x] 3)) (fun _ => noT) HR.out HBs.out HD.out ?_ ?_ ?_
  · rintro ⟨⟨p1, p2⟩, z⟩ y k V Q' hr hl1 hx hI hQl hsk
    obtain ⟨rr, hrr⟩ := hr
    have hyV : y < V.heap.size := (Array.getElem?_eq_some_iff.1 hrr).1
    have hVb := Blk.new V [.int .i64 p1, .int .i64 p2, .int .i64 z] 34
    have HBw := Lib.hid (fun W2 (hT2 : Turned (· = y) (V.alloc (.cells #[.int .i64 p1, .int .i64 p2, .int .i64 z] 34)) W2) => show Blk W2 V.heap.size [.int .i64 p1, .int .i64 p2, .int .i64 z] 34 from hVb.turned hT2 (by omega))
    have HI2 := Lib.hid (fun W2 (hT2 : Turned (· = y) (V.alloc (.cells #[.int .i64 p1, .int .i64 p2, .int .i64 z] 34)) W2) => show ((shHand w.heap.size B (ofI (os.take k) x)).sep (blkT Bx [.int .i64 x] 3)).at_ W2 Q' ∧ V.heap.size < W2.heap.size from
      ⟨Thing.keep _ (Thing.keep _ hI ((Turned.refl _ V).alloc _) (fun _ _ h => h)) hT2 (fun j hj e => hQl (e ▸ hj)), by have := hT2.size; rw [World.size_alloc] at this; omega⟩)
    have hsz : w.heap.size ≤ V.heap.size := by
      have := hsk.turn.size
      have := HSt.out.size
      omega
    have HSp := Lib.hid (ofI_step hx x)
    have hln := HLk.out k
    clear hl1 hx hI hQl hsk hVb hrr hyV
    dsimp only [encO16]
    gi_wp2
    refine ⟨(Turned.refl _ _).alloc _, fun W2 _ hT2 => ?_⟩
    obtain ⟨hI2, hlt2⟩ := HI2.out W2 hT2
    have hbw := HBw.out W2 hT2
    have q0 := hbw.cell (o := 0) rfl
    have q1 := hbw.cell (o := 1) rfl
    have q2 := hbw.cell (o := 2) rfl
    have hI3 := hI2
    obtain ⟨U1, h1, _, hgo⟩ := goes_fst hI2
    obtain ⟨_, ⟨h2, _⟩, _⟩ := (Sit.start hI2).snd
    have cx := h2.cell (o := 0) rfl
    by_cases hzx : z = x
    · subst hzx
      obtain ⟨a1, c1, hB, hrow, hne, hQ⟩ := h1
      have cc := hB.cell (o := 0) rfl
      have HF := Lib.hid (fun V' (hg : Goes (shHand w.heap.size B (ofI (os.take k) z ++ [(p1, p2)])) U1 W2 V') => show Goes ((shHand w.heap.size B (ofI (os.take (k + 1)) z)).sep (blkT Bx [.int .i64 z] 3)) Q' W2 V' from by
        rw [HSp.out, if_pos rfl]
        exact hgo _ _ hg)
      have HAp := Lib.hid (fun U hU w6 a' c' hown hg hat => sh_app (b0 := w.heap.size) (U := U) (w6 := w6) (a' := a') (c' := c') (x := (p1, p2)) rfl hB hne hQ hU hown hg hat)
      have HRow := Lib.hid hrow
      obtain ⟨m, hm⟩ : ∃ m, m = (ofI (os.take k) z).length := ⟨_, rfl⟩
      rw [← hm] at HAp HRow cc hln
      have hsz2 : w.heap.size ≤ W2.heap.size := by omega
      clear hB hQ hrow hne hm hbw hT2 hI3 h2 hgo
      gi_wp2_with (gi_at_builtin; refine wpListIn_append_own_at _ rfl _ _ 23 rfl w.heap.size 32 i0 (.agg #[.int .i64 0, .int .i64 0]) 2 16 Try.underlying23 hi hz0 hz1 hz2 rfl (by decide) _ _ _ rfl (HRow.out.alloc _) ⟨W2.heap.size, 0, none⟩ 1 1 [.int .i64 p1, .int .i64 p2] rfl rfl (ow_cells W2 [.int .i64 p1, .int .i64 p2] 32) (ow_ints rfl) (by unfold maxLen; omega) (by omega) (by simp; omega) ?_; intro v' w6 hown6 hg6 _ hat6; obtain ⟨a6, c6, rfl⟩ := ow_slice hown6; obtain ⟨hc6, hf6, HG6⟩ := HAp.out _ ((Turned.refl _ _).alloc _) w6 a6 c6 hown6 hg6 hat6; clear hown6 hg6 hat6)
      exact HF.out _ HG6.out
    · have hzb : (z == x) = false := by rw [beq_eq_false_iff_ne]; exact hzx
      have HF := Lib.hid (show Goes ((shHand w.heap.size B (ofI (os.take (k + 1)) x)).sep (blkT Bx [.int .i64 x] 3)) Q' W2 W2 from by
        rw [HSp.out, if_neg hzx, List.append_nil]
        exact Goes.still hI3 (Turned.refl _ _))
      clear hI3 h1 h2 hbw hT2 hgo
      gi_wp2
      exact HF.out
  · intro D V Q' hD hK hQD hI hsk
    rw [HAll.out] at hI
    obtain ⟨U1, U2, ⟨a1, c1, hB, hrow, hne, hQ1⟩, _, hdd, hQ⟩ := hI
    have cc := hB.cell (o := 0) rfl
    rw [← HRl.out] at cc
    have hz2 := HZ.out
    have hz3 := HB'.out
    have hz4 := HBx'.out
    have hD1 : w.heap.size ≤ D := Nat.le_trans HSt.out.size hD
    have hT0 : Turned (fun k => w.heap.size ≤ k) w V := (HSt.out.mono (fun _ _ h => h.elim)).trans (hsk.turn.mono (fun k _ h => by have := HD2.out k h; omega))
    have hp := putObj_since (.deferred none) (Array.getElem?_eq_some_iff.1 hK).1
    have HP := Lib.hid (show PlAt (V.putObj D (.deferred none)) a1 (ofI os x) ∧ Still w (V.putObj D (.deferred none)) from by
      refine ⟨RowAt.of_own encPl_len (ow_turned hrow hp (fun b hb e => ?_)) rfl, ?_⟩
      · obtain rfl := e
        exact hQD ((hQ _).2 (.inl ((hQ1 _).2 (.inr hb))))
      · exact (hT0.trans (hp.mono (fun k _ e => by rw [e]; exact hD1))).mono (fun k hk hh => by omega))
    clear hB hrow hne hQ hQ1 hdd hT0 hsk hp hz2 hz3 hz4
    gi_wp2
    refine ⟨by simp, .inl ⟨_, _, rfl, run_takeDeferred hK, ?_⟩⟩
    refine ⟨_, results_tmp rfl _ _ _, ?_⟩
    exact ⟨a1, c1, rfl, HP.out⟩
  · intro D k V Q' hD hK hQD hk hI hsk
    exact hI.elim
end Go.Proofs.Ytlnbgfglpdkifaa
