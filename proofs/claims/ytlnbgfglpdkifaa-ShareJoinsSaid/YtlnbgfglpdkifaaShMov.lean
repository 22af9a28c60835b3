/- Moved of the program's shares: the places that somebody had, and another one has now. No condition but that each place is told of once now. -/
import Derived.Test.YtlnbgfglpdkifaaShOf
namespace Go.Proofs.Ytlnbgfglpdkifaa
open Go.RowKit Go.Shelf
attribute [local go_sem] Oper.semAt_some
set_option linter.unusedVariables false
set_option linter.unusedSimpArgs false
set_option maxRecDepth 100000

theorem movedI_step {was os : List Own} {k : Nat} {o : Own} (h : os[k]? = some o) : movedI was (os.take (k + 1)) = movedI was (os.take k) ++ if 0 ≤ hadI was o.1 ∧ hadI was o.1 ≠ o.2 then [o.1] else [] := by
  have e : os.take (k + 1) = os.take k ++ [o] := by rw [List.take_add_one, h]; rfl
  unfold movedI
  rw [e, List.filter_append, List.map_append, List.filter_cons, List.filter_nil]
  by_cases hx : 0 ≤ hadI was o.1 ∧ hadI was o.1 ≠ o.2
  · rw [if_pos hx, if_pos (by simpa using hx)]; rfl
  · rw [if_neg hx, if_neg (by simpa using hx)]; rfl
theorem movedI_le (was os : List Own) : (movedI was os).length ≤ os.length := by
  unfold movedI; rw [List.length_map]; exact List.length_filter_le _ _

set_option maxHeartbeats 4000000 in
theorem shmov_any (w : World) (ao bo : Option Addr) (was os : List Own) (m n c c0 r : Nat) (hm : m = was.length) (hn : n = os.length) (hm1 : m ≤ 1000) (hn1 : n ≤ 1000) (hA : OwAt w ao was) (h : OwAt w bo os) (hnd : (os.map (·.1)).Nodup) (hr : r = (movedI was os).length) :
    Calls Try.prog 13 #[.slice ao m c0, .slice bo n c] w fun e w' => ∃ a cc, e = .returned (.slice a r cc) ∧ PlAt w' a (movedI was os) ∧ Still w w' := by
  obtain ⟨i0, hi, hz0, hz1, hz2⟩ := info_parts infoPlH
  have HBy := Lib.hid (shby_any w ao m c0 was hm hm1 hA)
  have hfr := frs_all hnd
  have HCt := Lib.hid (fun (W1 : World) => shcount_it bo n c os hn hn1 W1.heap.size)
  rw [hfr] at HCt
  have HE := Lib.hid (fun W1 => shcount_any bo n c W1)
  have HO := Lib.hid h
  have HAll := Lib.hid (show movedI was (os.take os.length) = movedI was os from by rw [List.take_length])
  have HRl := Lib.hid hr
  have HLk := Lib.hid (fun k => show (movedI was (os.take k)).length ≤ 1000 from by
    have := movedI_le was (os.take k)
    rw [List.length_take] at this
    omega)
  clear hA h hm hn hfr hnd hr
  refine (callsIn_wide (n := 9)).1 (callsIn_of_wp_marks Try.func13 rfl trivial ?_ rfl)
  simp only [Try.ntmps13, List.size_toArray, List.length_cons, List.length_nil, Nat.reduceAdd, Nat.reduceSub, Array.replicate_succ, Array.replicate_zero, List.push_toArray, List.append_toArray, List.nil_append, List.cons_append]
  have hf1 : Fence.wide.fn 25 := trivial
  have hf2 : Fence.wide.fn 26 := trivial
  gi_wp2_with (first
    | (gi_at_call 26; ((with_reducible refine (callsIn_wide.2 HBy.out).mono ?_)); rintro e w1 ⟨mb, rfl, hlo, hmf, hs1⟩; have HLo := Lib.hid hlo; have HMf := Lib.hid hmf; have HS1 := Lib.hid hs1; clear hlo hmf hs1)
    | (gi_at_call 25; ((with_reducible refine (callsIn_wide.2 (HE.out _)).mono ?_)); rintro e w2 ⟨rfl, rfl⟩))
  obtain ⟨W1, hW1⟩ : ∃ W1, W1 = (w1.alloc (.cells #[.map (some mb)] 56)).alloc (.cells #[.slice none 0 0] 23) := ⟨_, rfl⟩
  obtain ⟨Bm, hBm⟩ : ∃ b, b = w1.heap.size := ⟨_, rfl⟩
  obtain ⟨B, hB⟩ : ∃ b, b = w1.heap.size + 1 := ⟨_, rfl⟩
  have hs1 : Still w1 W1 := by rw [hW1]; exact ((Turned.refl _ _).alloc _).alloc _
  have hz1' : W1.heap.size = B + 1 := by rw [hW1, hB]; simp
  have hbx : Blk W1 Bm [.map (some mb)] 56 := by rw [hW1, hBm]; exact (Blk.new w1 [.map (some mb)] 56).alloc _
  have hbb : Blk W1 B [.slice none 0 0] 23 := by
    have := Blk.new (w1.alloc (.cells #[.map (some mb)] 56)) [.slice none 0 0] 23
    rw [World.size_alloc] at this
    rw [hW1, hB]; exact this
  have hmlt := HMf.out.lt
  have hr1 := row_still (row_still HO.out HS1.out) hs1
  have HR := Lib.hid (evO_new (n := n) (c := c) hr1)
  have HIt := Lib.hid (HCt.out W1)
  have ht2 : Still W1 (W1.alloc (.cells #[.slice bo n c] 24)) := (Turned.refl _ _).alloc _
  have HBs := Lib.hid (show ((shHand w.heap.size B (movedI was (os.take 0))).sep (boxM plV 56 Bm mb (whoF was))).at_ (W1.alloc (.cells #[.slice bo n c] 24)) (fun k => (k = B ∨ (Value.slice none 0 0).ownBlock = some k) ∨ (k = Bm ∨ k = mb)) from
    ⟨fun k => k = B ∨ (Value.slice none 0 0).ownBlock = some k, fun k => k = Bm ∨ k = mb, ⟨none, 0, hbb.turned ht2 (fun h => h), World.ownsRow_nil _ _ _ _, by simp [Value.ownBlock], fun _ => Iff.rfl⟩,
      ⟨(· = Bm), (· = mb), ⟨hbx.turned ht2 (fun h => h), fun _ => Iff.rfl⟩, ⟨HMf.out.keep (hs1.trans ht2) (fun h => h), fun _ => Iff.rfl⟩, fun k e1 e2 => by omega, fun _ => Iff.rfl⟩, fun k hk e => by
      rcases hk with hk | hk
      · omega
      · simp [Value.ownBlock] at hk, fun _ => Iff.rfl⟩)
  have hD' : ∀ k, ((k = B ∨ (Value.slice none 0 0).ownBlock = some k) ∨ (k = Bm ∨ k = mb)) → k = B ∨ k = Bm ∨ k = mb := fun k hk => by
    rcases hk with (hk | hk) | hk
    · exact .inl hk
    · simp [Value.ownBlock] at hk
    · exact .inr hk
  have hlo := HLo.out
  have hsz1 := HS1.out.size
  have HD := Lib.hid (show ∀ k, ((k = B ∨ (Value.slice none 0 0).ownBlock = some k) ∨ (k = Bm ∨ k = mb)) → ¬ (k = W1.heap.size ∨ (os ≠ [] ∧ ∃ x, bo = some x ∧ x.block = k)) from by
    intro k hk hk2
    have hk := hD' k hk
    rcases hk2 with hk2 | hk2
    · omega
    · have := own_lt HO.out hk2; omega)
  have HD2 := Lib.hid (show ∀ k, ((k = B ∨ (Value.slice none 0 0).ownBlock = some k) ∨ (k = Bm ∨ k = mb)) → w.heap.size ≤ k from fun k hk => by
    have := hD' k hk; omega)
  have HSt := Lib.hid ((HS1.out.trans hs1).trans ht2)
  have HNe := Lib.hid (show Bm ≠ mb from by omega)
  rw [← hW1, ← hB, ← hBm, show B + 1 = W1.heap.size from hz1'.symm]
  clear hW1 hBm hB hs1 hz1' hbx hbb hmlt hr1 ht2 hD' hlo hsz1
  refine loopA_outer rfl (enters_of Try.func31 (by kernel_rfl) rfl) HIt.out (by exact fun _ => rfl) (fun k => (shHand w.heap.size B (movedI was (os.take k))).sep (boxM plV 56 Bm mb (whoF was))) (fun _ => noT) HR.out HBs.out HD.out ?_ ?_ ?_
  · rintro ⟨⟨p1, p2⟩, z⟩ y k V Q' hr hl1 hx hI hQl hsk
    obtain ⟨rr, hrr⟩ := hr
    have hyV : y < V.heap.size := (Array.getElem?_eq_some_iff.1 hrr).1
    have hVb := Blk.new V [.int .i64 p1, .int .i64 p2, .int .i64 z] 34
    have HBw := Lib.hid (fun W2 (hT2 : Turned (· = y) (V.alloc (.cells #[.int .i64 p1, .int .i64 p2, .int .i64 z] 34)) W2) => show Blk W2 V.heap.size [.int .i64 p1, .int .i64 p2, .int .i64 z] 34 from hVb.turned hT2 (by omega))
    have HI2 := Lib.hid (fun W2 (hT2 : Turned (· = y) (V.alloc (.cells #[.int .i64 p1, .int .i64 p2, .int .i64 z] 34)) W2) => show ((shHand w.heap.size B (movedI was (os.take k))).sep (boxM plV 56 Bm mb (whoF was))).at_ W2 Q' ∧ V.heap.size < W2.heap.size from
      ⟨Thing.keep _ (Thing.keep _ hI ((Turned.refl _ V).alloc _) (fun _ _ h => h)) hT2 (fun j hj e => hQl (e ▸ hj)), by have := hT2.size; rw [World.size_alloc] at this; omega⟩)
    have hsz : w.heap.size ≤ V.heap.size := by
      have := hsk.turn.size
      have := HSt.out.size
      omega
    have HSp := Lib.hid (movedI_step (was := was) hx)
    have hln := HLk.out k
    clear hl1 hx hI hQl hsk hVb hrr hyV
    dsimp only [encO16]
    gi_wp2
    refine ⟨(Turned.refl _ _).alloc _, fun W2 _ hT2 => ?_⟩
    obtain ⟨hI2, hlt2⟩ := HI2.out W2 hT2
    have hbw := HBw.out W2 hT2
    have q0 := hbw.cell (o := 0) rfl
    have q1 := hbw.cell (o := 1) rfl
    have q2 := hbw.cell (o := 2) rfl
    have hI3 := hI2
    obtain ⟨U1, h1, _, hgo⟩ := goes_fst hI2
    obtain ⟨_, ⟨h2, _⟩, _⟩ := (Sit.start hI2).snd.drop
    obtain ⟨_, ⟨h3, _⟩, _⟩ := (Sit.start hI2).snd.snd
    have cx := h2.cell (o := 0) rfl
    have hlk := MapF.look keysPl h3 (p1, p2) true
    rw [if_pos rfl] at hlk
    simp only [plV] at hlk
    have hwf := whoF_had was (p1, p2)
    have HNo := Lib.hid (fun (hno : ¬ (0 ≤ hadI was (p1, p2) ∧ hadI was (p1, p2) ≠ z)) => show Goes ((shHand w.heap.size B (movedI was (os.take (k + 1)))).sep (boxM plV 56 Bm mb (whoF was))) Q' W2 W2 from by
      rw [HSp.out, if_neg hno, List.append_nil]
      exact Goes.still hI3 (Turned.refl _ _))
    cases hwo : whoF was (p1, p2) with
    | none =>
      rw [hwo] at hlk hwf
      simp only [Option.getD_none, Option.isSome_none] at hlk
      have HF := Lib.hid (HNo.out (by rw [← hwf]; simp))
      clear hI3 h1 h2 h3 hbw hT2 hgo hwf
      gi_wp2
      exact HF.out
    | some v =>
      rw [hwo] at hlk hwf
      simp only [Option.getD_some, Option.isSome_some] at hlk
      have hwf2 : v = hadI was (p1, p2) := hwf
      by_cases hv0 : 0 ≤ v
      · by_cases hvz : v = z
        · have hvb : (v != z) = false := by simp [hvz]
          have HF := Lib.hid (HNo.out (by rw [← hwf2]; exact fun h => h.2 hvz))
          clear hI3 h1 h2 h3 hbw hT2 hgo hwf hwf2
          gi_wp2
          exact HF.out
        · have hvb : (v != z) = true := by simpa using hvz
          obtain ⟨a1, c1, hB, hrow, hne, hQ⟩ := h1
          have cc := hB.cell (o := 0) rfl
          have HF := Lib.hid (fun V' (hg : Goes (shHand w.heap.size B (movedI was (os.take k) ++ [(p1, p2)])) U1 W2 V') => show Goes ((shHand w.heap.size B (movedI was (os.take (k + 1)))).sep (boxM plV 56 Bm mb (whoF was))) Q' W2 V' from by
            rw [HSp.out, if_pos (by rw [← hwf2]; exact ⟨hv0, hvz⟩)]
            exact hgo _ _ hg)
          have HAp := Lib.hid (fun U hU w6 a' c' hown hg hat => sh_app (b0 := w.heap.size) (U := U) (w6 := w6) (a' := a') (c' := c') (x := (p1, p2)) rfl hB hne hQ hU hown hg hat)
          have HRow := Lib.hid hrow
          obtain ⟨m1, hm⟩ : ∃ m, m = (movedI was (os.take k)).length := ⟨_, rfl⟩
          rw [← hm] at HAp HRow cc hln
          have hsz2 : w.heap.size ≤ W2.heap.size := by omega
          clear hB hQ hrow hne hm hbw hT2 hI3 h2 h3 hgo hwf hwf2
          gi_wp2_with (gi_at_builtin; refine wpListIn_append_own_at _ rfl _ _ 23 rfl w.heap.size 32 i0 (.agg #[.int .i64 0, .int .i64 0]) 2 16 Try.underlying23 hi hz0 hz1 hz2 rfl (by decide) _ _ _ rfl (HRow.out.alloc _) ⟨W2.heap.size, 0, none⟩ 1 1 [.int .i64 p1, .int .i64 p2] rfl rfl (ow_cells W2 [.int .i64 p1, .int .i64 p2] 32) (ow_ints rfl) (by unfold maxLen; omega) (by omega) (by simp; omega) ?_; intro v' w6 hown6 hg6 _ hat6; obtain ⟨a6, c6, rfl⟩ := ow_slice hown6; obtain ⟨hc6, hf6, HG6⟩ := HAp.out _ ((Turned.refl _ _).alloc _) w6 a6 c6 hown6 hg6 hat6; clear hown6 hg6 hat6)
          exact HF.out _ HG6.out
      · have HF := Lib.hid (HNo.out (by rw [← hwf2]; exact fun h => hv0 h.1))
        clear hI3 h1 h2 h3 hbw hT2 hgo hwf hwf2
        gi_wp2
        exact HF.out
  · intro D V Q' hD hK hQD hI hsk
    rw [HAll.out] at hI
    obtain ⟨U1, U2, ⟨a1, c1, hB, hrow, hne, hQ1⟩, _, hdd, hQ⟩ := hI
    have cc := hB.cell (o := 0) rfl
    rw [← HRl.out] at cc
    have hD1 : w.heap.size ≤ D := Nat.le_trans HSt.out.size hD
    have hT0 : Turned (fun k => w.heap.size ≤ k) w V := (HSt.out.mono (fun _ _ h => h.elim)).trans (hsk.turn.mono (fun k _ h => HD2.out k h))
    have hp := putObj_since (.deferred none) (Array.getElem?_eq_some_iff.1 hK).1
    have HP := Lib.hid (show PlAt (V.putObj D (.deferred none)) a1 (movedI was os) ∧ Still w (V.putObj D (.deferred none)) from by
      refine ⟨RowAt.of_own encPl_len (ow_turned hrow hp (fun b hb e => ?_)) rfl, ?_⟩
      · obtain rfl := e
        exact hQD ((hQ _).2 (.inl ((hQ1 _).2 (.inr hb))))
      · exact (hT0.trans (hp.mono (fun k _ e => by rw [e]; exact hD1))).mono (fun k hk hh => by omega))
    clear hB hrow hne hQ hQ1 hdd hT0 hsk hp
    gi_wp2
    refine ⟨by simp, .inl ⟨_, _, rfl, run_takeDeferred hK, ?_⟩⟩
    refine ⟨_, results_tmp rfl _ _ _, ?_⟩
    exact ⟨a1, c1, rfl, HP.out⟩
  · intro D k V Q' hD hK hQD hk hI hsk
    exact hI.elim
end Go.Proofs.Ytlnbgfglpdkifaa
