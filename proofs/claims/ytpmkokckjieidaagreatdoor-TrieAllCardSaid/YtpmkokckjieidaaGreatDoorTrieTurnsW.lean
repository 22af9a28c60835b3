/- The walk of TrieTurns. No condition but the words wanted of the program's calls. -/
import Derived.Test.YtpmkokckjieidaaGreatDoorTrieTurnMath
namespace Go.Proofs.YtpmkokckjieidaaGreatDoor
open Go.RowKit
set_option linter.unusedVariables false
set_option linter.unusedSimpArgs false
set_option maxRecDepth 100000

theorem ext100 {s : ByteArray} {m y : Nat} (hm : s.size = m) (hy : y = min m 100) : s.extract 0 y = ⟨(s.data.toList.take 100).toArray⟩ := by
  have hl : s.data.toList.length = m := by rw [← hm]; rfl
  have e : s.data.toList.take 100 = s.data.toList.take y := by
    rw [hy, List.take_eq_take_iff]; omega
  rw [e]
  obtain ⟨l, hl2⟩ : ∃ l : Txt, s = ⟨l.toArray⟩ := ⟨s.data.toList, by simp⟩
  rw [hl2, ByteArray.extract_mk]; simp
theorem actL_front {l : List A10} {k : Nat} {j : Nat} {u : Value} (h : (rowOf encA10 (l.take k))[j]? = some u) : (rowOf encA10 l)[j]? = some u := by
  have e : rowOf encA10 l = rowOf encA10 (l.take k) ++ rowOf encA10 (l.drop k) := by rw [← rowOf_append, List.take_append_drop]
  rw [e, List.getElem?_append_left (get_lt h)]; exact h
theorem actL_back {l : List A10} {k : Nat} (hk : k ≤ l.length) {j : Nat} {u : Value} (h : (rowOf encA10 (l.drop k))[j]? = some u) : (rowOf encA10 l)[k * 3 + j]? = some u := by
  have e : rowOf encA10 l = rowOf encA10 (l.take k) ++ rowOf encA10 (l.drop k) := by rw [← rowOf_append, List.take_append_drop]
  have hl : (rowOf encA10 (l.take k)).length = k * 3 := by rw [rowOf_length encA10_len, List.length_take]; omega
  rw [e, List.getElem?_append_right (by rw [hl]; omega), hl, Nat.add_sub_cancel_left]; exact h
theorem encA10_ones (l : List A10) : ∀ u ∈ rowOf encA10 l, u.oneCell' = true := by
  intro u hu
  unfold rowOf at hu
  obtain ⟨p, _, hp⟩ := List.mem_flatMap.1 hu
  simp [encA10, tx] at hp
  rcases hp with rfl | rfl | rfl <;> rfl

set_option maxHeartbeats 4000000 in
theorem turns_walk {tT : Nat → List Pr → Thing} (A : TrieApi tT) (s1 : Sl Act10) (x : Int) (sa : ByteArray) (w : World) (h1 : SlOk encAct10 okAct10 3 w s1) (hsa : sa.size ≤ maxLen) :
    Calls Tryz.prog 5 #[.slice s1.a s1.len s1.cap, .int .i64 x, .string sa] w fun e w' => e = .returned (.bool true) ∧ Still w w' := by
  obtain ⟨l, hl⟩ : ∃ l, l = few10 s1.xs := ⟨_, rfl⟩
  have HF1 := Lib.hid (fun V (h : Still w V) => few10_any s1 V (SlOk.stays okAct10_stays w V s1 h h1))
  unfold Few10Post at HF1
  rw [← hl] at HF1
  have hln : l.length ≤ 80 := by rw [hl]; exact few10_len _
  have HSm := Lib.hid (fun a (ha : a ∈ l) => show a.2.1.length ≤ 300 from few10_small (by rw [← hl]; exact ha))
  obtain ⟨n, hn⟩ : ∃ n, n = l.length := ⟨_, rfl⟩
  rw [← hn] at HF1
  obtain ⟨k, hk⟩ : ∃ k, k = am x (n + 1) := ⟨_, rfl⟩
  have hkn : k ≤ n := by have := am_lt x (n := n + 1) (by omega); omega
  have HAm := Lib.hid (fun V => among_lit x ((n : Int) + 1) (n + 1) k (by omega) hk (by omega) (by omega) V)
  obtain ⟨L, hLd⟩ : ∃ L, L = bldL l := ⟨_, rfl⟩
  obtain ⟨L2, hL2d⟩ : ∃ L2, L2 = bldL (l.drop k ++ l.take k) := ⟨_, rfl⟩
  have hll : (l.drop k ++ l.take k).length = n := by rw [List.length_append, List.length_drop, List.length_take]; omega
  have hL : TOk L := by rw [hLd]; exact bldL_ok _
  have hL2 : TOk L2 := by rw [hL2d]; exact bldL_ok _
  have hmem : ∀ p, p ∈ L2 ↔ p ∈ L := fun p => by rw [hLd, hL2d, bldL_mem (by omega), bldL_mem (by omega), inActs_turn]
  have HB1 := Lib.hid (fun V a c (hA : ActsAt V a l) => show Calls Tryz.prog 27 #[.slice a n c] V fun e w' => ∃ q, e = .returned (.pointer (some ⟨q, 0, none⟩)) ∧ Held V w' (tT q L) from by
    rw [hLd]; exact built10 A l V a n c hn hA (by omega) (fun y hy => HSm.out y hy))
  have HB2 := Lib.hid (fun V a c (hA : ActsAt V a (l.drop k ++ l.take k)) => show Calls Tryz.prog 27 #[.slice a n c] V fun e w' => ∃ q, e = .returned (.pointer (some ⟨q, 0, none⟩)) ∧ Held V w' (tT q L2) from by
    rw [hL2d]; exact built10 A _ V a n c hll.symm hA (by omega) (fun y hy => HSm.out y (by
      rcases List.mem_append.1 hy with h | h
      · exact List.mem_of_mem_drop h
      · exact List.mem_of_mem_take h)))
  obtain ⟨m, hm⟩ : ∃ m, m = sa.size := ⟨_, rfl⟩
  obtain ⟨y, hy⟩ : ∃ y : Nat, y = min m 100 := ⟨_, rfl⟩
  have hif : (if (100 : Int) < (m : Int) then (100 : Int) else (m : Int)) = (y : Int) := by split <;> omega
  have hym : (y : Int) ≤ (m : Int) := by omega
  have hmi : (m : Int) ≤ 9223372036854775807 := by rw [← hm] at hsa; unfold maxLen at hsa; omega
  obtain ⟨s, hs⟩ : ∃ s, s = sa.data.toList.take 100 := ⟨_, rfl⟩
  have hex : sa.extract 0 y = ⟨s.toArray⟩ := by rw [hs]; exact ext100 hm.symm hy
  have hsm : sa.size = m := hm.symm
  have hsl : s.length ≤ 300 := by rw [hs, List.length_take]; omega
  have HM1 := Lib.hid (fun V q (h : Held w V (tT q L)) => show Calls Tryz.prog 22 #[.pointer (some ⟨q, 0, none⟩), tx s] V (OutE V (ni (mtL L s)) (nmE s)) from by
    obtain ⟨W, h1, _⟩ := h.use
    exact A.mtch h1 hL s hsl)
  have HM2 := Lib.hid (fun V q (h : Held w V (tT q L2)) => show Calls Tryz.prog 22 #[.pointer (some ⟨q, 0, none⟩), tx s] V (OutE V (ni (mtL L s)) (nmE s)) from by
    obtain ⟨W, h1, _⟩ := h.use
    have := A.mtch h1 hL2 s hsl
    rwa [same_mt hmem s] at this)
  have HFl1 := Lib.hid (fun V q (h : Held w V (tT q L)) => show Calls Tryz.prog 28 #[.pointer (some ⟨q, 0, none⟩)] V (OutT V (flL L)) from by
    obtain ⟨W, h1, _⟩ := h.use
    exact A.filters h1 hL)
  have HFl2 := Lib.hid (fun V q (h : Held w V (tT q L2)) => show Calls Tryz.prog 28 #[.pointer (some ⟨q, 0, none⟩)] V (OutT V (flL L)) from by
    obtain ⟨W, h1, _⟩ := h.use
    have := A.filters h1 hL2
    rwa [same_fl hmem] at this)
  obtain ⟨nd, hnd⟩ : ∃ nd, nd = ndL L := ⟨_, rfl⟩
  obtain ⟨pr, hpr⟩ : ∃ pr, pr = L.length := ⟨_, rfl⟩
  have HN1 := Lib.hid (fun V q (h : Held w V (tT q L)) => show Calls Tryz.prog 29 #[.pointer (some ⟨q, 0, none⟩)] V fun e w' => e = .returned (.int .i64 nd) ∧ Still V w' from by
    obtain ⟨W, h1, _⟩ := h.use
    have := A.nodes h1 hL
    rwa [← hnd] at this)
  have HN2 := Lib.hid (fun V q (h : Held w V (tT q L2)) => show Calls Tryz.prog 29 #[.pointer (some ⟨q, 0, none⟩)] V fun e w' => e = .returned (.int .i64 nd) ∧ Still V w' from by
    obtain ⟨W, h1, _⟩ := h.use
    have := A.nodes h1 hL2
    rwa [same_nd hmem, ← hnd] at this)
  have HP1 := Lib.hid (fun V q (h : Held w V (tT q L)) => show Calls Tryz.prog 24 #[.pointer (some ⟨q, 0, none⟩)] V fun e w' => e = .returned (.int .i64 pr) ∧ Still V w' from by
    obtain ⟨W, h1, _⟩ := h.use
    have := A.pairs h1 hL
    rwa [← hpr] at this)
  have HP2 := Lib.hid (fun V q (h : Held w V (tT q L2)) => show Calls Tryz.prog 24 #[.pointer (some ⟨q, 0, none⟩)] V fun e w' => e = .returned (.int .i64 pr) ∧ Still V w' from by
    obtain ⟨W, h1, _⟩ := h.use
    have := A.pairs h1 hL2
    rwa [same_len hL2.nodup hL.nodup hmem, ← hpr] at this)
  have HSI := Lib.hid (fun V a b n m ca cb hn hm hA hB => sameI_true V a b (ni (mtL L s)) n m ca cb hn hm (by have := mtL_len L s; omega) hA hB)
  have HST := Lib.hid (fun V a b n m ca cb hn hm hA hB => sameT_true V a b (flL L) n m ca cb hn hm (by have := Nat.le_trans (flL_len L) hL.len; omega) hA hB)
  have HWk := Lib.hid (works10 A w)
  have HFr := Lib.hid (fun (j : Nat) (u : Value) (h : (rowOf encA10 (l.take k))[j]? = some u) => actL_front h)
  have HBk := Lib.hid (fun (j : Nat) (u : Value) (h : (rowOf encA10 (l.drop k))[j]? = some u) => actL_back (by omega) h)
  have HL1 := Lib.hid (show (rowOf encA10 (l.take k)).length = k * 3 by rw [rowOf_length encA10_len, List.length_take]; omega)
  have HL2 := Lib.hid (show (rowOf encA10 (l.drop k)).length = (n - k) * 3 by rw [rowOf_length encA10_len, List.length_drop]; omega)
  have HLL := Lib.hid hll
  have HN := Lib.hid hn
  obtain ⟨i0, hi, hz0, hz1, hz2⟩ := info_parts infoAct10
  obtain ⟨sp, sl, sc, sx⟩ := s1
  have hn80 : n ≤ 80 := by omega
  unfold tx at HM1 HM2
  dsimp only at HF1 ⊢
  clear hl hn hk hLd hL2d hL hL2 hmem hll hm hy hs hnd hpr hsl hsa h1 hln HSm
  go_enter Tryz.func5, Tryz.ntmps5
  go_upto_region 5 with (first
    | (go_at_call 26; ((with_reducible refine HWk.out.mono ?_)); rintro e w1 ⟨rfl, hs1⟩)
    | (go_at_call 11; ((with_reducible refine (HF1.out _ hs1).mono ?_)); rintro e w2 ⟨g, n2, c, rfl, hn2, ho2, hs2⟩; subst n2; have HO2 := Lib.hid ho2; clear ho2)
    | (go_at_call 12; ((with_reducible refine (HAm.out _).mono ?_)); rintro e w3 ⟨rfl, rfl⟩))
  have hst := hs1.trans hs2
  have HST2 := Lib.hid hst
  have hnc : n ≤ c := (ow_le HO2.out).1
  have hlo := hst.size
  have HRow := Lib.hid (fun V (h : Still w2 V) (j : Nat) (u : Value) (hj : (rowOf encA10 l)[j]? = some u) => show V.cell? ⟨g, j, none⟩ = some u from (owm_cell (ow_still HO2.out h) hj).1)
  have HF := Lib.hid (fun V (h : Still w2 V) (j : Nat) (u : Value) (hj : (rowOf encA10 (l.take k))[j]? = some u) => show V.cell? ((⟨g, 0, none⟩ : Addr).add j) = some u from by
    rw [Addr.add_lit, Nat.zero_add]; exact HRow.out V h j u (HFr.out j u hj))
  have HBa := Lib.hid (fun V (h : Still w2 V) (j : Nat) (u : Value) (hj : (rowOf encA10 (l.drop k))[j]? = some u) => show V.cell? ((⟨g, k * 3, none⟩ : Addr).add j) = some u from by
    rw [Addr.add_lit]; exact HRow.out V h _ u (HBk.out j u hj))
  have HOne := Lib.hid encA10_ones
  have HSA := Lib.hid (show Still w2 (w2.alloc (.cells #[] 30)).drew from ((Turned.refl _ _).alloc _).drew)
  have HWA := Lib.hid (show (w2.alloc (.cells #[] 30)).drew.ownsRow w2.heap.size 30 3 (.slice (some ⟨w2.heap.size, 0, none⟩) 0 0) 0 [] from ow_still (World.ownsRow_made w2 #[] 0 (Nat.le_refl _) (by simp) (by simp)) (Turned.refl _ _).drew)
  have HTwo := Lib.hid (fun (w6 w7 : World) (a6 : Option Addr) (m c6 : Nat) (xs : List Value) (h : w6.ownsRow w2.heap.size 30 3 (.slice a6 m c6) m xs) (hs : Still w2 w6) (hg : w6.grownBy w7 (Value.slice a6 m c6).ownBlock) => show Still w2 w7 from by
    refine hs.grown hg (fun i e => .inr ?_)
    cases a6 with
    | none => cases e
    | some x => have := (ow_lt h x rfl).1; have e' : x.block = i := by simpa [Value.ownBlock] using e
                omega)
  have hki : (k : Int) ≤ (n : Int) := by omega
  have hkc : (k : Int) ≤ (c : Int) := by omega
  have hnci : (n : Int) ≤ (c : Int) := by omega
  by_cases hcap : c = k
  · subst hcap
    obtain rfl : n = c := by omega
    have HDr := Lib.hid (show l.drop n = [] from List.drop_of_length_le (by rw [← HN.out]; exact Nat.le_refl _))
    go_region_law (first
      | (refine step_app_own rfl (.tmp 24) (.tmp 27) 22 rfl w2.heap.size 30 i0 _ 3 32 Tryz.underlying22 hi hz0 hz1 hz2 rfl (by decide) _ 0 [] rfl HWA.out ⟨g, 0, none⟩ 0 0 [] rfl rfl (fun j u h => by simp at h) (fun u h => by simp at h) (by unfold maxLen; omega) (by omega) HSA.out.size ?_; intro v6 w6 hown6 hg6 hat6; obtain ⟨a6, c6, rfl⟩ := ow_slice hown6; rw [Nat.zero_add, List.nil_append] at hown6; have HO6 := Lib.hid hown6; have HS6 := Lib.hid (HSA.out.grown hg6 (fun i e => .inr (by cases e; exact Nat.le_refl _))); clear hown6 hg6 hat6)
      | (refine step_app_own rfl (.tmp 28) (.tmp 31) 22 rfl w2.heap.size 30 i0 _ 3 32 Tryz.underlying22 hi hz0 hz1 hz2 rfl (by decide) _ 0 [] rfl HO6.out ⟨g, 0, none⟩ n n (rowOf encA10 (l.take n)) rfl HL1.out (HF.out _ HS6.out) (HOne.out _) (by unfold maxLen; omega) (by omega) HS6.out.size ?_; intro v7 w7 hown7 hg7 hat7; obtain ⟨a7, c7, rfl⟩ := ow_slice hown7; rw [Nat.zero_add, List.nil_append] at hown7; have HA7 := Lib.hid (show ActsAt w7 a7 (l.drop n ++ l.take n) from by rw [HDr.out]; exact ActsAt.of_own hown7 (by rw [List.nil_append, List.length_take, ← HN.out, Nat.min_self])); have HS7 := Lib.hid (HTwo.out _ _ _ _ _ _ HO6.out HS6.out hg7); clear hown7 hg7 hat7))
    all_goals go_wp2_with (first
      | (go_at_call 27; ((with_reducible refine (HB1.out _ _ _ (ActsAt.of_own (ow_still HO2.out HS7.out) HN.out)).mono ?_)); rintro e w8 ⟨q, rfl, hh8⟩; have H8 := Lib.hid (show Held w w8 (tT q L) from (Held.made (Held.start (HST2.out.trans HS7.out)) hh8).drop); have HS8 := Lib.hid (show Still w7 w8 from hh8.ground); clear hh8)
      | (go_at_call 27; ((with_reducible refine (HB2.out _ _ _ (RowAt.stays HA7.out HS8.out)).mono ?_)); rintro e w9 ⟨q9, rfl, hh9⟩; have H9 := Lib.hid (show Held w w9 (tT q9 L2) from (Held.made (Held.start (HST2.out.trans (HS7.out.trans HS8.out))) hh9).drop); have H9a := Lib.hid (H8.out.still hh9.ground); clear hh9)
      | (go_at_call 22; ((with_reducible refine (HM1.out _ _ H9a.out).mono ?_)); rintro e w10 ⟨a10, n10, c10, rfl, hn10, hA10, _, hs10⟩; have HA10 := Lib.hid hA10; have HN10 := Lib.hid hn10; have H10a := Lib.hid (H9a.out.still hs10); have H10 := Lib.hid (H9.out.still hs10); clear hA10 hn10 hs10)
      | (go_at_call 22; ((with_reducible refine (HM2.out _ _ H10.out).mono ?_)); rintro e w11 ⟨a11, n11, c11, rfl, hn11, hA11, _, hs11⟩; have HA11 := Lib.hid hA11; have HA11a := Lib.hid (HA10.out.still hs11); have HN11 := Lib.hid hn11; have H11a := Lib.hid (H10a.out.still hs11); have H11 := Lib.hid (H10.out.still hs11); clear hA11 hn11 hs11)
      | (go_at_call 21; ((with_reducible refine (HSI.out _ _ _ _ _ _ _ HN10.out HN11.out HA11a.out HA11.out).mono ?_)); rintro e w12 ⟨rfl, hs12⟩; have H12a := Lib.hid (H11a.out.still hs12); have H12 := Lib.hid (H11.out.still hs12); clear hs12)
      | (go_at_call 28; ((with_reducible refine (HFl1.out _ _ H12a.out).mono ?_)); rintro e w13 ⟨a13, n13, c13, rfl, hn13, hA13, _, hs13, _⟩; have HA13 := Lib.hid hA13; have HN13 := Lib.hid hn13; have H13a := Lib.hid (H12a.out.still hs13); have H13 := Lib.hid (H12.out.still hs13); clear hA13 hn13 hs13)
      | (go_at_call 28; ((with_reducible refine (HFl2.out _ _ H13.out).mono ?_)); rintro e w14 ⟨a14, n14, c14, rfl, hn14, hA14, _, hs14, _⟩; have HA14 := Lib.hid hA14; have HA14a := Lib.hid (HA13.out.still hs14); have HN14 := Lib.hid hn14; have H14a := Lib.hid (H13a.out.still hs14); have H14 := Lib.hid (H13.out.still hs14); clear hA14 hn14 hs14)
      | (go_at_call 30; ((with_reducible refine (HST.out _ _ _ _ _ _ _ HN13.out HN14.out HA14a.out HA14.out).mono ?_)); rintro e w15 ⟨rfl, hs15⟩; have H15a := Lib.hid (H14a.out.still hs15); have H15 := Lib.hid (H14.out.still hs15); clear hs15)
      | (go_at_call 29; ((with_reducible refine (HN1.out _ _ H15a.out).mono ?_)); rintro e w16 ⟨rfl, hs16⟩; have H16a := Lib.hid (H15a.out.still hs16); have H16 := Lib.hid (H15.out.still hs16); clear hs16)
      | (go_at_call 29; ((with_reducible refine (HN2.out _ _ H16.out).mono ?_)); rintro e w17 ⟨rfl, hs17⟩; have H17a := Lib.hid (H16a.out.still hs17); have H17 := Lib.hid (H16.out.still hs17); clear hs17)
      | (go_at_call 24; ((with_reducible refine (HP1.out _ _ H17a.out).mono ?_)); rintro e w18 ⟨rfl, hs18⟩; have H18 := Lib.hid (H17.out.still hs18); clear hs18)
      | (go_at_call 24; ((with_reducible refine (HP2.out _ _ H18.out).mono ?_)); rintro e w19 ⟨rfl, hs19⟩))
    all_goals go_ret
    all_goals exact ⟨by first | rfl | simp, H18.out.ground.trans hs19⟩
  · have hne : ¬ c = k := hcap
    go_region_law (first
      | (refine step_app_own rfl (.tmp 24) (.tmp 27) 22 rfl w2.heap.size 30 i0 _ 3 32 Tryz.underlying22 hi hz0 hz1 hz2 rfl (by decide) _ 0 [] rfl HWA.out ⟨g, k * 3, none⟩ (n - k) (c - k) (rowOf encA10 (l.drop k)) rfl HL2.out (HBa.out _ HSA.out) (HOne.out _) (by unfold maxLen; omega) (by omega) HSA.out.size ?_; intro v6 w6 hown6 hg6 hat6; obtain ⟨a6, c6, rfl⟩ := ow_slice hown6; rw [Nat.zero_add, List.nil_append] at hown6; have HO6 := Lib.hid hown6; have HS6 := Lib.hid (HSA.out.grown hg6 (fun i e => .inr (by cases e; exact Nat.le_refl _))); clear hown6 hg6 hat6)
      | (refine step_app_own rfl (.tmp 28) (.tmp 31) 22 rfl w2.heap.size 30 i0 _ 3 32 Tryz.underlying22 hi hz0 hz1 hz2 rfl (by decide) _ (n - k) (rowOf encA10 (l.drop k)) rfl HO6.out ⟨g, 0, none⟩ k c (rowOf encA10 (l.take k)) rfl HL1.out (HF.out _ HS6.out) (HOne.out _) (by unfold maxLen; omega) (by omega) HS6.out.size ?_; intro v7 w7 hown7 hg7 hat7; obtain ⟨a7, c7, rfl⟩ := ow_slice hown7; rw [← rowOf_append] at hown7; have HA7 := Lib.hid (show ActsAt w7 a7 (l.drop k ++ l.take k) from ActsAt.of_own hown7 (by rw [HLL.out]; omega)); have HS7 := Lib.hid (HTwo.out _ _ _ _ _ _ HO6.out HS6.out hg7); clear hown7 hg7 hat7))
    all_goals go_wp2_with (first
      | (go_at_call 27; ((with_reducible refine (HB1.out _ _ _ (ActsAt.of_own (ow_still HO2.out HS7.out) HN.out)).mono ?_)); rintro e w8 ⟨q, rfl, hh8⟩; have H8 := Lib.hid (show Held w w8 (tT q L) from (Held.made (Held.start (HST2.out.trans HS7.out)) hh8).drop); have HS8 := Lib.hid (show Still w7 w8 from hh8.ground); clear hh8)
      | (go_at_call 27; ((with_reducible refine (HB2.out _ _ _ (RowAt.stays HA7.out HS8.out)).mono ?_)); rintro e w9 ⟨q9, rfl, hh9⟩; have H9 := Lib.hid (show Held w w9 (tT q9 L2) from (Held.made (Held.start (HST2.out.trans (HS7.out.trans HS8.out))) hh9).drop); have H9a := Lib.hid (H8.out.still hh9.ground); clear hh9)
      | (go_at_call 22; ((with_reducible refine (HM1.out _ _ H9a.out).mono ?_)); rintro e w10 ⟨a10, n10, c10, rfl, hn10, hA10, _, hs10⟩; have HA10 := Lib.hid hA10; have HN10 := Lib.hid hn10; have H10a := Lib.hid (H9a.out.still hs10); have H10 := Lib.hid (H9.out.still hs10); clear hA10 hn10 hs10)
      | (go_at_call 22; ((with_reducible refine (HM2.out _ _ H10.out).mono ?_)); rintro e w11 ⟨a11, n11, c11, rfl, hn11, hA11, _, hs11⟩; have HA11 := Lib.hid hA11; have HA11a := Lib.hid (HA10.out.still hs11); have HN11 := Lib.hid hn11; have H11a := Lib.hid (H10a.out.still hs11); have H11 := Lib.hid (H10.out.still hs11); clear hA11 hn11 hs11)
      | (go_at_call 21; ((with_reducible refine (HSI.out _ _ _ _ _ _ _ HN10.out HN11.out HA11a.out HA11.out).mono ?_)); rintro e w12 ⟨rfl, hs12⟩; have H12a := Lib.hid (H11a.out.still hs12); have H12 := Lib.hid (H11.out.still hs12); clear hs12)
      | (go_at_call 28; ((with_reducible refine (HFl1.out _ _ H12a.out).mono ?_)); rintro e w13 ⟨a13, n13, c13, rfl, hn13, hA13, _, hs13, _⟩; have HA13 := Lib.hid hA13; have HN13 := Lib.hid hn13; have H13a := Lib.hid (H12a.out.still hs13); have H13 := Lib.hid (H12.out.still hs13); clear hA13 hn13 hs13)
      | (go_at_call 28; ((with_reducible refine (HFl2.out _ _ H13.out).mono ?_)); rintro e w14 ⟨a14, n14, c14, rfl, hn14, hA14, _, hs14, _⟩; have HA14 := Lib.hid hA14; have HA14a := Lib.hid (HA13.out.still hs14); have HN14 := Lib.hid hn14; have H14a := Lib.hid (H13a.out.still hs14); have H14 := Lib.hid (H13.out.still hs14); clear hA14 hn14 hs14)
      | (go_at_call 30; ((with_reducible refine (HST.out _ _ _ _ _ _ _ HN13.out HN14.out HA14a.out HA14.out).mono ?_)); rintro e w15 ⟨rfl, hs15⟩; have H15a := Lib.hid (H14a.out.still hs15); have H15 := Lib.hid (H14.out.still hs15); clear hs15)
      | (go_at_call 29; ((with_reducible refine (HN1.out _ _ H15a.out).mono ?_)); rintro e w16 ⟨rfl, hs16⟩; have H16a := Lib.hid (H15a.out.still hs16); have H16 := Lib.hid (H15.out.still hs16); clear hs16)
      | (go_at_call 29; ((with_reducible refine (HN2.out _ _ H16.out).mono ?_)); rintro e w17 ⟨rfl, hs17⟩; have H17a := Lib.hid (H16a.out.still hs17); have H17 := Lib.hid (H16.out.still hs17); clear hs17)
      | (go_at_call 24; ((with_reducible refine (HP1.out _ _ H17a.out).mono ?_)); rintro e w18 ⟨rfl, hs18⟩; have H18 := Lib.hid (H17.out.still hs18); clear hs18)
      | (go_at_call 24; ((with_reducible refine (HP2.out _ _ H18.out).mono ?_)); rintro e w19 ⟨rfl, hs19⟩))
    all_goals go_ret
    all_goals exact ⟨by first | rfl | simp, H18.out.ground.trans hs19⟩
end Go.Proofs.YtpmkokckjieidaaGreatDoor
