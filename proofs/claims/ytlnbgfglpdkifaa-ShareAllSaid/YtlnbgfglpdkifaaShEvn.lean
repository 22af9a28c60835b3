/- Even of the program's shares: how many places more the one has that has most of them than the one that has fewest. No condition but that each place is told of once. -/
import Derived.Test.YtlnbgfglpdkifaaShOf
import Derived.Test.YtlnbgfglpdkifaaShPlain
import Derived.Deep.RegionHeld3
import Derived.BigQuiet
import Derived.Deep.QuietTactic
namespace Go.Proofs.Ytlnbgfglpdkifaa
open Go.RowKit Go.Shelf
attribute [local go_sem] Oper.semAt_some
set_option linter.unusedVariables false
set_option linter.unusedSimpArgs false
set_option maxRecDepth 100000

/-- What the map of counts holds. -/
def cntF (os : List Own) (x : Int) : Option Int := if (ofI os x).length = 0 then none else some (((ofI os x).length : Nat) : Int)
theorem cntF_get (os : List Own) (x : Int) : (cntF os x).getD 0 = (((ofI os x).length : Nat) : Int) := by
  unfold cntF
  split
  · rename_i h; rw [h]; rfl
  · rfl
theorem cntF_step {os : List Own} {k : Nat} {o : Own} (h : os[k]? = some o) (c : Int) : (if c = o.2 then some ((((ofI (os.take k) o.2).length : Nat) : Int) + 1) else cntF (os.take k) c) = cntF (os.take (k + 1)) c := by
  unfold cntF
  rw [ofI_step h, List.length_append]
  by_cases e : c = o.2
  · subst e
    rw [if_pos rfl, if_pos rfl, if_neg (by simp)]; rfl
  · rw [if_neg e, show (if o.2 = c then [o.1] else []) = ([] : List Plc) from if_neg (fun e2 => e e2.symm), List.length_nil, Nat.add_zero]

set_option maxHeartbeats 4000000 in
theorem sheven_any (w : World) (ao bo : Option Addr) (ms : List Int) (os : List Own) (m n c1 c : Nat) (hm : m = ms.length) (hn : n = os.length) (h1 : m ≤ 1000) (hn1 : n ≤ 1000) (hc1 : m ≤ c1) (hA : NumsAt w ao ms) (h : OwAt w bo os) (hnd : (os.map (·.1)).Nodup) :
    Calls Try.prog 11 #[.slice ao m c1, .slice bo n c] w fun e w' => e = .returned (.int .i64 (evenI ms os)) ∧ Still w w' := by
  cases ms with
  | nil =>
    subst hm
    refine (callsIn_wide (n := 9)).1 (callsIn_of_wp_marks Try.func11 rfl trivial ?_ rfl)
    simp only [Try.ntmps11, List.size_toArray, List.length_cons, List.length_nil, Nat.reduceAdd, Nat.reduceSub, Array.replicate_succ, Array.replicate_zero, List.push_toArray, List.append_toArray, List.nil_append, List.cons_append]
    gi_wp2
    refine ⟨_, results_tmp rfl _ _ _, ?_⟩
    exact ⟨rfl, Turned.refl _ _⟩
  | cons id0 rest =>
    obtain ⟨ba, oa, rfl, ca⟩ := hA 0 id0 rfl
    rw [Nat.add_zero] at ca
    obtain ⟨mb, hmb⟩ : ∃ mb, mb = w.heap.size := ⟨_, rfl⟩
    obtain ⟨W1, hW1⟩ : ∃ W1, W1 = (w.alloc (.map #[] 0)).alloc (.cells #[.map (some mb)] 52) := ⟨_, rfl⟩
    have hs1 : Still w W1 := by rw [hW1]; exact ((Turned.refl _ _).alloc _).alloc _
    have hz1 : W1.heap.size = mb + 2 := by rw [hW1, hmb]; simp
    have hm1 : MapF inV W1 mb (cntF (os.take 0)) := by
      have h0 := MapF.made (kv := inV) w
      rw [← hmb] at h0
      rw [hW1]
      exact (h0.keep (S := fun _ => False) ((Turned.refl _ _).alloc _) (fun h => h)).congr (fun _ => rfl)
    have hb1 : Blk W1 (mb + 1) [.map (some mb)] 52 := by
      have := Blk.new (w.alloc (.map #[] 0)) [.map (some mb)] 52
      rw [World.size_alloc, ← hmb] at this
      rw [hW1]; exact this
    have HIt0 := shcount_it bo n c os hn hn1 W1.heap.size
    rw [frs_all hnd] at HIt0
    have HIt := Lib.hid HIt0
    have HE := Lib.hid (shcount_any bo n c W1)
    have hr1 := row_still h hs1
    have HR := Lib.hid (evO_new (n := n) (c := c) hr1)
    have ht2 : Still W1 (W1.alloc (.cells #[.slice bo n c] 24)) := (Turned.refl _ _).alloc _
    have HB := Lib.hid (show (boxM inV 52 (mb + 1) mb (cntF (os.take 0))).at_ (W1.alloc (.cells #[.slice bo n c] 24)) (fun k => k = mb + 1 ∨ k = mb) from
      ⟨(· = mb + 1), (· = mb), ⟨hb1.turned ht2 (fun h => h), fun _ => Iff.rfl⟩, ⟨hm1.keep ht2 (fun h => h), fun _ => Iff.rfl⟩, fun k e1 e2 => by omega, fun _ => Iff.rfl⟩)
    have HD := Lib.hid (show ∀ k, (k = mb + 1 ∨ k = mb) → ¬ (k = W1.heap.size ∨ (os ≠ [] ∧ ∃ x, bo = some x ∧ x.block = k)) from by
      intro k hk hk2
      rcases hk2 with hk2 | hk2
      · omega
      · have := own_lt h hk2; omega)
    have HSt := Lib.hid (hs1.trans ht2)
    have HAll := Lib.hid (show os.take os.length = os from List.take_length)
    have HZ := Lib.hid hz1
    have HMB := Lib.hid hmb
    have HA := Lib.hid hA
    have hmm : (Instr.makeMap 52 none).run Try.prog w = .ok (.map (some mb)) (w.alloc (.map #[] 0)) := by rw [hmb]; exact run_makeMap 52 w
    have hmw : w.heap.size + 1 = mb + 1 := by rw [hmb]
    have hmpos : 1 ≤ m := by rw [hm, List.length_cons]; omega
    have hmb0 : ((m : Int) == 0) = false := by rw [beq_eq_false_iff_ne]; omega
    have HM := Lib.hid (show m = rest.length + 1 from by rw [hm, List.length_cons])
    have HLe := Lib.hid (fun k x => show (ofI (os.take k) x).length ≤ 1000 from by
      have := ofI_le (os.take k) x
      rw [List.length_take] at this
      omega)
    clear h hr1 ht2 hb1 hm1 hs1 hn hz1 hA hm hnd HIt0
    refine (callsIn_wide (n := 9)).1 (callsIn_of_wp_marks Try.func11 rfl trivial ?_ rfl)
    simp only [Try.ntmps11, List.size_toArray, List.length_cons, List.length_nil, Nat.reduceAdd, Nat.reduceSub, Array.replicate_succ, Array.replicate_zero, List.push_toArray, List.append_toArray, List.nil_append, List.cons_append]
    have hf1 : Fence.wide.fn 25 := trivial
    clear hmb
    gi_wp2_with (gi_at_call 25; rw [← hW1]; ((with_reducible refine (callsIn_wide.2 HE.out).mono ?_)); rintro e w2 ⟨rfl, rfl⟩)
    rw [← hW1, show mb + 1 + 1 = W1.heap.size from by rw [HZ.out]]
    clear hW1
    refine loopA_outer rfl (enters_of Try.func31 (by kernel_rfl) rfl) HIt.out (by exact fun _ => rfl) (fun k => boxM inV 52 (mb + 1) mb (cntF (os.take k))) (fun _ => noT) HR.out HB.out HD.out ?_ ?_ ?_
    · rintro ⟨⟨p1, p2⟩, x⟩ y k V Q' hr hl1 hx hI hQl hsk
      obtain ⟨rr, hrr⟩ := hr
      have hyV : y < V.heap.size := (Array.getElem?_eq_some_iff.1 hrr).1
      have hVb := Blk.new V [.int .i64 p1, .int .i64 p2, .int .i64 x] 34
      have HBx := Lib.hid (fun W2 (hT2 : Turned (· = y) (V.alloc (.cells #[.int .i64 p1, .int .i64 p2, .int .i64 x] 34)) W2) => show Blk W2 V.heap.size [.int .i64 p1, .int .i64 p2, .int .i64 x] 34 from hVb.turned hT2 (by omega))
      have HI2 := Lib.hid (fun W2 (hT2 : Turned (· = y) (V.alloc (.cells #[.int .i64 p1, .int .i64 p2, .int .i64 x] 34)) W2) => show (boxM inV 52 (mb + 1) mb (cntF (os.take k))).at_ W2 Q' from
        Thing.keep _ (Thing.keep _ hI ((Turned.refl _ V).alloc _) (fun _ _ h => h)) hT2 (fun j hj e => hQl (e ▸ hj)))
      have HG := Lib.hid (cntF_step hx)
      have hle := HLe.out k x
      clear hl1 hx hI hQl hsk hVb hrr hyV
      dsimp only [encO16]
      gi_wp2
      refine ⟨(Turned.refl _ _).alloc _, fun W2 _ hT2 => ?_⟩
      have hI2 := HI2.out W2 hT2
      have hbx := HBx.out W2 hT2
      have p0 := hbx.cell (o := 0) rfl
      have p1' := hbx.cell (o := 1) rfl
      have p2' := hbx.cell (o := 2) rfl
      obtain ⟨Q1, Q2, ⟨hB, hQ1⟩, ⟨hM, hQ2⟩, hdd, hQ⟩ := hI2
      have cc := hB.cell (o := 0) rfl
      have hlk := MapF.look keysIn hM x false
      rw [if_neg Bool.false_ne_true, cntF_get] at hlk
      obtain ⟨W3, hmu, hM3, hT3⟩ := MapF.put keysIn hM x ((((ofI (os.take k) x).length : Nat) : Int) + 1)
      simp only [inV] at hmu hlk
      have HFin := Lib.hid (show Goes (boxM inV 52 (mb + 1) mb (cntF (os.take (k + 1)))) Q' W2 W3 from by
        refine ⟨Q', ⟨Q1, Q2, ⟨hB.turned hT3 (by omega), hQ1⟩, ⟨hM3.congr HG.out, hQ2⟩, hdd, hQ⟩, hT3.mono (fun i _ e => (hQ i).2 (.inr ((hQ2 i).2 e))), fun _ h => .inl h⟩)
      generalize (ofI (os.take k) x).length = nn at hlk hmu hle
      clear hB hM hM3 hT3 hQ hQ1 hQ2 hdd hbx hT2
      gi_wp2
      exact HFin.out
    · intro D V Q' hD hK hQD hI hsk
      rw [HAll.out] at hI
      obtain ⟨Q1, Q2, ⟨hB, hQ1⟩, ⟨hM, hQ2⟩, hdd, hQ⟩ := hI
      have cc := hB.cell (o := 0) rfl
      have hz := HMB.out
      have hz2 := HZ.out
      have hD1 : mb + 2 ≤ D := by
        have := ((Turned.refl (fun _ => False) W1).alloc (.cells #[.slice bo n c] 24)).size
        omega
      have hT0 : Turned (fun k => w.heap.size ≤ k) w V := (HSt.out.mono (fun _ _ h => h.elim)).trans (hsk.turn.mono (fun k _ h => by omega))
      have hS0 : Still w V := hT0.mono (fun k hk h => by omega)
      have HS0 := Lib.hid hS0
      have HNa := Lib.hid (HA.out.still hS0)
      have ca2 := HNa.out 0 id0 rfl
      have HCells := Lib.hid (fun V' (hs : Still V V') => show V'.cell? ⟨mb + 1, 0, none⟩ = some (.map (some mb)) ∧ (∀ x, (Instr.lookup 52 (.map (some mb)) (.int .i64 x) false).run Try.prog V' = .ok (.int .i64 (((ofI os x).length : Nat) : Int)) V') ∧ V'.heap[D]? = some (.deferred (some [])) from by
        refine ⟨still_cell hs cc rfl, fun x => ?_, (hs.block D (Array.getElem?_eq_some_iff.1 hK).1 (fun h => h)).trans hK⟩
        have := MapF.look keysIn (hM.keep hs (fun h => h)) x false
        rw [if_neg Bool.false_ne_true, cntF_get] at this
        exact this)
      have HLe2 := Lib.hid (fun x => show (ofI os x).length ≤ 1000 from by have := HLe.out os.length x; rwa [HAll.out] at this)
      have HDn := Lib.hid (show w.heap.size ≤ D from by omega)
      have HRet := Lib.hid (fun q => show Still w ((V.drewN q).putObj D (.deferred none)) from by
        have hq := (Turned.refl (fun _ => False) V).drewN q
        have hp := putObj_since (.deferred none) (Array.getElem?_eq_some_iff.1 (HCells.out _ hq).2.2).1
        have : Turned (fun k => w.heap.size ≤ k) w ((V.drewN q).putObj D (.deferred none)) := ((HS0.out.trans hq).mono (fun _ _ h => h.elim)).trans (hp.mono (fun k _ e => by rw [e]; exact HDn.out))
        exact this.mono (fun k hk h => by omega))
      clear hB hM hQ hQ1 hQ2 hdd hT0 hsk hz hz2 hmw cc ca ca2 hS0 hK hD hQD hD1
      have d1 := (HCells.out V (Turned.refl _ _)).1
      have hl := fun k => (HCells.out (V.drewN k) ((Turned.refl _ _).drewN k)).2.1 id0
      obtain ⟨b', o', e', ca0⟩ := HNa.out 0 id0 rfl
      obtain ⟨rfl, rfl⟩ : ba = b' ∧ oa = o' := by simpa using e'
      rw [Nat.add_zero] at ca0
      have hmi : (0 : Int) < (m : Int) := by omega
      obtain ⟨x0, hx0⟩ : ∃ x0, x0 = (ofI os id0).length := ⟨_, rfl⟩
      simp only [← hx0] at hl
      have hx1 : x0 ≤ 1000 := by rw [hx0]; exact HLe2.out id0
      have HX0 := Lib.hid hx0
      have hm0 : 0 < m := by omega
      clear e' hx0
      dsimp only
      gi_wp2
      refine wpIn_wide.2 ?_
      go_quiet (fail)
      clear d1 hl ca0
      by_cases hc : c1 = 1
      · subst hc
        obtain rfl : m = 1 := by omega
        have hre : rest = [] := List.eq_nil_of_length_eq_zero (by have := HM.out; omega)
        have HEv := Lib.hid (show evenI (id0 :: rest) os = (x0 : Int) - (x0 : Int) from by rw [hre, HX0.out]; rfl)
        gi_wp2
        gi_loopw [7, 8, 36] (fun ax bx ix wq => ax = .int .i64 (x0 : Int) ∧ bx = .int .i64 (x0 : Int) ∧ ix = .int .i64 0 ∧ ∃ q, wq = V.drewN q) (fun _ _ _ _ => 0)
        case atStart => exact ⟨rfl, rfl, rfl, _, rfl⟩
        case round =>
          obtain ⟨rfl, rfl, rfl, q, rfl⟩ := hrel
          gi_wp2
          refine ⟨by simp, .inl ⟨D, _, rfl, run_takeDeferred (HCells.out (V.drewN q) ((Turned.refl _ _).drewN q)).2.2, ?_⟩⟩
          refine ⟨_, results_tmp rfl _ _ _, ?_⟩
          exact ⟨by rw [HEv.out]; first | rfl | simp, HRet.out q⟩
      · obtain ⟨r, hr⟩ : ∃ r, r = rest.length := ⟨_, rfl⟩
        obtain rfl : m = r + 1 := by rw [hr]; exact HM.out
        obtain ⟨C, hC⟩ : ∃ C, C = rest.map (fun id => (ofI os id).length) := ⟨_, rfl⟩
        have HCl := Lib.hid (show C.length = r from by rw [hC, List.length_map, hr])
        have HEv := Lib.hid (show evenI (id0 :: rest) os = ((C.foldl max x0 : Nat) : Int) - ((C.foldl min x0 : Nat) : Int) from by rw [hC, HX0.out]; rfl)
        have HCg := Lib.hid (fun i id (h : rest[i]? = some id) => show C[i]? = some (ofI os id).length from by rw [hC, List.getElem?_map, h]; rfl)
        have HRr := Lib.hid hr
        have hcb : ((c1 : Int) == 1) = false := by rw [beq_eq_false_iff_ne]; omega
        have HAt := Lib.hid (fun i id (h : rest[i]? = some id) V' (hs : Still V V') => show V'.cell? ⟨ba, oa + 1 + i, none⟩ = some (.int .i64 id) from by
          obtain ⟨b', o', e', h2⟩ := (HNa.out.still hs) (i + 1) id (by simpa using h)
          obtain ⟨rfl, rfl⟩ : ba = b' ∧ oa = o' := by simpa using e'
          rw [show oa + 1 + i = oa + (i + 1) by omega]; exact h2)
        clear hC hr hmpos hmi hm0 hmb0
        have hcr : r + 1 ≤ c1 := hc1
        gi_wp2
        rw [show ((r + 1 : Nat) : Int) = (r : Int) + 1 from rfl]
        gi_loopw [7, 8, 36] (fun ax bx ix wq => ∃ (i mx mn q : Nat), i ≤ r ∧ ax = .int .i64 (mx : Int) ∧ bx = .int .i64 (mn : Int) ∧ ix = .int .i64 i ∧ mx = (C.take i).foldl max x0 ∧ mn = (C.take i).foldl min x0 ∧ mx ≤ 1000 ∧ mn ≤ 1000 ∧ wq = V.drewN q) (fun _ _ ix _ => r - (intOf ix).toNat)
        case atStart => exact ⟨0, x0, x0, _, Nat.zero_le _, rfl, rfl, rfl, rfl, rfl, hx1, hx1, rfl⟩
        case round =>
          obtain ⟨i, mx, mn, q, hi, rfl, rfl, rfl, hmx, hmn, hb1, hb2, rfl⟩ := hrel
          have HMx := Lib.hid hmx
          have HMn := Lib.hid hmn
          clear hmx hmn
          by_cases hlt : i < r
          · obtain ⟨id, hid⟩ := get_some (l := rest) (i := i) (by rw [← HRr.out]; exact hlt)
            have hs0 : Still V (V.drewN q) := (Turned.refl _ _).drewN q
            have a0 := HAt.out i id hid _ hs0
            have e1 := (HCells.out (V.drewN (q + 1)) ((Turned.refl _ _).drewN (q + 1))).1
            have e2 := (HCells.out (V.drewN (q + 1)) ((Turned.refl _ _).drewN (q + 1))).2.1 id
            obtain ⟨ci, hci⟩ : ∃ ci, ci = (ofI os id).length := ⟨_, rfl⟩
            have HCi := Lib.hid (show C[i]? = some ci from by rw [hci]; exact HCg.out i id hid)
            rw [← hci] at e2
            have hii : (i : Int) < (r : Int) := by omega
            have hc1' : ci ≤ 1000 := by rw [hci]; exact HLe2.out id
            clear hid hs0 hci
            gi_wp2
            refine wpIn_wide.2 ?_
            go_region_held3 (fun V' => V'.cell? ⟨mb + 1, 0, none⟩ = some (.map (some mb)) ∧ (Instr.lookup 52 (.map (some mb)) (.int .i64 id) false).run Try.prog V' = .ok (.int .i64 (ci : Int)) V') (first | exact ⟨by assumption, by assumption⟩ | go_keep) (fail)
            all_goals (
              have hv1 : (if mx < ci then (ci : Int) else (mx : Int)) = ((max mx ci : Nat) : Int) := by split <;> omega
              have hv2 : (if ci < mn then (ci : Int) else (mn : Int)) = ((min mn ci : Nat) : Int) := by split <;> omega
              rw [hv1, hv2]
              have ht : C.take (i + 1) = C.take i ++ [ci] := by rw [List.take_add_one, HCi.out]; rfl
              have HX1 := Lib.hid (show max mx ci = (C.take (i + 1)).foldl max x0 from by rw [ht, List.foldl_append, ← HMx.out]; rfl)
              have HX2 := Lib.hid (show min mn ci = (C.take (i + 1)).foldl min x0 from by rw [ht, List.foldl_append, ← HMn.out]; rfl)
              have hx3 : max mx ci ≤ 1000 := by omega
              have hx4 : min mn ci ≤ 1000 := by omega
              clear hv1 hv2 ht
              generalize max mx ci = mx2 at *
              generalize min mn ci = mn2 at *
              gi_wp2
              go_roundw
              case rel => exact ⟨i + 1, mx2, mn2, q + 1, by omega, rfl, rfl, by go_num, HX1.out, HX2.out, hx3, hx4, rfl⟩
              case measure => simp [intOf]; omega)
          · obtain rfl : i = r := by omega
            gi_wp2
            refine ⟨by simp, .inl ⟨D, _, rfl, run_takeDeferred (HCells.out (V.drewN q) ((Turned.refl _ _).drewN q)).2.2, ?_⟩⟩
            refine ⟨_, results_tmp rfl _ _ _, ?_⟩
            have ht : C.take i = C := List.take_of_length_le (by rw [HCl.out]; exact Nat.le_refl _)
            exact ⟨by rw [HEv.out, HMx.out, HMn.out, ht]; first | rfl | simp, HRet.out q⟩
    · intro D k V Q' hD hK hQD hk hI hsk
      exact hI.elim
end Go.Proofs.Ytlnbgfglpdkifaa
