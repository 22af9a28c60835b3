/- Owners by their places: the map that the program makes of them. No condition. -/
import Derived.Test.YtlnbgfglpdkifaaShCount
import Derived.Test.YtlnbgfglpdkifaaIterA
import Derived.Maps.OwnIn
namespace Go.Proofs.Ytlnbgfglpdkifaa
open Go.RowKit Go.Shelf
attribute [local go_sem] Oper.semAt_some
set_option linter.unusedVariables false
set_option linter.unusedSimpArgs false
set_option maxRecDepth 100000

/-- A map of one's own, and the box that holds it. -/
abbrev boxM {κ : Type} [DecidableEq κ] (kv : κ → Value) (t : TypeId) (B b : Nat) (f : κ → Option Int) : Thing := (blkT B [.map (some b)] t).sep (mapT kv b f)

set_option maxHeartbeats 4000000 in
theorem shby_any (w : World) (ao : Option Addr) (n c : Nat) (os : List Own) (hn : n = os.length) (hn1 : n ≤ 1000) (h : OwAt w ao os) :
    Calls Try.prog 26 #[.slice ao n c] w fun e w' => ∃ mb, e = .returned (.map (some mb)) ∧ w.heap.size ≤ mb ∧ MapF plV w' mb (whoF os) ∧ Still w w' := by
  obtain ⟨mb, hmb⟩ : ∃ mb, mb = w.heap.size := ⟨_, rfl⟩
  obtain ⟨W1, hW1⟩ : ∃ W1, W1 = (w.alloc (.map #[] 0)).alloc (.cells #[.map (some mb)] 56) := ⟨_, rfl⟩
  have hs1 : Still w W1 := by rw [hW1]; exact ((Turned.refl _ _).alloc _).alloc _
  have hz1 : W1.heap.size = mb + 2 := by rw [hW1, hmb]; simp
  have hm1 : MapF plV W1 mb (whoF ((frs os).take 0)) := by
    have h0 := MapF.made (kv := plV) w
    rw [← hmb] at h0
    rw [hW1]
    exact (h0.keep (S := fun _ => False) ((Turned.refl _ _).alloc _) (fun h => h)).congr (fun _ => rfl)
  have hb1 : Blk W1 (mb + 1) [.map (some mb)] 56 := by
    have := Blk.new (w.alloc (.map #[] 0)) [.map (some mb)] 56
    rw [World.size_alloc, ← hmb] at this
    rw [hW1]; exact this
  have HIt := Lib.hid (shcount_it ao n c os hn hn1 W1.heap.size)
  have HE := Lib.hid (shcount_any ao n c W1)
  have hr1 := row_still h hs1
  have HR := Lib.hid (evO_new (n := n) (c := c) hr1)
  have ht2 : Still W1 (W1.alloc (.cells #[.slice ao n c] 24)) := (Turned.refl _ _).alloc _
  have HB := Lib.hid (show (boxM plV 56 (mb + 1) mb (whoF ((frs os).take 0))).at_ (W1.alloc (.cells #[.slice ao n c] 24)) (fun k => k = mb + 1 ∨ k = mb) from
    ⟨(· = mb + 1), (· = mb), ⟨hb1.turned ht2 (fun h => h), fun _ => Iff.rfl⟩, ⟨hm1.keep ht2 (fun h => h), fun _ => Iff.rfl⟩, fun k e1 e2 => by omega, fun _ => Iff.rfl⟩)
  have HD := Lib.hid (show ∀ k, (k = mb + 1 ∨ k = mb) → ¬ (k = W1.heap.size ∨ (os ≠ [] ∧ ∃ x, ao = some x ∧ x.block = k)) from by
    intro k hk hk2
    rcases hk2 with hk2 | hk2
    · omega
    · have := own_lt h hk2; omega)
  have HSt := Lib.hid (hs1.trans ht2)
  have HF := Lib.hid (show whoF ((frs os).take (frs os).length) = whoF os from by rw [List.take_length]; exact funext (whoF_frs os))
  have HNd := Lib.hid (show ((frs os).map (·.1)).Nodup from (frsG_nodup os []).1)
  have HZ := Lib.hid hz1
  have HMB := Lib.hid hmb
  have hmw : w.heap.size + 1 = mb + 1 := by rw [hmb]
  have hmm : (Instr.makeMap 56 none).run Try.prog w = .ok (.map (some mb)) (w.alloc (.map #[] 0)) := by rw [hmb]; exact run_makeMap 56 w
  clear h hr1 ht2 hb1 hm1 hs1 hn hn1 hz1
  refine (callsIn_wide (n := 9)).1 (callsIn_of_wp_marks Try.func26 rfl trivial ?_ rfl)
  simp only [Try.ntmps26, List.size_toArray, List.length_cons, List.length_nil, Nat.reduceAdd, Nat.reduceSub, Array.replicate_succ, Array.replicate_zero, List.push_toArray, List.append_toArray, List.nil_append, List.cons_append]
  have hf1 : Fence.wide.fn 25 := trivial
  clear hmb
  gi_wp2_with (gi_at_call 25; rw [← hW1]; ((with_reducible refine (callsIn_wide.2 HE.out).mono ?_)); rintro e w2 ⟨rfl, rfl⟩)
  rw [← hW1, show mb + 1 + 1 = W1.heap.size from by rw [HZ.out]]
  clear hW1
  refine loopA_outer rfl (enters_of Try.func31 (by kernel_rfl) rfl) HIt.out (by exact fun _ => rfl) (fun k => boxM plV 56 (mb + 1) mb (whoF ((frs os).take k))) (fun _ => noT) HR.out HB.out HD.out ?_ ?_ ?_
  · rintro ⟨⟨p1, p2⟩, x⟩ y k V Q' hr hl1 hx hI hQl hsk
    obtain ⟨rr, hrr⟩ := hr
    have hyV : y < V.heap.size := (Array.getElem?_eq_some_iff.1 hrr).1
    have hVb := Blk.new V [.int .i64 p1, .int .i64 p2, .int .i64 x] 34
    have HBx := Lib.hid (fun W2 (hT2 : Turned (· = y) (V.alloc (.cells #[.int .i64 p1, .int .i64 p2, .int .i64 x] 34)) W2) => show Blk W2 V.heap.size [.int .i64 p1, .int .i64 p2, .int .i64 x] 34 from hVb.turned hT2 (by omega))
    have HI2 := Lib.hid (fun W2 (hT2 : Turned (· = y) (V.alloc (.cells #[.int .i64 p1, .int .i64 p2, .int .i64 x] 34)) W2) => show (boxM plV 56 (mb + 1) mb (whoF ((frs os).take k))).at_ W2 Q' from
      Thing.keep _ (Thing.keep _ hI ((Turned.refl _ V).alloc _) (fun _ _ h => h)) hT2 (fun j hj e => hQl (e ▸ hj)))
    have HG := Lib.hid (show ∀ c, (if c = (p1, p2) then some x else whoF ((frs os).take k) c) = whoF ((frs os).take (k + 1)) c from fun c => by
      have e : (frs os).take (k + 1) = (frs os).take k ++ [((p1, p2), x)] := by rw [List.take_add_one, hx]; rfl
      rw [e]
      refine whoF_snoc (o := ((p1, p2), x)) (fun hm => ?_) c
      have hn := HNd.out
      rw [← List.take_append_drop (k + 1) (frs os), e, List.map_append, List.map_append] at hn
      have h2 := (List.nodup_append.1 (List.nodup_append.1 hn).1).2.2
      exact h2 _ hm _ (List.mem_singleton.2 rfl) rfl)
    clear hl1 hx hI hQl hsk hVb hrr hyV
    dsimp only [encO16]
    gi_wp2
    refine ⟨(Turned.refl _ _).alloc _, fun W2 _ hT2 => ?_⟩
    have hI2 := HI2.out W2 hT2
    have hbx := HBx.out W2 hT2
    have p0 := hbx.cell (o := 0) rfl
    have p1' := hbx.cell (o := 1) rfl
    have p2' := hbx.cell (o := 2) rfl
    obtain ⟨Q1, Q2, ⟨hB, hQ1⟩, ⟨hM, hQ2⟩, hdd, hQ⟩ := hI2
    have cc := hB.cell (o := 0) rfl
    obtain ⟨W3, hmu, hM3, hT3⟩ := MapF.put keysPl hM (p1, p2) x
    simp only [plV] at hmu
    have HFin := Lib.hid (show Goes (boxM plV 56 (mb + 1) mb (whoF ((frs os).take (k + 1)))) Q' W2 W3 from by
      refine ⟨Q', ⟨Q1, Q2, ⟨hB.turned hT3 (by omega), hQ1⟩, ⟨hM3.congr HG.out, hQ2⟩, hdd, hQ⟩, hT3.mono (fun i _ e => (hQ i).2 (.inr ((hQ2 i).2 e))), fun _ h => .inl h⟩)
    clear hB hM hM3 hT3 hQ hQ1 hQ2 hdd hbx hT2
    gi_wp2
    exact HFin.out
  · intro D V Q' hD hK hQD hI hsk
    obtain ⟨Q1, Q2, ⟨hB, hQ1⟩, ⟨hM, hQ2⟩, hdd, hQ⟩ := hI
    have cc := hB.cell (o := 0) rfl
    have hz := HMB.out
    have hz2 := HZ.out
    have hD1 : mb + 2 ≤ D := by
      have := ((Turned.refl (fun _ => False) W1).alloc (.cells #[.slice ao n c] 24)).size
      omega
    have hT0 : Turned (fun k => w.heap.size ≤ k) w V := (HSt.out.mono (fun _ _ h => h.elim)).trans (hsk.turn.mono (fun k _ h => by omega))
    have hp := putObj_since (.deferred none) (Array.getElem?_eq_some_iff.1 hK).1
    have HP := Lib.hid (show w.heap.size ≤ mb ∧ MapF plV (V.putObj D (.deferred none)) mb (whoF os) ∧ Still w (V.putObj D (.deferred none)) from by
      refine ⟨by omega, (hM.keep hp (by omega)).congr (fun c => by rw [HF.out]), ?_⟩
      exact (hT0.trans (hp.mono (fun k _ e => by rw [e]; omega))).mono (fun k hk hh => by omega))
    clear hB hM hQ hQ1 hQ2 hdd hT0 hsk hp hz hz2 hmw
    gi_wp2
    refine ⟨by simp, .inl ⟨_, _, rfl, run_takeDeferred hK, ?_⟩⟩
    refine ⟨_, results_tmp rfl _ _ _, ?_⟩
    exact ⟨mb, rfl, HP.out⟩
  · intro D k V Q' hD hK hQD hk hI hsk
    exact hI.elim
end Go.Proofs.Ytlnbgfglpdkifaa
