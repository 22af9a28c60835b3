/- Filters' levels of which each wild one is a tame one: they make a name where the filter is one. The program's tamed, and what its Levels and Check answer. No condition but that the text is not too long. -/
import Derived.Test.YtpmkokckjieidaaGreatDoorSplit
import Derived.Test.YtpmkokckjieidaaGreatDoorBdName
import Derived.Test.YtpmkokckjieidaaGreatDoorFilterApi
import Derived.Test.YtpmkokckjieidaaGreatDoorKit
namespace Go.Proofs.YtpmkokckjieidaaGreatDoor
open Go.RowKit
set_option linter.unusedVariables false
set_option linter.unusedSimpArgs false
set_option maxRecDepth 100000

def tmd : List Txt → List Txt
  | [] => []
  | x :: r => (if x = [43] ∨ (x = [35] ∧ r = []) then [120] else x) :: tmd r
theorem tmd_length : ∀ L : List Txt, (tmd L).length = L.length
  | [] => rfl
  | x :: r => by simp [tmd, tmd_length r]
theorem tmd_get : ∀ {L : List Txt} {k : Nat} {x : Txt}, L[k]? = some x → (tmd L)[k]? = some (if x = [43] ∨ (x = [35] ∧ k + 1 = L.length) then [120] else x)
  | [], k, x, h => by simp at h
  | y :: r, 0, x, h => by
    simp at h; subst h
    simp only [tmd, List.getElem?_cons_zero, List.length_cons, Nat.zero_add]
    have e : (r = []) ↔ (1 = r.length + 1) := by rw [← List.length_eq_zero_iff]; omega
    simp only [e]
  | y :: r, k + 1, x, h => by
    rw [List.getElem?_cons_succ] at h
    rw [tmd, List.getElem?_cons_succ, tmd_get h, List.length_cons]
    have e : (k + 1 = r.length) ↔ (k + 1 + 1 = r.length + 1) := by omega
    simp only [e]
theorem tmd_ne {L : List Txt} (h : L ≠ []) : tmd L ≠ [] := fun e => h (List.length_eq_zero_iff.1 (by rw [← tmd_length, e]; rfl))
theorem tmd_pure : ∀ {L : List Txt}, (∀ x ∈ L, (47 : UInt8) ∉ x) → ∀ x ∈ tmd L, (47 : UInt8) ∉ x
  | [], _ => by simp [tmd]
  | y :: r, h => by
    intro x hx
    rw [tmd] at hx
    rcases List.mem_cons.1 hx with rfl | hx
    · split
      · simp
      · exact h y (by simp)
    · exact tmd_pure (fun z hz => h z (by simp [hz])) x hx
theorem tmd_len : ∀ {L : List Txt}, ∀ x ∈ tmd L, ∃ y ∈ L, x.length = y.length
  | [] => by simp [tmd]
  | y :: r => by
    intro x hx
    rw [tmd] at hx
    rcases List.mem_cons.1 hx with rfl | hx
    · refine ⟨y, by simp, ?_⟩
      split
      · rename_i h
        rcases h with rfl | ⟨rfl, _⟩ <;> rfl
      · rfl
    · obtain ⟨z, hz, e⟩ := tmd_len x hx
      exact ⟨z, by simp [hz], e⟩
theorem tmd_jn : ∀ L : List Txt, (jn (tmd L)).length = (jn L).length
  | [] => rfl
  | [x] => by
    simp only [tmd, jn]
    split
    · rename_i h
      rcases h with rfl | ⟨rfl, _⟩ <;> rfl
    · rfl
  | x :: y :: r => by
    have ih := tmd_jn (y :: r)
    rw [tmd] at ih ⊢
    rw [tmd, jn, jn, List.length_append, List.length_append, List.length_cons, List.length_cons, ih]
    congr 1
    split
    · rename_i h
      rcases h with rfl | ⟨_, h⟩
      · rfl
      · cases h
    · rfl
theorem jn_mem : ∀ {L : List Txt} {b : UInt8}, b ∈ jn L → (b = 47) ∨ ∃ x ∈ L, b ∈ x
  | [], b, h => by simp [jn] at h
  | [x], b, h => .inr ⟨x, by simp, h⟩
  | x :: y :: r, b, h => by
    rw [jn] at h
    rcases List.mem_append.1 h with h | h
    · exact .inr ⟨x, by simp, h⟩
    · rcases List.mem_cons.1 h with h | h
      · exact .inl h
      · rcases jn_mem h with h | ⟨z, hz, hb⟩
        · exact .inl h
        · exact .inr ⟨z, List.mem_cons_of_mem _ hz, hb⟩
theorem mem_jn9 : ∀ {L : List Txt} {x : Txt} {b : UInt8}, x ∈ L → b ∈ x → b ∈ jn L
  | [], x, b, h, _ => by simp at h
  | [y], x, b, h, hb => by simp at h; subst h; exact hb
  | y :: z :: r, x, b, h, hb => by
    rw [jn]
    rcases List.mem_cons.1 h with rfl | h
    · exact List.mem_append.2 (.inl hb)
    · exact List.mem_append.2 (.inr (List.mem_cons_of_mem _ (mem_jn9 h hb)))
theorem jn_all {P : UInt8 → Bool} (h47 : P 47 = true) (L : List Txt) : (∀ b ∈ jn L, P b = true) ↔ ∀ x ∈ L, ∀ b ∈ x, P b = true :=
  ⟨fun h x hx b hb => h b (mem_jn9 hx hb), fun h b hb => by
    rcases jn_mem hb with rfl | ⟨x, hx, hb⟩
    · exact h47
    · exact h x hx b hb⟩
theorem okC_iff {b : UInt8} : okC b = true ↔ fcC b = true ∧ b ≠ 43 ∧ b ≠ 35 := by
  unfold okC fcC
  simp only [Bool.and_eq_true, decide_eq_true_eq]
  have h43 : b = 43 ↔ b.toNat = 43 := ⟨fun h => by rw [h]; rfl, fun h => UInt8.toNat_inj.1 (by rw [h]; rfl)⟩
  have h35 : b = 35 ↔ b.toNat = 35 := ⟨fun h => by rw [h]; rfl, fun h => UInt8.toNat_inj.1 (by rw [h]; rfl)⟩
  rw [show (b ≠ 43) ↔ ¬ b.toNat = 43 from not_congr h43, show (b ≠ 35) ↔ ¬ b.toNat = 35 from not_congr h35]
  constructor
  · rintro ⟨⟨⟨h1, h2⟩, h3⟩, h4⟩; exact ⟨⟨h1, h2⟩, h3, h4⟩
  · rintro ⟨⟨h1, h2⟩, h3, h4⟩; exact ⟨⟨⟨h1, h2⟩, h3⟩, h4⟩
theorem tmd_ok : ∀ L : List Txt, (∀ x ∈ tmd L, ∀ b ∈ x, okC b = true) ↔ (∀ x ∈ L, ∀ b ∈ x, fcC b = true) ∧ lvB L = true
  | [] => by simp [tmd, lvB]
  | x :: r => by
    have ih := tmd_ok r
    have hx : (∀ b ∈ (if x = [43] ∨ (x = [35] ∧ r = []) then [120] else x), okC b = true) ↔ (∀ b ∈ x, fcC b = true) ∧ ((43 : UInt8) ∉ x ∨ x = [43]) ∧ ((35 : UInt8) ∉ x ∨ (x = [35] ∧ r = [])) := by
      split
      · rename_i h
        rcases h with rfl | ⟨rfl, hr⟩
        · refine ⟨fun _ => ⟨by decide, by simp, by simp⟩, fun _ => by decide⟩
        · refine ⟨fun _ => ⟨by decide, by simp, .inr ⟨rfl, hr⟩⟩, fun _ => by decide⟩
      · rename_i h
        constructor
        · intro h1
          exact ⟨fun b hb => (okC_iff.1 (h1 b hb)).1, .inl (fun hb => (okC_iff.1 (h1 _ hb)).2.1 rfl), .inl (fun hb => (okC_iff.1 (h1 _ hb)).2.2 rfl)⟩
        · rintro ⟨h1, h2, h3⟩ b hb
          refine okC_iff.2 ⟨h1 b hb, ?_, ?_⟩
          · rintro rfl
            rcases h2 with h2 | h2
            · exact h2 hb
            · exact h (.inl h2)
          · rintro rfl
            rcases h3 with h3 | h3
            · exact h3 hb
            · exact h (.inr h3)
    have e1 : (∀ y ∈ tmd (x :: r), ∀ b ∈ y, okC b = true) ↔ (∀ b ∈ (if x = [43] ∨ (x = [35] ∧ r = []) then [120] else x), okC b = true) ∧ (∀ y ∈ tmd r, ∀ b ∈ y, okC b = true) := by
      rw [tmd]; exact List.forall_mem_cons
    have e2 : (∀ y ∈ (x :: r), ∀ b ∈ y, fcC b = true) ↔ (∀ b ∈ x, fcC b = true) ∧ (∀ y ∈ r, ∀ b ∈ y, fcC b = true) := List.forall_mem_cons
    rw [e1, hx, ih, e2]
    simp only [lvB, Bool.and_eq_true, Bool.or_eq_true, decide_eq_true_eq]
    constructor
    · rintro ⟨⟨h1, h2, h3⟩, h4, h5⟩; exact ⟨⟨h1, h4⟩, ⟨h2, h3⟩, h5⟩
    · rintro ⟨⟨h1, h4⟩, ⟨h2, h3⟩, h5⟩; exact ⟨⟨h1, h2, h3⟩, h4, h5⟩
theorem tame_of (l : Txt) : fcE l = 0 ↔ ofE (tmd (spl l)) = 0 := by
  have hp := tmd_pure (spl_pure l)
  have hj : jn (spl l) = l := jn_spl l
  have hlen : (jn (tmd (spl l))).length = l.length := by rw [tmd_jn, hj]
  have hne : jn (tmd (spl l)) ≠ [] ↔ l ≠ [] := by
    rw [Ne, Ne, ← List.length_eq_zero_iff, hlen, List.length_eq_zero_iff]
  have hb : (∀ b ∈ l, fcC b = true) ↔ ∀ x ∈ spl l, ∀ b ∈ x, fcC b = true := by
    conv => lhs; rw [← hj]
    exact jn_all (by decide) _
  rw [of_pure hp, fcE_iff, nmE_iff, hlen, hne, jn_all (by decide), tmd_ok, spl_jn (tmd_ne (spl_ne l)) hp, tmd_length, hb]
  constructor
  · rintro ⟨h1, h2, h3, h4, h5⟩; exact ⟨h1, h2, ⟨h3, h5⟩, h4⟩
  · rintro ⟨h1, h2, ⟨h3, h5⟩, h4⟩; exact ⟨h1, h2, h3, h4, h5⟩

theorem clone_texts (L : List Txt) (w : World) (b o n c : Nat) (hn : n = L.length) (hA : TextsAt w (some ⟨b, o, none⟩) L) (h100 : n ≤ 1000) :
    Calls Tryz.prog 76 #[.slice (some ⟨b, o, none⟩) n c] w fun e w' => ∃ a cc, e = .returned (.slice a n cc) ∧ w'.ownsRow w.heap.size 9 1 (.slice a n cc) n (txs L) ∧ Still w w' := by
  have H := Tryz.slices_Clone_string b o n c (L.map fun t => ByteArray.mk t.toArray) w (by rw [List.length_map]; omega) (by omega) (by
    intro j hj
    rw [List.length_map] at hj
    obtain ⟨x, hx⟩ := get_some hj
    obtain ⟨b', o', e, hc⟩ := hA j x hx
    cases e
    rw [hc, List.getD_eq_getElem?_getD, List.getElem?_map, hx]
    rfl)
  refine H.mono fun e w' ⟨v, h1, h2, _, h3⟩ => ?_
  obtain ⟨a, cc, rfl⟩ := ow_slice h2
  have e : ((L.map fun t => ByteArray.mk t.toArray).take n).map Value.string = txs L := by
    rw [List.take_of_length_le (by rw [List.length_map]; omega), List.map_map]; rfl
  rw [e] at h2
  exact ⟨a, cc, h1, h2, below_turned h3 (Nat.le_refl _)⟩

def TamPost (w : World) (L : List Txt) (n : Nat) (e : Ending) (w' : World) : Prop := ∃ a c, e = .returned (.slice a n c) ∧ TextsAt w' a (tmd L) ∧ SlW a n c ∧ Still w w'

set_option maxHeartbeats 2000000 in
theorem tamed_any (L : List Txt) (w : World) (ao : Option Addr) (n cap : Nat) (hn : n = L.length) (h0 : 0 < n) (hA : TextsAt w ao L) (hW : SlW ao n cap) (h100 : n ≤ 100) :
    Calls Tryz.prog 84 #[.slice ao n cap] w (TamPost w L n) := by
  obtain ⟨x0, hx0⟩ := get_some (l := L) (i := 0) (by omega)
  obtain ⟨b, o, rfl, _⟩ := hA 0 x0 hx0
  clear hx0
  have HA := Lib.hid hA
  have HN := Lib.hid hn
  have HC := Lib.hid (clone_texts L w b o n cap hn hA (by omega))
  have HFin := Lib.hid (fun (W : World) (g c : Nat) (r : List Value) (hb : Blk W g (txs (tmd L) ++ r) 9) => show TextsAt W (some ⟨g, 0, none⟩) (tmd L) from fun i x hx => ⟨g, 0, rfl, by rw [Nat.zero_add]; exact hb.cell (by rw [List.getElem?_append_left (by rw [txs, List.length_map]; exact get_lt hx)]; exact txs_get hx)⟩)
  clear hn hA hW
  go_enter Tryz.func84, Tryz.ntmps84
  go_wp2_with (go_at_call 76; ((with_reducible refine HC.out.mono ?_)); rintro e w1 ⟨a1, c1, rfl, hown, hst⟩)
  have hsw := SlW.of_own hown
  obtain ⟨g, r, rfl, hg, hb⟩ := ow_blk hown h0
  have HB := Lib.hid hb
  have HST := Lib.hid hst
  have HG := Lib.hid hg
  have HSW := Lib.hid hsw
  clear hown hb hst hg hsw
  go_loopw [10] (fun i wr => ∃ k : Nat, k ≤ n ∧ i = .int .i64 k ∧ Blk wr g (txs ((tmd L).take k ++ L.drop k) ++ r) 9 ∧ Still w wr) (fun i _ => n - (intOf i).toNat)
  case atStart => exact ⟨0, Nat.zero_le _, rfl, by rw [List.take_zero, List.drop_zero]; exact HB.out, HST.out⟩
  case round =>
    obtain ⟨k, hk, rfl, hbr, hsr⟩ := hrel
    by_cases hlt : k < n
    · obtain ⟨x, hx⟩ := get_some (l := L) (i := k) (by rw [← HN.out]; exact hlt)
      obtain ⟨b', o', e, hc⟩ := HA.out.still hsr k x hx
      cases e
      have ht := tmd_get hx
      have hstep : ∀ y, (tmd L)[k]? = some y → (txs ((tmd L).take k ++ L.drop k) ++ r).set k (tx y) = txs ((tmd L).take (k + 1) ++ L.drop (k + 1)) ++ r := by
        intro y hy
        have hkl : k < L.length := by rw [← HN.out]; exact hlt
        have hlen : ((tmd L).take k).length = k := by rw [List.length_take, tmd_length]; omega
        rw [List.set_append_left _ _ (by rw [txs, List.length_map, List.length_append, hlen, List.length_drop]; omega)]
        congr 1
        unfold txs
        rw [← List.map_set, List.set_append_right _ _ (by rw [hlen]; exact Nat.le_refl _), hlen, Nat.sub_self, List.drop_eq_getElem_cons hkl, List.set_cons_zero, List.take_add_one, hy]
        simp
      have hkeep : ∀ y, (tmd L)[k]? = some y → L[k]? = some y → txs ((tmd L).take k ++ L.drop k) ++ r = txs ((tmd L).take (k + 1) ++ L.drop (k + 1)) ++ r := by
        intro y hy hy'
        have hkl : k < L.length := by rw [← HN.out]; exact hlt
        rw [List.take_add_one, hy, List.drop_eq_getElem_cons hkl]
        have e : L[k] = y := by rw [List.getElem?_eq_getElem hkl] at hy'; exact Option.some.inj hy'
        rw [e]; simp
      have hlast : ((k + 1 = L.length) ↔ (k : Int) = (n : Int) - 1) := by rw [← HN.out]; omega
      by_cases hw : x = [43] ∨ (x = [35] ∧ k + 1 = L.length)
      · rw [if_pos hw] at ht
        have HE := Lib.hid (hstep _ ht)
        have hf := hbr.free k
        have hcx : ∃ y, wr.cell? ⟨g, k, none⟩ = some (tx y) := by
          have hkl : k < L.length := by rw [← HN.out]; exact hlt
          obtain ⟨y, hy⟩ := get_some (l := (tmd L).take k ++ L.drop k) (i := k) (by rw [List.length_append, List.length_take, tmd_length, List.length_drop]; omega)
          exact ⟨y, hbr.cell (by rw [List.getElem?_append_left (by rw [txs, List.length_map]; exact get_lt hy)]; exact txs_get hy)⟩
        obtain ⟨y, hcy⟩ := hcx
        have HBR := Lib.hid hbr
        have HSR := Lib.hid hsr
        have HGG := Lib.hid (show Still w (wr.setCell ⟨g, k, none⟩ (.string ⟨#[120]⟩)) from hsr.setCell (p := ⟨g, k, none⟩) (.inr HG.out) _)
        have HBB := Lib.hid (show Blk (wr.setCell ⟨g, k, none⟩ (.string ⟨#[120]⟩)) g (txs ((tmd L).take (k + 1) ++ L.drop (k + 1)) ++ r) 9 by rw [← HE.out]; exact hbr.set k _)
        clear hbr hsr hstep hkeep ht hx HA HC
        unfold tx at hc hcy
        by_cases h43 : x = [43]
        · have hb43 : (x == [43]) = true := by simpa using h43
          clear h43 hw hlast
          go_wp2_with fail
          go_roundw
          case rel => exact ⟨k + 1, by omega, by go_num, HBB.out, HGG.out⟩
          case measure => simp [intOf]; omega
        · obtain ⟨h35, hkl⟩ := hw.resolve_left h43
          have hb43 : (x == [43]) = false := by simpa using h43
          have hb35 : (x == [35]) = true := by simpa using h35
          have hkn : (k : Int) = (n : Int) - 1 := hlast.1 hkl
          have hkb : ((k : Int) == (n : Int) - 1) = true := by simpa using hkn
          have HK := Lib.hid hkn
          clear h43 h35 hkl hlast hkn
          go_wp2_with fail
          go_roundw
          case rel => exact ⟨k + 1, by omega, by go_num, HBB.out, HGG.out⟩
          case measure => simp [intOf]; omega
      · rw [if_neg hw] at ht
        have HE := Lib.hid (hkeep _ ht hx)
        rw [HE.out] at hbr
        have HBR := Lib.hid hbr
        have HSR := Lib.hid hsr
        have h43 : x ≠ [43] := fun h => hw (.inl h)
        have hb43 : (x == [43]) = false := by simpa using h43
        clear hbr hsr hstep hkeep ht hx HA HC
        unfold tx at hc
        by_cases h35 : x = [35]
        · have hb35 : (x == [35]) = true := by simpa using h35
          have hkn : ¬ (k : Int) = (n : Int) - 1 := fun h => hw (.inr ⟨h35, hlast.2 h⟩)
          have hkb : ((k : Int) == (n : Int) - 1) = false := by simpa using hkn
          clear h43 h35 hlast hw
          go_wp2_with fail
          go_roundw
          case rel => exact ⟨k + 1, by omega, by go_num, HBR.out, HSR.out⟩
          case measure => simp [intOf]; omega
        · have hb35 : (x == [35]) = false := by simpa using h35
          clear h43 h35 hlast hw
          go_wp2_with fail
          go_roundw
          case rel => exact ⟨k + 1, by omega, by go_num, HBR.out, HSR.out⟩
          case measure => simp [intOf]; omega
    · obtain rfl : k = n := by omega
      rw [List.take_of_length_le (by rw [tmd_length, ← HN.out]; exact Nat.le_refl _), List.drop_of_length_le (by rw [← HN.out]; exact Nat.le_refl _), List.append_nil] at hbr
      have HF := Lib.hid (HFin.out wr g 0 r hbr)
      have HSR := Lib.hid hsr
      clear hbr hsr HA HC
      go_wp2_with fail
      go_ret
      exact ⟨_, _, rfl, HF.out, HSW.out, HSR.out⟩
end Go.Proofs.YtpmkokckjieidaaGreatDoor
