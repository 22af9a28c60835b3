/- HandleStale: the walk. No condition. -/
import Derived.Test.YtefjlanibemdaaaHandleLive
import Derived.Test.YtefjlanibemdaaaHandleAll
import Derived.Test.YtefjlanibemdaaaReadInts
namespace Go.Proofs.Ytefjlanibemdaaa
open Go.RowKit
set_option linter.unusedVariables false
set_option maxRecDepth 100000

set_option maxHeartbeats 4000000 in
theorem walk_HandleStale (s : Sl Int) (t0 : Int) (w : World) (h0 : SlOk encI (okI .i64) 1 w s) (_ : (Lit.int .i64 t0).wf = true) :
    Calls Try.prog 5 #[.slice s.a s.len s.cap, .int .i64 t0] w fun e w' => e = .returned (.bool true) ∧ Still w w' := by
  obtain ⟨sa, sl, sc, sx⟩ := s
  have HSL := Lib.hid h0.len
  have hscap : sl ≤ sc := h0.le
  have hsmax : sc ≤ maxLen := h0.max
  have HN := Lib.hid (nums_row h0.row)
  unfold maxLen at hsmax
  obtain ⟨i0, hi, hz0, hz1, hz2⟩ := info_parts infoIntW
  clear h0
  dsimp only at HSL HN ⊢
  go_enter Try.func5, Try.ntmps5
  go_wp2_with fail
  refine (works4 _).mono ?_
  rintro e w1 ⟨rfl, hT1⟩
  have hsz1 := hT1.size
  have HO0 := Lib.hid (World.ownsRow_made (e := 3) (size := 1) w1 #[] 0 hsz1 (by simp) (by simp))
  have HT0 := Lib.hid (hT1.alloc (.cells #[] 3))
  clear hT1
  go_wp2_with fail
  go_loopw [5, 6] (fun p i wr => ∃ (k : Nat) (L : List Int) (ao : Option Addr) (cc : Nat), k ≤ sl ∧ k ≤ 128 ∧ i = .int .i64 k ∧ p = .slice ao k cc ∧ L.length = k ∧ wr.ownsRow w.heap.size 3 1 (.slice ao k cc) k (ints L) ∧ (∀ g ∈ L, 0 ≤ g ∧ g < 1099511627775) ∧ Still w wr) (fun _ i _ => sl - (intOf i).toNat)
  case atStart => exact ⟨0, [], some ⟨w1.heap.size, 0, none⟩, 0, Nat.zero_le _, Nat.zero_le _, rfl, rfl, rfl, HO0.out, (fun g h => by cases h), HT0.out⟩
  case round =>
    clear HO0 HT0 hsz1
    obtain ⟨k, L, ao, cc, hk, hk8, rfl, rfl, hL, hO, hG, hT⟩ := hrel
    have HO := Lib.hid hO
    have HL := Lib.hid hL
    have HG := Lib.hid hG
    have HT := Lib.hid hT
    have hwr : w.heap.size ≤ wr.heap.size := hT.size
    clear hO hL hG hT
    by_cases hin : k < sl ∧ k < 128
    · obtain ⟨hlt, h8⟩ := hin
      obtain ⟨x, hx⟩ := get_some (l := sx) (i := k) (by rw [HSL.out]; exact hlt)
      obtain ⟨b, o, rfl, hc⟩ := HN.out k x hx
      have c0 : wr.cell? ⟨b, o + k, none⟩ = some (.int .i64 x) := still_cell HT.out hc rfl
      obtain ⟨Y, hY⟩ : ∃ Y, Y = am x 1099511627775 := ⟨_, rfl⟩
      have hY1 : Y < 1099511627775 := by rw [hY]; exact am_lt _ (by omega)
      have H1 := Lib.hid (fun W => among_lit x 1099511627775 1099511627775 Y rfl hY (by omega) (by omega) W)
      clear hx hc hY
      go_wp2_with (first
        | (go_at_call 16; refine (H1.out _).mono ?_; rintro e w' ⟨rfl, rfl⟩)
        | (at_builtin; refine wpList_append_own_at _ rfl (.tmp 30) (.tmp 36) 28 rfl w.heap.size 3 i0 (.int .i64 0) 1 8 Try.underlying28 hi hz0 hz1 hz2 rfl (by decide) (.slice ao k cc) k (ints L) rfl (ow_still HO.out ((Turned.refl _ wr).alloc _)) ⟨wr.heap.size, 0, none⟩ 1 1 [.int .i64 Y] rfl rfl (ow_cells wr _ _) (ow_ints rfl) (by unfold maxLen; omega) (by omega) (by simp; omega) ?_; intro v6 w6 hown6 hg6 _ _; obtain ⟨a6, c6, rfl⟩ := ow_slice hown6; have HO6 := Lib.hid hown6; have HT6 := Lib.hid ((HT.out.alloc (.cells #[.int .i64 Y] 3)).grown hg6 (fun q e => .inr (by cases ao with | none => cases e | some y => have := ow_lt HO.out y rfl; cases e; exact this.1))); clear hown6 hg6))
      go_roundw
      case rel =>
        refine ⟨k + 1, L ++ [(Y : Int)], a6, c6, by omega, by omega, by go_num, rfl, by rw [List.length_append, HL.out]; rfl, ?_, ?_, HT6.out⟩
        · have := HO6.out
          simpa [ints] using this
        · intro g hg
          rcases List.mem_append.1 hg with hg | hg
          · exact HG.out g hg
          · simp at hg; subst hg; omega
      case measure => simp [intOf]; omega
    · have hex : (k < sl ∧ 128 ≤ k) ∨ sl ≤ k := by omega
      clear hin
      have hlow : NumsLow wr.heap.size ao := fun a ha => (ow_lt HO.out a ha).2
      have HA := Lib.hid (hall_ok wr ao cc k L HL.out.symm hk8 (fun g hg => by have := HG.out g hg; unfold genOk; omega) (NumsAt.of_own HO.out HL.out.symm) hlow)
      clear hlow
      by_cases hk0 : k = 0
      · subst hk0
        rcases hex with ⟨h1, h2⟩ | h1
        · exfalso; omega
        · obtain rfl : sl = 0 := by omega
          go_wp2_with fail
          ((with_reducible refine HA.out.mono ?_))
          rintro e w2 ⟨nb, rfl, _, _, hT2⟩
          have HT2 := Lib.hid (HT.out.trans hT2)
          clear hT2
          go_wp2_with fail
          go_ret
          exact ⟨rfl, HT2.out⟩
      · have hk1 : 1 ≤ k := by omega
        obtain ⟨t, ht⟩ : ∃ t, t = am t0 k := ⟨_, rfl⟩
        have htk : t < k := by rw [ht]; exact am_lt _ (by omega)
        have H2 := Lib.hid (fun W => among_lit t0 k k t rfl ht (by omega) (by omega) W)
        clear ht
        obtain ⟨gt, hgt⟩ := get_some (l := L) (i := t) (by rw [HL.out]; exact htk)
        have hgb := HG.out gt (List.mem_of_getElem? hgt)
        obtain ⟨g, r, rfl, hgB, hB⟩ := ow_blk HO.out (by omega)
        have HB := Lib.hid hB
        have HGT := Lib.hid hgt
        clear hB hgt
        rcases hex with ⟨h1, h2⟩ | h1
        all_goals
          go_wp2_with fail
          ((with_reducible refine HA.out.mono ?_))
          rintro e w2 ⟨nb, rfl, hN2, hnb, hT2⟩
          have HT2 := Lib.hid (HT.out.trans hT2)
          have hgl : g < wr.heap.size := HB.out.lt
          have HB2 := Lib.hid (HB.out.turned hT2 (fun h => h))
          have HO2 := Lib.hid (NumsAt.of_own (ow_still HO.out hT2) HL.out.symm)
          have HN2 := Lib.hid hN2
          have hc2 : w2.cell? ⟨g, t, none⟩ = some (.int .i64 gt) := HB2.out.cell (by rw [List.getElem?_append_left (by rw [ints_length, HL.out]; exact htk)]; exact ints_get HGT.out)
          have hf2 := HB2.out.free t
          clear hN2 hT2 HA
          go_wp2_with fail
          refine (H2.out _).mono ?_
          rintro e w' ⟨rfl, rfl⟩
          go_wp2_with fail
          obtain ⟨W5, hW5⟩ : ∃ W5, w2.setCell ⟨g, t, none⟩ (.int .i64 (gt + 1)) = W5 := ⟨_, rfl⟩
          have HO5 := Lib.hid (hW5 ▸ nums_set HO2.out t (gt + 1))
          have HT5 := Lib.hid (show Still w W5 from hW5 ▸ HT2.out.setCell (p := ⟨g, t, none⟩) (.inr hgB) (.int .i64 (gt + 1)))
          have HN5 := Lib.hid (show NumsAt W5 (some ⟨nb, 0, none⟩) (hsOf L) from hW5 ▸ HN2.out.turned ((Turned.refl (· = g) w2).setCell (p := ⟨g, t, none⟩) (.inl rfl) (.int .i64 (gt + 1))) (fun a ha => by cases ha; show ¬ nb = g; omega))
          rw [hW5]
          have HL5 := Lib.hid (show k = (L.set t (gt + 1)).length by rw [List.length_set, HL.out])
          clear hW5 hc2 hf2 HT2 HO2 HN2 HB2 hgl
          go_loopw [10] (fun i wr => ∃ j : Nat, j ≤ k ∧ i = .int .i64 j ∧ wr = W5) (fun i _ => k - (intOf i).toNat)
          case atStart => exact ⟨0, Nat.zero_le _, rfl, rfl⟩
          case round =>
            obtain ⟨j, hj, rfl, hw⟩ := hrel
            replace hw := hw.symm
            subst hw
            by_cases hjk : j < k
            · obtain ⟨x, hx⟩ := get_some (l := L) (i := j) (by rw [HL.out]; exact hjk)
              obtain ⟨b', o', e', hcx⟩ := HN5.out j _ (hsOf_get hx)
              obtain ⟨rfl, rfl⟩ : nb = b' ∧ 0 = o' := by cases e'; exact ⟨rfl, rfl⟩
              rw [Nat.zero_add] at hcx
              have hxb := HG.out x (List.mem_of_getElem? hx)
              by_cases hjt : j = t
              · subst hjt
                obtain rfl : gt = x := Option.some.inj (HGT.out.symm.trans hx)
                have HV := Lib.hid (live_at W5 (some ⟨g, 0, none⟩) (L.set j (gt + 1)) k cc j gt (gt + 1) HL5.out (by omega) (by unfold genOk; omega) (List.getElem?_set_self (by rw [HL.out]; exact hjk)) HO5.out)
                rw [if_neg (by omega)] at HV
                clear hx e'
                go_wp2_with fail
                ((with_reducible refine HV.out.mono ?_))
                rintro e w' ⟨rfl, rfl⟩
                go_wp2_with fail
                go_roundw
                case rel => exact ⟨j + 1, by omega, by go_num, trivial⟩
                case measure => simp [intOf]; omega
              · have HV := Lib.hid (live_at W5 (some ⟨g, 0, none⟩) (L.set t (gt + 1)) k cc j x x HL5.out (by omega) (by unfold genOk; omega) (by rw [List.getElem?_set_ne (by omega)]; exact hx) HO5.out)
                rw [if_pos rfl] at HV
                have hb1 : ((j : Int) == (t : Int)) = false := by rw [beq_eq_false_iff_ne]; omega
                have hb2 : ((j : Int) != (t : Int)) = true := by rw [bne_iff_ne]; omega
                clear hx e'
                go_wp2_with fail
                ((with_reducible refine HV.out.mono ?_))
                rintro e w' ⟨rfl, rfl⟩
                go_wp2_with fail
                go_roundw
                case rel => exact ⟨j + 1, by omega, by go_num, trivial⟩
                case measure => simp [intOf]; omega
            · have hjk2 : k ≤ j := by omega
              obtain ⟨b', o', e', hcx⟩ := HN5.out t _ (hsOf_get HGT.out)
              obtain ⟨rfl, rfl⟩ : nb = b' ∧ 0 = o' := by cases e'; exact ⟨rfl, rfl⟩
              rw [Nat.zero_add] at hcx
              have HX := Lib.hid (next_any (gt * 128 + (t : Nat) + 1) W5)
              rw [next_of (by omega) hgb.1 hgb.2] at HX
              have HV := Lib.hid (live_at W5 (some ⟨g, 0, none⟩) (L.set t (gt + 1)) k cc t (gt + 1) (gt + 1) HL5.out (by omega) (by unfold genOk; omega) (List.getElem?_set_self (by rw [HL.out]; exact htk)) HO5.out)
              rw [if_pos rfl] at HV
              clear e'
              go_wp2_with fail
              ((with_reducible refine HX.out.mono ?_))
              rintro e w' ⟨rfl, rfl⟩
              go_wp2_with fail
              ((with_reducible refine HV.out.mono ?_))
              rintro e w' ⟨rfl, rfl⟩
              go_wp2_with fail
              go_ret
              exact ⟨by simp, HT5.out⟩
end Go.Proofs.Ytefjlanibemdaaa
