/- Texts that lie next to one another, laid into one: each says what it holds. No condition but what each states. -/
import Derived.Test.YtmmkcfiecgpkpaaGreatBdRoute

/- What the program's check of keys and parts answers; where one key goes, and whether two go to one part. No condition but that there are no more keys, and none longer, than the statements make. -/
namespace Go.Proofs.YtmmkcfiecgpkpaaGreat
open Go.RowKit
set_option linter.unusedVariables false
set_option linter.unusedSimpArgs false
set_option maxRecDepth 100000

/-- Is the key too long? -/
def lgK (k : Sl UInt8) : Bool := decide (64 < k.xs.length)
theorem lgK_any (ks : List (Sl UInt8)) : ks.any lgK = true ↔ ∃ k ∈ kxs ks, 64 < k.length := by
  rw [List.any_eq_true]
  constructor
  · rintro ⟨k, hk, h⟩; exact ⟨k.xs, List.mem_map.2 ⟨k, hk, rfl⟩, of_decide_eq_true h⟩
  · rintro ⟨_, hk, h⟩
    obtain ⟨k, hk', rfl⟩ := List.mem_map.1 hk
    exact ⟨k, hk', decide_eq_true h⟩

theorem long_any (a : Option Addr) (n c : Nat) (w : World) : Calls Tryz.prog 93 #[.slice a n c] w fun e w' => e = .returned (.bool (decide (64 < n))) ∧ w' = w := by
  by_cases h : 64 < n
  · have h1 : (64 : Int) < (n : Int) := by omega
    rw [decide_eq_true h]
    go_enter Tryz.func93, Tryz.ntmps93
    go_wp2_with fail
    go_ret
    exact ⟨rfl, rfl⟩
  · have h1 : ¬ (64 : Int) < (n : Int) := by omega
    rw [decide_eq_false h]
    go_enter Tryz.func93, Tryz.ntmps93
    go_wp2_with fail
    go_ret
    exact ⟨rfl, rfl⟩

set_option maxHeartbeats 1000000 in
theorem idxK_any (ks : List (Sl UInt8)) (w : World) (ao : Option Addr) (m cap : Nat) (hm : m = ks.length) (hK : KysAt w ao ks) (hmax : m ≤ 100000) :
    Calls Tryz.prog 115 #[.slice ao m cap, .func (.func 93) #[] #[]] w fun e w' => ∃ i : Int, e = .returned (.int .i64 i) ∧ w' = w ∧ (0 ≤ i ↔ ks.any lgK = true) ∧ i < 100000 := by
  have HM := Lib.hid hm
  have HK := Lib.hid hK
  clear hm hK
  go_enter Tryz.func115, Tryz.ntmps115
  go_wp2_with fail
  go_loopw [8] (fun i wr => ∃ k : Nat, k ≤ m ∧ i = .int .i64 k ∧ (ks.take k).any lgK = false ∧ wr = w) (fun i _ => m - (intOf i).toNat)
  case atStart => exact ⟨0, Nat.zero_le _, rfl, by simp, rfl⟩
  case round =>
    obtain ⟨k, hk, rfl, hany, rfl⟩ := hrel
    by_cases hlt : k < m
    · obtain ⟨y, hy⟩ := get_some (l := ks) (i := k) (by rw [← HM.out]; exact hlt)
      obtain ⟨b, o, rfl, hc, _, hyw, hyl⟩ := HK.out.get hy
      have HA := Lib.hid hany
      have HY := Lib.hid hy
      have HG := Lib.hid (show lgK y = decide (64 < y.len) from by unfold lgK; rw [hyl])
      obtain ⟨ya, yl, yc, yx⟩ := y
      dsimp only at hc HG
      by_cases h64 : 64 < yl
      · have h64' : (64 : Int) < (yl : Int) := by omega
        have HLg := Lib.hid (long_any ya yl yc wr)
        rw [decide_eq_true h64] at HLg
        clear hyw hyl hany hy
        go_wp2_with fail
        refine HLg.out.mono ?_
        rintro e w' ⟨rfl, hw⟩
        rw [hw]
        clear hw
        go_wp2_with fail
        go_ret
        refine ⟨k, rfl, rfl, ⟨fun _ => ?_, fun _ => by omega⟩, by omega⟩
        rw [List.any_eq_true]
        exact ⟨_, List.mem_of_getElem? HY.out, by rw [HG.out]; exact decide_eq_true h64⟩
      · have h64' : ¬ (64 : Int) < (yl : Int) := by omega
        have HLg := Lib.hid (long_any ya yl yc wr)
        rw [decide_eq_false h64] at HLg
        clear hyw hyl hany hy
        go_wp2_with fail
        refine HLg.out.mono ?_
        rintro e w' ⟨rfl, hw⟩
        rw [hw]
        clear hw
        go_wp2_with fail
        go_roundw
        case rel =>
          refine ⟨k + 1, by omega, by go_num, ?_, by first | rfl | trivial⟩
          rw [List.take_add_one, HY.out, List.any_append, HA.out]
          simp [HG.out, h64]
        case measure => simp [intOf]; omega
    · obtain rfl : k = m := by omega
      have HA := Lib.hid hany
      clear hany
      go_wp2_with fail
      go_ret
      refine ⟨-1, rfl, rfl, ⟨fun h => by omega, fun h => ?_⟩, by omega⟩
      have := HA.out
      rw [List.take_of_length_le (by rw [HM.out]; omega)] at this
      rw [this] at h
      cases h

theorem contK_any (ks : List (Sl UInt8)) (w : World) (ao : Option Addr) (m cap : Nat) (hm : m = ks.length) (hK : KysAt w ao ks) (hmax : m ≤ 100000) :
    Calls Tryz.prog 92 #[.slice ao m cap, .func (.func 93) #[] #[]] w fun e w' => e = .returned (.bool (ks.any lgK)) ∧ w' = w := by
  have HI := Lib.hid (idxK_any ks w ao m cap hm hK hmax)
  clear hm hK
  go_enter Tryz.func92, Tryz.ntmps92
  go_wp2_with (go_at_call 115; ((with_reducible refine HI.out.mono ?_)); rintro e w' ⟨i, rfl, hw, hi, hb⟩; rw [hw]; clear hw; have HH := Lib.hid hi; clear hi)
  go_ret
  refine ⟨ret_bool ?_, rfl⟩
  rw [Bool.eq_iff_iff, decide_eq_true_iff]
  exact HH.out

set_option maxHeartbeats 1000000 in
theorem check_any (n : Int) (ks : List (Sl UInt8)) (w : World) (ao : Option Addr) (m cap : Nat) (hm : m = ks.length) (hK : KysAt w ao ks) (hmax : m ≤ 100000) :
    Calls Tryz.prog 66 #[.int .i64 n, .slice ao m cap] w fun e w' => e = .returned (.int .i64 (stE n (kxs ks))) ∧ w' = w := by
  have hml : (kxs ks).length = m := by rw [List.length_map]; exact hm.symm
  have HC := Lib.hid (contK_any ks w ao m cap hm hK hmax)
  by_cases hn : n < 1 ∨ 8 < n
  · rw [show stE n (kxs ks) = 2 from if_pos hn]
    clear hK hml hm HC
    rcases hn with hn | hn
    · go_enter Tryz.func66, Tryz.ntmps66
      go_wp2_with fail
      go_ret
      exact ⟨rfl, rfl⟩
    · have hn1 : ¬ n < 1 := by omega
      go_enter Tryz.func66, Tryz.ntmps66
      go_wp2_with fail
      go_ret
      exact ⟨rfl, rfl⟩
  · have hn1 : ¬ n < 1 := by omega
    have hn2 : ¬ 8 < n := by omega
    by_cases h256 : 256 < m
    · have h256' : (256 : Int) < (m : Int) := by omega
      rw [show stE n (kxs ks) = 3 by unfold stE; rw [if_neg hn, if_pos (.inl (by omega))]]
      clear hK hml hm HC hn
      go_enter Tryz.func66, Tryz.ntmps66
      go_wp2_with fail
      go_ret
      exact ⟨rfl, rfl⟩
    · have h256' : ¬ (256 : Int) < (m : Int) := by omega
      have HL := Lib.hid (lgK_any ks)
      cases hl : ks.any lgK with
      | true =>
        rw [hl] at HC
        rw [show stE n (kxs ks) = 3 by unfold stE; rw [if_neg hn, if_pos (.inr (HL.out.1 hl))]]
        clear hK hml hm hn hl HL
        go_enter Tryz.func66, Tryz.ntmps66
        go_wp2_with (go_at_call 92; ((with_reducible refine HC.out.mono ?_)); rintro e w' ⟨rfl, hw⟩; rw [hw]; clear hw)
        go_ret
        exact ⟨rfl, rfl⟩
      | false =>
        rw [hl] at HC
        rw [show stE n (kxs ks) = 0 by
          unfold stE
          rw [if_neg hn, if_neg (fun h => by
            rcases h with h | h
            · omega
            · have := HL.out.2 h
              rw [hl] at this
              cases this)]]
        clear hK hml hm hn hl HL
        go_enter Tryz.func66, Tryz.ntmps66
        go_wp2_with (go_at_call 92; ((with_reducible refine HC.out.mono ?_)); rintro e w' ⟨rfl, hw⟩; rw [hw]; clear hw)
        go_ret
        exact ⟨rfl, rfl⟩

/-- One key, in a row of its own. -/
theorem keys_one (w : World) (ao : Option Addr) (m cap : Nat) (l : List UInt8) (hm : m = l.length) (hA : BytesAt w ao l) (hW : SlW ao m cap) : KysAt (w.alloc (.cells #[.slice ao m cap] 35)) (some ⟨w.heap.size, 0, none⟩) [⟨ao, m, cap, l⟩] := by
  have hb := Blk.new w [.slice ao m cap] 35
  have hA' := hA.still ((Turned.refl _ w).alloc (.cells #[.slice ao m cap] 35))
  refine ⟨fun i k hk => ⟨w.heap.size, 0, rfl, fun j v hv => ?_⟩, fun k hk => ?_⟩
  · cases i with
    | succ i => simp at hk
    | zero =>
      cases hk
      cases j with
      | zero => cases hv; exact hb.cell rfl
      | succ j => cases hv
  · rw [List.mem_singleton] at hk
    subst hk
    refine ⟨hm.symm, hW.le, hW.max, hW.none, fun i x hx => ?_, fun _ _ => trivial⟩
    obtain ⟨b, o, e, hc⟩ := hA' i x hx
    refine ⟨b, o, e, fun j v hv => ?_⟩
    cases j with
    | zero => cases hv; simpa using hc
    | succ j => cases hv

theorem stE_one (n : Int) (l : List UInt8) : stE n [l] = rtE n l := by
  unfold stE rtE
  simp

theorem rof_any (n : Int) (l : List UInt8) (w : World) (ao : Option Addr) (m cap : Nat) (hm : m = l.length) (hA : BytesAt w ao l) (hW : SlW ao m cap) (hn : i64w n) (hmax : m ≤ 100) :
    Calls Tryz.prog 45 #[.int .i64 n, .slice ao m cap] w fun e w' => e = .returned (.tuple #[.int .i64 (rtP n l), .int .i64 (rtE n l)]) ∧ Still w w' := by
  have hT : Still w (w.alloc (.cells #[.slice ao m cap] 35)) := (Turned.refl _ w).alloc _
  have HC := Lib.hid (check_any n [⟨ao, m, cap, l⟩] _ _ 1 1 rfl (keys_one w ao m cap l hm hA hW) (by omega))
  rw [show kxs [(⟨ao, m, cap, l⟩ : Sl UInt8)] = [l] from rfl, stE_one] at HC
  have HP := Lib.hid (part_any n _ ao l cap (by have := hn.2; omega) (hA.still hT) (by omega))
  rw [← hm] at HP
  have HT := Lib.hid hT
  rcases rtE_or n l with h0 | h0
  · obtain ⟨h1, h2, h3⟩ := rtE_zero.1 h0
    have hn1 : ¬ n < 1 := by omega
    have HV := Lib.hid (show partV n l = .tuple #[.int .i64 (partOf n l), .int .i64 0] by simp [partV, partErr, hn1])
    rw [HV.out] at HP
    rw [h0] at HC ⊢
    rw [show rtP n l = partOf n l from if_pos h0]
    clear HV h0 h1 h2 h3 hA hm hT hn
    generalize partOf n l = q at *
    go_enter Tryz.func45, Tryz.ntmps45
    go_wp2_with (first
      | (go_at_call 66; ((with_reducible refine HC.out.mono ?_)); rintro e w5 ⟨rfl, hw⟩; rw [hw]; clear hw)
      | (go_at_call 67; ((with_reducible refine HP.out.mono ?_)); rintro e w6 ⟨rfl, hw⟩; rw [← hw]; clear hw))
    go_ret2
    exact ⟨rfl, HT.out⟩
  · have hx : (rtE n l == 0) = false := by rw [beq_eq_false_iff_ne]; omega
    have hx2 : ¬ rtE n l = 0 := by omega
    rw [show rtP n l = 0 from if_neg hx2]
    generalize rtE n l = x at *
    clear h0 hA hm hT hn HP
    go_enter Tryz.func45, Tryz.ntmps45
    go_wp2_with (go_at_call 66; ((with_reducible refine HC.out.mono ?_)); rintro e w5 ⟨rfl, hw⟩; rw [hw]; clear hw)
    go_ret2
    exact ⟨rfl, HT.out⟩

end Go.Proofs.YtmmkcfiecgpkpaaGreat
