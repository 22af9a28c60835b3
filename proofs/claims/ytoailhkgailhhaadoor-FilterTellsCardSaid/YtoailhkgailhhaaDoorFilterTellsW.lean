/- FilterTells: the walk. No condition but that the program's filters keep their words. -/
import Derived.Test.YtoailhkgailhhaaDoorFilterApi
import Derived.Test.YtoailhkgailhhaaDoorHasInt
namespace Go.Proofs.YtoailhkgailhhaaDoor
open Go.RowKit
set_option linter.unusedVariables false
set_option linter.unusedSimpArgs false
set_option maxRecDepth 100000

/-- 1 for each level that is so, 0 for others. -/
def lv01 (c : Txt) (L : List Txt) : List Int := L.map fun x => if x = c then 1 else 0
theorem lv01_mem {c : Txt} {L : List Txt} : (1 : Int) ∈ lv01 c L ↔ c ∈ L := by
  unfold lv01
  rw [List.mem_map]
  constructor
  · rintro ⟨x, h1, h2⟩
    by_cases e : x = c
    · subst e; exact h1
    · rw [if_neg e] at h2; cases h2
  · intro h; exact ⟨c, h, if_pos rfl⟩
theorem lv01_step {c x : Txt} {L : List Txt} {k : Nat} (h : L[k]? = some x) : lv01 c (L.take (k + 1)) = lv01 c (L.take k) ++ [if x = c then 1 else 0] := by
  unfold lv01
  rw [List.take_add_one, h]; simp

def Out01 (w : World) (l : List Int) (n : Nat) (e : Ending) (w' : World) : Prop := ∃ a c, e = .returned (.slice a n c) ∧ w'.ownsRow w.heap.size 3 1 (.slice a n c) n (ints l) ∧ Still w w'

set_option maxHeartbeats 1000000 in
theorem w9levels_any (c : Txt) (L : List Txt) (w : World) (ao : Option Addr) (n cap : Nat) (hn : n = L.length) (hA : TextsAt w ao L) (hmax : n ≤ 1000) :
    Calls Tryd.prog 13 #[.slice ao n cap, tx c] w (Out01 w (lv01 c L) n) := by
  obtain ⟨i0, hi, hz0, hz1, hz2⟩ := info_parts infoIntW
  have HN := Lib.hid hn
  have HA := Lib.hid hA
  have HL := Lib.hid (show L.take n = L from List.take_of_length_le (by omega))
  have HW := Lib.hid (World.ownsRow_made (e := 3) (size := 1) w #[] 0 (Nat.le_refl _) (by simp) (by simp))
  have hmm : (n : Int) ≤ 1000 := by omega
  unfold tx
  clear hn hA
  go_enter Tryd.func13, Tryd.ntmps13
  go_wp2
  go_loopw [5, 6] (fun o i wr => ∃ (k : Nat) (ao : Option Addr) (cc : Nat), k ≤ n ∧ i = .int .i64 k ∧ o = .slice ao k cc ∧ wr.ownsRow w.heap.size 3 1 (.slice ao k cc) k (ints (lv01 c (L.take k))) ∧ Still w wr) (fun _ i _ => n - (intOf i).toNat)
  case atStart => exact ⟨0, _, 0, Nat.zero_le _, rfl, rfl, by simpa [lv01, ints] using HW.out, (Turned.refl _ _).alloc _⟩
  case round =>
    obtain ⟨k, bo, cc, hk, rfl, rfl, hown, hst⟩ := hrel
    have HO := Lib.hid hown
    have HS := Lib.hid hst
    have hlo := hst.size
    clear hown
    by_cases hlt : k < n
    · obtain ⟨x, hx⟩ := get_some (l := L) (i := k) (by rw [← HN.out]; exact hlt)
      obtain ⟨g, o, rfl, hcx⟩ := (HA.out.still hst) k x hx
      unfold tx at hcx
      have HX := Lib.hid (lv01_step (c := c) hx)
      clear hx hst HA
      by_cases hxc : x = c
      · have hb : (x == c) = true := by simpa using hxc
        have HX := Lib.hid (show lv01 c (L.take (k + 1)) = lv01 c (L.take k) ++ [1] by rw [HX.out, if_pos hxc])
        clear hxc
        go_wp2_with (at_builtin; refine wpList_append_own_at _ rfl _ _ 29 rfl w.heap.size 3 i0 (.int .i64 0) 1 8 Tryd.underlying29 hi hz0 hz1 hz2 rfl (by decide) (.slice bo k cc) k (ints (lv01 c (L.take k))) rfl (ow_still HO.out ((Turned.refl _ _).alloc _)) ⟨wr.heap.size, 0, none⟩ 1 1 [.int .i64 1] rfl rfl (ow_cells wr _ _) (ow_ints rfl) (by unfold maxLen; omega) (by omega) (by simp; omega) ?_; intro v6 w6 hown6 hg6 _ hat6; obtain ⟨a6, c6, rfl⟩ := ow_slice hown6; have HS6 := Lib.hid (ow_put HS.out HO.out hg6); have HO6 := Lib.hid hown6; clear hown6 hg6 hat6)
        go_roundw
        case rel => exact ⟨k + 1, a6, c6, by omega, by go_num, rfl, by rw [HX.out]; simpa [ints] using HO6.out, HS6.out⟩
        case measure => simp [intOf]; omega
      · have hb : (x == c) = false := by simpa using hxc
        have HX := Lib.hid (show lv01 c (L.take (k + 1)) = lv01 c (L.take k) ++ [0] by rw [HX.out, if_neg hxc])
        clear hxc
        go_wp2_with (at_builtin; refine wpList_append_own_at _ rfl _ _ 29 rfl w.heap.size 3 i0 (.int .i64 0) 1 8 Tryd.underlying29 hi hz0 hz1 hz2 rfl (by decide) (.slice bo k cc) k (ints (lv01 c (L.take k))) rfl (ow_still HO.out ((Turned.refl _ _).alloc _)) ⟨wr.heap.size, 0, none⟩ 1 1 [.int .i64 0] rfl rfl (ow_cells wr _ _) (ow_ints rfl) (by unfold maxLen; omega) (by omega) (by simp; omega) ?_; intro v6 w6 hown6 hg6 _ hat6; obtain ⟨a6, c6, rfl⟩ := ow_slice hown6; have HS6 := Lib.hid (ow_put HS.out HO.out hg6); have HO6 := Lib.hid hown6; clear hown6 hg6 hat6)
        go_roundw
        case rel => exact ⟨k + 1, a6, c6, by omega, by go_num, rfl, by rw [HX.out]; simpa [ints] using HO6.out, HS6.out⟩
        case measure => simp [intOf]; omega
    · obtain rfl : k = n := by omega
      clear hst
      go_wp2
      go_ret
      refine ⟨bo, cc, rfl, ?_, HS.out⟩
      have := HO.out
      rwa [HL.out] at this

set_option maxHeartbeats 4000000 in
theorem ftells_walk (A : FilterApi) (l : Txt) (w : World) (hl : l.length ≤ maxLen) :
    Calls Tryd.prog 3 #[tx l] w fun e w' => e = .returned (.bool true) ∧ Still w w' := by
  have HS := Lib.hid (fun W => short9_any l W hl)
  have hs : (l.take 300).length ≤ 300 := by rw [List.length_take]; omega
  generalize l.take 300 = s at *
  have hln := spl_len s
  obtain ⟨q, hq⟩ : ∃ q, q = (spl s).length := ⟨_, rfl⟩
  have C1 := Lib.hid (fun W => A.levels s W hs)
  have C2 := Lib.hid (fun W => bsplit_any s W q hq (by omega))
  have C3 := Lib.hid (fun (c : Txt) (V : World) a d B (h : V.ownsRow B 9 1 (.slice a q d) q (txs (spl s))) => w9levels_any c (spl s) V a q d hq (TextsAt.of_own h hq) (by omega))
  have C4 := Lib.hid (fun (c : Txt) (V : World) a d B (h : V.ownsRow B 3 1 (.slice a q d) q (ints (lv01 c (spl s)))) => show Calls Tryd.prog 12 #[.slice a q d, .int .i64 1] V fun e w' => e = .returned (.bool (decide (c ∈ spl s))) ∧ V = w' from by
    have := hasI_any V a (lv01 c (spl s)) q d 1 (by simp [lv01, hq]) (by omega) (NumsAt.of_own h (by simp [lv01, hq]))
    rwa [show decide ((1 : Int) ∈ lv01 c (spl s)) = decide (c ∈ spl s) from decide_eq_decide.2 lv01_mem] at this)
  have C5 := Lib.hid (fun W => zfcheck_any s W (by omega))
  have C6 := Lib.hid (fun W => A.check s W hs)
  have C7 := Lib.hid (fun W => A.wild s W hs)
  have C8 := Lib.hid (fun W => works9 A W)
  unfold FlvPost at C1
  unfold Out01 at C3
  rcases fcE_or s with h0 | h0
  · have C9 := Lib.hid (fun (V : World) a b c d B (h1 : TextsAt V a (spl s)) (h2 : V.ownsRow B 9 1 (.slice b q d) q (txs (spl s))) => show Calls Tryd.prog 18 #[.slice a q c, .slice b q d] V fun e w' => e = .returned (.bool true) ∧ Still V w' from by
      have := sameT_any (spl s) (spl s) V a b q q c d hq hq h1 (TextsAt.of_own h2 hq) (by omega) (by omega)
      rwa [decide_eq_true rfl] at this)
    have ew : wldB s = (decide ([43] ∈ spl s) || decide ([35] ∈ spl s)) := by unfold wldB; rw [h0]; simp
    rw [h0, flv_ok h0, ← hq] at C1
    rw [h0] at C5 C6
    rw [ew] at C7
    generalize spl s = L at *
    have D3 := Lib.hid (fun V a d B h => C3.out [43] V a d B h)
    have E3 := Lib.hid (fun V a d B h => C3.out [35] V a d B h)
    have D4 := Lib.hid (fun V a d B h => C4.out [43] V a d B h)
    have E4 := Lib.hid (fun V a d B h => C4.out [35] V a d B h)
    unfold tx at HS C1 C2 D3 E3 C5 C6 C7 ⊢
    clear hs hl hln h0 ew hq C3 C4
    have hsp : (decide (([43] : Txt) ∈ L) = true) ∨ (decide (([43] : Txt) ∈ L) = false) := by cases decide (([43] : Txt) ∈ L) <;> simp
    rcases hsp with g1 | g1
    · rw [g1] at D4 C7
      simp only [Bool.true_or] at C7
      clear g1
      go_enter Tryd.func3, Tryd.ntmps3
      go_wp2_with (first
        | (go_at_call 9; ((with_reducible refine (HS.out _).mono ?_)); rintro e w0 ⟨rfl, rfl⟩)
        | (go_at_call 10; ((with_reducible refine (C1.out _).mono ?_)); rintro e w1 ⟨a1, c1, rfl, hA1, _, h1⟩)
        | (go_at_call 11; ((with_reducible refine (C2.out _).mono ?_)); rintro e w2 ⟨a2, c2, rfl, hO2, h2⟩)
        | (go_at_call 13; ((with_reducible refine (D3.out _ _ _ _ hO2).mono ?_)); rintro e w3 ⟨a3, c3, rfl, hO3, h3⟩)
        | (go_at_call 12; ((with_reducible refine (D4.out _ _ _ _ hO3).mono ?_)); rintro e w4 ⟨rfl, rfl⟩)
        | (go_at_call 14; ((with_reducible refine (C5.out _).mono ?_)); rintro e w5 ⟨rfl, h5⟩)
        | (go_at_call 18; ((with_reducible refine (C9.out _ _ _ _ _ _ (hA1.still (h2.trans (h3.trans (h5)))) (ow_still hO2 (h3.trans (h5)))).mono ?_)); rintro e w6 ⟨rfl, h6⟩)
        | (go_at_call 15; ((with_reducible refine (C6.out _).mono ?_)); rintro e w7 ⟨rfl, h7⟩)
        | (go_at_call 16; ((with_reducible refine (C7.out _).mono ?_)); rintro e w8 ⟨rfl, h8⟩)
        | (go_at_call 17; ((with_reducible refine (C8.out _).mono ?_)); rintro e w9 ⟨rfl, h9⟩))
      go_ret
      exact ⟨by first | rfl | simp, h1.trans (h2.trans (h3.trans (h5.trans (h6.trans (h7.trans (h8.trans (h9)))))))⟩
    · rw [g1] at D4 C7
      simp only [Bool.false_or] at C7
      clear g1
      generalize decide (([35] : Txt) ∈ L) = hb at *
      go_enter Tryd.func3, Tryd.ntmps3
      go_wp2_with (first
        | (go_at_call 9; ((with_reducible refine (HS.out _).mono ?_)); rintro e w0 ⟨rfl, rfl⟩)
        | (go_at_call 10; ((with_reducible refine (C1.out _).mono ?_)); rintro e w1 ⟨a1, c1, rfl, hA1, _, h1⟩)
        | (go_at_call 11; ((with_reducible refine (C2.out _).mono ?_)); rintro e w2 ⟨a2, c2, rfl, hO2, h2⟩)
        | (go_at_call 13; ((with_reducible refine (D3.out _ _ _ _ hO2).mono ?_)); rintro e w3 ⟨a3, c3, rfl, hO3, h3⟩)
        | (go_at_call 12; ((with_reducible refine (D4.out _ _ _ _ hO3).mono ?_)); rintro e w4 ⟨rfl, rfl⟩)
        | (go_at_call 13; ((with_reducible refine (E3.out _ _ _ _ (ow_still hO2 h3)).mono ?_)); rintro e w10 ⟨a10, c10, rfl, hO10, h10⟩)
        | (go_at_call 12; ((with_reducible refine (E4.out _ _ _ _ hO10).mono ?_)); rintro e w4 ⟨rfl, rfl⟩)
        | (go_at_call 14; ((with_reducible refine (C5.out _).mono ?_)); rintro e w5 ⟨rfl, h5⟩)
        | (go_at_call 18; ((with_reducible refine (C9.out _ _ _ _ _ _ (hA1.still (h2.trans (h3.trans (h10.trans (h5))))) (ow_still hO2 (h3.trans (h10.trans (h5))))).mono ?_)); rintro e w6 ⟨rfl, h6⟩)
        | (go_at_call 15; ((with_reducible refine (C6.out _).mono ?_)); rintro e w7 ⟨rfl, h7⟩)
        | (go_at_call 16; ((with_reducible refine (C7.out _).mono ?_)); rintro e w8 ⟨rfl, h8⟩)
        | (go_at_call 17; ((with_reducible refine (C8.out _).mono ?_)); rintro e w9 ⟨rfl, h9⟩))
      go_ret
      exact ⟨by first | rfl | simp, h1.trans (h2.trans (h3.trans (h10.trans (h5.trans (h6.trans (h7.trans (h8.trans (h9))))))))⟩
  · have ew : wldB s = false := by unfold wldB; rw [h0]; simp
    rw [h0, flv_no (by omega)] at C1
    rw [h0] at C5 C6
    rw [ew] at C7
    generalize spl s = L at *
    have D3 := Lib.hid (fun V a d B h => C3.out [43] V a d B h)
    have E3 := Lib.hid (fun V a d B h => C3.out [35] V a d B h)
    have D4 := Lib.hid (fun V a d B h => C4.out [43] V a d B h)
    have E4 := Lib.hid (fun V a d B h => C4.out [35] V a d B h)
    unfold tx at HS C1 C2 D3 E3 C5 C6 C7 ⊢
    clear hs hl hln h0 ew hq C3 C4
    have hsp : (decide (([43] : Txt) ∈ L) = true) ∨ (decide (([43] : Txt) ∈ L) = false) := by cases decide (([43] : Txt) ∈ L) <;> simp
    rcases hsp with g1 | g1
    · rw [g1] at D4
      clear g1
      go_enter Tryd.func3, Tryd.ntmps3
      go_wp2_with (first
        | (go_at_call 9; ((with_reducible refine (HS.out _).mono ?_)); rintro e w0 ⟨rfl, rfl⟩)
        | (go_at_call 10; ((with_reducible refine (C1.out _).mono ?_)); rintro e w1 ⟨a1, c1, rfl, hA1, _, h1⟩)
        | (go_at_call 11; ((with_reducible refine (C2.out _).mono ?_)); rintro e w2 ⟨a2, c2, rfl, hO2, h2⟩)
        | (go_at_call 13; ((with_reducible refine (D3.out _ _ _ _ hO2).mono ?_)); rintro e w3 ⟨a3, c3, rfl, hO3, h3⟩)
        | (go_at_call 12; ((with_reducible refine (D4.out _ _ _ _ hO3).mono ?_)); rintro e w4 ⟨rfl, rfl⟩)
        | (go_at_call 14; ((with_reducible refine (C5.out _).mono ?_)); rintro e w5 ⟨rfl, h5⟩)
        | (go_at_call 15; ((with_reducible refine (C6.out _).mono ?_)); rintro e w7 ⟨rfl, h7⟩)
        | (go_at_call 16; ((with_reducible refine (C7.out _).mono ?_)); rintro e w8 ⟨rfl, h8⟩)
        | (go_at_call 17; ((with_reducible refine (C8.out _).mono ?_)); rintro e w9 ⟨rfl, h9⟩))
      go_ret
      exact ⟨by first | rfl | simp, h1.trans (h2.trans (h3.trans (h5.trans (h7.trans (h8.trans (h9))))))⟩
    · rw [g1] at D4
      clear g1
      generalize decide (([35] : Txt) ∈ L) = hb at *
      go_enter Tryd.func3, Tryd.ntmps3
      go_wp2_with (first
        | (go_at_call 9; ((with_reducible refine (HS.out _).mono ?_)); rintro e w0 ⟨rfl, rfl⟩)
        | (go_at_call 10; ((with_reducible refine (C1.out _).mono ?_)); rintro e w1 ⟨a1, c1, rfl, hA1, _, h1⟩)
        | (go_at_call 11; ((with_reducible refine (C2.out _).mono ?_)); rintro e w2 ⟨a2, c2, rfl, hO2, h2⟩)
        | (go_at_call 13; ((with_reducible refine (D3.out _ _ _ _ hO2).mono ?_)); rintro e w3 ⟨a3, c3, rfl, hO3, h3⟩)
        | (go_at_call 12; ((with_reducible refine (D4.out _ _ _ _ hO3).mono ?_)); rintro e w4 ⟨rfl, rfl⟩)
        | (go_at_call 13; ((with_reducible refine (E3.out _ _ _ _ (ow_still hO2 h3)).mono ?_)); rintro e w10 ⟨a10, c10, rfl, hO10, h10⟩)
        | (go_at_call 12; ((with_reducible refine (E4.out _ _ _ _ hO10).mono ?_)); rintro e w4 ⟨rfl, rfl⟩)
        | (go_at_call 14; ((with_reducible refine (C5.out _).mono ?_)); rintro e w5 ⟨rfl, h5⟩)
        | (go_at_call 15; ((with_reducible refine (C6.out _).mono ?_)); rintro e w7 ⟨rfl, h7⟩)
        | (go_at_call 16; ((with_reducible refine (C7.out _).mono ?_)); rintro e w8 ⟨rfl, h8⟩)
        | (go_at_call 17; ((with_reducible refine (C8.out _).mono ?_)); rintro e w9 ⟨rfl, h9⟩))
      go_ret
      exact ⟨by first | rfl | simp, h1.trans (h2.trans (h3.trans (h10.trans (h5.trans (h7.trans (h8.trans (h9)))))))⟩
end Go.Proofs.YtoailhkgailhhaaDoor
