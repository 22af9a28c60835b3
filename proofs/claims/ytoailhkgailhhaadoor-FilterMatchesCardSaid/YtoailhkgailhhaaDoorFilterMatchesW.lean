/- FilterMatches: the walk. No condition but that the program's filters keep their words. -/
import Derived.Test.YtoailhkgailhhaaDoorFilterApi
namespace Go.Proofs.YtoailhkgailhhaaDoor
open Go.RowKit
set_option linter.unusedVariables false
set_option linter.unusedSimpArgs false
set_option maxRecDepth 100000

set_option maxHeartbeats 4000000 in
theorem matches_walk (A : FilterApi) (l m : Txt) (s : Sl ByteArray) (w : World) (hl : l.length ≤ maxLen) (hm : m.length ≤ maxLen) (h1 : SlOk encT okS 1 w s) :
    Calls Tryd.prog 4 #[tx l, tx m, .slice s.a s.len s.cap] w fun e w' => e = .returned (.bool true) ∧ Still w w' := by
  obtain ⟨sa, sl, sc, sx⟩ := s
  have hcap : sl ≤ sc := h1.le
  have hmax : sc ≤ maxLen := h1.max
  have hlen : sx.length = sl := h1.len
  have hmm : (sl : Int) ≤ 9223372036854775807 := by unfold maxLen at hmax; omega
  have HL := Lib.hid hlen
  have HA := Lib.hid (fun (V : World) (hst : Still w V) (k : Nat) (x : ByteArray) (hx : sx[k]? = some x) => show ∃ b o, sa = some ⟨b, o, none⟩ ∧ V.cell? ⟨b, o + k, none⟩ = some (.string x) from by
    obtain ⟨b, o, e, hc⟩ := (TextsAt.of_row h1.row).still hst k x.data.toList (by simp [hx])
    exact ⟨b, o, e, by rw [tx_of]; exact hc⟩)
  have HSh := Lib.hid (fun (x : ByteArray) (hx : x ∈ sx) W => show Calls Tryd.prog 9 #[.string x] W fun e w' => e = .returned (tx (x.data.toList.take 300)) ∧ W = w' from by
    rw [tx_of]; exact (short9_any x.data.toList W (h1.each x hx)).mono fun e w' ⟨h1, h2⟩ => ⟨h1, h2.symm⟩)
  obtain ⟨i0, hi, hz0, hz1, hz2⟩ := info_parts infoStr
  have C8 := Lib.hid (fun W => works9 A W)
  have HS0 := Lib.hid (fun W => show Calls Tryd.prog 9 #[tx l] W fun e w' => e = .returned (tx (l.take 300)) ∧ W = w' from (short9_any l W hl).mono fun e w' ⟨h1, h2⟩ => ⟨h1, h2.symm⟩)
  have HS1 := Lib.hid (fun W => show Calls Tryd.prog 9 #[tx m] W fun e w' => e = .returned (tx (m.take 300)) ∧ W = w' from (short9_any m W hm).mono fun e w' ⟨h1, h2⟩ => ⟨h1, h2.symm⟩)
  have hs : (l.take 300).length ≤ 300 := by rw [List.length_take]; omega
  have ht : (m.take 300).length ≤ 300 := by rw [List.length_take]; omega
  generalize l.take 300 = f at *
  generalize m.take 300 = n at *
  have D1 := Lib.hid (fun W => A.match_ f n W hs ht)
  have D2 := Lib.hid (fun W => zfmatch_any f n W hs ht)
  have HW := Lib.hid (World.ownsRow_made (e := 9) (size := 1) w #[] 0 (Nat.le_refl _) (by simp) (by simp))
  have HTl := Lib.hid ht
  generalize mtB f n = mb at *
  generalize mtE f n = me at *
  clear h1 hlen hl hm hs ht
  show Calls Tryd.prog 4 #[tx l, tx m, .slice sa sl sc] w _
  unfold tx at HS0 HS1 D1 D2 ⊢
  go_enter Tryd.func4, Tryd.ntmps4
  go_wp2_with (first
    | (go_at_call 9; ((with_reducible refine (HS0.out _).mono ?_)); rintro e w0 ⟨rfl, rfl⟩)
    | (go_at_call 9; ((with_reducible refine (HS1.out _).mono ?_)); rintro e w0 ⟨rfl, rfl⟩))
  go_loopw [7, 8] (fun o i wr => ∃ (k g cc : Nat), k ≤ sl ∧ k ≤ 20 ∧ i = .int .i64 k ∧ o = .slice (some ⟨g, 0, none⟩) k cc ∧ wr.ownsRow w.heap.size 9 1 (.slice (some ⟨g, 0, none⟩) k cc) k (txs (cutT sx k)) ∧ Still w wr) (fun _ i _ => 20 - (intOf i).toNat)
  case atStart => exact ⟨0, _, 0, Nat.zero_le _, Nat.zero_le _, rfl, rfl, by simpa [cutT, txs] using HW.out, (Turned.refl _ _).alloc _⟩
  case round =>
    obtain ⟨k, g, cc, hk, hk20, rfl, rfl, hown, hst⟩ := hrel
    have HO := Lib.hid hown
    have HS := Lib.hid hst
    have hlo := hst.size
    clear hown HS0 HS1
    by_cases hlt : k < sl ∧ k < 20
    · obtain ⟨hlt, h20⟩ := hlt
      obtain ⟨x, hx⟩ := get_some (l := sx) (i := k) (by rw [HL.out]; exact hlt)
      obtain ⟨b, o, rfl, hc⟩ := HA.out wr hst k x hx
      have HSx := Lib.hid (HSh.out x (List.mem_of_getElem? hx))
      have HX := Lib.hid (cutT_step hx)
      clear hx hst HA HSh
      generalize x.data.toList.take 300 = t at *
      have h20' : (k : Int) < 20 := by omega
      unfold tx at HSx
      go_wp2_with (first
        | (go_at_call 9; ((with_reducible refine (HSx.out _).mono ?_)); rintro e w0 ⟨rfl, rfl⟩)
        | (at_builtin; refine wpList_append_own_at _ rfl (.tmp 32) (.tmp 38) 23 rfl w.heap.size 9 i0 (.string ⟨#[]⟩) 1 16 Tryd.underlying23 hi hz0 hz1 hz2 rfl (by decide) (.slice (some ⟨g, 0, none⟩) k cc) k (txs (cutT sx k)) rfl (ow_still HO.out ((Turned.refl _ _).alloc _)) ⟨wr.heap.size, 0, none⟩ 1 1 [.string ⟨t.toArray⟩] rfl rfl (ow_cells wr _ _) (by simp [Value.oneCell']) (by unfold maxLen; omega) (by omega) (by simp; omega) ?_; intro v6 w6 hown6 hg6 _ hat6; obtain ⟨a6, c6, rfl⟩ := ow_slice hown6; have HS6 := Lib.hid (ow_put HS.out HO.out hg6); have HO6 := Lib.hid (show w6.ownsRow w.heap.size 9 1 (.slice a6 (k + 1) c6) (k + 1) (txs (cutT sx (k + 1))) from by rw [HX.out]; simpa [txs, tx] using hown6); clear hown6 hg6 hat6))
      obtain ⟨g6, rfl⟩ := row_some HO6.out (Nat.succ_pos _)
      go_roundw
      case rel => exact ⟨k + 1, g6, c6, by omega, by omega, by go_num, rfl, HO6.out, HS6.out⟩
      case measure => simp [intOf]; omega
    · have hex : (k < sl ∧ 20 ≤ k) ∨ sl ≤ k := by omega
      have hLc : (cutT sx k).length = k := cutT_len (by rw [HL.out]; exact hk)
      have hLs := cutT_small sx k
      generalize cutT sx k = L at *
      have HC := Lib.hid (row_cells HO.out hLc.symm)
      have HC2 := Lib.hid (fun (V : World) (h : Still wr V) (j : Nat) (u : Value) (hj : (txs L)[j]? = some u) => show V.cell? ((⟨g, 0, none⟩ : Addr).add j) = some u from by
        have := HC.out j u hj
        rw [Addr.add_lit] at this ⊢
        rw [Nat.zero_add] at this ⊢
        exact still_cell h this rfl)
      have H1 := Lib.hid (txs_one L)
      have HLn := Lib.hid (show (txs L).length = k * 1 by rw [txs_length, hLc, Nat.mul_one])
      have C1 := Lib.hid (fun (W : World) ao (c B : Nat) (h : W.ownsRow B 9 1 (.slice ao k c) k (txs L)) => A.any n L W ao k c hLc.symm (TextsAt.of_own h hLc.symm) (SlW.of_own h) hk20 HTl.out hLs)
      have C2 := Lib.hid (fun (W : World) (h : Still wr W) => zfany_any n L W (some ⟨g, 0, none⟩) k cc hLc.symm ((TextsAt.of_own HO.out hLc.symm).still h) (by omega) HTl.out hLs)
      have hk20' : (k : Int) ≤ 20 := by omega
      generalize (anV n L).1 = a1 at *
      generalize (anV n L).2 = a2 at *
      unfold tx at C1 C2
      clear hst HA HSh hLc hLs hlt
      rcases hex with ⟨hx1, hx2⟩ | hx1
      all_goals
        go_wp2_with (first
          | (go_at_call 19; ((with_reducible refine (D1.out _).mono ?_)); rintro e w4 ⟨rfl, h4⟩)
          | (go_at_call 20; ((with_reducible refine (D2.out _).mono ?_)); rintro e w5 ⟨rfl, h5⟩)
          | (at_builtin; refine wpList_append_own_at _ rfl _ _ 23 rfl w5.heap.size 9 i0 (.string ⟨#[]⟩) 1 16 Tryd.underlying23 hi hz0 hz1 hz2 rfl (by decide) _ _ _ rfl (World.ownsRow_made w5 #[] 0 (Nat.le_refl _) (by simp) (by simp)) ⟨g, 0, none⟩ k cc (txs L) rfl HLn.out (HC2.out _ ((h4.trans h5).alloc _)) H1.out (by unfold maxLen; omega) (by omega) (by simp) ?_; intro v6 w6 hown6 hg6 _ hat6; obtain ⟨a6, c6, rfl⟩ := ow_slice hown6; have HO6 := Lib.hid (show w6.ownsRow w5.heap.size 9 1 (.slice a6 k c6) k (txs L) from by simpa using hown6); have h6 : Still w5 w6 := ((Turned.refl (fun _ => False) w5).alloc _).grown hg6 (fun k e => .inr (by cases e; exact Nat.le_refl _)); clear hown6 hg6 hat6)
          | (go_at_call 21; ((with_reducible refine (C1.out _ _ _ _ HO6.out).mono ?_)); rintro e w7 ⟨rfl, h7⟩)
          | (go_at_call 22; ((with_reducible refine (C2.out _ (h4.trans (h5.trans (h6.trans h7)))).mono ?_)); rintro e w8 ⟨rfl, h8⟩)
          | (go_at_call 17; ((with_reducible refine (C8.out _).mono ?_)); rintro e w9 ⟨rfl, h9⟩))
        go_ret
        exact ⟨by first | rfl | simp, HS.out.trans (h4.trans (h5.trans (h6.trans (h7.trans (h8.trans h9)))))⟩
end Go.Proofs.YtoailhkgailhhaaDoor
