/- NameMakes: the walk. No condition but that the program's names keep their words. -/
import Derived.Test.YthioimecelaaiaaNameApi
namespace Go.Proofs.Ythioimecelaaiaa
open Go.RowKit
set_option linter.unusedVariables false
set_option linter.unusedSimpArgs false
set_option maxRecDepth 100000

set_option maxHeartbeats 4000000 in
theorem makes_walk (A : NameApi) (s : Sl ByteArray) (w : World) (h1 : SlOk encT okS 1 w s) :
    Calls Try.prog 4 #[.slice s.a s.len s.cap] w fun e w' => e = .returned (.bool true) ∧ Still w w' := by
  obtain ⟨sa, sl, sc, sx⟩ := s
  have hcap : sl ≤ sc := h1.le
  have hmax : sc ≤ maxLen := h1.max
  have hlen : sx.length = sl := h1.len
  have hmm : (sl : Int) ≤ 9223372036854775807 := by unfold maxLen at hmax; omega
  have HL := Lib.hid hlen
  have HA := Lib.hid (fun (V : World) (hst : Still w V) (k : Nat) (x : ByteArray) (hx : sx[k]? = some x) => show ∃ b o, sa = some ⟨b, o, none⟩ ∧ V.cell? ⟨b, o + k, none⟩ = some (.string x) from by
    obtain ⟨b, o, e, hc⟩ := (TextsAt.of_row h1.row).still hst k x.data.toList (by simp [hx])
    exact ⟨b, o, e, by rw [tx_of]; exact hc⟩)
  have HSh := Lib.hid (fun (x : ByteArray) (hx : x ∈ sx) W => show Calls Try.prog 9 #[.string x] W fun e w' => e = .returned (tx (x.data.toList.take 300)) ∧ W = w' from by
    rw [tx_of]; exact (short_any x.data.toList W (h1.each x hx)).mono fun e w' ⟨h1, h2⟩ => ⟨h1, h2.symm⟩)
  obtain ⟨i0, hi, hz0, hz1, hz2⟩ := info_parts infoStr
  have C8 := Lib.hid (fun W => works8 A W)
  have HW := Lib.hid (World.ownsRow_made (e := 9) (size := 1) w #[] 0 (Nat.le_refl _) (by simp) (by simp))
  clear h1 hlen
  show Calls Try.prog 4 #[.slice sa sl sc] w _
  go_enter Try.func4, Try.ntmps4
  go_wp2
  go_loopw [3, 4] (fun o i wr => ∃ (k g cc : Nat), k ≤ sl ∧ k ≤ 20 ∧ i = .int .i64 k ∧ o = .slice (some ⟨g, 0, none⟩) k cc ∧ wr.ownsRow w.heap.size 9 1 (.slice (some ⟨g, 0, none⟩) k cc) k (txs (cutT sx k)) ∧ Still w wr) (fun _ i _ => 20 - (intOf i).toNat)
  case atStart => exact ⟨0, _, 0, Nat.zero_le _, Nat.zero_le _, rfl, rfl, by simpa [cutT, txs] using HW.out, (Turned.refl _ _).alloc _⟩
  case round =>
    obtain ⟨k, g, cc, hk, hk20, rfl, rfl, hown, hst⟩ := hrel
    have HO := Lib.hid hown
    have HS := Lib.hid hst
    have hlo := hst.size
    clear hown
    by_cases hlt : k < sl ∧ k < 20
    · obtain ⟨hlt, h20⟩ := hlt
      obtain ⟨x, hx⟩ := get_some (l := sx) (i := k) (by rw [HL.out]; exact hlt)
      obtain ⟨b, o, rfl, hc⟩ := HA.out wr hst k x hx
      have HSx := Lib.hid (HSh.out x (List.mem_of_getElem? hx))
      have HX := Lib.hid (cutT_step hx)
      clear hx hst HA HSh
      generalize x.data.toList.take 300 = t at *
      have h20' : (k : Int) < 20 := by omega
      unfold tx at HSx
      go_wp2_with (first
        | (go_at_call 9; ((with_reducible refine (HSx.out _).mono ?_)); rintro e w0 ⟨rfl, rfl⟩)
        | (at_builtin; refine wpList_append_own_at _ rfl (.tmp 20) (.tmp 26) 23 rfl w.heap.size 9 i0 (.string ⟨#[]⟩) 1 16 Try.underlying23 hi hz0 hz1 hz2 rfl (by decide) (.slice (some ⟨g, 0, none⟩) k cc) k (txs (cutT sx k)) rfl (ow_still HO.out ((Turned.refl _ _).alloc _)) ⟨wr.heap.size, 0, none⟩ 1 1 [.string ⟨t.toArray⟩] rfl rfl (ow_cells wr _ _) (by simp [Value.oneCell']) (by unfold maxLen; omega) (by omega) (by simp; omega) ?_; intro v6 w6 hown6 hg6 _ hat6; obtain ⟨a6, c6, rfl⟩ := ow_slice hown6; have HS6 := Lib.hid (ow_put HS.out HO.out hg6); have HO6 := Lib.hid (show w6.ownsRow w.heap.size 9 1 (.slice a6 (k + 1) c6) (k + 1) (txs (cutT sx (k + 1))) from by rw [HX.out]; simpa [txs, tx] using hown6); clear hown6 hg6 hat6))
      obtain ⟨g6, rfl⟩ := row_some HO6.out (Nat.succ_pos _)
      go_roundw
      case rel => exact ⟨k + 1, g6, c6, by omega, by omega, by go_num, rfl, HO6.out, HS6.out⟩
      case measure => simp [intOf]; omega
    · have hex : (k < sl ∧ 20 ≤ k) ∨ sl ≤ k := by omega
      have hLc : (cutT sx k).length = k := cutT_len (by rw [HL.out]; exact hk)
      have hLs := cutT_small sx k
      generalize cutT sx k = L at *
      have HC := Lib.hid (row_cells HO.out hLc.symm)
      have HC2 := Lib.hid (fun (V : World) (h : Still wr V) (j : Nat) (u : Value) (hj : (txs L)[j]? = some u) => show V.cell? ((⟨g, 0, none⟩ : Addr).add j) = some u from by
        have := HC.out j u hj
        rw [Addr.add_lit] at this ⊢
        rw [Nat.zero_add] at this ⊢
        exact still_cell h this rfl)
      have H1 := Lib.hid (txs_one L)
      have HLn := Lib.hid (show (txs L).length = k * 1 by rw [txs_length, hLc, Nat.mul_one])
      have C1 := Lib.hid (fun (W : World) ao (c B : Nat) (h : W.ownsRow B 9 1 (.slice ao k c) k (txs L)) => A.of L W ao k c hLc.symm (TextsAt.of_own h hLc.symm) (SlW.of_own h) hk20 hLs)
      have C2 := Lib.hid (fun (W : World) (h : Still wr W) => znof_any L W (some ⟨g, 0, none⟩) k cc hLc.symm ((TextsAt.of_own HO.out hLc.symm).still h) (by omega) hLs)
      have hk20' : (k : Int) ≤ 20 := by omega
      generalize ofT L = t at *
      generalize ofE L = te at *
      unfold tx at C1 C2
      clear hst HA HSh hLc hLs hlt
      rcases hex with ⟨hx1, hx2⟩ | hx1
      all_goals
        go_wp2_with (first
          | (at_builtin; refine wpList_append_own_at _ rfl _ _ 23 rfl wr.heap.size 9 i0 (.string ⟨#[]⟩) 1 16 Try.underlying23 hi hz0 hz1 hz2 rfl (by decide) _ _ _ rfl (World.ownsRow_made wr #[] 0 (Nat.le_refl _) (by simp) (by simp)) ⟨g, 0, none⟩ k cc (txs L) rfl HLn.out (HC2.out _ ((Turned.refl _ _).alloc _)) H1.out (by unfold maxLen; omega) (by omega) (by simp) ?_; intro v6 w6 hown6 hg6 _ hat6; obtain ⟨a6, c6, rfl⟩ := ow_slice hown6; have HO6 := Lib.hid (show w6.ownsRow wr.heap.size 9 1 (.slice a6 k c6) k (txs L) from by simpa using hown6); have h6 : Still wr w6 := ((Turned.refl (fun _ => False) wr).alloc _).grown hg6 (fun k e => .inr (by cases e; exact Nat.le_refl _)); clear hown6 hg6 hat6)
          | (go_at_call 19; ((with_reducible refine (C1.out _ _ _ _ HO6.out).mono ?_)); rintro e w7 ⟨rfl, h7⟩)
          | (go_at_call 20; ((with_reducible refine (C2.out _ (h6.trans h7)).mono ?_)); rintro e w8 ⟨rfl, h8⟩)
          | (go_at_call 18; ((with_reducible refine (C8.out _).mono ?_)); rintro e w9 ⟨rfl, h9⟩))
        go_ret
        exact ⟨by first | rfl | simp, HS.out.trans (h6.trans (h7.trans (h8.trans h9)))⟩
end Go.Proofs.Ythioimecelaaiaa
