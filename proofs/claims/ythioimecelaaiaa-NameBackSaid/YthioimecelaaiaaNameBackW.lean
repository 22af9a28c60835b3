/- NameBack: the walk. No condition but that the program's names keep their words. -/
import Derived.Test.YthioimecelaaiaaNameMakesW
namespace Go.Proofs.Ythioimecelaaiaa
open Go.RowKit
set_option linter.unusedVariables false
set_option linter.unusedSimpArgs false
set_option maxRecDepth 100000

set_option maxHeartbeats 4000000 in
theorem back_walk (A : NameApi) (l : Txt) (s : Sl ByteArray) (w : World) (hl : l.length ≤ maxLen) (h1 : SlOk encT okS 1 w s) :
    Calls Try.prog 6 #[tx l, .slice s.a s.len s.cap] w fun e w' => e = .returned (.bool true) ∧ Still w w' := by
  obtain ⟨sa, sl, sc, sx⟩ := s
  have hcap : sl ≤ sc := h1.le
  have hmax : sc ≤ maxLen := h1.max
  have hlen : sx.length = sl := h1.len
  have hmm : (sl : Int) ≤ 9223372036854775807 := by unfold maxLen at hmax; omega
  have HL := Lib.hid hlen
  have HA := Lib.hid (fun (V : World) (hst : Still w V) (k : Nat) (x : ByteArray) (hx : sx[k]? = some x) => show ∃ b o, sa = some ⟨b, o, none⟩ ∧ V.cell? ⟨b, o + k, none⟩ = some (.string x) from by
    obtain ⟨b, o, e, hc⟩ := (TextsAt.of_row h1.row).still hst k x.data.toList (by simp [hx])
    exact ⟨b, o, e, by rw [tx_of]; exact hc⟩)
  have HSh := Lib.hid (fun (x : ByteArray) (hx : x ∈ sx) W => show Calls Try.prog 9 #[.string x] W fun e w' => e = .returned (tx (x.data.toList.take 300)) ∧ W = w' from by
    rw [tx_of]; exact (short_any x.data.toList W (h1.each x hx)).mono fun e w' ⟨h1, h2⟩ => ⟨h1, h2.symm⟩)
  obtain ⟨i0, hi, hz0, hz1, hz2⟩ := info_parts infoStr
  have C8 := Lib.hid (fun W => works8 A W)
  have HS0 := Lib.hid (fun W => show Calls Try.prog 9 #[tx l] W fun e w' => e = .returned (tx (l.take 300)) ∧ W = w' from (short_any l W hl).mono fun e w' ⟨h1, h2⟩ => ⟨h1, h2.symm⟩)
  have hs : (l.take 300).length ≤ 300 := by rw [List.length_take]; omega
  generalize l.take 300 = s at *
  have C1 := Lib.hid (fun W => A.levels s W hs)
  have hln := lvls_len s
  unfold LevPost at C1
  clear h1 hlen
  show Calls Try.prog 6 #[tx l, .slice sa sl sc] w _
  rcases nmE_or s with h0 | h0
  case' inl =>
    rw [h0, lvls_ok h0] at C1
    rw [lvls_ok h0] at hln
    have C2 := Lib.hid (fun (W : World) ao (c : Nat) (h : TextsAt W ao (spl s)) (h' : SlW ao (spl s).length c) => show Calls Try.prog 19 #[.slice ao (spl s).length c] W fun e w' => e = .returned (.tuple #[tx s, .int .i64 0]) ∧ Still W w' from by
      have := A.of (spl s) W ao _ c rfl h h' (by omega) (spl_small hs)
      have e : ofE (spl s) = 0 := by rw [ofE_spl, h0]
      unfold ofT at this
      rwa [if_pos e, jn_spl, e] at this)
    generalize (spl s).length = n at *
    generalize spl s = L at *
    unfold tx at HS0 C1 C2 ⊢
    clear h0 hs hln hl
    go_enter Try.func6, Try.ntmps6
    go_upto_region 9 with (first
      | (go_at_call 18; ((with_reducible refine (C8.out _).mono ?_)); rintro e w9 ⟨rfl, h9⟩)
      | (go_at_call 9; ((with_reducible refine (HS0.out _).mono ?_)); rintro e w0 ⟨rfl, rfl⟩)
      | (go_at_call 10; ((with_reducible refine (C1.out _).mono ?_)); rintro e w1 ⟨a1, c1, rfl, hA1, hW1, h1⟩)
      | (go_at_call 19; ((with_reducible refine (C2.out _ _ _ hA1 hW1).mono ?_)); rintro e wv ⟨rfl, h2⟩))
    have HSv := Lib.hid (h9.trans (h1.trans h2))
    clear h9 h1 h2 hA1 hW1 C1 C2 HS0
  case' inr =>
    rw [h0] at C1
    generalize (lvls s).length = n at *
    generalize lvls s = L at *
    unfold tx at HS0 C1 ⊢
    clear h0 hs hln hl
    go_enter Try.func6, Try.ntmps6
    go_upto_region 9 with (first
      | (go_at_call 18; ((with_reducible refine (C8.out _).mono ?_)); rintro e w9 ⟨rfl, h9⟩)
      | (go_at_call 9; ((with_reducible refine (HS0.out _).mono ?_)); rintro e w0 ⟨rfl, rfl⟩)
      | (go_at_call 10; ((with_reducible refine (C1.out _).mono ?_)); rintro e wv ⟨a1, c1, rfl, hA1, hW1, h1⟩))
    have HSv := Lib.hid (h9.trans h1)
    clear h9 h1 hA1 hW1 C1 HS0
  all_goals
    have HW := Lib.hid (World.ownsRow_made (e := 9) (size := 1) wv #[] 0 (Nat.le_refl _) (by simp) (by simp))
    go_wp2_with fail
    go_loopw [9, 10] (fun o i wr => ∃ (k g cc : Nat), k ≤ sl ∧ k ≤ 20 ∧ i = .int .i64 k ∧ o = .slice (some ⟨g, 0, none⟩) k cc ∧ wr.ownsRow w.heap.size 9 1 (.slice (some ⟨g, 0, none⟩) k cc) k (txs (cutT sx k)) ∧ Still w wr) (fun _ i _ => 20 - (intOf i).toNat)
    case atStart => exact ⟨0, _, 0, Nat.zero_le _, Nat.zero_le _, rfl, rfl, ow_base (by simpa [cutT, txs] using HW.out) HSv.out.size, HSv.out.alloc _⟩
    case round =>
      obtain ⟨k, g, cc, hk, hk20, rfl, rfl, hown, hst⟩ := hrel
      have HO := Lib.hid hown
      have HS := Lib.hid hst
      have hlo := hst.size
      clear hown
      by_cases hlt : k < sl ∧ k < 20
      · obtain ⟨hlt, h20⟩ := hlt
        obtain ⟨x, hx⟩ := get_some (l := sx) (i := k) (by rw [HL.out]; exact hlt)
        obtain ⟨b, o, rfl, hc⟩ := HA.out wr hst k x hx
        have HSx := Lib.hid (HSh.out x (List.mem_of_getElem? hx))
        have HX := Lib.hid (cutT_step hx)
        clear hx hst HA HSh
        generalize x.data.toList.take 300 = t at *
        have h20' : (k : Int) < 20 := by omega
        unfold tx at HSx
        go_wp2_with (first
          | (go_at_call 9; ((with_reducible refine (HSx.out _).mono ?_)); rintro e w0 ⟨rfl, rfl⟩)
          | (at_builtin; refine wpList_append_own_at _ rfl (.tmp 51) (.tmp 57) 23 rfl w.heap.size 9 i0 (.string ⟨#[]⟩) 1 16 Try.underlying23 hi hz0 hz1 hz2 rfl (by decide) (.slice (some ⟨g, 0, none⟩) k cc) k (txs (cutT sx k)) rfl (ow_still HO.out ((Turned.refl _ _).alloc _)) ⟨wr.heap.size, 0, none⟩ 1 1 [.string ⟨t.toArray⟩] rfl rfl (ow_cells wr _ _) (by simp [Value.oneCell']) (by unfold maxLen; omega) (by omega) (by simp; omega) ?_; intro v6 w6 hown6 hg6 _ hat6; obtain ⟨a6, c6, rfl⟩ := ow_slice hown6; have HS6 := Lib.hid (ow_put HS.out HO.out hg6); have HO6 := Lib.hid (show w6.ownsRow w.heap.size 9 1 (.slice a6 (k + 1) c6) (k + 1) (txs (cutT sx (k + 1))) from by rw [HX.out]; simpa [txs, tx] using hown6); clear hown6 hg6 hat6))
        obtain ⟨g6, rfl⟩ := row_some HO6.out (Nat.succ_pos _)
        go_roundw
        case rel => exact ⟨k + 1, g6, c6, by omega, by omega, by go_num, rfl, HO6.out, HS6.out⟩
        case measure => simp [intOf]; omega
      · have hex : (k < sl ∧ 20 ≤ k) ∨ sl ≤ k := by omega
        have hLc : (cutT sx k).length = k := cutT_len (by rw [HL.out]; exact hk)
        have hLs := cutT_small sx k
        generalize cutT sx k = L at *
        have C1 := Lib.hid (A.of L wr (some ⟨g, 0, none⟩) k cc hLc.symm (TextsAt.of_own HO.out hLc.symm) (SlW.of_own HO.out) hk20 hLs)
        have hk20' : (k : Int) ≤ 20 := by omega
        rcases ofE_or L with h0 | h0
        · obtain ⟨h2, h3⟩ := of_back h0
          have h4 := (ofE_iff.1 h0).2
          have h5 : (jn L).length ≤ 300 := by have := (nmE_iff.1 h4).2.1; omega
          have h6 : lvls (jn L) = L := by rw [lvls_ok h4, h2]
          have e : ofT L = jn L := if_pos h0
          rw [e, h0] at C1
          have C2 := Lib.hid (fun W => A.levels (jn L) W h5)
          have C3 := Lib.hid (fun W => A.depth (jn L) W h5)
          unfold LevPost at C2
          rw [h6, h4, hLc] at C2
          rw [h6, h4, hLc] at C3
          have C4 := Lib.hid (fun (W : World) a (c : Nat) (h : TextsAt W a L) (h' : Still wr W) => show Calls Try.prog 13 #[.slice a k c, .slice (some ⟨g, 0, none⟩) k cc] W fun e w' => e = .returned (.bool true) ∧ Still W w' from by
            have := sameT_any L L W a (some ⟨g, 0, none⟩) k k c cc hLc.symm hLc.symm h ((TextsAt.of_own HO.out hLc.symm).still h') (by omega) (by omega)
            rwa [decide_eq_true rfl] at this)
          generalize jn L = t at *
          unfold tx at C1 C2 C3
          clear h0 h2 h3 h4 h5 h6 e hst HA HSh hLc hLs hlt
          rcases hex with ⟨hx1, hx2⟩ | hx1
          all_goals
            go_wp2_with (first
              | (go_at_call 19; ((with_reducible refine C1.out.mono ?_)); rintro e w7 ⟨rfl, h7⟩)
              | (go_at_call 10; ((with_reducible refine (C2.out _).mono ?_)); rintro e w8 ⟨a8, c8, rfl, hA8, _, h8⟩)
              | (go_at_call 12; ((with_reducible refine (C3.out _).mono ?_)); rintro e w9 ⟨rfl, h9⟩)
              | (go_at_call 13; ((with_reducible refine (C4.out _ _ _ (hA8.still h9) (h7.trans (h8.trans h9))).mono ?_)); rintro e w10 ⟨rfl, h10⟩))
            go_ret
            exact ⟨by first | rfl | simp, HS.out.trans (h7.trans (h8.trans (h9.trans h10)))⟩
        · have e : ofT L = [] := if_neg (by omega)
          rw [e, h0] at C1
          unfold tx at C1
          clear h0 e hst HA HSh hLc hLs hlt
          rcases hex with ⟨hx1, hx2⟩ | hx1
          all_goals
            go_wp2_with (go_at_call 19; ((with_reducible refine C1.out.mono ?_)); rintro e w7 ⟨rfl, h7⟩)
            go_ret
            exact ⟨by first | rfl | simp, HS.out.trans h7⟩
end Go.Proofs.Ythioimecelaaiaa
