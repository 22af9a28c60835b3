/- MemberJust: the walk. No condition but the words. -/
import Derived.Test.YtepdnclojjeepaaMbJust
namespace Go.Proofs.Ytepdnclojjeepaa
open Go.RowKit
set_option linter.unusedVariables false
set_option linter.unusedSimpArgs false
set_option maxRecDepth 100000

set_option maxHeartbeats 16000000 in
theorem mjust_walk {MT : Nat → MbM → Thing} (A : MemberApi MT) (t : Sl Act15) (w : World) (h1 : SlOk encAct15 okAct15 2 w t) :
    Calls Try.prog 4 #[.slice t.a t.len t.cap] w fun e w' => e = .returned (.bool true) ∧ Still w w' := by
  have HWk := Lib.hid (works15 A w)
  have HMk := Lib.hid (fun V (hs : Still w V) => show Calls Try.prog 8 #[] V fun e w' => ∃ q, e = .returned (.pointer (some ⟨q, 0, none⟩)) ∧ Held w w' (MT q MbM.new) from
    (A.make_ V).mono fun e w' ⟨q, he, hn⟩ => ⟨q, he, ((Held.start hs).new hn).only⟩)
  obtain ⟨ta, tl, tc, tx⟩ := t
  have htcap : tl ≤ tc := h1.le
  have htmax : tc ≤ maxLen := h1.max
  unfold maxLen at htmax
  have HTX := Lib.hid h1
  have HTL : Hid (tx.length = tl) := Lib.hid h1.len
  obtain ⟨i0, fi, hz0, hz1, hz2⟩ := info_parts infoIntW
  dsimp only
  clear h1
  go_enter Try.func4, Try.ntmps4
  go_wp2_with (first
    | (go_at_call 26; ((with_reducible refine HWk.out.mono ?_)); rintro e w1 ⟨rfl, hs⟩; have S1 := Lib.hid hs; clear hs)
    | (go_at_call 8; ((with_reducible refine (HMk.out _ S1.out).mono ?_)); rintro e w2 ⟨q, rfl, h⟩; have K1 := Lib.hid h; clear h))
  go_loopw [4, 5, 6] (fun ins nn i wr => ∃ (k n c T : Nat) (a : Option Addr), k ≤ tl ∧ k ≤ 200 ∧ i = .int .i64 k ∧ ins = .slice a n c ∧ nn = .int .i64 T ∧ T ≤ k ∧ JSt MT w wr q k a n c T) (fun _ _ i _ => tl - (intOf i).toNat)
  case atStart => exact ⟨0, 0, 0, 0, _, Nat.zero_le _, Nat.zero_le _, rfl, rfl, rfl, Nat.zero_le _, [], _, JustM.start, MbM.new_ok, rfl, rfl, by omega, K1.out.new2 3 1⟩
  case round =>
    clear K1
    obtain ⟨k, n, c, T, a, hk, hk1, rfl, rfl, rfl, hTk, hI⟩ := hrel
    have HI := Lib.hid hI
    by_cases hin : k < tl ∧ k < 200
    · obtain ⟨hlt, h150⟩ := hin
      obtain ⟨x, hx⟩ := get_some (l := tx) (i := k) (by rw [HTL.out]; exact hlt)
      obtain ⟨ba, o, rfl, hc⟩ := HTX.out.row k x hx
      have hT := hI.ground
      obtain ⟨out, id⟩ := x
      have c0 : wr.cell? ⟨ba, o + k * 2, none⟩ = some (.bool out) := still_cell hT (hc 0 _ rfl) (by omega)
      have c1 : wr.cell? ⟨ba, o + k * 2 + 1, none⟩ = some (.int .i64 id) := still_cell hT (hc 1 _ rfl) (by omega)
      obtain ⟨i, hi⟩ : ∃ i, i = am id 16 := ⟨_, rfl⟩
      have hil : i < 16 := by rw [hi]; exact am_lt _ (by omega)
      have B1 := Lib.hid (fun W => among_lit id 16 16 i rfl hi (by omega) (by omega) W)
      obtain ⟨b, hb⟩ : ∃ b, b = wr.heap.size := ⟨_, rfl⟩
      obtain ⟨Wb, hWb⟩ : ∃ Wb, Wb = wr.alloc (.cells #[.bool out, .int .i64 id] 28) := ⟨_, rfl⟩
      have hbx : Blk Wb b [.bool out, .int .i64 id] 28 := by rw [hb, hWb]; exact Blk.new wr _ _
      have x0 := hbx.cell (o := 0) rfl
      have x1 := hbx.cell (o := 1) rfl
      have HIb := hI.still (show Still wr Wb from by rw [hWb]; exact (Turned.refl _ _).alloc _)
      have HLv := Lib.hid (js_leave A HIb (by omega) i hil)
      have HJn := Lib.hid (js_join A HIb (by omega) i hil)
      have hWb2 : wr.alloc (.cells #[.bool out, .int .i64 id] 28) = Wb := hWb.symm
      have b1 : (wr.alloc (.cells #[.bool false, .int .i64 0] 28)).cell? ⟨wr.heap.size, 0, none⟩ = some (.bool false) := (Blk.new wr [.bool false, .int .i64 0] 28).cell rfl
      have hki : (k : Int) < (tl : Int) := by omega
      have HChk := Lib.hid (fun V a n c T (H : JSt MT w V q (k + 1) a n c T) => js_chk A H (by omega))
      clear hx hc hT hI hi hbx HIb hWb
      go_upto_region 12 with fail
      rw [← hb]
      clear hWb2 hb c0 c1 b1
      cases out
      case' true => rcases HLv.out with h | h
      case' false => rcases HJn.out with h | h | h
      case' true.inl =>
        have Hc := Lib.hid h
        clear h HLv HJn
        go_upto_region 29 with (first
          | (go_at_call 27; ((with_reducible refine (B1.out _).mono ?_)); rintro e wa ⟨rfl, hwa⟩; subst hwa)
          | (go_at_call 12; ((with_reducible refine Hc.out.mono ?_)); rintro e w5 ⟨rfl, hA, hB⟩; have HA := Lib.hid hA; have HB := Lib.hid hB; clear hA hB)
          | (go_at_call 28; ((with_reducible refine HA.out.mono ?_)); rintro e w6 ⟨rfl, hw⟩; subst hw)
          | (go_at_call 29; ((with_reducible refine HB.out.mono ?_)); rintro e w7 ⟨a9, n9, c9, rfl, h⟩; have J9 := Lib.hid h; clear h))
        have hT9 : T + 1 ≤ k + 1 := by omega
        have eT : ((T : Nat) : Int) + 1 = ((T + 1 : Nat) : Int) := by omega
        try rw [eT]
        clear eT
        generalize T + 1 = T9 at *
      case' true.inr =>
        have Hc := Lib.hid h
        clear h HLv HJn
        go_upto_region 29 with (first
          | (go_at_call 27; ((with_reducible refine (B1.out _).mono ?_)); rintro e wa ⟨rfl, hwa⟩; subst hwa)
          | (go_at_call 12; ((with_reducible refine Hc.out.mono ?_)); rintro e w5 ⟨rfl, hA, hB⟩; have HA := Lib.hid hA; have J9 := Lib.hid hB; clear hA hB)
          | (go_at_call 28; ((with_reducible refine HA.out.mono ?_)); rintro e w6 ⟨rfl, hw⟩; subst hw))
        have hT9 : T ≤ k + 1 := by omega
        obtain ⟨n9, rfl⟩ : ∃ n9, n9 = n := ⟨_, rfl⟩
        obtain ⟨T9, rfl⟩ : ∃ T9, T9 = T := ⟨_, rfl⟩
      case' false.inl =>
        have Hc := Lib.hid h
        clear h HLv HJn
        go_upto_region 29 with (first
          | (go_at_call 27; ((with_reducible refine (B1.out _).mono ?_)); rintro e wa ⟨rfl, hwa⟩; subst hwa)
          | (go_at_call 10; ((with_reducible refine Hc.out.mono ?_)); rintro e w5 ⟨rfl, hA, hB⟩; have HA := Lib.hid hA; have J9 := Lib.hid hB; clear hA hB)
          | (go_at_call 28; ((with_reducible refine HA.out.mono ?_)); rintro e w6 ⟨rfl, hw⟩; subst hw))
        have hT9 : T ≤ k + 1 := by omega
        obtain ⟨n9, rfl⟩ : ∃ n9, n9 = n := ⟨_, rfl⟩
        obtain ⟨T9, rfl⟩ : ∃ T9, T9 = T := ⟨_, rfl⟩
      case' false.inr.inl =>
        obtain ⟨hn8', h⟩ := h
        have Hc := Lib.hid h
        clear h HLv HJn
        go_upto_region 29 with (first
          | (go_at_call 27; ((with_reducible refine (B1.out _).mono ?_)); rintro e wa ⟨rfl, hwa⟩; subst hwa)
          | (go_at_call 10; ((with_reducible refine Hc.out.mono ?_)); rintro e w5 ⟨rfl, hA, hB⟩; have HA := Lib.hid hA; have J9 := Lib.hid hB; clear hA hB)
          | (go_at_call 28; ((with_reducible refine HA.out.mono ?_)); rintro e w6 ⟨rfl, hw⟩; subst hw))
        have hT9 : T ≤ k + 1 := by omega
        obtain ⟨n9, rfl⟩ : ∃ n9, n9 = n := ⟨_, rfl⟩
        obtain ⟨T9, rfl⟩ : ∃ T9, T9 = T := ⟨_, rfl⟩
      case' false.inr.inr =>
        obtain ⟨hn8', h⟩ := h
        have Hc := Lib.hid h
        have eT : ((T + 1 : Nat) : Int) = ((T : Nat) : Int) + 1 := by omega
        rw [eT] at Hc
        have HT9 := Lib.hid eT
        clear h HLv HJn eT
        go_upto_region 29 with (first
          | (go_at_call 27; ((with_reducible refine (B1.out _).mono ?_)); rintro e wa ⟨rfl, hwa⟩; subst hwa)
          | (go_at_call 10; ((with_reducible refine Hc.out.mono ?_)); rintro e w5 ⟨rfl, hA, l5, hO, hN⟩; have HA := Lib.hid hA; have HO := Lib.hid hO; have HN := Lib.hid hN; clear hA hO hN)
          | (go_at_call 28; ((with_reducible refine HA.out.mono ?_)); rintro e w6 ⟨rfl, hw⟩; subst hw)
          | (at_builtin; refine wpList_append_own_at _ rfl _ _ 35 rfl 0 3 i0 (.int .i64 0) 1 8 Try.underlying35 fi hz0 hz1 hz2 rfl (by decide) (.slice a n c) n (ints (intsN l5)) rfl (ow_still HO.out ((Turned.refl _ _).alloc _)) ⟨w5.heap.size, 0, none⟩ 1 1 [.int .i64 ((i : Nat) : Int)] rfl rfl (ow_cells w5 _ _) (ow_ints rfl) (by unfold maxLen; omega) (by omega) (Nat.zero_le _) ?_; intro v6 w6 hown6 hg6 _ hat6; obtain ⟨a6, c6, rfl⟩ := ow_slice hown6; have HSi := Lib.hid (HN.out w6 _ a6 c6 hown6 hg6 hat6); clear hown6 hg6 hat6)
          | (go_at_call 14; ((with_reducible refine HSi.out.mono ?_)); rintro e w7 ⟨rfl, h⟩; have J9 := Lib.hid h; clear h))
        have hT9 : T + 1 ≤ k + 1 := by omega
        try rw [← HT9.out]
        clear hn8' HSi HO HN HA Hc HT9
        generalize T + 1 = T9 at *
        generalize n + 1 = n9 at *
      all_goals (
        as_aux_lemma =>
        obtain ⟨L, ev, ee, hn8, hsr, hL, hcase, hAll, hTm, hEl, hRk, hHs⟩ := HChk.out _ _ _ _ _ J9.out
        have HAl := Lib.hid hAll
        have HTm := Lib.hid hTm
        have HEl := Lib.hid hEl
        have HRk := Lib.hid hRk
        have HHs := Lib.hid hHs
        have HLn := Lib.hid hL
        have HCs := Lib.hid hcase
        have HUp := Lib.hid (fun V2 (hs : Still _ V2) => J9.out.still hs)
        have S9 := Lib.hid hsr
        clear hAll hTm hEl hRk hHs hL hcase hsr HChk
        go_wp2_with (first
          | (go_at_call 23; ((with_reducible refine HAl.out.mono ?_)); rintro e wA ⟨aA, cA, rfl, hA, hs⟩; have PA := Lib.hid hA; have SA := Lib.hid hs; clear hs hA)
          | (go_at_call 25; ((with_reducible refine (HTm.out _ SA.out).mono ?_)); rintro e wT ⟨rfl, hs⟩; have ST := Lib.hid (SA.out.trans hs); have PT := Lib.hid (PA.out.still hs); clear hs))
        go_loopw [16] (fun ix wr' => ∃ j : Nat, j ≤ n9 ∧ ix = .int .i64 j ∧ Still wT wr') (fun ix _ => n9 - (intOf ix).toNat)
        case atStart => exact ⟨0, Nat.zero_le _, rfl, Turned.refl _ _⟩
        case round =>
          obtain ⟨j, hj, rfl, hst⟩ := hrel
          have HS := Lib.hid hst
          clear hst
          by_cases hlj : j < n9
          · obtain ⟨y, hy⟩ := get_some (l := L) (i := j) (by rw [HLn.out]; exact hlj)
            have Pr := PT.out.still HS.out
            obtain ⟨ga, oa, rfl, hc⟩ := Pr j _ (intsN_get hy)
            have HPr := Lib.hid Pr
            have hc2 := Lib.hid (fun V2 (hs : Still wr V2) => show V2.cell? ⟨ga, oa + j, none⟩ = some (.int .i64 ((y : Nat) : Int)) from by
              obtain ⟨_, _, e, h⟩ := (HPr.out.still hs) j _ (intsN_get hy)
              cases e; exact h)
            have HR := Lib.hid (HRk.out j y hy)
            have HH := Lib.hid (HHs.out j y hy)
            have hji : (j : Int) < (n9 : Int) := by omega
            clear Pr hy
            go_wp2_with (first
              | (go_at_call 16; ((with_reducible refine (HR.out _ (ST.out.trans HS.out)).mono ?_)); rintro e wR ⟨rfl, hs⟩; have z2 := hc2.out _ hs; have SR := Lib.hid (HS.out.trans hs); clear hs)
              | (go_at_call 28; ((with_reducible refine (HH.out _ (ST.out.trans SR.out)).mono ?_)); rintro e wH ⟨rfl, hw⟩; subst hw))
            go_roundw
            case rel => exact ⟨j + 1, by omega, by go_num, SR.out⟩
            case measure => simp [intOf]; omega
          · obtain rfl : j = n9 := by omega
            have hcs := HCs.out
            clear hlj
            rcases hcs with ⟨rfl, rfl, rfl⟩ | ⟨hn0, rfl, g, rfl, hg⟩
            · go_wp2_with (go_at_call 18; ((with_reducible refine (HEl.out _ (ST.out.trans HS.out)).mono ?_)); rintro e wE ⟨rfl, hs⟩; have JE := Lib.hid (HUp.out _ hs); clear hs)
              go_roundw
              case rel => exact ⟨k + 1, _, _, _, _, by omega, by omega, by go_num, rfl, rfl, hT9, JE.out⟩
              case measure => simp [intOf]; omega
            · have hni : (0 : Int) < (j : Int) := by omega
              have HG := Lib.hid hg
              clear hg
              go_wp2_with (go_at_call 18; ((with_reducible refine (HEl.out _ (ST.out.trans HS.out)).mono ?_)); rintro e wE ⟨rfl, hs⟩; have z0 := HG.out _ hs; have JE := Lib.hid (HUp.out _ hs); clear hs)
              go_roundw
              case rel => exact ⟨k + 1, _, _, _, _, by omega, by omega, by go_num, rfl, rfl, hT9, JE.out⟩
              case measure => simp [intOf]; omega)
    · have hex : (k < tl ∧ 200 ≤ k) ∨ tl ≤ k := by omega
      clear hin hI
      rcases hex with ⟨q1, q2⟩ | q1
      all_goals (
        go_wp2_with fail
        go_ret
        exact ⟨rfl, HI.out.ground⟩)
end Go.Proofs.Ytepdnclojjeepaa
