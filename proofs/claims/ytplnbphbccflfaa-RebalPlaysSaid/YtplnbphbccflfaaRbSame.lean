/- What the statements of layer 17 ask of both tables, where both hold the same plain one. No condition but the words. -/
import Derived.Test.YtplnbphbccflfaaZbBegin
import Derived.Test.YtplnbphbccflfaaZbHas
import Derived.Test.YtplnbphbccflfaaSameP17
namespace Go.Proofs.Ytplnbphbccflfaa
open Go.RowKit
set_option linter.unusedVariables false
set_option linter.unusedSimpArgs false
set_option maxRecDepth 100000

section
variable {BT : Nat → TbM → Thing} {w0 V : World} {q z K : Nat} {M : TbM}
theorem rb_zrd (H : Held w0 V ((BT q M).sep (zbT z M))) : ∃ ao co at_ ct aw cw, ZbRd z ao co at_ ct aw cw M V := by
  obtain ⟨_, h, _⟩ := H.swap.fst
  exact zbT_rd h
theorem rb_brd (H : Held w0 V ((BT q M).sep (zbT z M))) : ∃ W, (BT q M).at_ V W := by
  obtain ⟨W, h, _⟩ := H.fst
  exact ⟨W, h⟩
theorem same_pl17 {l : List Plc} {n c c' : Nat} {a a' : Option Addr} (hn : n = l.length) (h1 : n ≤ 1000) (hA : PlAt V a l) (hB : PlAt V a' l) :
    Calls Try.prog 39 #[.slice a n c, .slice a' n c'] V fun e w' => e = .returned (.bool true) ∧ Still V w' :=
  (sameP17_any V a a' l l n n c c' hn hn (by omega) hA hB).mono fun e w' ⟨he, hs⟩ => ⟨by rw [he]; simp, hs⟩
theorem same_ow17 {l : List Own} {n c c' : Nat} {a a' : Option Addr} (hn : n = l.length) (h1 : n ≤ 1000) (hA : OwAt V a l) (hB : OwAt V a' l) :
    Calls Try.prog 25 #[.slice a n c, .slice a' n c'] V fun e w' => e = .returned (.bool true) ∧ Still V w' :=
  (sameOw_any V a a' l l n n c c' hn hn (by omega) hA hB).mono fun e w' ⟨he, hs⟩ => ⟨by rw [he]; simp, hs⟩
theorem same_in17 {l : List Int} {n c c' : Nat} {a a' : Option Addr} (hn : n = l.length) (h1 : n ≤ 1000) (hA : NumsAt V a l) (hB : NumsAt V a' l) :
    Calls Try.prog 41 #[.slice a n c, .slice a' n c'] V fun e w' => e = .returned (.bool true) ∧ Still V w' := by
  subst hn
  exact (sameInts_any V a a' l l c c' rfl (by omega) hA hB).mono fun e w' ⟨he, k, hw⟩ => ⟨by rw [he]; simp, by rw [hw]; exact (Turned.refl _ _).drewN k⟩
theorem rev_le (O T : List Own) (x : Int) : (revI O T x).length ≤ O.length := by
  unfold revI
  rw [List.length_map]
  refine Nat.le_trans (List.length_filter_le _ _) ?_
  rw [List.length_zip]; omega
set_option maxHeartbeats 16000000 in
theorem rsame_any (A : RebalApi BT) (hM : M.Ok K) (hK : K < 1000000) (H : Held w0 V ((BT q M).sep (zbT z M))) :
    Calls Try.prog 17 #[.pointer (some ⟨q, 0, none⟩), .pointer (some ⟨z, 0, none⟩)] V fun e w' => e = .returned (.bool true) ∧ Still V w' := by
  obtain ⟨ao, co, at_, ct, aw, cw, hrd⟩ := rb_zrd H
  have hO : M.O.length ≤ 256 := hM.len
  have hL2 := hM.len2
  have hW8 := hM.wl
  have HB := Lib.hid (fun U (hs : Still V U) => rb_brd (H.still hs))
  obtain ⟨no, hno⟩ : ∃ no, no = M.O.length := ⟨_, rfl⟩
  obtain ⟨nw, hnw⟩ : ∃ nw, nw = M.W.length := ⟨_, rfl⟩
  have hno1 : no ≤ 1000 := by omega
  have hnw1 : nw ≤ 1000 := by omega
  have hnt : no = M.T.length := by omega
  have HRv := Lib.hid (fun U (hs : Still V U) (x : Int) (n : Nat) (h1 : -1 ≤ x) (h2 : x ≤ 6) (hn : n = (revI M.O M.T x).length) => show Calls Try.prog 28 #[.pointer (some ⟨q, 0, none⟩), .int .i64 x] U fun e w' => ∃ a c, e = .returned (.slice a n c) ∧ PlAt w' a (revI M.O M.T x) ∧ Still V w' from by
    obtain ⟨_, hb⟩ := HB.out U hs
    exact (A.revoked hb hM hK x (by omega) (by omega) n hn).mono fun e w' ⟨a, c, he, ho, ht⟩ => ⟨a, c, he, RowAt.of_own encPl_len ho hn, hs.trans ht⟩)
  have HZv := Lib.hid (fun U (hs : Still V U) (x : Int) (n : Nat) (hn : n = (revI M.O M.T x).length) => show Calls Try.prog 36 #[.pointer (some ⟨z, 0, none⟩), .int .i64 x] U fun e w' => ∃ a c, e = .returned (.slice a n c) ∧ PlAt w' a (revI M.O M.T x) ∧ Still U w' ∧ Still V w' from
    (zrbrev_any (hrd.still hs) hM.toPre x n hn).mono fun e w' ⟨a, c, he, ho, ht⟩ => ⟨a, c, he, RowAt.of_own encPl_len ho hn, ht, hs.trans ht⟩)
  have HHs := Lib.hid (fun U (hs : Still V U) (x a b : Int) (h1 : -1 ≤ x) (h2 : x ≤ 6) => show Calls Try.prog 27 #[.pointer (some ⟨q, 0, none⟩), .int .i64 x, .agg #[.int .i64 a, .int .i64 b]] U fun e w' => e = .returned (.int .i64 (M.hasE x (a, b))) ∧ Still U w' from by
    obtain ⟨_, hb⟩ := HB.out U hs
    exact A.has hb hM hK x (a, b) (by omega) (by omega))
  have HZh := Lib.hid (fun U (hs : Still V U) (x a b : Int) => show Calls Try.prog 40 #[.pointer (some ⟨z, 0, none⟩), .int .i64 x, .agg #[.int .i64 a, .int .i64 b]] U fun e w' => e = .returned (.int .i64 (M.hasE x (a, b))) ∧ Still U w' from zrbhas_any (hrd.still hs) hM.toPre x (a, b))
  have HOw := Lib.hid (fun U (hs : Still V U) => show Calls Try.prog 19 #[.pointer (some ⟨q, 0, none⟩)] U fun e w' => ∃ a c, e = .returned (.slice a no c) ∧ Still V w' ∧ Calls Try.prog 25 #[.slice a no c, .slice ao no co] w' (fun e w'' => e = .returned (.bool true) ∧ Still V w'') from by
    obtain ⟨_, hb⟩ := HB.out U hs
    exact (A.owners hb hM hK no hno).mono fun e w' ⟨a, c, he, ho, ht⟩ => ⟨a, c, he, hs.trans ht, (same_ow17 (c := c) (c' := co) hno hno1 (RowAt.of_own encOw_len ho hno) (hrd.still (hs.trans ht)).ro).mono fun e w'' ⟨he, h⟩ => ⟨he, (hs.trans ht).trans h⟩⟩)
  have HTg := Lib.hid (fun U (hs : Still V U) => show Calls Try.prog 26 #[.pointer (some ⟨q, 0, none⟩)] U fun e w' => ∃ a c, e = .returned (.slice a no c) ∧ Still V w' ∧ Calls Try.prog 25 #[.slice a no c, .slice at_ no ct] w' (fun e w'' => e = .returned (.bool true) ∧ Still V w'') from by
    obtain ⟨_, hb⟩ := HB.out U hs
    exact (A.target hb hM hK no hnt).mono fun e w' ⟨a, c, he, ho, ht⟩ => ⟨a, c, he, hs.trans ht, (same_ow17 (c := c) (c' := ct) hnt hno1 (RowAt.of_own encOw_len ho hnt) (hrd.still (hs.trans ht)).rt).mono fun e w'' ⟨he, h⟩ => ⟨he, (hs.trans ht).trans h⟩⟩)
  have HWt := Lib.hid (fun U (hs : Still V U) => show Calls Try.prog 22 #[.pointer (some ⟨q, 0, none⟩)] U fun e w' => ∃ a c, e = .returned (.slice a nw c) ∧ Still V w' ∧ Calls Try.prog 41 #[.slice a nw c, .slice aw nw cw] w' (fun e w'' => e = .returned (.bool true) ∧ Still V w'') from by
    obtain ⟨_, hb⟩ := HB.out U hs
    exact (A.waits hb hM hK nw hnw).mono fun e w' ⟨a, c, he, ho, ht⟩ => ⟨a, c, he, hs.trans ht, (same_in17 (c := c) (c' := cw) hnw hnw1 (NumsAt.of_own ho hnw) (hrd.still (hs.trans ht)).rw_).mono fun e w'' ⟨he, h⟩ => ⟨he, (hs.trans ht).trans h⟩⟩)
  have HGn := Lib.hid (fun U (hs : Still V U) => show Calls Try.prog 20 #[.pointer (some ⟨q, 0, none⟩)] U fun e w' => e = .returned (.int .i64 ((M.G : Nat) : Int)) ∧ Still V w' from by
    obtain ⟨_, hb⟩ := HB.out U hs
    exact (A.gen hb hM hK).mono fun e w' ⟨he, ht⟩ => ⟨he, hs.trans ht⟩)
  have HSt := Lib.hid (fun U (hs : Still V U) => show Calls Try.prog 23 #[.pointer (some ⟨q, 0, none⟩)] U fun e w' => e = .returned (.bool (decide (M.W = []))) ∧ Still V w' from by
    obtain ⟨_, hb⟩ := HB.out U hs
    exact (A.settled hb hM hK).mono fun e w' ⟨he, ht⟩ => ⟨he, hs.trans ht⟩)
  have HZs := Lib.hid (fun U (hs : Still V U) => show Calls Try.prog 42 #[.pointer (some ⟨z, 0, none⟩)] U fun e w' => e = .returned (.bool (decide (M.W = []))) ∧ Still V w' from
    (zrbset_any (hrd.still hs)).mono fun e w' ⟨he, ht⟩ => ⟨he, by rw [← ht]; exact hs⟩)
  have HC := Lib.hid (fun U (hs : Still V U) => show U.cell? ⟨z, 0, none⟩ = some (.slice ao no co) ∧ U.cell? ⟨z, 1, none⟩ = some (.slice at_ no ct) ∧ U.cell? ⟨z, 2, none⟩ = some (.slice aw nw cw) ∧ U.cell? ⟨z, 3, none⟩ = some (.int .i64 ((M.G : Nat) : Int)) from by
    have h := hrd.still hs
    exact ⟨by rw [hno]; exact h.c0, by rw [hnt]; exact h.c1, by rw [hnw]; exact h.c2, h.c3⟩)
  have HLe := Lib.hid (fun x => show (revI M.O M.T x).length ≤ 1000 from by have := rev_le M.O M.T x; omega)
  have HV := Lib.hid (show Still V V from Turned.refl _ _)
  obtain ⟨g, hg⟩ : ∃ g : Int, g = ((M.G : Nat) : Int) := ⟨_, rfl⟩
  rw [← hg] at HGn HC
  obtain ⟨O, hO'⟩ : ∃ O, O = M.O := ⟨_, rfl⟩
  obtain ⟨T, hT'⟩ : ∃ T, T = M.T := ⟨_, rfl⟩
  rw [← hO', ← hT'] at HRv HZv HLe
  generalize M.hasE = hasE at *
  generalize decide (M.W = []) = sv at *
  clear H hrd hO hL2 hW8 hno hnw hnt hM hg hO' hT' HB
  go_enter Try.func17, Try.ntmps17
  go_wp2_with fail
  go_loopw [5] (fun ix wq => ∃ x : Int, -1 ≤ x ∧ x ≤ 6 ∧ ix = .int .i64 x ∧ Still V wq) (fun ix _ => (6 - intOf ix).toNat)
  case atStart => exact ⟨-1, by omega, by omega, rfl, HV.out⟩
  case round =>
    obtain ⟨x, hx1, hx2, rfl, hst⟩ := hrel
    have HS := Lib.hid hst
    by_cases hlt : x < 6
    · obtain ⟨n, hn⟩ : ∃ n, n = (revI O T x).length := ⟨_, rfl⟩
      have HRx := Lib.hid (fun U (hs : Still V U) => HRv.out U hs x n hx1 hx2 hn)
      have HZx := Lib.hid (fun U (hs : Still V U) => HZv.out U hs x n hn)
      have HSm := Lib.hid (fun (U : World) (a a' : Option Addr) (c c' : Nat) hA hB => same_pl17 (V := U) (a := a) (a' := a') (c := c) (c' := c') hn (by have := HLe.out x; omega) hA hB)
      have HHx := Lib.hid (fun U (hs : Still V U) (a b : Int) => HHs.out U hs x a b hx1 hx2)
      have HZy := Lib.hid (fun U (hs : Still V U) (a b : Int) => HZh.out U hs x a b)
      generalize revI O T x = R at *
      clear hst hn
      go_wp2_with (first
        | (go_at_call 28; ((with_reducible refine (HRx.out _ HS.out).mono ?_)); rintro e w1 ⟨a1, c1, rfl, ho, hs⟩; have HO1 := Lib.hid ho; have HS1 := Lib.hid hs; clear ho hs)
        | (go_at_call 36; ((with_reducible refine (HZx.out _ HS1.out).mono ?_)); rintro e w2 ⟨a2, c2, rfl, ho, ht, hs⟩; have HSc := Lib.hid (HSm.out _ _ _ c1 c2 (row_still HO1.out ht) ho); have HS2 := Lib.hid hs; clear ho hs ht)
        | (go_at_call 39; ((with_reducible refine HSc.out.mono ?_)); rintro e w3 ⟨rfl, hs⟩; have HS3 := Lib.hid (HS2.out.trans hs); clear hs))
      obtain ⟨U, hU⟩ : ∃ U, U = wr := ⟨_, rfl⟩
      subst hU
      go_loopw [6] (fun jx wq => ∃ j : Nat, j ≤ 8 ∧ jx = .int .i64 j ∧ Still V wq) (fun jx _ => 8 - (intOf jx).toNat)
      case atStart => exact ⟨0, by omega, rfl, HS3.out⟩
      case round =>
        obtain ⟨j, hj, rfl, hst⟩ := hrel
        have HSj := Lib.hid hst
        by_cases hl2 : j < 8
        · obtain ⟨b, hb⟩ : ∃ b, b = wr.heap.size := ⟨_, rfl⟩
          obtain ⟨Wb, hWb⟩ : ∃ Wb, Wb = wr.alloc (.cells #[.int .i64 ((j : Int) / 3), .int .i64 ((j : Int) % 3)] 49) := ⟨_, rfl⟩
          have hSb : Still wr Wb := by rw [hWb]; exact (Turned.refl _ _).alloc _
          have hbb : Blk Wb b [.int .i64 ((j : Int) / 3), .int .i64 ((j : Int) % 3)] 49 := by rw [hWb, hb]; exact Blk.new wr _ _
          obtain ⟨pa, hpa⟩ : ∃ pa : Int, pa = (j : Int) / 3 := ⟨_, rfl⟩
          obtain ⟨pb, hpb⟩ : ∃ pb : Int, pb = (j : Int) % 3 := ⟨_, rfl⟩
          rw [← hpa, ← hpb] at hbb hWb
          have HX := Lib.hid (fun U2 (hs : Still Wb U2) => show U2.cell? ⟨b, 0, none⟩ = some (.int .i64 pa) ∧ U2.cell? ⟨b, 1, none⟩ = some (.int .i64 pb) from ⟨(hbb.turned hs (fun h => h)).cell rfl, (hbb.turned hs (fun h => h)).cell rfl⟩)
          have hSd : Still Wb Wb.drew := (Turned.refl _ _).drew
          have HSw := Lib.hid (hst.trans hSb)
          have hj8 : (j : Int) < 8 := by omega
          have HE := Lib.hid (show ∀ a b : Int, (hasE x (a, b) != hasE x (a, b)) = false from fun a b => by simp)
          clear hst hbb hSb
          go_wp2_with fail
          rw [← hpa, ← hpb, ← hWb, ← hb]
          obtain ⟨x0, x1⟩ := HX.out _ hSd
          clear hpa hpb hWb hb
          have HHp := Lib.hid (fun U2 (hs : Still Wb U2) => (HHx.out U2 (HSw.out.trans hs) pa pb).mono fun e w' (h : e = .returned (.int .i64 (hasE x (pa, pb))) ∧ Still U2 w') => (⟨h.1, hs.trans h.2⟩ : e = Ending.returned (.int .i64 (hasE x (pa, pb))) ∧ Still Wb w'))
          have HZp := Lib.hid (fun U2 (hs : Still Wb U2) => (HZy.out U2 (HSw.out.trans hs) pa pb).mono fun e w' (h : e = .returned (.int .i64 (hasE x (pa, pb))) ∧ Still U2 w') => (⟨h.1, hs.trans h.2⟩ : e = Ending.returned (.int .i64 (hasE x (pa, pb))) ∧ Still Wb w'))
          generalize hasE x (pa, pb) = hv at *
          go_region_held3 (fun U2 => U2.cell? ⟨b, 0, none⟩ = some (.int .i64 pa) ∧ U2.cell? ⟨b, 1, none⟩ = some (.int .i64 pb)) (first | assumption | exact ⟨by assumption, by assumption⟩ | go_keep)
            (first
              | (go_at_call 27; ((with_reducible refine (HHp.out _ (by assumption)).mono ?_)); rintro e w5 ⟨rfl, h5⟩; obtain ⟨y0, y1⟩ := HX.out _ h5)
              | (go_at_call 40; ((with_reducible refine (HZp.out _ (by assumption)).mono ?_)); rintro e w6 ⟨rfl, h6⟩; obtain ⟨z0, z1⟩ := HX.out _ h6))
          go_wp2_with fail
          go_roundw
          case rel => exact ⟨j + 1, by omega, by go_num, HSw.out.trans (by assumption)⟩
          case measure => simp [intOf]; omega
        · obtain rfl : j = 8 := by omega
          clear hst
          go_wp2_with fail
          go_roundw
          case rel => exact ⟨x + 1, by omega, by omega, by go_num, HSj.out⟩
          case measure => simp [intOf]; omega
    · obtain rfl : x = 6 := by omega
      have hSd : Still V wr.drew := hst.drew
      have hE : (g == g) = true := by simp
      have hE2 : (sv == sv) = true := by simp
      obtain ⟨c0, c1, c2, c3⟩ := HC.out _ hSd
      clear hst
      go_wp2_with fail
      go_region_held3 (fun U2 => U2.cell? ⟨z, 0, none⟩ = some (.slice ao no co) ∧ U2.cell? ⟨z, 1, none⟩ = some (.slice at_ no ct) ∧ U2.cell? ⟨z, 2, none⟩ = some (.slice aw nw cw) ∧ U2.cell? ⟨z, 3, none⟩ = some (.int .i64 g)) (first | assumption | exact ⟨by assumption, by assumption, by assumption, by assumption⟩ | go_keep)
        (first
          | (go_at_call 19; ((with_reducible refine (HOw.out _ (by assumption)).mono ?_)); rintro e w1 ⟨a1, k1, rfl, h1, hc1⟩; have HS1 := Lib.hid hc1; clear hc1; obtain ⟨d0, d1, d2, d3⟩ := HC.out _ h1)
          | (go_at_call 26; ((with_reducible refine (HTg.out _ (by assumption)).mono ?_)); rintro e w3 ⟨a3, k3, rfl, h3, hc3⟩; have HS3 := Lib.hid hc3; clear hc3; obtain ⟨d8, d9, d10, d11⟩ := HC.out _ h3)
          | (go_at_call 25; ((with_reducible refine HS3.out.mono ?_)); rintro e w4 ⟨rfl, h4⟩; obtain ⟨d12, d13, d14, d15⟩ := HC.out _ h4)
          | (go_at_call 25; ((with_reducible refine HS1.out.mono ?_)); rintro e w2 ⟨rfl, h2⟩; obtain ⟨d4, d5, d6, d7⟩ := HC.out _ h2)
          | (go_at_call 22; ((with_reducible refine (HWt.out _ (by assumption)).mono ?_)); rintro e w5 ⟨a5, k5, rfl, h5, hc5⟩; have HS5 := Lib.hid hc5; clear hc5; obtain ⟨e0, e1, e2, e3⟩ := HC.out _ h5)
          | (go_at_call 41; ((with_reducible refine HS5.out.mono ?_)); rintro e w6 ⟨rfl, h6⟩; obtain ⟨e4, e5, e6, e7⟩ := HC.out _ h6)
          | (go_at_call 20; ((with_reducible refine (HGn.out _ (by assumption)).mono ?_)); rintro e w7 ⟨rfl, h7⟩; obtain ⟨e8, e9, e10, e11⟩ := HC.out _ h7)
          | (go_at_call 23; ((with_reducible refine (HSt.out _ (by assumption)).mono ?_)); rintro e w8 ⟨rfl, h8⟩; obtain ⟨f0, f1, f2, f3⟩ := HC.out _ h8)
          | (go_at_call 42; ((with_reducible refine (HZs.out _ (by assumption)).mono ?_)); rintro e w9 ⟨rfl, h9⟩; obtain ⟨f4, f5, f6, f7⟩ := HC.out _ h9))
      all_goals (go_wp2_with fail)
      all_goals (go_ret)
      all_goals (exact ⟨by first | rfl | simp, by assumption⟩)
end
end Go.Proofs.Ytplnbphbccflfaa
