/- ShareJoins: the walk. No condition but the words. -/
import Derived.Test.YtlnbgfglpdkifaaShJoins
import Derived.Test.YtlnbgfglpdkifaaHeld
import Derived.Test.YtlnbgfglpdkifaaOutNums
import Derived.Deep.RegionHeld3
import Derived.Deep.DeepCutAuto
import Derived.Maps.AppendAt
import Derived.BigRegion
namespace Go.Proofs.Ytlnbgfglpdkifaa
open Go.RowKit
set_option linter.unusedVariables false
set_option linter.unusedSimpArgs false
set_option maxRecDepth 100000

theorem pl_own {w : World} {B n c : Nat} {a : Option Addr} {l : List Plc} (h : w.ownsRow B 32 2 (.slice a n c) n (rowOf encPl l)) (hn : n = l.length) : PlAt w a l := by
  intro i x hx
  have hlt := (List.getElem?_eq_some_iff.1 hx).1
  obtain ⟨g, rfl⟩ := owm_addr h (by omega)
  refine ⟨g, 0, rfl, fun j v hv => ?_⟩
  rw [Nat.zero_add]
  exact (owm_cell h (rowOf_get encPl_len hx hv)).1
theorem infoPl16 : (Try.prog.info? 32).map (fun i => (i.zero, i.size, i.bytes)) = some (some (.agg #[.int .i64 0, .int .i64 0]), 2, 16) := by kernel_rfl
set_option maxHeartbeats 8000000 in
theorem shjoins_walk (A : ShareApi) (n0 p0 i0 : Int) (w : World) :
    Calls Try.prog 6 #[.int .i64 n0, .int .i64 p0, .int .i64 i0] w fun e w' => e = .returned (.bool true) ∧ Still w w' := by
  have HWk := Lib.hid (works16 A w)
  obtain ⟨f, hf⟩ : ∃ f, f = am n0 7 := ⟨_, rfl⟩
  have hf2 : f < 7 := by rw [hf]; exact am_lt _ (by omega)
  obtain ⟨p, hp⟩ : ∃ p, p = am p0 30 := ⟨_, rfl⟩
  have hp2 : p < 30 := by rw [hp]; exact am_lt _ (by omega)
  obtain ⟨n, hn⟩ : ∃ n, n = 1 + f := ⟨_, rfl⟩
  obtain ⟨t, ht⟩ : ∃ t, t = am i0 n := ⟨_, rfl⟩
  have ht2 : t < n := by rw [ht]; exact am_lt _ (by omega)
  have B0 := Lib.hid (fun W => among_lit n0 7 7 f rfl hf (by omega) (by omega) W)
  have B1 := Lib.hid (fun W => among_lit p0 30 30 p rfl hp (by omega) (by omega) W)
  have B2 := Lib.hid (fun W => among_lit i0 (1 + (f : Int)) n t (by omega) ht (by omega) (by omega) W)
  obtain ⟨a, b, c, g, J⟩ := joins_all (n := n) (t := t) (p := p) (by omega) (by omega) ht2 (by omega)
  have HJ := Lib.hid J
  have hfi : (f : Int) < 7 := by omega
  have hpi : (p : Int) < 30 := by omega
  clear J hf hp ht
  obtain ⟨ti, fi, hz0, hz1, hz2⟩ := info_parts infoIntW
  go_enter Try.func6, Try.ntmps6
  go_wp2_with (first
    | (go_at_call 7; ((with_reducible refine HWk.out.mono ?_)); rintro e w1 ⟨rfl, hs⟩; have S1 := Lib.hid hs; clear hs)
    | (go_at_call 15; ((with_reducible refine (B0.out _).mono ?_)); rintro e wa ⟨rfl, hwa⟩; subst hwa)
    | (go_at_call 15; ((with_reducible refine (B1.out _).mono ?_)); rintro e wa ⟨rfl, hwa⟩; subst hwa))
  have HW := Lib.hid (World.ownsRow_made (e := 3) (size := 1) w1 #[] 0 (Nat.le_refl _) (by simp) (by simp))
  have hne0 : (Value.slice (some ⟨w1.heap.size, 0, none⟩) 0 0).ownBlock ≠ some (w1.heap.size + 1) := by simp [Value.ownBlock]
  have HB0 := Lib.hid (show Blk ((w1.alloc (.cells #[] 3)).alloc (.cells #[] 32)) (w1.heap.size + 1) [] 32 from by
    have := Blk.new (w1.alloc (.cells #[] 3)) [] 32
    simpa using this)
  go_loopw [7, 9] (fun mm ix wr => ∃ (k : Nat) (a1 : Option Addr) (cc : Nat), k ≤ n ∧ ix = .int .i64 k ∧ mm = .slice a1 k cc ∧ wr.ownsRow w1.heap.size 3 1 (.slice a1 k cc) k (ints (evM k)) ∧ (Value.slice a1 k cc).ownBlock ≠ some (w1.heap.size + 1) ∧ Blk wr (w1.heap.size + 1) [] 32 ∧ Still w1 wr) (fun _ ix _ => n - (intOf ix).toNat)
  case atStart => exact ⟨0, _, 0, Nat.zero_le _, rfl, rfl, ow_still (by simpa [ints, evM] using HW.out) ((Turned.refl _ _).alloc _), hne0, HB0.out, ((Turned.refl _ _).alloc _).alloc _⟩
  case round =>
    obtain ⟨k, a1, cc, hk, rfl, rfl, hown, hne, hB, hst⟩ := hrel
    have HO := Lib.hid hown
    have HS := Lib.hid hst
    have HB := Lib.hid hB
    have HNE := Lib.hid hne
    have hlo := hst.size
    by_cases hlt : k < n
    · have hki : (k : Int) < 1 + (f : Int) := by omega
      have hk7 : k ≤ 7 := by omega
      clear hown hne hB hst hne0
      go_wp2_with (at_builtin; refine wpList_append_own_at _ rfl _ _ 22 rfl w1.heap.size 3 ti (.int .i64 0) 1 8 Try.underlying22 fi hz0 hz1 hz2 rfl (by decide) (.slice a1 k cc) k (ints (evM k)) rfl (ow_still HO.out ((Turned.refl _ _).alloc _)) ⟨wr.heap.size, 0, none⟩ 1 1 [.int .i64 (2 * (k : Int))] rfl rfl (ow_cells wr _ _) (ow_ints rfl) (by unfold maxLen; omega) (by omega) (by first | (simp; done) | (simp; omega)) ?_; intro v6 w6 hown6 hg6 _ hat6; obtain ⟨a6, c6, rfl⟩ := ow_slice hown6; have HS6 := Lib.hid (ow_appended (xs := ints (evM k)) (ys := []) (v6 := undef) HS.out HO.out hg6); have HO6 := Lib.hid hown6; have HG6 := Lib.hid hg6; have HA6 := Lib.hid hat6; clear hown6 hg6 hat6)
      have hbl := HB.out.lt
      have hT6 : Turned (fun i => (Value.slice a1 k cc).ownBlock = some i) wr w6 := ((Turned.refl _ wr).alloc _).grown HG6.out (fun i e => .inl e)
      have hB6 := HB.out.turned hT6 HNE.out
      have hne6 : (Value.slice a6 (k + 1) c6).ownBlock ≠ some (w1.heap.size + 1) := by
        rcases HA6.out with h | h
        · rw [h]; exact HNE.out
        · rw [h]; intro e; have := Option.some.inj e; simp at this; omega
      go_roundw
      case rel => exact ⟨k + 1, a6, c6, by omega, by go_num, rfl, by have := HO6.out; simpa [evM, ints] using this, hne6, hB6, HS6.out⟩
      case measure => simp [intOf]; omega
    · obtain rfl : k = n := by omega
      subst hn
      clear hlt hown hne hB hst hne0
      have hki : ¬ ((1 + f : Nat) : Int) < 1 + (f : Int) := by omega
      obtain ⟨pi, qi, pz0, pz1, pz2⟩ := info_parts infoPl16
      have hbl := HB.out.lt
      have HP0 := Lib.hid (show wr.ownsRow (w1.heap.size + 1) 32 2 (.slice (some ⟨w1.heap.size + 1, 0, none⟩) 0 0) 0 (rowOf encPl (plM 0)) from owm_of_parts (xs := []) (r := []) HB.out rfl rfl (by omega) (by unfold maxLen; omega) (Nat.le_refl _))
      have HNE2 := Lib.hid (show ∀ b, (Value.slice a1 (1 + f) cc).ownBlock = some b → (Value.slice (some ⟨w1.heap.size + 1, 0, none⟩) 0 0).ownBlock ≠ some b from by
        intro b hb e
        have : w1.heap.size + 1 = b := by simpa [Value.ownBlock] using e
        subst this
        exact HNE.out (by first | exact hb | (subst hn; exact hb) | (rw [hn]; exact hb)))
      go_wp2_with fail
      go_loopw [8, 10] (fun ll ix wq => ∃ (i : Nat) (a2 : Option Addr) (c2 : Nat), i ≤ p ∧ ix = .int .i64 i ∧ ll = .slice a2 i c2 ∧ wq.ownsRow (w1.heap.size + 1) 32 2 (.slice a2 i c2) i (rowOf encPl (plM i)) ∧ (∀ b, (Value.slice a1 (1 + f) cc).ownBlock = some b → (Value.slice a2 i c2).ownBlock ≠ some b) ∧ wq.ownsRow w1.heap.size 3 1 (.slice a1 (1 + f) cc) (1 + f) (ints (evM (1 + f))) ∧ Still w1 wq) (fun _ ix _ => p - (intOf ix).toNat)
      case atStart => exact ⟨0, _, 0, Nat.zero_le _, rfl, rfl, HP0.out, HNE2.out, by first | exact HO.out | (subst hn; exact HO.out), HS.out⟩
      case round =>
        clear HP0 HNE2 HO HS HB HNE hlo hbl
        obtain ⟨i, a2, c2, hi, rfl, rfl, hown, hne, hmem, hst⟩ := hrel
        have HO := Lib.hid hown
        have HM := Lib.hid hmem
        have HS := Lib.hid hst
        have HNE := Lib.hid hne
        have hlo := hst.size
        by_cases hlt2 : i < p
        · have hii : (i : Int) < (p : Int) := by omega
          clear hown hmem hne hst
          go_wp2_with (at_builtin; refine wpList_append_own_at _ rfl _ _ 23 rfl (w1.heap.size + 1) 32 pi (.agg #[.int .i64 0, .int .i64 0]) 2 16 Try.underlying23 qi pz0 pz1 pz2 rfl (by decide) (.slice a2 i c2) i (rowOf encPl (plM i)) rfl (ow_still HO.out ((Turned.refl _ _).alloc _)) ⟨wr.heap.size, 0, none⟩ 1 1 [.int .i64 ((i : Int) / 5), .int .i64 ((i : Int) % 5)] rfl rfl (ow_cells wr _ _) (ow_ints rfl) (by unfold maxLen; omega) (by omega) (by simp; omega) ?_; intro v6 w6 hown6 hg6 _ hat6; obtain ⟨a6, c6, rfl⟩ := ow_slice hown6; have HO6 := Lib.hid hown6; have HG6 := Lib.hid hg6; have HA6 := Lib.hid hat6; clear hown6 hg6 hat6)
          have hT6 : Turned (fun j => (Value.slice a2 i c2).ownBlock = some j) wr w6 := ((Turned.refl _ wr).alloc _).grown HG6.out (fun j e => .inl e)
          have hS6 : Still w1 w6 := HS.out.past hT6 (fun j hj => .inr (by
            cases a2 with
            | none => cases hj
            | some x =>
              have := (ow_lt HO.out x rfl).1
              have e : x.block = j := by simpa [Value.ownBlock] using hj
              omega))
          have hM6 := ow_turned HM.out hT6 (fun b hb => HNE.out b hb)
          have hne6 : ∀ b, (Value.slice a1 (1 + f) cc).ownBlock = some b → (Value.slice a6 (i + 1) c6).ownBlock ≠ some b := by
            intro b hb
            rcases HA6.out with h | h
            · rw [h]; exact HNE.out b hb
            · rw [h]
              intro e
              have e2 := Option.some.inj e
              cases a1 with
              | none => cases hb
              | some x =>
                have := (ow_lt HM.out x rfl).2
                have e3 : x.block = b := by simpa [Value.ownBlock] using hb
                simp at e2; omega
          go_roundw
          case rel => exact ⟨i + 1, a6, c6, by omega, by go_num, rfl, by have := HO6.out; simpa [plM, rowOf, encPl, encI] using this, hne6, hM6, hS6⟩
          case measure => simp [intOf]; omega
        · obtain rfl : i = p := by omega
          clear hown hmem hne hst hlt2
          have HNm := Lib.hid (show NumsAt wr a1 (evM (1 + f)) from NumsAt.of_own HM.out (by rw [evM_len]))
          have HPl := Lib.hid (show PlAt wr a2 (plM i) from pl_own HO.out (by rw [plM_len]))
          have C1 := Lib.hid (show Calls Try.prog 9 #[.slice a1 ((1 + f : Nat)) cc, .slice a2 i c2, .slice none (0 : Nat) 0] wr _ from
            A.assign (ms := evM (1 + f)) (ps := plM i) (os := []) (by rw [evM_len]) (by rw [plM_len]) rfl (show 1 + f ≤ 1000 by omega) (show i ≤ 1000 by omega) (by decide) HNm.out HPl.out (fun i x hx => by cases hx) 0 a i HJ.out.ea.symm HJ.out.va.symm HJ.out.la.symm)
          clear HM HO HNE hlo
          go_wp2_with (first
            | (go_at_call 9; ((with_reducible refine C1.out.mono ?_)); rintro e w3 ⟨g3, c3, rfl, h, hs⟩; have A3 := Lib.hid h; have S3 := Lib.hid (HS.out.trans hs); have N3 := Lib.hid (HNm.out.still hs); have P3 := Lib.hid (row_still HPl.out hs); clear hs h HNm HPl C1 HS)
            | (go_at_call 15; ((with_reducible refine (B2.out _).mono ?_)); rintro e wa ⟨rfl, hwa⟩; subst hwa))
          have HW3 := Lib.hid (show (w3.alloc (.cells #[] 3)).ownsRow w3.heap.size 3 1 (.slice (some ⟨w3.heap.size, 0, none⟩) 0 0) 0 (ints (allM t 0)) from by simpa [ints, allM] using World.ownsRow_made (e := 3) (size := 1) w3 #[] 0 (Nat.le_refl _) (by simp) (by simp))
          go_loopw [14, 15] (fun ll ix wq => ∃ (j d : Nat) (a4 : Option Addr) (c4 : Nat), j ≤ 1 + f ∧ ix = .int .i64 j ∧ ll = .slice a4 d c4 ∧ d = (allM t j).length ∧ wq.ownsRow w3.heap.size 3 1 (.slice a4 d c4) d (ints (allM t j)) ∧ Still w3 wq) (fun _ ix _ => (1 + f) - (intOf ix).toNat)
          case atStart => exact ⟨0, 0, _, 0, Nat.zero_le _, rfl, rfl, rfl, HW3.out, (Turned.refl _ _).alloc _⟩
          case round =>
            clear HW3
            obtain ⟨j, d, a4, c4, hj, rfl, rfl, hd, hown, hst⟩ := hrel
            have HO := Lib.hid hown
            have HS := Lib.hid hst
            have hd2 : d ≤ j + 1 := by rw [hd, allM_len]; split <;> omega
            have HD := Lib.hid hd
            have hlo := hst.size
            by_cases hlt3 : j < 1 + f
            · have hji : (j : Int) < 1 + (f : Int) := by omega
              obtain ⟨mb, mo, hma, t0⟩ := N3.out j (2 * (j : Int)) (ev_get hlt3)
              subst hma
              have HC := Lib.hid (fun V (hs : Still w3 V) => show V.cell? ⟨mb, mo + j, none⟩ = some (.int .i64 (2 * (j : Int))) from still_cell hs t0 rfl)
              have x0 := HC.out _ hst
              clear hown hst hd t0
              by_cases hjt : j = t
              · subst hjt
                go_wp2_with (first
                  | (at_builtin; refine wpList_append_own_at _ rfl _ _ 22 rfl w3.heap.size 3 ti (.int .i64 0) 1 8 Try.underlying22 fi hz0 hz1 hz2 rfl (by decide) (.slice a4 d c4) d (ints (allM j j)) rfl (ow_still HO.out ((Turned.refl _ _).alloc _)) ⟨wr.heap.size, 0, none⟩ 1 1 [.int .i64 (2 * (j : Int))] rfl rfl (ow_cells wr _ _) (ow_ints rfl) (by unfold maxLen; omega) (by omega) (by first | (simp; done) | (simp; omega)) ?_; intro v6 w6 hown6 hg6 _ hat6; obtain ⟨a6, c6, rfl⟩ := ow_slice hown6; have HS6 := Lib.hid (ow_appended (xs := ints (allM j j)) (ys := []) (v6 := undef) HS.out HO.out hg6); have HO6 := Lib.hid hown6; have x6 := HC.out _ HS6.out; have hl6 := HS6.out.size; clear hown6 hg6 hat6)
                  | (at_builtin; refine wpList_append_own_at _ rfl _ _ 22 rfl w3.heap.size 3 ti (.int .i64 0) 1 8 Try.underlying22 fi hz0 hz1 hz2 rfl (by decide) (.slice a6 (d + 1) c6) (d + 1) (ints (allM j j) ++ [.int .i64 (2 * (j : Int))]) rfl (ow_still HO6.out ((Turned.refl _ _).alloc _)) ⟨w6.heap.size, 0, none⟩ 1 1 [.int .i64 (2 * (j : Int) + 1)] rfl rfl (ow_cells w6 _ _) (ow_ints rfl) (by unfold maxLen; omega) (by omega) (by first | (simp; done) | (simp; omega)) ?_; intro v7 w7 hown7 hg7 _ hat7; obtain ⟨a7, c7, rfl⟩ := ow_slice hown7; have HS7 := Lib.hid (ow_appended (xs := ints (allM j j) ++ [.int .i64 (2 * (j : Int))]) (ys := []) (v6 := undef) HS6.out HO6.out hg7); have HO7 := Lib.hid hown7; clear hown7 hg7 hat7))
                have e8 : allM j (j + 1) = (allM j j ++ [2 * (j : Int)]) ++ [2 * (j : Int) + 1] := by rw [allM, if_pos rfl]
                go_roundw
                case rel => exact ⟨j + 1, d + 2, a7, c7, by omega, by go_num, rfl, by rw [e8, List.length_append, List.length_append, ← HD.out]; rfl, by rw [e8]; have := HO7.out; simpa [ints] using this, HS7.out⟩
                case measure => simp [intOf]; omega
              · have hq : ((2 * (j : Int) + 1 : Int) == 2 * (t : Int) + 1) = false := by rw [beq_eq_false_iff_ne]; omega
                go_wp2_with (first
                  | (at_builtin; refine wpList_append_own_at _ rfl _ _ 22 rfl w3.heap.size 3 ti (.int .i64 0) 1 8 Try.underlying22 fi hz0 hz1 hz2 rfl (by decide) (.slice a4 d c4) d (ints (allM t j)) rfl (ow_still HO.out ((Turned.refl _ _).alloc _)) ⟨wr.heap.size, 0, none⟩ 1 1 [.int .i64 (2 * (j : Int))] rfl rfl (ow_cells wr _ _) (ow_ints rfl) (by unfold maxLen; omega) (by omega) (by first | (simp; done) | (simp; omega)) ?_; intro v6 w6 hown6 hg6 _ hat6; obtain ⟨a6, c6, rfl⟩ := ow_slice hown6; have HS6 := Lib.hid (ow_appended (xs := ints (allM t j)) (ys := []) (v6 := undef) HS.out HO.out hg6); have HO6 := Lib.hid hown6; have x6 := HC.out _ HS6.out; clear hown6 hg6 hat6))
                have e8 : allM t (j + 1) = allM t j ++ [2 * (j : Int)] := by rw [allM, if_neg hjt]
                go_roundw
                case rel => exact ⟨j + 1, d + 1, a6, c6, by omega, by go_num, rfl, by rw [e8, List.length_append, ← HD.out]; rfl, by rw [e8]; have := HO6.out; simpa [ints] using this, HS6.out⟩
                case measure => simp [intOf]; omega
            · obtain rfl : j = 1 + f := by omega
              have HN4 := Lib.hid (show NumsAt wr a4 (allM t (1 + f)) from NumsAt.of_own hown hd)
              have A4 := Lib.hid (row_still A3.out hst)
              have N4 := Lib.hid (N3.out.still hst)
              have P4 := Lib.hid (row_still P3.out hst)
              have S4 := Lib.hid (S3.out.trans hst)
              have hi30 : i ≤ 1000 := by omega
              have HK := HJ.out
              have C2 := Lib.hid (fun x2 x3 => show Calls Try.prog 9 #[.slice a4 d c4, .slice a2 i x2, .slice g3 i x3] wr _ from
                A.assign (ms := allM t (1 + f)) (ps := plM i) (os := a) hd (by rw [plM_len]) HK.la.symm (show d ≤ 1000 by omega) hi30 hi30 HN4.out P4.out A4.out 0 b i HK.eb.symm HK.vb.symm HK.lb.symm)
              have C3 := Lib.hid (fun V g5 x5 (hb : OwAt V g5 b) => show Calls Try.prog 16 #[.slice g5 i x5, .int .i64 (2 * (t : Int) + 1)] V _ from
                A.of_ (os := b) HK.lb.symm hi30 hb (asgV_nodup HK.eb HK.vb) (2 * (t : Int) + 1) g HK.got.symm)
              have C4 := Lib.hid (fun V (hs : Still wr V) g5 x1 x2 x5 (hb : OwAt V g5 b) => show Calls Try.prog 9 #[.slice a1 ((1 + f : Nat)) x1, .slice a2 i x2, .slice g5 i x5] V _ from
                A.assign (ms := evM (1 + f)) (ps := plM i) (os := b) (by rw [evM_len]) (by rw [plM_len]) HK.lb.symm (show 1 + f ≤ 1000 by omega) hi30 hi30 (N4.out.still hs) (row_still P4.out hs) hb 0 c i HK.ec.symm HK.vc.symm HK.lc.symm)
              have C5 := Lib.hid (fun V g5 g6 x5 x6 (ha : OwAt V g5 a) (hb : OwAt V g6 b) => show Calls Try.prog 13 #[.slice g5 i x5, .slice g6 i x6] V _ from
                A.moved HK.la.symm HK.lb.symm hi30 hi30 ha hb (asgV_nodup HK.eb HK.vb) (movedI a b) g rfl HK.mj.symm)
              have C6 := Lib.hid (fun V g5 g6 x5 x6 (hb : OwAt V g5 b) (hc : OwAt V g6 c) => show Calls Try.prog 13 #[.slice g5 i x5, .slice g6 i x6] V _ from
                A.moved HK.lb.symm HK.lc.symm hi30 hi30 hb hc (asgV_nodup HK.ec HK.vc) (movedI b c) g rfl HK.ml.symm)
              obtain ⟨q, hq⟩ : ∃ q, q = i / (1 + f + 1) := ⟨_, rfl⟩
              have q1 := HK.ge
              have q2 := HK.le
              rw [← hq] at q1 q2
              have hqn : q ≤ i := by rw [hq]; exact Nat.div_le_self _ _
              have hwq : wrap64 ((i : Int) / (1 + (f : Int) + 1)) = (q : Int) := by rw [show (i : Int) / (1 + (f : Int) + 1) = ((i / (1 + f + 1) : Nat) : Int) from by simp, ← hq, IntWalk.wrap64_in _ (by omega)]
              have hm1 : (1 : Int) + (f : Int) + 1 ≠ 0 := by omega
              have g1 : (q : Int) ≤ (g : Int) := Int.ofNat_le.2 q1
              have g2 : (g : Int) ≤ (q : Int) + 1 := Int.ofNat_le.2 q2
              clear hown hst hd hlo hd2 HO HS HD HK hq HN4 hlt3
              go_wp2_with (first
                | (go_at_call 9; ((with_reducible refine (C2.out _ _).mono ?_)); rintro e w5 ⟨g5, c5, rfl, h, hs⟩; have B5 := Lib.hid h; have T5 := Lib.hid hs; have S5 := Lib.hid (S4.out.trans hs); have A5 := Lib.hid (row_still A4.out hs); clear hs h C2)
                | (go_at_call 16; ((with_reducible refine (C3.out _ _ _ B5.out).mono ?_)); rintro e w6 ⟨g6, c6, rfl, _, hs⟩; have B6 := Lib.hid (row_still B5.out hs); have T6 := Lib.hid (T5.out.trans hs); have S6 := Lib.hid (S5.out.trans hs); have A6 := Lib.hid (row_still A5.out hs); clear hs C3 B5 T5 S5 A5)
                | (go_at_call 9; ((with_reducible refine (C4.out _ T6.out _ _ _ _ B6.out).mono ?_)); rintro e w7 ⟨g7, c7, rfl, h, hs⟩; have D7 := Lib.hid h; have B7 := Lib.hid (row_still B6.out hs); have S7 := Lib.hid (S6.out.trans hs); have A7 := Lib.hid (row_still A6.out hs); clear hs h C4 B6 T6 S6 A6)
                | (go_at_call 13; ((with_reducible refine (C5.out _ _ _ _ _ A7.out B7.out).mono ?_)); rintro e w8 ⟨g8, c8, rfl, _, hs⟩; have D8 := Lib.hid (row_still D7.out hs); have B8 := Lib.hid (row_still B7.out hs); have S8 := Lib.hid (S7.out.trans hs); clear hs C5 A7 B7 S7 D7)
                | (go_at_call 13; ((with_reducible refine (C6.out _ _ _ _ _ B8.out D8.out).mono ?_)); rintro e w9 ⟨g9, c9, rfl, _, hs⟩; have S9 := Lib.hid (S8.out.trans hs); clear hs C6 B8 D8 S8))
              go_ret
              exact ⟨by first | rfl | simp, S1.out.trans S9.out⟩
end Go.Proofs.Ytlnbgfglpdkifaa
