/- FenceJudges: the walk. No condition but the words. -/
import Derived.Test.YtdlkdagmaeapdaaBdZb
import Derived.Test.YtdlkdagmaeapdaaBdFnR
import Derived.Test.YtdlkdagmaeapdaaReadInts
import Derived.Test.YtdlkdagmaeapdaaActs18
import Derived.Test.YtdlkdagmaeapdaaBdRbM
import Derived.Deep.RegionHeld3
import Derived.Deep.DeepCutAuto
import Derived.Deep.CutBlock
import Derived.BigRegion
namespace Go.Proofs.Ytdlkdagmaeapdaa
open Go.RowKit
set_option linter.unusedVariables false
set_option linter.unusedSimpArgs false
set_option maxRecDepth 100000

theorem cellsInts18 : Try.prog.cellsOf 44 = 1 := by kernel_rfl
theorem rdIntss18 : Rd Try.prog 52 encSl (SlOk encSl (SlOk encI (okI .i64) 1) 1) := rd_slice Try.underlying52 cellsInts18 (by omega) (fun _ => rfl) rdInts
theorem lit_heldP {w0 w : World} {R : Thing} (H : Held w0 w R) {l : List Plc} {n : Nat} (hn : n = l.length) (h0 : n ≤ 1000) : Held w0 (w.alloc (.cells (rowOf encPl l).toArray 54)) (R.sep (plsT (some ⟨w.heap.size, 0, none⟩) n n l)) := by
  have hl : (rowOf encPl l).length = n * 2 := by rw [rowOf_length encPl_len, hn]
  have hN : ∃ W, (plsT (some ⟨w.heap.size, 0, none⟩) n n l).at_ (w.alloc (.cells (rowOf encPl l).toArray 54)) W ∧ Still w (w.alloc (.cells (rowOf encPl l).toArray 54)) ∧ ∀ k, W k → w.heap.size ≤ k :=
    ⟨(· = w.heap.size), ⟨owm_of_parts (xs := rowOf encPl l) (r := []) (by rw [List.append_nil]; exact Blk.new w _ _) (by rw [hl]) (by rw [List.append_nil, hl]) (Nat.le_refl _) (by unfold maxLen; omega) (Nat.zero_le _),
      fun k => ⟨fun h => by rw [h]; rfl, fun h => by cases h; rfl⟩⟩, (Turned.refl _ _).alloc _, fun k hk => by omega⟩
  exact (H.new hN).swap
def ps4 : List Plc := [(0, 0), (0, 1), (1, 0), (1, 1)]

set_option maxHeartbeats 16000000 in
theorem fjudges_walk {FT : Nat → FnM → Thing} {LT : Nat → LgM → Thing} {BT : Nat → TbM → Thing} (F : FenceApi FT LT) (A : RebalApi BT) (J : JudgeApi BT) (s : Sl (Sl Int)) (r : Sl Int) (x g : Int) (p : Plc) (w : World)
    (hs : SlOk encSl (SlOk encI (okI .i64) 1) 1 w s) (hr : SlOk encI (okI .i64) 1 w r) (hx0 : (Lit.int .i64 x).wf = true) :
    Calls Try.prog 6 #[.slice s.a s.len s.cap, .slice r.a r.len r.cap, .int .i64 x, .int .i64 g, .agg #[.int .i64 p.1, .int .i64 p.2]] w fun e w' => e = .returned (.bool true) ∧ Still w w' := by
  have hxx := i64_of18 (w := w) hx0
  obtain ⟨sa, sl, sc, sx⟩ := s
  obtain ⟨ra, rl, rc, rx⟩ := r
  obtain ⟨p1, p2⟩ := p
  have hsl : sl ≤ sc := hs.le
  have hsm : sc ≤ maxLen := hs.max
  have hrl : rl ≤ rc := hr.le
  have hrm : rc ≤ maxLen := hr.max
  unfold maxLen at hsm hrm
  have HS := Lib.hid hs
  have HR := Lib.hid hr
  have HSL : Hid (sx.length = sl) := Lib.hid hs.len
  have HRL : Hid (rx.length = rl) := Lib.hid hr.len
  obtain ⟨Bp, hBp⟩ : ∃ B, B = w.heap.size := ⟨_, rfl⟩
  have K0 := Lib.hid (show Held w (w.alloc (.cells #[.int .i64 p1, .int .i64 p2] 54)) (blkT Bp [.int .i64 p1, .int .i64 p2] 54) from by
    rw [hBp]
    exact ((Held.start (Turned.refl _ w)).box [.int .i64 p1, .int .i64 p2] 54).snd)
  have HMk := Lib.hid (fun W => A.make_ W)
  have HZk := Lib.hid (fun W => zrbmake_any W)
  have HBp := Lib.hid hBp
  dsimp only
  clear hs hr hx0 hBp
  go_enter Try.func6, Try.ntmps6
  go_wp2_with (first
    | (go_at_call 31; ((with_reducible refine (HMk.out _).mono ?_)); rintro e w1 ⟨q, rfl, hN⟩; have K1 := Lib.hid (K0.out.new hN); clear hN)
    | (go_at_call 32; ((with_reducible refine (HZk.out _).mono ?_)); rintro e w2 ⟨z, rfl, hN⟩; have K2 := Lib.hid ((K1.out.new hN).turn.assoc'); clear hN))
  have K3 := Lib.hid (show Held w (w2.alloc (.cells (rowOf encPl ps4).toArray 54)) (((BT q TbM.new).sep (zbT z TbM.new)).sep ((plsT (some ⟨w2.heap.size, 0, none⟩) 4 4 ps4).sep (blkT Bp [.int .i64 p1, .int .i64 p2] 54))) from
    (lit_heldP K2.out (l := ps4) (n := 4) rfl (by omega)).assoc.imp2 (sep_imp2 (fun h => h) sep_swap))
  rw [show (rowOf encPl ps4).toArray = #[.int .i64 0, .int .i64 0, .int .i64 0, .int .i64 1, .int .i64 1, .int .i64 0, .int .i64 1, .int .i64 1] from rfl] at K3
  obtain ⟨lo, hlo⟩ : ∃ lo, lo = w2.heap.size := ⟨_, rfl⟩
  rw [← hlo] at K3 ⊢
  rw [← HBp.out]
  clear hlo K0 K2 HMk HZk
  go_loopw [14] (fun ix wr => ∃ (i K : Nat) (M : TbM), i ≤ sl ∧ i ≤ 20 ∧ ix = .int .i64 i ∧ K ≤ 2 * i ∧ M.Ok K ∧ Held w wr (((BT q M).sep (zbT z M)).sep ((plsT (some ⟨lo, 0, none⟩) 4 4 ps4).sep (blkT Bp [.int .i64 p1, .int .i64 p2] 54)))) (fun ix _ => sl - (intOf ix).toNat)
  case atStart => exact ⟨0, 0, TbM.new, Nat.zero_le _, Nat.zero_le _, rfl, Nat.le_refl _, TbM.new_ok, K3.out⟩
  case round =>
    clear K3
    obtain ⟨i, K, M, hi, hi1, rfl, hK, hM, hH⟩ := hrel
    by_cases hin : i < sl ∧ i < 20
    · obtain ⟨hlt, h20⟩ := hin
      obtain ⟨y, hy⟩ := get_some (l := sx) (i := i) (by rw [HSL.out]; exact hlt)
      obtain ⟨b, o, rfl, hc⟩ := HS.out.row i y hy
      have hyo := HS.out.each y (List.mem_of_getElem? hy)
      obtain ⟨ya, yl, yc, yx⟩ := y
      have hG := hH.ground
      have c0 := still_cell hG (hc 0 _ rfl) rfl
      rw [show o + (i * 1 + 0) = o + i by omega] at c0
      dsimp only at c0
      have c0d : wr.drew.cell? ⟨b, o + i, none⟩ = some (.slice ya yl yc) := still_cell ((Turned.refl (fun _ => False) wr).drew) c0 rfl
      obtain ⟨ms, hms⟩ : ∃ ms, ms = yx.take 12 := ⟨_, rfl⟩
      obtain ⟨m, hm⟩ : ∃ m, m = ms.length := ⟨_, rfl⟩
      have hyl : yx.length = yl := hyo.len
      have hmb : (m = yl ∧ yl ≤ 12) ∨ (m = 12 ∧ 12 < yl) := by rw [hm, hms, List.length_take, hyl]; omega
      have hif : (if (12 : Int) < (yl : Int) then (12 : Int) else (yl : Int)) = (m : Int) := by
        rcases hmb with ⟨e1, e2⟩ | ⟨e1, e2⟩
        · rw [if_neg (by omega), e1]
        · rw [if_pos (by omega), e1]; rfl
      have hyle : yl ≤ yc := hyo.le
      have hx1 : (m : Int) ≤ (yc : Int) := by omega
      have hx0 : (0 : Int) ≤ (m : Int) := Int.natCast_nonneg m
      have HA := Lib.hid (show NumsAt w ya ms from by rw [hms]; exact (nums_row hyo.row).take 12)
      have hm12 : m ≤ 12 := by omega
      have hii : (i : Int) < (sl : Int) := by omega
      have HMl := Lib.hid hm
      obtain ⟨wq, hwq⟩ : ∃ wq, wq = wr.drew := ⟨_, rfl⟩
      have H0 := Lib.hid (show Held w wq (((BT q M).sep (zbT z M)).sep ((plsT (some ⟨lo, 0, none⟩) 4 4 ps4).sep (blkT Bp [.int .i64 p1, .int .i64 p2] 54))) from by rw [hwq]; exact hH.still ((Turned.refl _ _).drew))
      have HBg := Lib.hid (fj_begin J hM (by omega) (c2 := yc) (cm := yc) (n := 4) (cl := 4) (ps := ps4) rfl HMl.out (by omega) (by omega) HA.out H0.out)
      have hd20 : decide ((i : Int) < 20) = true := by simp; omega
      clear hy hyo hc hG hms hm hyl hmb hyle hH HA
      by_cases hir : i < rl
      · obtain ⟨u, hu⟩ := get_some (l := rx) (i := i) (by rw [HRL.out]; exact hir)
        obtain ⟨b', o', rfl, hc'⟩ := HR.out.row i u hu
        have huo : okI .i64 w u := HR.out.each u (List.mem_of_getElem? hu)
        obtain ⟨u1, u2⟩ := i64_of18 huo
        have hcu : w.cell? ⟨b', o' + i, none⟩ = some (.int .i64 u) := by have := hc' 0 _ rfl; rwa [Nat.mul_one, Nat.add_zero] at this
        have HCu := Lib.hid (fun V (hs : Still w V) => (show V.cell? ⟨b', o' + i, none⟩ = some (.int .i64 u) from still_cell hs hcu rfl))
        have hiri : (i : Int) < (rl : Int) := by omega
        clear hu hc' huo hcu
        as_aux_lemma =>
          go_wp2_with fail
          go_region
          rw [← hwq]
          clear hwq c0 c0d
          go_wp2_with (first
            | (go_at_call 33; obtain ⟨v5, E5, hb5⟩ := HBg.out; ((with_reducible refine hb5.mono ?_)); rintro e w5 ⟨rfl, hg5, hz5⟩; have HZ5 := Lib.hid hz5; clear hb5 hg5 hz5)
            | (go_at_call 34; ((with_reducible refine HZ5.out.mono ?_)); rintro e w6 ⟨rfl, M1, hM1, h6⟩; have cu := HCu.out _ h6.ground; have H6 := Lib.hid h6; have HM1 := Lib.hid hM1; clear hM1 h6)
            | (go_at_call 35; obtain ⟨v7, E7, hb7⟩ := fj_ack A HM1.out (by omega) u1 u2 H6.out; ((with_reducible refine hb7.mono ?_)); rintro e w7 ⟨rfl, hg7, hz7⟩; have cu7 := HCu.out _ hg7; have HZ7 := Lib.hid hz7; clear hb7 hg7 hz7)
            | (go_at_call 36; ((with_reducible refine HZ7.out.mono ?_)); rintro e w8 ⟨rfl, M2, hM2, h8⟩; have H8 := Lib.hid h8; have HM2 := Lib.hid hM2; clear hM2 h8))
          go_roundw
          case rel => exact ⟨i + 1, K + 1 + 1, M2, by omega, by omega, by go_num, by omega, HM2.out, H8.out⟩
          case measure => simp [intOf]; omega
      · have hiri : ¬ (i : Int) < (rl : Int) := by omega
        as_aux_lemma =>
          go_wp2_with fail
          go_region
          rw [← hwq]
          clear hwq c0 c0d
          go_wp2_with (first
            | (go_at_call 33; obtain ⟨v5, E5, hb5⟩ := HBg.out; ((with_reducible refine hb5.mono ?_)); rintro e w5 ⟨rfl, hg5, hz5⟩; have HZ5 := Lib.hid hz5; clear hb5 hg5 hz5)
            | (go_at_call 34; ((with_reducible refine HZ5.out.mono ?_)); rintro e w6 ⟨rfl, M1, hM1, h6⟩; have H6 := Lib.hid h6; have HM1 := Lib.hid hM1; clear hM1 h6))
          go_roundw
          case rel => exact ⟨i + 1, K + 1, M1, by omega, by omega, by go_num, by omega, HM1.out, H6.out⟩
          case measure => simp [intOf]; omega
    · obtain ⟨G, hG⟩ : ∃ G, G = ((M.G : Nat) : Int) := ⟨_, rfl⟩
      obtain ⟨ev, hev⟩ : ∃ ev, ev = jdgE M x g (p1, p2) := ⟨_, rfl⟩
      obtain ⟨ea, hea⟩ : ∃ ea, ea = jdgE M x G (p1, p2) := ⟨_, rfl⟩
      have HNil := Lib.hid (fun W => J.nil_ x g p1 p2 W)
      have HC := Lib.hid (fun V (hs : Still wr V) => show V.cell? ⟨Bp, 0, none⟩ = some (.int .i64 p1) ∧ V.cell? ⟨Bp, 1, none⟩ = some (.int .i64 p2) ∧ V.cell? ⟨z, 3, none⟩ = some (.int .i64 G) from by
        have hV := hH.still hs
        have hb := hV.snd.snd.blk
        obtain ⟨_, hz, _⟩ := hV.drop.snd
        obtain ⟨_, _, _, _, _, _, hzr⟩ := zbT_rd hz
        exact ⟨hb.cell rfl, hb.cell rfl, by rw [hG]; exact hzr.c3⟩)
      have HJ := Lib.hid (fun V (hs : Still wr V) => show Calls Try.prog 37 #[.pointer (some ⟨q, 0, none⟩), .int .i64 x, .int .i64 g, .agg #[.int .i64 p1, .int .i64 p2]] V fun e w' => e = .returned (.int .i64 ev) ∧ Still wr w' from by
        obtain ⟨_, h, _⟩ := (hH.still hs).drop.drop
        rw [hev]
        exact (J.judge h hM (by omega) x g p1 p2 hxx.1 hxx.2).mono fun e w' ⟨he, ht⟩ => ⟨he, hs.trans ht⟩)
      have HJ2 := Lib.hid (fun V (hs : Still wr V) => show Calls Try.prog 37 #[.pointer (some ⟨q, 0, none⟩), .int .i64 x, .int .i64 G, .agg #[.int .i64 p1, .int .i64 p2]] V fun e w' => e = .returned (.int .i64 ea) ∧ Still wr w' from by
        obtain ⟨_, h, _⟩ := (hH.still hs).drop.drop
        rw [hea]
        exact (J.judge h hM (by omega) x G p1 p2 hxx.1 hxx.2).mono fun e w' ⟨he, ht⟩ => ⟨he, hs.trans ht⟩)
      have HZ := Lib.hid (fun V (hs : Still wr V) => show Calls Try.prog 38 #[.pointer (some ⟨z, 0, none⟩), .int .i64 x, .int .i64 g, .agg #[.int .i64 p1, .int .i64 p2]] V fun e w' => e = .returned (.int .i64 ev) ∧ Still wr w' from by
        obtain ⟨_, h, _⟩ := (hH.still hs).drop.snd
        rw [hev]
        exact (zfnjudge_any h hM.toPre x g p1 p2).mono fun e w' ⟨he, ht⟩ => ⟨he, hs.trans ht⟩)
      have HZ2 := Lib.hid (fun V (hs : Still wr V) => show Calls Try.prog 38 #[.pointer (some ⟨z, 0, none⟩), .int .i64 x, .int .i64 G, .agg #[.int .i64 p1, .int .i64 p2]] V fun e w' => e = .returned (.int .i64 ea) ∧ Still wr w' from by
        obtain ⟨_, h, _⟩ := (hH.still hs).drop.snd
        rw [hea]
        exact (zfnjudge_any h hM.toPre x G p1 p2).mono fun e w' ⟨he, ht⟩ => ⟨he, hs.trans ht⟩)
      have HWk := Lib.hid (fun V (hs : Still wr V) => (works18 F V).mono fun e w' ⟨he, ht⟩ => (⟨he, hs.trans ht⟩ : e = Ending.returned (.bool true) ∧ Still wr w'))
      have HGr := Lib.hid hH.ground
      have HEv := Lib.hid (fun (hne : g ≠ G) => show ev = 180 from by rw [hev]; unfold jdgE; rw [if_neg (by rw [← hG]; exact hne)])
      have HEq := Lib.hid (fun (he : g = G) => show ev = ea from by rw [hev, hea, he])
      have hT0 : Still wr wr := Turned.refl _ _
      obtain ⟨k0, k1, k3⟩ := HC.out wr hT0
      have hend : ((i : Int) < (sl : Int) ∧ ¬ (i : Int) < 20) ∨ ¬ (i : Int) < (sl : Int) := by omega
      clear hin hG hev hea hH hM
      rcases hend with ⟨e1, e2⟩ | e1
      all_goals (
        go_upto_region 16 with (go_at_call 37; ((with_reducible refine (HNil.out _).mono ?_)); rintro e wn ⟨rfl, hTn⟩; obtain ⟨n0, n1, n3⟩ := HC.out wn hTn)
        go_cut [16] (fun s16 wx => s16 = .int .i64 ea ∧ Still wr wx)
        case first =>
          have hTd : Still wr wn.drew := hTn.drew
          go_region_held3 (fun V => V.cell? ⟨Bp, 0, none⟩ = some (.int .i64 p1) ∧ V.cell? ⟨Bp, 1, none⟩ = some (.int .i64 p2) ∧ V.cell? ⟨z, 3, none⟩ = some (.int .i64 G)) (first | assumption | exact ⟨by assumption, by assumption, by assumption⟩ | go_keep)
            ((go_at_call 37; ((with_reducible refine (HJ2.out _ (by assumption)).mono ?_)); rintro e wj ⟨rfl, hTj⟩; obtain ⟨g0, g1, g3⟩ := HC.out wj hTj))
          all_goals (
            go_wp2_with fail
            go_meet
            exact ⟨rfl, by assumption⟩)
        case rest =>
          obtain ⟨rfl, hTx⟩ := hcut
          obtain ⟨x0, x1, x3⟩ := HC.out _ hTx
          have hTd : Still wr wc.drew := hTx.drew
          by_cases hg : g = G
          · have hgb : (g == G) = true := by simpa using hg
            obtain rfl := HEq.out hg
            clear HEv HEq hg HJ2 HNil
            as_aux_lemma =>
              go_wp2_with fail
              refine wp_region_noPanic ?_
              refine wp_region_held_drew (S := (fun V => V.cell? ⟨Bp, 0, none⟩ = some (.int .i64 p1) ∧ V.cell? ⟨Bp, 1, none⟩ = some (.int .i64 p2) ∧ V.cell? ⟨z, 3, none⟩ = some (.int .i64 G))) (by kernel_rfl) (by first | assumption | exact ⟨by assumption, by assumption, by assumption⟩ | go_keep) (fun hHeld => ?_)
              refine wpAnyH_take (i := 0) (v := ?_) (List.getElem?_toArray.trans rfl) (by kernel_rfl) (by kernel_rfl) (by kernel_rfl) (fun _ _ _ h => h) (Or.inl ⟨by rfl, ?_⟩) hHeld ?_
              rotate_left
              · intro V hV; obtain ⟨k0, k1, k3⟩ := hV; go_simp; all_goals with_reducible rfl
              try simp only [Act.put, List.setIfInBounds_toArray, List.set_cons_zero, List.set_cons_succ]
              refine wpAnyH_take (i := 1) (v := ?_) (List.getElem?_toArray.trans rfl) (by kernel_rfl) (by kernel_rfl) (by kernel_rfl) (fun _ _ _ h => h) (Or.inl ⟨by rfl, ?_⟩) hHeld ?_
              rotate_left
              · intro V hV; obtain ⟨k0, k1, k3⟩ := hV; go_simp; all_goals with_reducible rfl
              try simp only [Act.put, List.setIfInBounds_toArray, List.set_cons_zero, List.set_cons_succ]
              refine wpAnyH_take (i := 2) (v := ?_) (List.getElem?_toArray.trans rfl) (by kernel_rfl) (by kernel_rfl) (by kernel_rfl) (fun _ _ _ h => h) (Or.inl ⟨by rfl, ?_⟩) hHeld ?_
              rotate_left
              · intro V hV; obtain ⟨k0, k1, k3⟩ := hV; go_simp; all_goals with_reducible rfl
              try simp only [Act.put, List.setIfInBounds_toArray, List.set_cons_zero, List.set_cons_succ]
              refine wpAnyH_take (i := 3) (v := ?_) (List.getElem?_toArray.trans rfl) (by kernel_rfl) (by kernel_rfl) (by kernel_rfl) (fun _ _ _ h => h) (Or.inl ⟨by rfl, ?_⟩) hHeld ?_
              rotate_left
              · intro V hV; obtain ⟨k0, k1, k3⟩ := hV; go_simp; all_goals with_reducible rfl
              try simp only [Act.put, List.setIfInBounds_toArray, List.set_cons_zero, List.set_cons_succ]
              refine wpAnyH_take (i := 5) (v := ?_) (List.getElem?_toArray.trans rfl) (by kernel_rfl) (by kernel_rfl) (by kernel_rfl) (fun _ _ _ h => h) (Or.inl ⟨by rfl, ?_⟩) hHeld ?_
              rotate_left
              · intro V hV; obtain ⟨k0, k1, k3⟩ := hV; go_simp; all_goals with_reducible rfl
              try simp only [Act.put, List.setIfInBounds_toArray, List.set_cons_zero, List.set_cons_succ]
              refine wpAnyH_take (i := 6) (v := ?_) (List.getElem?_toArray.trans rfl) (by kernel_rfl) (by kernel_rfl) (by kernel_rfl) (fun _ _ _ h => h) (Or.inl ⟨by rfl, ?_⟩) hHeld ?_
              rotate_left
              · intro V hV; obtain ⟨k0, k1, k3⟩ := hV; go_simp; all_goals with_reducible rfl
              try simp only [Act.put, List.setIfInBounds_toArray, List.set_cons_zero, List.set_cons_succ]
              refine wpAnyH_take (i := 7) (v := ?_) (List.getElem?_toArray.trans rfl) (by kernel_rfl) (by kernel_rfl) (by kernel_rfl) (fun _ _ _ h => h) (Or.inl ⟨by rfl, ?_⟩) hHeld ?_
              rotate_left
              · intro V hV; obtain ⟨k0, k1, k3⟩ := hV; go_simp; all_goals with_reducible rfl
              try simp only [Act.put, List.setIfInBounds_toArray, List.set_cons_zero, List.set_cons_succ]
              refine wpAnyH_take (i := 8) (v := ?_) (List.getElem?_toArray.trans rfl) (by kernel_rfl) (by kernel_rfl) (by kernel_rfl) (fun _ _ _ h => h) (Or.inl ⟨by rfl, ?_⟩) hHeld ?_
              rotate_left
              · intro V hV; obtain ⟨k0, k1, k3⟩ := hV; go_simp; all_goals with_reducible rfl
              try simp only [Act.put, List.setIfInBounds_toArray, List.set_cons_zero, List.set_cons_succ]
              refine wpAnyH_ready (rs := [4]) (by kernel_rfl) (by simp) ?_
              refine AllReadyH.cons (List.getElem?_toArray.trans rfl) (fun K hK => ?_) ?_
              · go_simp
                ((with_reducible refine (HJ.out _ (by assumption)).mono ?_)); rintro e wj ⟨rfl, hTj⟩; obtain ⟨g0, g1, g3⟩ := HC.out wj hTj
                go_wp2_with fail
                refine hK.out _ _ ?_ (fun hHeld => ?_)
                · first | assumption | exact ⟨by assumption, by assumption, by assumption⟩ | go_keep
                clear hK K
                try simp only [Act.put, List.setIfInBounds_toArray, List.set_cons_zero, List.set_cons_succ]
                refine wpAnyH_ready (rs := [9]) (by kernel_rfl) (by simp) ?_
                refine AllReadyH.cons (List.getElem?_toArray.trans rfl) (fun K hK => ?_) ?_
                · go_simp
                  ((with_reducible refine (HZ.out _ (by assumption)).mono ?_)); rintro e wz ⟨rfl, hTz⟩; obtain ⟨g0, g1, g3⟩ := HC.out wz hTz
                  go_wp2_with fail
                  refine hK.out _ _ ?_ (fun hHeld => ?_)
                  · first | assumption | exact ⟨by assumption, by assumption, by assumption⟩ | go_keep
                  clear hK K
                  try simp only [Act.put, List.setIfInBounds_toArray, List.set_cons_zero, List.set_cons_succ]
                  refine wpAnyH_take (i := 10) (v := ?_) (List.getElem?_toArray.trans rfl) (by kernel_rfl) (by kernel_rfl) (by kernel_rfl) (fun _ _ _ h => h) (Or.inl ⟨by rfl, ?_⟩) hHeld ?_
                  rotate_left
                  · intro V hV; obtain ⟨k0, k1, k3⟩ := hV; go_simp; all_goals with_reducible rfl
                  try simp only [Act.put, List.setIfInBounds_toArray, List.set_cons_zero, List.set_cons_succ]
                  refine wpAnyH_take (i := 11) (v := ?_) (List.getElem?_toArray.trans rfl) (by kernel_rfl) (by kernel_rfl) (by kernel_rfl) (fun _ _ _ h => h) (Or.inl ⟨by rfl, ?_⟩) hHeld ?_
                  rotate_left
                  · intro V hV; obtain ⟨k0, k1, k3⟩ := hV; go_simp; all_goals with_reducible rfl
                  try simp only [Act.put, List.setIfInBounds_toArray, List.set_cons_zero, List.set_cons_succ]
                  refine wpAnyH_take (i := 12) (v := ?_) (List.getElem?_toArray.trans rfl) (by kernel_rfl) (by kernel_rfl) (by kernel_rfl) (fun _ _ _ h => h) (Or.inl ⟨by rfl, ?_⟩) hHeld ?_
                  rotate_left
                  · intro V hV; obtain ⟨k0, k1, k3⟩ := hV; go_simp; all_goals with_reducible rfl
                  try simp only [Act.put, List.setIfInBounds_toArray, List.set_cons_zero, List.set_cons_succ]
                  refine wpAnyH_take (i := 13) (v := ?_) (List.getElem?_toArray.trans rfl) (by kernel_rfl) (by kernel_rfl) (by kernel_rfl) (fun _ _ _ h => h) (Or.inl ⟨by rfl, ?_⟩) hHeld ?_
                  rotate_left
                  · intro V hV; obtain ⟨k0, k1, k3⟩ := hV; go_simp; all_goals with_reducible rfl
                  try simp only [Act.put, List.setIfInBounds_toArray, List.set_cons_zero, List.set_cons_succ]
                  refine wpAnyH_take (i := 14) (v := ?_) (List.getElem?_toArray.trans rfl) (by kernel_rfl) (by kernel_rfl) (by kernel_rfl) (fun _ _ _ h => h) (Or.inl ⟨by rfl, ?_⟩) hHeld ?_
                  rotate_left
                  · intro V hV; obtain ⟨k0, k1, k3⟩ := hV; go_simp; all_goals with_reducible rfl
                  try simp only [Act.put, List.setIfInBounds_toArray, List.set_cons_zero, List.set_cons_succ]
                  refine wpAnyH_take (i := 15) (v := ?_) (List.getElem?_toArray.trans rfl) (by kernel_rfl) (by kernel_rfl) (by kernel_rfl) (fun _ _ _ h => h) (Or.inl ⟨by rfl, ?_⟩) hHeld ?_
                  rotate_left
                  · intro V hV; obtain ⟨k0, k1, k3⟩ := hV; go_simp; all_goals with_reducible rfl
                  try simp only [Act.put, List.setIfInBounds_toArray, List.set_cons_zero, List.set_cons_succ]
                  refine wpAnyH_take (i := 16) (v := ?_) (List.getElem?_toArray.trans rfl) (by kernel_rfl) (by kernel_rfl) (by kernel_rfl) (fun _ _ _ h => h) (Or.inl ⟨by rfl, ?_⟩) hHeld ?_
                  rotate_left
                  · intro V hV; obtain ⟨k0, k1, k3⟩ := hV; go_simp; all_goals with_reducible rfl
                  try simp only [Act.put, List.setIfInBounds_toArray, List.set_cons_zero, List.set_cons_succ]
                  refine wpAnyH_take (i := 17) (v := ?_) (List.getElem?_toArray.trans rfl) (by kernel_rfl) (by kernel_rfl) (by kernel_rfl) (fun _ _ _ h => h) (Or.inl ⟨by rfl, ?_⟩) hHeld ?_
                  rotate_left
                  · intro V hV; obtain ⟨k0, k1, k3⟩ := hV; go_simp; all_goals with_reducible rfl
                  try simp only [Act.put, List.setIfInBounds_toArray, List.set_cons_zero, List.set_cons_succ]
                  refine wpAnyH_take (i := 18) (v := ?_) (List.getElem?_toArray.trans rfl) (by kernel_rfl) (by kernel_rfl) (by kernel_rfl) (fun _ _ _ h => h) (Or.inl ⟨by rfl, ?_⟩) hHeld ?_
                  rotate_left
                  · intro V hV; obtain ⟨k0, k1, k3⟩ := hV; go_simp; all_goals with_reducible rfl
                  try simp only [Act.put, List.setIfInBounds_toArray, List.set_cons_zero, List.set_cons_succ]
                  refine wpAnyH_take (i := 19) (v := ?_) (List.getElem?_toArray.trans rfl) (by kernel_rfl) (by kernel_rfl) (by kernel_rfl) (fun _ _ _ h => h) (Or.inl ⟨by rfl, ?_⟩) hHeld ?_
                  rotate_left
                  · intro V hV; obtain ⟨k0, k1, k3⟩ := hV; go_simp; all_goals with_reducible rfl
                  try simp only [Act.put, List.setIfInBounds_toArray, List.set_cons_zero, List.set_cons_succ]
                  refine wpAnyH_ready (rs := [20]) (by kernel_rfl) (by simp) ?_
                  refine AllReadyH.cons (List.getElem?_toArray.trans rfl) (fun K hK => ?_) ?_
                  · go_simp
                    ((with_reducible refine (HZ2.out _ (by assumption)).mono ?_)); rintro e wy ⟨rfl, hTy⟩; obtain ⟨g0, g1, g3⟩ := HC.out wy hTy
                    go_wp2_with fail
                    refine hK.out _ _ ?_ (fun hHeld => ?_)
                    · first | assumption | exact ⟨by assumption, by assumption, by assumption⟩ | go_keep
                    clear hK K
                    try simp only [Act.put, List.setIfInBounds_toArray, List.set_cons_zero, List.set_cons_succ]
                    refine wpAnyH_take (i := 21) (v := ?_) (List.getElem?_toArray.trans rfl) (by kernel_rfl) (by kernel_rfl) (by kernel_rfl) (fun _ _ _ h => h) (Or.inl ⟨by rfl, ?_⟩) hHeld ?_
                    rotate_left
                    · intro V hV; obtain ⟨k0, k1, k3⟩ := hV; go_simp; all_goals with_reducible rfl
                    try simp only [Act.put, List.setIfInBounds_toArray, List.set_cons_zero, List.set_cons_succ]
                    refine wpAnyH_take (i := 22) (v := ?_) (List.getElem?_toArray.trans rfl) (by kernel_rfl) (by kernel_rfl) (by kernel_rfl) (fun _ _ _ h => h) (Or.inl ⟨by rfl, ?_⟩) hHeld ?_
                    rotate_left
                    · intro V hV; obtain ⟨k0, k1, k3⟩ := hV; go_simp; all_goals with_reducible rfl
                    try simp only [Act.put, List.setIfInBounds_toArray, List.set_cons_zero, List.set_cons_succ]
                    refine wpAnyH_take (i := 23) (v := ?_) (List.getElem?_toArray.trans rfl) (by kernel_rfl) (by kernel_rfl) (by kernel_rfl) (fun _ _ _ h => h) (Or.inl ⟨by rfl, ?_⟩) hHeld ?_
                    rotate_left
                    · intro V hV; obtain ⟨k0, k1, k3⟩ := hV; go_simp; all_goals with_reducible rfl
                    try simp only [Act.put, List.setIfInBounds_toArray, List.set_cons_zero, List.set_cons_succ]
                    refine wpAnyH_take (i := 24) (v := ?_) (List.getElem?_toArray.trans rfl) (by kernel_rfl) (by kernel_rfl) (by kernel_rfl) (fun _ _ _ h => h) (Or.inl ⟨by rfl, ?_⟩) hHeld ?_
                    rotate_left
                    · intro V hV; obtain ⟨k0, k1, k3⟩ := hV; go_simp; all_goals with_reducible rfl
                    try simp only [Act.put, List.setIfInBounds_toArray, List.set_cons_zero, List.set_cons_succ]
                    refine wpAnyH_take (i := 25) (v := ?_) (List.getElem?_toArray.trans rfl) (by kernel_rfl) (by kernel_rfl) (by kernel_rfl) (fun _ _ _ h => h) (Or.inl ⟨by rfl, ?_⟩) hHeld ?_
                    rotate_left
                    · intro V hV; obtain ⟨k0, k1, k3⟩ := hV; go_simp; all_goals with_reducible rfl
                    try simp only [Act.put, List.setIfInBounds_toArray, List.set_cons_zero, List.set_cons_succ]
                    refine wpAnyH_take (i := 26) (v := ?_) (List.getElem?_toArray.trans rfl) (by kernel_rfl) (by kernel_rfl) (by kernel_rfl) (fun _ _ _ h => h) (Or.inl ⟨by rfl, ?_⟩) hHeld ?_
                    rotate_left
                    · intro V hV; obtain ⟨k0, k1, k3⟩ := hV; go_simp; all_goals with_reducible rfl
                    try simp only [Act.put, List.setIfInBounds_toArray, List.set_cons_zero, List.set_cons_succ]
                    refine wpAnyH_take (i := 27) (v := ?_) (List.getElem?_toArray.trans rfl) (by kernel_rfl) (by kernel_rfl) (by kernel_rfl) (fun _ _ _ h => h) (Or.inl ⟨by rfl, ?_⟩) hHeld ?_
                    rotate_left
                    · intro V hV; obtain ⟨k0, k1, k3⟩ := hV; go_simp; all_goals with_reducible rfl
                    try simp only [Act.put, List.setIfInBounds_toArray, List.set_cons_zero, List.set_cons_succ]
                    refine wpAnyH_take (i := 28) (v := ?_) (List.getElem?_toArray.trans rfl) (by kernel_rfl) (by kernel_rfl) (by kernel_rfl) (fun _ _ _ h => h) (Or.inl ⟨by rfl, ?_⟩) hHeld ?_
                    rotate_left
                    · intro V hV; obtain ⟨k0, k1, k3⟩ := hV; go_simp; all_goals with_reducible rfl
                    try simp only [Act.put, List.setIfInBounds_toArray, List.set_cons_zero, List.set_cons_succ]
                    refine wpAnyH_take (i := 29) (v := ?_) (List.getElem?_toArray.trans rfl) (by kernel_rfl) (by kernel_rfl) (by kernel_rfl) (fun _ _ _ h => h) (Or.inl ⟨by rfl, ?_⟩) hHeld ?_
                    rotate_left
                    · intro V hV; obtain ⟨k0, k1, k3⟩ := hV; go_simp; all_goals with_reducible rfl
                    try simp only [Act.put, List.setIfInBounds_toArray, List.set_cons_zero, List.set_cons_succ]
                    refine wpAnyH_take (i := 30) (v := ?_) (List.getElem?_toArray.trans rfl) (by kernel_rfl) (by kernel_rfl) (by kernel_rfl) (fun _ _ _ h => h) (Or.inl ⟨by rfl, ?_⟩) hHeld ?_
                    rotate_left
                    · intro V hV; obtain ⟨k0, k1, k3⟩ := hV; go_simp; all_goals with_reducible rfl
                    try simp only [Act.put, List.setIfInBounds_toArray, List.set_cons_zero, List.set_cons_succ]
                    refine wpAnyH_take (i := 31) (v := undef) (List.getElem?_toArray.trans rfl) (by kernel_rfl) (by kernel_rfl) (by kernel_rfl) (fun _ _ _ h => h) (Or.inr ⟨by rfl, rfl⟩) hHeld ?_
                    try simp only [Act.put, List.setIfInBounds_toArray, List.set_cons_zero, List.set_cons_succ]
                    refine wpAnyH_take (i := 32) (v := undef) (List.getElem?_toArray.trans rfl) (by kernel_rfl) (by kernel_rfl) (by kernel_rfl) (fun _ _ _ h => h) (Or.inr ⟨by rfl, rfl⟩) hHeld ?_
                    try simp only [Act.put, List.setIfInBounds_toArray, List.set_cons_zero, List.set_cons_succ]
                    refine wpAnyH_take (i := 33) (v := undef) (List.getElem?_toArray.trans rfl) (by kernel_rfl) (by kernel_rfl) (by kernel_rfl) (fun _ _ _ h => h) (Or.inr ⟨by rfl, rfl⟩) hHeld ?_
                    try simp only [Act.put, List.setIfInBounds_toArray, List.set_cons_zero, List.set_cons_succ]
                    refine wpAnyH_take (i := 34) (v := undef) (List.getElem?_toArray.trans rfl) (by kernel_rfl) (by kernel_rfl) (by kernel_rfl) (fun _ _ _ h => h) (Or.inr ⟨by rfl, rfl⟩) hHeld ?_
                    try simp only [Act.put, List.setIfInBounds_toArray, List.set_cons_zero, List.set_cons_succ]
                    refine wpAnyH_take (i := 35) (v := undef) (List.getElem?_toArray.trans rfl) (by kernel_rfl) (by kernel_rfl) (by kernel_rfl) (fun _ _ _ h => h) (Or.inr ⟨by rfl, rfl⟩) hHeld ?_
                    try simp only [Act.put, List.setIfInBounds_toArray, List.set_cons_zero, List.set_cons_succ]
                    refine wpAnyH_take (i := 36) (v := undef) (List.getElem?_toArray.trans rfl) (by kernel_rfl) (by kernel_rfl) (by kernel_rfl) (fun _ _ _ h => h) (Or.inr ⟨by rfl, rfl⟩) hHeld ?_
                    try simp only [Act.put, List.setIfInBounds_toArray, List.set_cons_zero, List.set_cons_succ]
                    refine wpAnyH_take (i := 37) (v := ?_) (List.getElem?_toArray.trans rfl) (by kernel_rfl) (by kernel_rfl) (by kernel_rfl) (fun _ _ _ h => h) (Or.inl ⟨by rfl, ?_⟩) hHeld ?_
                    rotate_left
                    · intro V hV; obtain ⟨k0, k1, k3⟩ := hV; go_simp; all_goals with_reducible rfl
                    try simp only [Act.put, List.setIfInBounds_toArray, List.set_cons_zero, List.set_cons_succ]
                    refine wpAnyH_take (i := 38) (v := ?_) (List.getElem?_toArray.trans rfl) (by kernel_rfl) (by kernel_rfl) (by kernel_rfl) (fun _ _ _ h => h) (Or.inl ⟨by rfl, ?_⟩) hHeld ?_
                    rotate_left
                    · intro V hV; obtain ⟨k0, k1, k3⟩ := hV; go_simp; all_goals with_reducible rfl
                    try simp only [Act.put, List.setIfInBounds_toArray, List.set_cons_zero, List.set_cons_succ]
                    refine wpAnyH_take (i := 39) (v := ?_) (List.getElem?_toArray.trans rfl) (by kernel_rfl) (by kernel_rfl) (by kernel_rfl) (fun _ _ _ h => h) (Or.inl ⟨by rfl, ?_⟩) hHeld ?_
                    rotate_left
                    · intro V hV; obtain ⟨k0, k1, k3⟩ := hV; go_simp; all_goals with_reducible rfl
                    try simp only [Act.put, List.setIfInBounds_toArray, List.set_cons_zero, List.set_cons_succ]
                    refine wpAnyH_ready (rs := [40]) (by kernel_rfl) (by simp) ?_
                    refine AllReadyH.cons (List.getElem?_toArray.trans rfl) (fun K hK => ?_) ?_
                    · go_simp
                      ((with_reducible refine (HWk.out _ (by assumption)).mono ?_)); rintro e wk ⟨rfl, hTk⟩; obtain ⟨g0, g1, g3⟩ := HC.out wk hTk
                      go_wp2_with fail
                      refine hK.out _ _ ?_ (fun hHeld => ?_)
                      · first | assumption | exact ⟨by assumption, by assumption, by assumption⟩ | go_keep
                      clear hK K
                      try simp only [Act.put, List.setIfInBounds_toArray, List.set_cons_zero, List.set_cons_succ]
                      refine wpAnyH_take (i := 41) (v := ?_) (List.getElem?_toArray.trans rfl) (by kernel_rfl) (by kernel_rfl) (by kernel_rfl) (fun _ _ _ h => h) (Or.inl ⟨by rfl, ?_⟩) hHeld ?_
                      rotate_left
                      · intro V hV; obtain ⟨k0, k1, k3⟩ := hV; go_simp; all_goals with_reducible rfl
                      try simp only [Act.put, List.setIfInBounds_toArray, List.set_cons_zero, List.set_cons_succ]
                      refine wpAnyH_take (i := 42) (v := ?_) (List.getElem?_toArray.trans rfl) (by kernel_rfl) (by kernel_rfl) (by kernel_rfl) (fun _ _ _ h => h) (Or.inl ⟨by rfl, ?_⟩) hHeld ?_
                      rotate_left
                      · intro V hV; obtain ⟨k0, k1, k3⟩ := hV; go_simp; all_goals with_reducible rfl
                      try simp only [Act.put, List.setIfInBounds_toArray, List.set_cons_zero, List.set_cons_succ]
                      refine wpAnyH_done (by kernel_rfl) ?_ _
                      refine NoPanic.normal ?_
                      go_wp2_with fail
                      go_ret
                      exact ⟨rfl, HGr.out.trans (by assumption)⟩
                    exact AllReadyH.nil
                  exact AllReadyH.nil
                exact AllReadyH.nil
              exact AllReadyH.nil
          · have hgb : (g == G) = false := by simpa using hg
            obtain rfl := HEv.out hg
            clear HEv HEq hg HJ2 HNil
            as_aux_lemma =>
              go_wp2_with fail
              go_region_held3 (fun V => V.cell? ⟨Bp, 0, none⟩ = some (.int .i64 p1) ∧ V.cell? ⟨Bp, 1, none⟩ = some (.int .i64 p2) ∧ V.cell? ⟨z, 3, none⟩ = some (.int .i64 G)) (first | assumption | exact ⟨by assumption, by assumption, by assumption⟩ | go_keep)
                (first
                  | (go_at_call 37; ((with_reducible refine (HJ.out _ (by assumption)).mono ?_)); rintro e wj ⟨rfl, hTj⟩; obtain ⟨g0, g1, g3⟩ := HC.out wj hTj)
                  | (go_at_call 38; (first | ((with_reducible refine (HZ.out _ (by assumption)).mono ?_)) | ((with_reducible refine (HZ2.out _ (by assumption)).mono ?_))); rintro e wz ⟨rfl, hTz⟩; obtain ⟨g0, g1, g3⟩ := HC.out wz hTz)
                  | (go_at_call 10; ((with_reducible refine (HWk.out _ (by assumption)).mono ?_)); rintro e wk ⟨rfl, hTk⟩; obtain ⟨g0, g1, g3⟩ := HC.out wk hTk))
              all_goals (
                go_wp2_with fail
                go_ret
                exact ⟨rfl, HGr.out.trans (by assumption)⟩))
end Go.Proofs.Ytdlkdagmaeapdaa
