/- RingPlays: the walk. No condition but that the program's ring keeps its words. -/
import Derived.Test.YtefopajkcpcjpaaWorks6
import Derived.Test.YtefopajkcpcjpaaActs6
import Derived.Deep.RegionHeld3
import Derived.Deep.DeepCutAuto
import Derived.BigRegion
import Derived.Deep.CutBlock
namespace Go.Proofs.Ytefopajkcpcjpaa
open Go.RowKit
set_option linter.unusedVariables false
set_option linter.unusedSimpArgs false
set_option maxRecDepth 100000

theorem RM.claim_n (M : RM) (x : Int) : (M.claimM x).n = M.n := by unfold RM.claimM; split <;> (try split) <;> rfl
theorem RM.pub_n (M : RM) (x : Int) : (M.pubM x).n = M.n := by unfold RM.pubM; split <;> rfl
theorem RM.trim_n (M : RM) (x : Int) : (M.trimM x).n = M.n := by unfold RM.trimM; split <;> rfl

structure RgPl (RT : Nat → RM → Thing) (w wr : World) (x y rm k : Nat) (M : RM) : Prop where
  held : Held w wr ((RT x M).sep (zrT y M))
  ok : M.Ok k
  n : M.n = rm

def RgPlMid (RT : Nat → RM → Thing) (w : World) (x y rm k : Nat) (ov : Value) (wx : World) : Prop :=
  ov = .bool true ∧ ∃ M : RM, RgPl RT w wx x y rm (k + 1) M

/-- What two of three leave. -/
theorem Held.two {w0 w : World} {A B C : Thing} (h : Held w0 w (A.sep (B.sep C))) : Held w0 w (A.sep B) := h.assoc'.drop

set_option maxHeartbeats 16000000 in
theorem rplays_walk {RT : Nat → RM → Thing} (A : RingApi RT) (n0 p0 : Int) (t : Sl Act6) (w : World) (h0 : (Lit.int .i64 n0).wf = true) (h0' : (Lit.int .i64 p0).wf = true) (h1 : SlOk encAct6 okAct6 2 w t) :
    Calls Try.prog 3 #[.int .i64 n0, .int .i64 p0, .slice t.a t.len t.cap] w fun e w' => e = .returned (.bool true) ∧ Still w w' := by
  have i1 := i64_of6 (w := w) h0
  have i2 := i64_of6 (w := w) h0'
  by_cases hg : 1 ≤ n0 ∧ n0 ≤ 64 ∧ (p0 = 0 ∨ p0 = 1)
  · obtain ⟨rm, rfl⟩ : ∃ n : Nat, n0 = n := ⟨n0.toNat, by omega⟩
    obtain ⟨ov, hov⟩ : ∃ b : Bool, p0 = polB b := by
      rcases hg.2.2 with h | h
      · exact ⟨false, h⟩
      · exact ⟨true, h⟩
    have n1 : 1 ≤ rm := by omega
    have n2 : rm ≤ 64 := by omega
    obtain ⟨ta, tl, tc, tx⟩ := t
    have htcap : tl ≤ tc := h1.le
    have htmax : tc ≤ maxLen := h1.max
    unfold maxLen at htmax
    have HTX := Lib.hid h1
    have HTL : Hid (tx.length = tl) := Lib.hid h1.len
    have C0 := Lib.hid (fun W => A.make_ok rm ov W n1 n2)
    have C1 := Lib.hid (fun W => zrmake_ok rm ov W n1 n2)
    rw [← hov] at C0 C1
    have HO0 := Lib.hid (RM.new_ok (ov := ov) n1 n2)
    dsimp only
    clear hg h1 h0 h0' i1 i2 hov
    go_enter Try.func3, Try.ntmps3
    go_wp2_with fail
    refine (C0.out _).mono ?_
    intro e w1 hN
    obtain ⟨x, rfl, H⟩ := Held.ring (Turned.refl _ _) hN
    have HH := Lib.hid H.drop
    clear hN H C0
    go_wp2_with fail
    refine (C1.out _).mono ?_
    rintro e w2 ⟨y, rfl, hW⟩
    have HH2 := Lib.hid (show RgPl RT w w2 x y rm 0 (RM.new rm ov) from ⟨(HH.out.new hW).swap, HO0.out, rfl⟩)
    clear hW HH C1 HO0
    go_wp2_with fail
    go_loopw [11] (fun i wr => ∃ (k : Nat) (M : RM), k ≤ tl ∧ k ≤ 200 ∧ i = .int .i64 k ∧ RgPl RT w wr x y rm k M) (fun i _ => tl - (intOf i).toNat)
    case atStart => exact ⟨0, _, Nat.zero_le _, Nat.zero_le _, rfl, HH2.out⟩
    case round =>
      clear HH2
      obtain ⟨k, M, hk, hk1, rfl, hI⟩ := hrel
      by_cases hin : k < tl ∧ k < 200
      · obtain ⟨hlt, h200⟩ := hin
        obtain ⟨a, hx⟩ := get_some (l := tx) (i := k) (by rw [HTL.out]; exact hlt)
        obtain ⟨b, o, rfl, hc⟩ := HTX.out.row k a hx
        have hok := HTX.out.each a (List.mem_of_getElem? hx)
        have hT := hI.held.ground
        obtain ⟨d, nn⟩ := a
        have c0 : wr.cell? ⟨b, o + k * 2, none⟩ = some (.int .i64 d) := still_cell hT (hc 0 _ rfl) (by omega)
        have c1 : wr.cell? ⟨b, o + k * 2 + 1, none⟩ = some (.int .i64 nn) := still_cell hT (hc 1 _ rfl) (by omega)
        obtain ⟨v, hv⟩ : ∃ v, v = am d 8 := ⟨_, rfl⟩
        have hvl : v < 8 := by rw [hv]; exact am_lt _ (by omega)
        have B1 := Lib.hid (fun W => among_lit d 8 8 v rfl hv (by omega) (by omega) W)
        have HH := Lib.hid (show Held w (wr.alloc (.cells #[.int .i64 d, .int .i64 nn] 32)) ((RT x M).sep ((zrT y M).sep (blkT wr.heap.size [.int .i64 d, .int .i64 nn] 32))) from (hI.held.box [.int .i64 d, .int .i64 nn] 32).assoc)
        have HNN := Lib.hid (show w64 nn from i64_of6 hok.2)
        have HI := Lib.hid hI
        have HOk := Lib.hid hI.ok
        obtain ⟨Bx, hBx⟩ : ∃ Bx, Bx = wr.heap.size := ⟨_, rfl⟩
        clear hx hc hok hT hv hI
        go_upto_block 2 with (refine (B1.out _).mono ?_; rintro e w' ⟨rfl, rfl⟩)
        obtain ⟨wa, hwc⟩ : ∃ wa, wa = wr.alloc (.cells #[.int .i64 d, .int .i64 nn] 32) := ⟨_, rfl⟩
        rw [← hwc, ← hBx] at HH ⊢
        have b1 := HH.out.snd.snd.blk.cell (o := 1) (v := .int .i64 nn) rfl
        clear hwc c0 c1 B1 hBx
        go_cut [13] (fun ov wx => RgPlMid RT w x y rm k ov wx)
        case first =>
          rcases (show v = 0 ∨ v = 1 ∨ v = 2 ∨ v = 3 ∨ v = 4 ∨ v = 5 ∨ v = 6 ∨ v = 7 by omega) with rfl | rfl | rfl | rfl | rfl | rfl | rfl | rfl
          · as_aux_lemma =>
              have X1 := Lib.hid (HH.out.call (fun _ h' => A.claim h' HOk.out (by omega) nn HNN.out))
              have Y1 := Lib.hid (fun (W : World) (B R : Thing) (H : Held w W (B.sep ((zrT y M).sep R))) => show Calls Try.prog 14 #[.pointer (some ⟨y, 0, none⟩), .int .i64 nn] W fun e w' => e = .returned (.tuple #[.int .i64 (M.claimA nn), .int .i64 (M.claimW nn), .int .i64 (M.claimE nn)]) ∧ Held w w' (B.sep ((zrT y (M.claimM nn)).sep R)) from
                (H.turn.call (fun _ h' => zrclaim_any h' HOk.out (by omega) nn)).mono fun e w' ⟨he, hh⟩ => ⟨he, hh.turn⟩)
              have R1 := Lib.hid (show (M.claimM nn).Ok (k + 1) ∧ (M.claimM nn).n = rm from ⟨HOk.out.claim nn, by rw [RM.claim_n]; exact HI.out.n⟩)
              obtain ⟨M', hM'⟩ : ∃ M', M' = M.claimM nn := ⟨_, rfl⟩
              rw [← hM'] at X1 Y1 R1
              generalize M.claimA nn = qa at *
              generalize M.claimW nn = qw at *
              generalize M.claimE nn = qe at *
              clear hM'
              go_wp2_with fail
              ((with_reducible refine X1.out.mono ?_))
              rintro e w6 ⟨rfl, H⟩
              have HH6 := Lib.hid H
              have f1 := H.snd.snd.blk.cell (o := 1) (v := .int .i64 nn) rfl
              clear H X1 b1
              go_wp2_with fail
              ((with_reducible refine (Y1.out _ _ _ HH6.out).mono ?_))
              rintro e w7 ⟨rfl, H⟩
              have HH7 := Lib.hid H.two
              clear H Y1 HH6 f1
              go_wp2_with fail
              go_meet
              exact ⟨by first | rfl | simp, M', HH7.out, R1.out.1, R1.out.2⟩
          · as_aux_lemma =>
              have X1 := Lib.hid (HH.out.call (fun _ h' => A.claim h' HOk.out (by omega) nn HNN.out))
              have Y1 := Lib.hid (fun (W : World) (B R : Thing) (H : Held w W (B.sep ((zrT y M).sep R))) => show Calls Try.prog 14 #[.pointer (some ⟨y, 0, none⟩), .int .i64 nn] W fun e w' => e = .returned (.tuple #[.int .i64 (M.claimA nn), .int .i64 (M.claimW nn), .int .i64 (M.claimE nn)]) ∧ Held w w' (B.sep ((zrT y (M.claimM nn)).sep R)) from
                (H.turn.call (fun _ h' => zrclaim_any h' HOk.out (by omega) nn)).mono fun e w' ⟨he, hh⟩ => ⟨he, hh.turn⟩)
              have R1 := Lib.hid (show (M.claimM nn).Ok (k + 1) ∧ (M.claimM nn).n = rm from ⟨HOk.out.claim nn, by rw [RM.claim_n]; exact HI.out.n⟩)
              obtain ⟨M', hM'⟩ : ∃ M', M' = M.claimM nn := ⟨_, rfl⟩
              rw [← hM'] at X1 Y1 R1
              generalize M.claimA nn = qa at *
              generalize M.claimW nn = qw at *
              generalize M.claimE nn = qe at *
              clear hM'
              go_wp2_with fail
              ((with_reducible refine X1.out.mono ?_))
              rintro e w6 ⟨rfl, H⟩
              have HH6 := Lib.hid H
              have f1 := H.snd.snd.blk.cell (o := 1) (v := .int .i64 nn) rfl
              clear H X1 b1
              go_wp2_with fail
              ((with_reducible refine (Y1.out _ _ _ HH6.out).mono ?_))
              rintro e w7 ⟨rfl, H⟩
              have HH7 := Lib.hid H.two
              clear H Y1 HH6 f1
              go_wp2_with fail
              go_meet
              exact ⟨by first | rfl | simp, M', HH7.out, R1.out.1, R1.out.2⟩
          · as_aux_lemma =>
              have X1 := Lib.hid (HH.out.call (fun _ h' => A.claim h' HOk.out (by omega) nn HNN.out))
              have Y1 := Lib.hid (fun (W : World) (B R : Thing) (H : Held w W (B.sep ((zrT y M).sep R))) => show Calls Try.prog 14 #[.pointer (some ⟨y, 0, none⟩), .int .i64 nn] W fun e w' => e = .returned (.tuple #[.int .i64 (M.claimA nn), .int .i64 (M.claimW nn), .int .i64 (M.claimE nn)]) ∧ Held w w' (B.sep ((zrT y (M.claimM nn)).sep R)) from
                (H.turn.call (fun _ h' => zrclaim_any h' HOk.out (by omega) nn)).mono fun e w' ⟨he, hh⟩ => ⟨he, hh.turn⟩)
              have R1 := Lib.hid (show (M.claimM nn).Ok (k + 1) ∧ (M.claimM nn).n = rm from ⟨HOk.out.claim nn, by rw [RM.claim_n]; exact HI.out.n⟩)
              obtain ⟨M', hM'⟩ : ∃ M', M' = M.claimM nn := ⟨_, rfl⟩
              rw [← hM'] at X1 Y1 R1
              generalize M.claimA nn = qa at *
              generalize M.claimW nn = qw at *
              generalize M.claimE nn = qe at *
              clear hM'
              go_wp2_with fail
              ((with_reducible refine X1.out.mono ?_))
              rintro e w6 ⟨rfl, H⟩
              have HH6 := Lib.hid H
              have f1 := H.snd.snd.blk.cell (o := 1) (v := .int .i64 nn) rfl
              clear H X1 b1
              go_wp2_with fail
              ((with_reducible refine (Y1.out _ _ _ HH6.out).mono ?_))
              rintro e w7 ⟨rfl, H⟩
              have HH7 := Lib.hid H.two
              clear H Y1 HH6 f1
              go_wp2_with fail
              go_meet
              exact ⟨by first | rfl | simp, M', HH7.out, R1.out.1, R1.out.2⟩
          · as_aux_lemma =>
              have X1 := Lib.hid (fun (W : World) (R : Thing) (H : Held w W ((RT x M).sep R)) => H.call (fun _ h' => A.pub h' HOk.out (by omega) nn HNN.out))
              have Y1 := Lib.hid (fun (W : World) (B R : Thing) (H : Held w W (B.sep ((zrT y M).sep R))) => show Calls Try.prog 16 #[.pointer (some ⟨y, 0, none⟩), .int .i64 nn] W fun e w' => e = .returned (.int .i64 (M.pubE nn)) ∧ Held w w' (B.sep ((zrT y (M.pubM nn)).sep R)) from
                (H.turn.call (fun _ h' => zrpub_any h' HOk.out (by omega) nn)).mono fun e w' ⟨he, hh⟩ => ⟨he, hh.turn⟩)
              have R1 := Lib.hid (show (M.pubM nn).Ok (k + 1) ∧ (M.pubM nn).n = rm from ⟨(HOk.out.pub nn).mono (by omega), by rw [RM.pub_n]; exact HI.out.n⟩)
              obtain ⟨M', hM'⟩ : ∃ M', M' = M.pubM nn := ⟨_, rfl⟩
              rw [← hM'] at X1 Y1 R1
              generalize M.pubE nn = qe at *
              clear hM'
              go_wp2_with fail
              have H0 := HH.out.still (Turned.refl _ _).drew
              go_region_held3 (fun V => V.cell? ⟨Bx, 1, none⟩ = some (.int .i64 nn)) (first | assumption | go_keep) (first
                | (go_at_call 15; refine (X1.out _ _ H0).mono ?_; rintro e w5 ⟨rfl, H5⟩; have g5 := H5.snd.snd.blk.cell (o := 1) (v := .int .i64 nn) rfl)
                | (go_at_call 16; refine (Y1.out _ _ _ H5).mono ?_; rintro e w6 ⟨rfl, H6⟩; have g6 := H6.snd.snd.blk.cell (o := 1) (v := .int .i64 nn) rfl))
              all_goals
                have HH7 := Lib.hid H6.two
                clear H5 H6 g5 g6 H0 X1 Y1
                go_wp2_with fail
                go_meet
                exact ⟨by first | rfl | simp, M', HH7.out, R1.out.1, R1.out.2⟩
          · as_aux_lemma =>
              have X1 := Lib.hid (fun (W : World) (R : Thing) (H : Held w W ((RT x M).sep R)) => H.call (fun _ h' => A.pub h' HOk.out (by omega) nn HNN.out))
              have Y1 := Lib.hid (fun (W : World) (B R : Thing) (H : Held w W (B.sep ((zrT y M).sep R))) => show Calls Try.prog 16 #[.pointer (some ⟨y, 0, none⟩), .int .i64 nn] W fun e w' => e = .returned (.int .i64 (M.pubE nn)) ∧ Held w w' (B.sep ((zrT y (M.pubM nn)).sep R)) from
                (H.turn.call (fun _ h' => zrpub_any h' HOk.out (by omega) nn)).mono fun e w' ⟨he, hh⟩ => ⟨he, hh.turn⟩)
              have R1 := Lib.hid (show (M.pubM nn).Ok (k + 1) ∧ (M.pubM nn).n = rm from ⟨(HOk.out.pub nn).mono (by omega), by rw [RM.pub_n]; exact HI.out.n⟩)
              obtain ⟨M', hM'⟩ : ∃ M', M' = M.pubM nn := ⟨_, rfl⟩
              rw [← hM'] at X1 Y1 R1
              generalize M.pubE nn = qe at *
              clear hM'
              go_wp2_with fail
              have H0 := HH.out.still (Turned.refl _ _).drew
              go_region_held3 (fun V => V.cell? ⟨Bx, 1, none⟩ = some (.int .i64 nn)) (first | assumption | go_keep) (first
                | (go_at_call 15; refine (X1.out _ _ H0).mono ?_; rintro e w5 ⟨rfl, H5⟩; have g5 := H5.snd.snd.blk.cell (o := 1) (v := .int .i64 nn) rfl)
                | (go_at_call 16; refine (Y1.out _ _ _ H5).mono ?_; rintro e w6 ⟨rfl, H6⟩; have g6 := H6.snd.snd.blk.cell (o := 1) (v := .int .i64 nn) rfl))
              all_goals
                have HH7 := Lib.hid H6.two
                clear H5 H6 g5 g6 H0 X1 Y1
                go_wp2_with fail
                go_meet
                exact ⟨by first | rfl | simp, M', HH7.out, R1.out.1, R1.out.2⟩
          · as_aux_lemma =>
              have X1 := Lib.hid (show Calls Try.prog 17 #[.pointer (some ⟨x, 0, none⟩), .int .i64 nn] wa fun e w' => e = .returned (.tuple #[.int .i64 (M.getR nn), .int .i64 (M.getE nn)]) ∧ Still wa w' from by
                obtain ⟨_, h', _⟩ := HH.out.fst
                exact A.get h' HOk.out (by omega) nn HNN.out)
              have Y1 := Lib.hid (fun (W : World) (B R : Thing) (H : Held w W (B.sep ((zrT y M).sep R))) => show Calls Try.prog 18 #[.pointer (some ⟨y, 0, none⟩), .int .i64 nn] W fun e w' => e = .returned (.tuple #[.int .i64 (M.getR nn), .int .i64 (M.getE nn)]) ∧ Still W w' from by
                obtain ⟨_, h', _⟩ := H.turn.fst
                exact zrget_any h' HOk.out (by omega) nn)
              generalize M.getR nn = qr at *
              generalize M.getE nn = qe at *
              go_wp2_with fail
              ((with_reducible refine X1.out.mono ?_))
              rintro e w6 ⟨rfl, hst⟩
              have HH6 := Lib.hid (HH.out.still hst)
              have f1 := HH6.out.snd.snd.blk.cell (o := 1) (v := .int .i64 nn) rfl
              clear hst X1 b1
              go_wp2_with fail
              ((with_reducible refine (Y1.out _ _ _ HH6.out).mono ?_))
              rintro e w7 ⟨rfl, hst⟩
              have HH7 := Lib.hid (HH6.out.still hst).two
              clear hst Y1 HH6 f1
              go_wp2_with fail
              go_meet
              exact ⟨by first | rfl | simp, M, HH7.out, HOk.out.mono (Nat.le_succ _), HI.out.n⟩
          · as_aux_lemma =>
              have X1 := Lib.hid (held_trim HH.out (fun _ h' => A.trim h' HOk.out (by omega) nn HNN.out))
              have Y1 := Lib.hid (fun (W : World) (B R : Thing) (H : Held w W (B.sep ((zrT y M).sep R))) => show Calls Try.prog 20 #[.pointer (some ⟨y, 0, none⟩), .int .i64 nn] W fun e w' => ∃ a c, e = .returned (.tuple #[.slice a (M.trimL nn).length c, .int .i64 (M.trimE nn)]) ∧ Held w w' (B.sep ((numsT (zrT y (M.trimM nn)) a (M.trimL nn)).sep R)) from
                (held_trim (RT := zrT) H.turn (fun _ h' => zrtrim_any h' HOk.out (by omega) nn)).mono fun e w' ⟨a, c, he, hh⟩ => ⟨a, c, he, hh.turn⟩)
              have R1 := Lib.hid (show (M.trimM nn).Ok (k + 1) ∧ (M.trimM nn).n = rm from ⟨(HOk.out.trim nn).mono (by omega), by rw [RM.trim_n]; exact HI.out.n⟩)
              obtain ⟨M', hM'⟩ : ∃ M', M' = M.trimM nn := ⟨_, rfl⟩
              obtain ⟨L, hL⟩ : ∃ L, L = M.trimL nn := ⟨_, rfl⟩
              obtain ⟨ll, hll⟩ : ∃ ll, ll = L.length := ⟨_, rfl⟩
              have hlen : ll ≤ 64 := by
                rw [hll, hL]
                unfold RM.trimL
                split
                · simp
                · rw [List.length_map, List.length_take]; have := HOk.out.len; have := HOk.out.max; omega
              have SI := Lib.hid (fun (W : World) (xa ya : Option Addr) (xc yc : Nat) (h1 : NumsAt W xa L) (h2 : NumsAt W ya L) => sameInts_any W xa ya L L xc yc rfl (by omega) h1 h2)
              rw [decide_eq_true (rfl : L = L), ← hll] at SI
              rw [← hM', ← hL, ← hll] at X1 Y1
              rw [← hM'] at R1
              generalize M.trimE nn = qe at *
              clear hM' hL hll
              go_wp2_with fail
              ((with_reducible refine X1.out.mono ?_))
              rintro e w6 ⟨xa, xc, rfl, H⟩
              have HH6 := Lib.hid H
              have f1 := H.snd.snd.blk.cell (o := 1) (v := .int .i64 nn) rfl
              clear H X1 b1
              go_wp2_with fail
              ((with_reducible refine (Y1.out _ _ _ HH6.out).mono ?_))
              rintro e w7 ⟨ya, yc, rfl, H⟩
              have SI7 := Lib.hid (SI.out w7 xa ya xc yc H.nums H.turn.nums)
              have HH7 := Lib.hid (H.two.unnum.swap.unnum.swap)
              clear H Y1 HH6 f1 SI
              go_wp2_with fail
              ((with_reducible refine SI7.out.mono ?_))
              rintro e w' ⟨rfl, q, rfl⟩
              have HH8 := Lib.hid (HH7.out.still ((Turned.refl _ w7).drewN q))
              clear SI7 HH7
              go_wp2_with fail
              go_meet
              exact ⟨by first | rfl | simp, M', HH8.out, R1.out.1, R1.out.2⟩
          · as_aux_lemma =>
              have X1 := Lib.hid (fun (W : World) (R : Thing) (H : Held w W ((RT x M).sep R)) => show Calls Try.prog 22 #[.pointer (some ⟨x, 0, none⟩), .int .i64 nn] W fun e w' => e = .returned (.int .i64 (M.ready nn : Nat)) ∧ Still W w' from by
                obtain ⟨_, h', _⟩ := H.fst
                exact A.ready h' HOk.out (by omega) nn HNN.out)
              have Y1 := Lib.hid (fun (W : World) (B R : Thing) (H : Held w W (B.sep ((zrT y M).sep R))) => show Calls Try.prog 23 #[.pointer (some ⟨y, 0, none⟩), .int .i64 nn] W fun e w' => e = .returned (.int .i64 (M.ready nn : Nat)) ∧ Still W w' from by
                obtain ⟨_, h', _⟩ := H.turn.fst
                exact zrready_any h' HOk.out (by omega) nn)
              obtain ⟨qe, hqe⟩ : ∃ qe : Int, qe = (M.ready nn : Nat) := ⟨_, rfl⟩
              rw [← hqe] at X1 Y1
              clear hqe
              go_wp2_with fail
              have H0 := HH.out.still (Turned.refl _ _).drew
              go_region_held3 (fun V => V.cell? ⟨Bx, 1, none⟩ = some (.int .i64 nn)) (first | assumption | go_keep) (first
                | (go_at_call 22; refine (X1.out _ _ H0).mono ?_; rintro e w5 ⟨rfl, hst5⟩; have H5 := H0.still hst5; have g5 := H5.snd.snd.blk.cell (o := 1) (v := .int .i64 nn) rfl)
                | (go_at_call 23; refine (Y1.out _ _ _ H5).mono ?_; rintro e w6 ⟨rfl, hst6⟩; have H6 := H5.still hst6; have g6 := H6.snd.snd.blk.cell (o := 1) (v := .int .i64 nn) rfl))
              all_goals
                have HH7 := Lib.hid H6.two
                clear H5 H6 g5 g6 H0 X1 Y1
                go_wp2_with fail
                go_meet
                exact ⟨by first | rfl | simp, M, HH7.out, HOk.out.mono (Nat.le_succ _), HI.out.n⟩
        case rest =>
          clear HH b1 HI HNN HOk
          obtain ⟨rfl, M', hI'⟩ := hcut
          have hok := hI'.ok
          have hn := hI'.n
          obtain ⟨Wy, ⟨la, lc, hZ⟩, _⟩ := hI'.held.swap.fst
          obtain ⟨Wx, hP, _⟩ := hI'.held.fst
          obtain ⟨ll, hll⟩ : ∃ ll, ll = M'.l.length := ⟨_, rfl⟩
          have hll2 : ll ≤ 64 := by rw [hll]; have := hok.len; have := hok.max; omega
          have z2 := hZ.cells.2.2.1
          have HY := Lib.hid (fun V (hT : Still wc V) => still_cell hT z2 rfl)
          have HKx := Lib.hid (fun V (hT : Still wc V) => (RT x M').keep hP hT (fun _ _ h => h))
          have HKy := Lib.hid (fun V (hT : Still wc V) => hZ.still hT)
          have F1 := Lib.hid (fun V (hT : Still wc V) => show Calls Try.prog 24 #[.pointer (some ⟨x, 0, none⟩)] V fun e w' => e = .returned (.int .i64 M'.h) ∧ Still wc w' from
            (A.head (HKx.out V hT) hok (by omega)).mono fun e w' ⟨he, hs⟩ => ⟨he, hT.trans hs⟩)
          have F2 := Lib.hid (fun V (hT : Still wc V) => show Calls Try.prog 25 #[.pointer (some ⟨x, 0, none⟩)] V fun e w' => e = .returned (.int .i64 M'.tail) ∧ Still wc w' from
            (A.tail (HKx.out V hT) hok (by omega)).mono fun e w' ⟨he, hs⟩ => ⟨he, hT.trans hs⟩)
          have F3 := Lib.hid (fun V (hT : Still wc V) => show Calls Try.prog 26 #[.pointer (some ⟨y, 0, none⟩)] V fun e w' => e = .returned (.int .i64 M'.tail) ∧ Still wc w' from
            (zrtail_any (HKy.out V hT) hok (by omega)).mono fun e w' ⟨he, hs⟩ => ⟨he, hT.trans hs⟩)
          have F4 := Lib.hid (fun V (hT : Still wc V) => show Calls Try.prog 27 #[.pointer (some ⟨x, 0, none⟩)] V fun e w' => e = .returned (.int .i64 rm) ∧ Still wc w' from by
            have := A.room (HKx.out V hT) hok (by omega)
            rw [hn] at this
            exact this.mono fun e w' ⟨he, hs⟩ => ⟨he, hT.trans hs⟩)
          have F5 := Lib.hid (fun V (hT : Still wc V) => show Calls Try.prog 28 #[.pointer (some ⟨x, 0, none⟩)] V fun e w' => ∃ a c, e = .returned (.slice a ll c) ∧ NumsAt w' a M'.refs ∧ Still wc w' from
            (A.refs (HKx.out V hT) hok (by omega) ll hll).mono fun e w' ⟨a, c, he, ho, hs⟩ => ⟨a, c, he, NumsAt.of_own ho (by simp [RM.refs, hll]), hT.trans hs⟩)
          have F6 := Lib.hid (fun V (hT : Still wc V) => show Calls Try.prog 29 #[.pointer (some ⟨y, 0, none⟩)] V fun e w' => ∃ a c, e = .returned (.slice a ll c) ∧ NumsAt w' a M'.refs ∧ Still wc w' ∧ Still V w' from
            (zrrefs_any ⟨la, lc, HKy.out V hT⟩ hok ll hll).mono fun e w' ⟨a, c, he, ho, hs⟩ => ⟨a, c, he, NumsAt.of_own ho (by simp [RM.refs, hll]), hT.trans hs, hs⟩)
          have F7 := Lib.hid (fun V (a b : Option Addr) (ca cb : Nat) (hT : Still wc V) (hA : NumsAt V a M'.refs) (hB : NumsAt V b M'.refs) => show Calls Try.prog 21 #[.slice a ll ca, .slice b ll cb] V fun e w' => e = .returned (.bool true) ∧ Still wc w' from by
            have e1 : M'.refs.length = ll := by simp [RM.refs, hll]
            have := sameInts_any V a b M'.refs M'.refs ca cb rfl (by omega) hA hB
            rw [e1, decide_eq_true (rfl : M'.refs = M'.refs)] at this
            exact this.mono fun e w' ⟨he, q, hq⟩ => ⟨he, by rw [hq]; exact hT.drewN q⟩)
          have HI := Lib.hid hI'
          have hTd : Still wc wc.drew := (Turned.refl _ _).drew
          generalize (M'.h : Int) = hh at *
          generalize ((M'.tail : Nat) : Int) = tt at *
          clear hZ hP hok hn hll hI' HKx HKy
          go_wp2_with fail
          go_region_held3 (fun V => V.cell? ⟨y, 2, none⟩ = some (.int .i64 hh)) (first | assumption | go_keep) (first
            | (go_at_call 24; refine (F1.out _ (by assumption)).mono ?_; rintro e w3 ⟨rfl, hT3⟩; have g3 := HY.out w3 hT3)
            | (go_at_call 25; refine (F2.out _ (by assumption)).mono ?_; rintro e w4 ⟨rfl, hT4⟩; have g4 := HY.out w4 hT4)
            | (go_at_call 26; refine (F3.out _ (by assumption)).mono ?_; rintro e w5 ⟨rfl, hT5⟩; have g5 := HY.out w5 hT5)
            | (go_at_call 27; refine (F4.out _ (by assumption)).mono ?_; rintro e w6 ⟨rfl, hT6⟩; have g6 := HY.out w6 hT6)
            | (go_at_call 28; refine (F5.out _ (by assumption)).mono ?_; rintro e w7 ⟨a7, c7, rfl, hA7, hT7⟩; have g7 := HY.out w7 hT7)
            | (go_at_call 29; refine (F6.out _ (by assumption)).mono ?_; rintro e w8 ⟨a8, c8, rfl, hA8, hT8, hV8⟩; have hB8 := hA7.still hV8; have g8 := HY.out w8 hT8)
            | (go_at_call 21; refine (F7.out _ _ _ _ _ hT8 hB8 hA8).mono ?_; rintro e w9 ⟨rfl, hT9⟩; have g9 := HY.out w9 hT9))
          all_goals
            have HT9 := Lib.hid (show Still wc w9 from by assumption)
            clear F1 F2 F3 F4 F5 F6 F7 z2 HY hTd
            go_wp2_with fail
            go_roundw
            case rel => exact ⟨k + 1, M', by omega, by omega, by go_num, HI.out.held.still HT9.out, HI.out.ok, HI.out.n⟩
            case measure => simp [intOf]; omega
      · have hex : (k < tl ∧ 200 ≤ k) ∨ tl ≤ k := by omega
        have HTW := Lib.hid hI.held.ground
        clear hin hI
        rcases hex with ⟨q1, q2⟩ | q1
        all_goals
          go_wp2_with fail
          refine (works6 A _).mono ?_
          rintro e w8 ⟨rfl, hT8⟩
          have HT8 := Lib.hid (HTW.out.trans hT8)
          clear hT8
          go_wp2_with fail
          go_ret
          exact ⟨by first | rfl | simp, HT8.out⟩
  · have C0 := Lib.hid (fun W => A.make_no n0 p0 W i1 i2 hg)
    have C1 := Lib.hid (fun W => zrmake_no n0 p0 W hg)
    clear hg h1 h0 h0'
    go_enter Try.func3, Try.ntmps3
    go_wp2_with fail
    refine (C0.out _).mono ?_
    rintro e w1 ⟨rfl, hT⟩
    have HT := Lib.hid hT
    clear hT
    go_wp2_with fail
    refine (C1.out _).mono ?_
    rintro e w2 ⟨rfl, hT⟩
    have HT2 := Lib.hid hT
    clear hT
    go_wp2_with fail
    refine (works6 A _).mono ?_
    rintro e w8 ⟨rfl, hT8⟩
    have HT8 := Lib.hid ((HT.out.trans HT2.out).trans hT8)
    clear hT8
    go_wp2_with fail
    go_ret
    exact ⟨by first | rfl | simp, HT8.out⟩
end Go.Proofs.Ytefopajkcpcjpaa
