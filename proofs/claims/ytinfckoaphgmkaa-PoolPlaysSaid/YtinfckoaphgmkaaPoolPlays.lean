/- PoolPlays: the walk. No condition but that the program's pool keeps its words. -/
import Derived.Test.YtinfckoaphgmkaaPlaysKit
namespace Go.Proofs.Ytinfckoaphgmkaa
open Go.RowKit
set_option linter.unusedVariables false
set_option maxRecDepth 100000

def HadOk (had : List Int) : Prop := ∀ h ∈ had, 0 ≤ h ∧ h ≤ 1000000
theorem which_had {a : Act5} {had : List Int} {w : World} (ha : okAct5 w a) (hg : HadOk had) : i64 (whichH a had) := by
  unfold whichH
  split
  · rename_i hp
    have hlt := am_lt a.2.2.1 hp.2
    rw [List.getElem?_eq_getElem hlt, Option.getD_some]
    have := hg _ (List.getElem_mem hlt)
    exact ⟨by omega, by omega⟩
  · have := i64_of ha.2.2.1
    exact ⟨this.1, this.2⟩
theorem take_small {M : PM} {N : Nat} (hM : M.Ok N) (hN : N < 1000) (n : Int) : 0 ≤ M.takeH n ∧ M.takeH n ≤ 1000000 := by
  by_cases he : M.takeE n = 0
  · have := (hM.given he).1.small (hM.take_le n |> fun _ => (hM.mono (N' := N + 1) (by omega)).take (by omega) n)
    omega
  · have : M.takeH n = 0 := by
      unfold PM.takeE at he
      unfold PM.takeH
      by_cases h1 : n < 0
      · simp [h1]
      · by_cases h2 : (M.size : Int) < n
        · simp [h2]
        · by_cases h3 : M.fr = []
          · simp [h1, h2, h3]
          · rw [if_neg h1, if_neg h2, if_neg h3] at he
            exact absurd rfl he
    omega
theorem PM.fill_size (M : PM) (x : Int) (b : List UInt8) : (M.fillM x b).size = M.size := by unfold PM.fillM; split <;> rfl

structure PlaysIn (PT : Nat → PM → Thing) (w wr : World) (x y n s k : Nat) (ao : Option Addr) (l cc : Nat) (M : PM) (had : List Int) : Prop where
  held : Held w wr ((PT x M).sep ((zT y M).sep (ownT 3 1 ao l cc (ints had))))
  len : had.length = l
  le : l ≤ k
  ok : M.Ok (k + 1)
  sl : M.sl.length = n
  sz : M.size = s
  had : HadOk had

def PlaysMid (PT : Nat → PM → Thing) (w : World) (x y n s k : Nat) (hv ov : Value) (wx : World) : Prop :=
  ov = .bool true ∧ ∃ (ao : Option Addr) (l cc : Nat) (M : PM) (had : List Int), hv = .slice ao l cc ∧ PlaysIn PT w wx x y n s (k + 1) ao l cc M had

set_option maxHeartbeats 16000000 in
theorem plays_walk {PT : Nat → PM → Thing} (A : PoolApi PT) (n0 s0 : Int) (t : Sl Act5) (w : World) (h0 : (Lit.int .i64 n0).wf = true) (h0' : (Lit.int .i64 s0).wf = true) (h1 : SlOk encAct5 okAct5 5 w t) :
    Calls Try.prog 3 #[.int .i64 n0, .int .i64 s0, .slice t.a t.len t.cap] w fun e w' => e = .returned (.bool true) ∧ Still w w' := by
  have i1 := i64_of (w := w) h0
  have i2 := i64_of (w := w) h0'
  by_cases hg : 1 ≤ n0 ∧ n0 ≤ 128 ∧ 1 ≤ s0 ∧ s0 ≤ 256
  · obtain ⟨n, rfl⟩ : ∃ n : Nat, n0 = n := ⟨n0.toNat, by omega⟩
    obtain ⟨s, rfl⟩ : ∃ s : Nat, s0 = s := ⟨s0.toNat, by omega⟩
    have n1 : 1 ≤ n := by omega
    have n2 : n ≤ 128 := by omega
    have s1 : 1 ≤ s := by omega
    have s2 : s ≤ 256 := by omega
    obtain ⟨ta, tl, tc, tx⟩ := t
    have htcap : tl ≤ tc := h1.le
    have htmax : tc ≤ maxLen := h1.max
    unfold maxLen at htmax
    have HTX := Lib.hid h1
    have HTL : Hid (tx.length = tl) := Lib.hid h1.len
    have C0 := Lib.hid (fun W => A.make_ok n s W n1 n2 s1 s2)
    have C1 := Lib.hid (fun W => zmake_ok n s W n1 n2 s1 s2)
    obtain ⟨i0, hi, hz0, hz1, hz2⟩ := info_parts infoIntW
    dsimp only
    clear hg h1 h0 h0' i1 i2
    go_enter Try.func3, Try.ntmps3
    go_wp2_with fail
    refine (C0.out _).mono ?_
    intro e w1 hN
    obtain ⟨x, rfl, H⟩ := Held.made (Turned.refl _ _) hN
    have HH := Lib.hid H.drop
    clear hN H C0
    go_wp2_with fail
    refine (C1.out _).mono ?_
    rintro e w2 ⟨y, rfl, hW⟩
    have HH2 := Lib.hid (show Held w (w2.alloc (.cells #[] 3)) ((PT x (PM.new n s)).sep ((zT y (PM.new n s)).sep (ownT 3 1 (some ⟨w2.heap.size, 0, none⟩) 0 0 (ints [])))) from ((HH.out.new hW).swap.new2 3 1).assoc)
    clear hW HH C1
    go_wp2_with fail
    go_loopw [11, 12] (fun p i wr => ∃ (k l : Nat) (ao : Option Addr) (cc : Nat) (M : PM) (had : List Int), k ≤ tl ∧ k ≤ 100 ∧ i = .int .i64 k ∧ p = .slice ao l cc ∧ PlaysIn PT w wr x y n s k ao l cc M had) (fun _ i _ => tl - (intOf i).toNat)
    case atStart => exact ⟨0, 0, _, 0, PM.new n s, [], Nat.zero_le _, Nat.zero_le _, rfl, rfl, HH2.out, rfl, Nat.le_refl _, (PM.new_ok n1 n2 s1 s2).mono (by omega), by simp [PM.new], rfl, fun h hh => by cases hh⟩
    case round =>
      clear HH2
      obtain ⟨k, l, ao, cc, M, had, hk, hk1, rfl, rfl, hI⟩ := hrel
      by_cases hin : k < tl ∧ k < 100
      · obtain ⟨hlt, h100⟩ := hin
        obtain ⟨a, hx⟩ := get_some (l := tx) (i := k) (by rw [HTL.out]; exact hlt)
        obtain ⟨b, o, rfl, hc⟩ := HTX.out.row k a hx
        have hok := HTX.out.each a (List.mem_of_getElem? hx)
        have hT := hI.held.ground
        obtain ⟨d, nn, h, hd, ⟨ba, bl, bc, bx⟩⟩ := a
        have c0 : wr.cell? ⟨b, o + k * 5, none⟩ = some (.int .i64 d) := still_cell hT (hc 0 _ rfl) (by omega)
        have c1 : wr.cell? ⟨b, o + k * 5 + 1, none⟩ = some (.int .i64 nn) := still_cell hT (hc 1 _ rfl) (by omega)
        have c2 : wr.cell? ⟨b, o + k * 5 + 2, none⟩ = some (.int .i64 h) := still_cell hT (hc 2 _ rfl) (by omega)
        have c3 : wr.cell? ⟨b, o + k * 5 + 3, none⟩ = some (.bool hd) := still_cell hT (hc 3 _ rfl) (by omega)
        have c4 : wr.cell? ⟨b, o + k * 5 + 4, none⟩ = some (.slice ba bl bc) := still_cell hT (hc 4 _ rfl) (by omega)
        obtain ⟨v, hv⟩ : ∃ v, v = am d 7 := ⟨_, rfl⟩
        have hvl : v < 7 := by rw [hv]; exact am_lt _ (by omega)
        have B1 := Lib.hid (fun W => among_lit d 7 7 v rfl hv (by omega) (by omega) W)
        -- the bytes, cut
        have hb := hok.2.2.2.2
        have hbcap : bl ≤ bc := hb.le
        have hbmax : bc ≤ maxLen := hb.max
        unfold maxLen at hbmax
        have hbl : bx.length = bl := hb.len
        have hbn := hb.none
        have hbr := (BytesAt.of_row hb.row).take 257
        obtain ⟨bs, hbs⟩ : ∃ bs, bs = bx.take 257 := ⟨_, rfl⟩
        obtain ⟨m, hm⟩ : ∃ m, m = bs.length := ⟨_, rfl⟩
        have hmb : (m = bl ∧ bl ≤ 257) ∨ (m = 257 ∧ 257 < bl) := by rw [hm, hbs, List.length_take, hbl]; omega
        have hm2 : m ≤ 257 := by omega
        dsimp only at hbr hbn
        rw [← hbs] at hbr
        have HBA := Lib.hid (show ∀ W, Still w W → BytesAt W ba bs from fun W hT => hbr.still hT)
        have HBN := Lib.hid (show ba = none → bc = 0 from fun e => (hbn e).2)
        have HML := Lib.hid hm
        have hif : (if (257 : Int) < (bl : Int) then (257 : Int) else (bl : Int)) = (m : Int) := by
          rcases hmb with ⟨e1, e2⟩ | ⟨e1, e2⟩
          · rw [if_neg (by omega), e1]
          · rw [if_pos (by omega), e1]; rfl
        have hx1 : (m : Int) ≤ (bc : Int) := by omega
        have hx0 : (0 : Int) ≤ (m : Int) := by omega
        -- which
        have hwh := which_had (a := (d, nn, h, hd, ⟨ba, bl, bc, bx⟩)) hok hI.had
        obtain ⟨wh, hwh0⟩ : ∃ wh, wh = whichH (d, nn, h, hd, ⟨ba, bl, bc, bx⟩) had := ⟨_, rfl⟩
        rw [← hwh0] at hwh
        have HH := Lib.hid (show Held w (wr.alloc (.cells #[.int .i64 d, .int .i64 nn, .int .i64 h, .bool hd, .slice ba bl bc] 34)) ((PT x M).sep ((zT y M).sep ((ownT 3 1 ao l cc (ints had)).sep (blkT wr.heap.size [.int .i64 d, .int .i64 nn, .int .i64 h, .bool hd, .slice ba bl bc] 34)))) from (hI.held.box [.int .i64 d, .int .i64 nn, .int .i64 h, .bool hd, .slice ba bl bc] 34).push)
        have D1 := Lib.hid (fun (W : World) (hA : NumsAt W ao had) => which_any (d, nn, h, hd, ⟨ba, bl, bc, bx⟩) W ao l cc had hI.len.symm (by have := hI.le; omega) hA)
        unfold Act5.val at D1
        dsimp only at D1
        rw [← hwh0] at D1
        have hnn := i64_of hok.2.1
        have hA0 := (hI.held.third.ints hI.len.symm)
        have HI := Lib.hid hI
        have HWH := Lib.hid hwh
        have HNN := Lib.hid (show i64 nn from ⟨hnn.1, hnn.2⟩)
        have HD1 := Lib.hid (D1.out (wr.alloc (.cells #[.int .i64 d, .int .i64 nn, .int .i64 h, .bool hd, .slice ba bl bc] 34)) (hA0.still ((Turned.refl _ _).alloc _)))
        clear hx hc hok hT hv hb hbn hbr hbs hm hmb hbl hwh hwh0 hI hnn hA0 D1
        go_upto_block 2 with (first | (go_at_call 12; ((with_reducible refine HD1.out.mono ?_)); rintro e w5 ⟨rfl, hst⟩; have HH5 := Lib.hid (HH.out.still hst); have hbk := HH5.out.last.blk; have b0 := hbk.cell (o := 0) rfl; have b1 := hbk.cell (o := 1) rfl; have b2 := hbk.cell (o := 2) rfl; have b3 := hbk.cell (o := 3) rfl; have b4 := hbk.cell (o := 4) rfl; clear hst hbk) | (go_at_call 13; ((with_reducible refine (B1.out _).mono ?_)); rintro e w' ⟨rfl, rfl⟩))
        go_cut [11, 16] (fun hv ov wx => PlaysMid PT w x y n s k hv ov wx)
        case first =>
          rcases (show v = 0 ∨ v = 1 ∨ v = 2 ∨ v = 3 ∨ v = 4 ∨ v = 5 ∨ v = 6 by omega) with rfl | rfl | rfl | rfl | rfl | rfl | rfl
          · as_aux_lemma =>
              have X1 := Lib.hid (HH5.out.call (fun _ h' => A.take h' HI.out.ok (by omega) nn HNN.out))
              have R1 := Lib.hid (show (M.takeM nn).Ok (k + 1 + 1) ∧ (M.takeM nn).sl.length = n ∧ (M.takeM nn).size = s from ⟨(HI.out.ok.take (by omega) nn).mono (by omega), by rw [(HI.out.ok.take_le nn).len]; exact HI.out.sl, by rw [PM.take_size]; exact HI.out.sz⟩)
              have R2 := Lib.hid (take_small HI.out.ok (by omega) nn)
              have Y1 := Lib.hid (fun (W : World) (B R : Thing) (H : Held w W (B.sep ((zT y M).sep R))) => show Calls Try.prog 15 #[.pointer (some ⟨y, 0, none⟩), .int .i64 nn] W fun e w' => e = .returned (.tuple #[.int .i64 (M.takeH nn), .int .i64 (M.takeE nn)]) ∧ Held w w' (B.sep ((zT y (M.takeM nn)).sep R)) from
                (H.turn.call (fun _ h' => ztake_any h' HI.out.ok (by omega) nn)).mono fun e w' ⟨he, hh⟩ => ⟨he, hh.turn⟩)
              obtain ⟨M', hM'⟩ : ∃ M', M' = M.takeM nn := ⟨_, rfl⟩
              rw [← hM'] at X1 Y1 R1
              generalize M.takeH nn = th at *
              generalize M.takeE nn = te at *
              clear hM'
              go_wp2_with fail
              ((with_reducible refine X1.out.mono ?_))
              rintro e w6 ⟨rfl, H⟩
              have HH6 := Lib.hid H
              have f1 := H.last.blk.cell (o := 1) (v := .int .i64 nn) rfl
              clear H X1 HH5 b0 b1 b2 b3 b4
              go_wp2_with fail
              ((with_reducible refine (Y1.out _ _ _ HH6.out).mono ?_))
              rintro e w7 ⟨rfl, H⟩
              have HH7 := Lib.hid H.pop.third
              have hl0 := HI.out.le
              clear H Y1 HH6 f1
              go_wp2_with (at_builtin; refine wpList_append_own_at _ rfl (.tmp 111) (.tmp 113) 31 rfl 0 3 i0 (.int .i64 0) 1 8 Try.underlying31 hi hz0 hz1 hz2 rfl (by decide) (.slice ao l cc) l (ints had) rfl (ow_still HH7.out.own ((Turned.refl _ _).alloc _)) ⟨w7.heap.size, 0, none⟩ 1 1 [.int .i64 th] rfl rfl (ow_cells w7 _ _) (ow_ints rfl) (by unfold maxLen; omega) (by omega) (Nat.zero_le _) ?_; intro v8 w8 hown8 hg8 _ hat8; obtain ⟨a8, c8, rfl⟩ := ow_slice hown8; have HH8 := Lib.hid (HH7.out.grown hown8 hg8 hat8); clear hown8 hg8 hat8)
              go_meet
              exact ⟨rfl, a8, l + 1, c8, M', had ++ [th], rfl, by have := HH8.out.assoc; simpa [ints] using this, by rw [List.length_append, HI.out.len]; rfl, by omega, R1.out.1, R1.out.2.1, R1.out.2.2, fun g hg => by
                rcases List.mem_append.1 hg with hg | hg
                · exact HI.out.had g hg
                · simp at hg; subst hg; exact R2.out⟩
          · as_aux_lemma =>
              have X1 := Lib.hid (HH5.out.call (fun _ h' => A.take h' HI.out.ok (by omega) nn HNN.out))
              have R1 := Lib.hid (show (M.takeM nn).Ok (k + 1 + 1) ∧ (M.takeM nn).sl.length = n ∧ (M.takeM nn).size = s from ⟨(HI.out.ok.take (by omega) nn).mono (by omega), by rw [(HI.out.ok.take_le nn).len]; exact HI.out.sl, by rw [PM.take_size]; exact HI.out.sz⟩)
              have R2 := Lib.hid (take_small HI.out.ok (by omega) nn)
              have Y1 := Lib.hid (fun (W : World) (B R : Thing) (H : Held w W (B.sep ((zT y M).sep R))) => show Calls Try.prog 15 #[.pointer (some ⟨y, 0, none⟩), .int .i64 nn] W fun e w' => e = .returned (.tuple #[.int .i64 (M.takeH nn), .int .i64 (M.takeE nn)]) ∧ Held w w' (B.sep ((zT y (M.takeM nn)).sep R)) from
                (H.turn.call (fun _ h' => ztake_any h' HI.out.ok (by omega) nn)).mono fun e w' ⟨he, hh⟩ => ⟨he, hh.turn⟩)
              obtain ⟨M', hM'⟩ : ∃ M', M' = M.takeM nn := ⟨_, rfl⟩
              rw [← hM'] at X1 Y1 R1
              generalize M.takeH nn = th at *
              generalize M.takeE nn = te at *
              clear hM'
              go_wp2_with fail
              ((with_reducible refine X1.out.mono ?_))
              rintro e w6 ⟨rfl, H⟩
              have HH6 := Lib.hid H
              have f1 := H.last.blk.cell (o := 1) (v := .int .i64 nn) rfl
              clear H X1 HH5 b0 b1 b2 b3 b4
              go_wp2_with fail
              ((with_reducible refine (Y1.out _ _ _ HH6.out).mono ?_))
              rintro e w7 ⟨rfl, H⟩
              have HH7 := Lib.hid H.pop.third
              have hl0 := HI.out.le
              clear H Y1 HH6 f1
              go_wp2_with (at_builtin; refine wpList_append_own_at _ rfl (.tmp 111) (.tmp 113) 31 rfl 0 3 i0 (.int .i64 0) 1 8 Try.underlying31 hi hz0 hz1 hz2 rfl (by decide) (.slice ao l cc) l (ints had) rfl (ow_still HH7.out.own ((Turned.refl _ _).alloc _)) ⟨w7.heap.size, 0, none⟩ 1 1 [.int .i64 th] rfl rfl (ow_cells w7 _ _) (ow_ints rfl) (by unfold maxLen; omega) (by omega) (Nat.zero_le _) ?_; intro v8 w8 hown8 hg8 _ hat8; obtain ⟨a8, c8, rfl⟩ := ow_slice hown8; have HH8 := Lib.hid (HH7.out.grown hown8 hg8 hat8); clear hown8 hg8 hat8)
              go_meet
              exact ⟨rfl, a8, l + 1, c8, M', had ++ [th], rfl, by have := HH8.out.assoc; simpa [ints] using this, by rw [List.length_append, HI.out.len]; rfl, by omega, R1.out.1, R1.out.2.1, R1.out.2.2, fun g hg => by
                rcases List.mem_append.1 hg with hg | hg
                · exact HI.out.had g hg
                · simp at hg; subst hg; exact R2.out⟩
          · as_aux_lemma =>
              have HP5 := Lib.hid HH5.out.pop
              have BC := Lib.hid (bytes_any w5 ba bs bc (HBA.out w5 HH5.out.ground) (by rw [← HML.out]; omega) HBN.out)
              unfold BytesPost at BC
              rw [← HML.out] at BC
              have XF := Lib.hid (fun (W : World) (oa : Option Addr) (oc : Nat) (H : Held w W ((PT x M).sep ((zT y M).sep ((ownT 3 1 ao l cc (ints had)).sep (ownT 5 1 oa m oc (byt bs)))))) => H.call (fun _ h' => by
                obtain ⟨_, ⟨ho, _⟩, _, _⟩ := H.last
                obtain ⟨q1, q2, q3⟩ := ow_le ho
                exact A.fill h' HI.out.ok (by omega) wh HWH.out oa bs m oc HML.out (by have := ho; rw [HML.out] at this; exact BytesAt.of_own this) (by rw [← HML.out]; omega) q1 q2 (fun e => (q3 e).2)))
              have YF := Lib.hid (fun (W : World) (B R : Thing) (H : Held w W (B.sep ((zT y M).sep R))) => show Calls Try.prog 18 #[.pointer (some ⟨y, 0, none⟩), .int .i64 wh, .slice ba m bc] W fun e w' => e = .returned (.int .i64 (M.fillE wh bs)) ∧ Held w w' (B.sep ((zT y (M.fillM wh bs)).sep R)) from
                (H.turn.call (fun _ h' => zfill_any h' HI.out.ok wh ba bs m bc HML.out (HBA.out W H.ground) (by rw [← HML.out]; omega) HBN.out)).mono fun e w' ⟨he, hh⟩ => ⟨he, hh.turn⟩)
              have R1 := Lib.hid (show (M.fillM wh bs).Ok (k + 1 + 1) ∧ (M.fillM wh bs).sl.length = n ∧ (M.fillM wh bs).size = s from ⟨(HI.out.ok.fill wh bs).mono (by omega), by rw [(PM.fill_le M wh bs).len]; exact HI.out.sl, by rw [PM.fill_size]; exact HI.out.sz⟩)
              obtain ⟨M', hM'⟩ : ∃ M', M' = M.fillM wh bs := ⟨_, rfl⟩
              rw [← hM'] at XF YF R1
              generalize M.fillE wh bs = fe at *
              clear hM' b0 b1 b2 b3 b4 HH5
              go_wp2_with fail
              ((with_reducible refine BC.out.mono ?_))
              rintro e w6 ⟨oa, oc, rfl, hown, hst⟩
              have HH6 := Lib.hid ((HP5.out.got hown hst).push)
              clear hown hst HP5 BC
              go_wp2_with fail
              ((with_reducible refine (XF.out _ _ _ HH6.out).mono ?_))
              rintro e w7 ⟨rfl, H⟩
              have HH7 := Lib.hid H
              clear H HH6 XF
              go_wp2_with fail
              ((with_reducible refine (YF.out _ _ _ HH7.out).mono ?_))
              rintro e w8 ⟨rfl, H⟩
              have HH8 := Lib.hid H
              clear H HH7 YF
              go_wp2_with fail
              go_loopw [22] (fun i wz => ∃ (q : Nat) (xs : List Value), q ≤ m ∧ i = .int .i64 q ∧ Held w wz ((PT x M').sep ((zT y M').sep ((ownT 3 1 ao l cc (ints had)).sep (ownT 5 1 oa m oc xs))))) (fun i _ => m - (intOf i).toNat)
              case atStart => exact ⟨0, _, Nat.zero_le _, rfl, HH8.out⟩
              case round =>
                clear HH8
                obtain ⟨q, xs, hq, rfl, H⟩ := hrel
                by_cases hqm : q < m
                · obtain ⟨g, rfl, ⟨u, hu⟩, hfz⟩ := ownT_cell H.last hqm
                  have HS := Lib.hid (H.setLast q hqm (.int .u8 99))
                  clear H
                  go_wp2_with fail
                  go_roundw
                  case rel => exact ⟨q + 1, _, by omega, by go_num, HS.out⟩
                  case measure => simp [intOf]; omega
                · have HS := Lib.hid H.pop
                  have hqm2 : m ≤ q := by omega
                  clear H hqm
                  go_wp2_with fail
                  go_meet
                  have hl0 := HI.out.le
                  exact ⟨by first | rfl | simp, ao, l, cc, M', had, rfl, HS.out, HI.out.len, by omega, R1.out.1, R1.out.2.1, R1.out.2.2, HI.out.had⟩
          · as_aux_lemma =>
              have X1 := Lib.hid (HH5.out.pop.call (fun _ h' => A.keep h' HI.out.ok (by omega) wh HWH.out))
              have R1 := Lib.hid (show (M.keepM wh).Ok (k + 1 + 1) ∧ (M.keepM wh).sl.length = n ∧ (M.keepM wh).size = s from ⟨HI.out.ok.keep wh, by rw [(PM.keep_le M wh).len]; exact HI.out.sl, by rw [PM.keep_size]; exact HI.out.sz⟩)
              have Y1 := Lib.hid (fun (W : World) (B R : Thing) (H : Held w W (B.sep ((zT y M).sep R))) => show Calls Try.prog 20 #[.pointer (some ⟨y, 0, none⟩), .int .i64 wh] W fun e w' => e = .returned (.int .i64 (M.err wh)) ∧ Held w w' (B.sep ((zT y (M.keepM wh)).sep R)) from
                (H.turn.call (fun _ h' => zkeep_any h' HI.out.ok (by omega) wh)).mono fun e w' ⟨he, hh⟩ => ⟨he, hh.turn⟩)
              obtain ⟨M', hM'⟩ : ∃ M', M' = M.keepM wh := ⟨_, rfl⟩
              rw [← hM'] at X1 Y1 R1
              generalize M.err wh = er at *
              clear hM' b0 b1 b2 b3 b4
              go_wp2_with fail
              ((with_reducible refine X1.out.mono ?_))
              rintro e w6 ⟨rfl, H⟩
              have HH6 := Lib.hid H
              clear H X1 HH5
              go_wp2_with fail
              ((with_reducible refine (Y1.out _ _ _ HH6.out).mono ?_))
              rintro e w7 ⟨rfl, H⟩
              have HH7 := Lib.hid H
              clear H Y1 HH6
              go_wp2_with fail
              go_meet
              have hl0 := HI.out.le
              exact ⟨by first | rfl | simp, ao, l, cc, M', had, rfl, HH7.out, HI.out.len, by omega, R1.out.1, R1.out.2.1, R1.out.2.2, HI.out.had⟩
          · as_aux_lemma =>
              have X1 := Lib.hid (HH5.out.pop.call (fun _ h' => A.drop h' HI.out.ok (by omega) wh HWH.out))
              have R1 := Lib.hid (show (M.dropM wh).Ok (k + 1 + 1) ∧ (M.dropM wh).sl.length = n ∧ (M.dropM wh).size = s from ⟨HI.out.ok.drop wh, by rw [(PM.drop_le M wh).len]; exact HI.out.sl, by rw [PM.drop_size]; exact HI.out.sz⟩)
              have Y1 := Lib.hid (fun (W : World) (B R : Thing) (H : Held w W (B.sep ((zT y M).sep R))) => show Calls Try.prog 22 #[.pointer (some ⟨y, 0, none⟩), .int .i64 wh] W fun e w' => e = .returned (.tuple #[.int .i64 (M.dropN wh), .int .i64 (M.err wh)]) ∧ Held w w' (B.sep ((zT y (M.dropM wh)).sep R)) from
                (H.turn.call (fun _ h' => zdrop_any h' HI.out.ok (by omega) wh)).mono fun e w' ⟨he, hh⟩ => ⟨he, hh.turn⟩)
              obtain ⟨M', hM'⟩ : ∃ M', M' = M.dropM wh := ⟨_, rfl⟩
              rw [← hM'] at X1 Y1 R1
              generalize M.err wh = er at *
              generalize M.dropN wh = dn at *
              clear hM' b0 b1 b2 b3 b4
              go_wp2_with fail
              ((with_reducible refine X1.out.mono ?_))
              rintro e w6 ⟨rfl, H⟩
              have HH6 := Lib.hid H
              clear H X1 HH5
              go_wp2_with fail
              ((with_reducible refine (Y1.out _ _ _ HH6.out).mono ?_))
              rintro e w7 ⟨rfl, H⟩
              have HH7 := Lib.hid H
              clear H Y1 HH6
              go_wp2_with fail
              go_meet
              have hl0 := HI.out.le
              exact ⟨by first | rfl | simp, ao, l, cc, M', had, rfl, HH7.out, HI.out.len, by omega, R1.out.1, R1.out.2.1, R1.out.2.2, HI.out.had⟩
          · as_aux_lemma =>
              have X1 := Lib.hid (HH5.out.pop.call (fun _ h' => A.drop h' HI.out.ok (by omega) wh HWH.out))
              have R1 := Lib.hid (show (M.dropM wh).Ok (k + 1 + 1) ∧ (M.dropM wh).sl.length = n ∧ (M.dropM wh).size = s from ⟨HI.out.ok.drop wh, by rw [(PM.drop_le M wh).len]; exact HI.out.sl, by rw [PM.drop_size]; exact HI.out.sz⟩)
              have Y1 := Lib.hid (fun (W : World) (B R : Thing) (H : Held w W (B.sep ((zT y M).sep R))) => show Calls Try.prog 22 #[.pointer (some ⟨y, 0, none⟩), .int .i64 wh] W fun e w' => e = .returned (.tuple #[.int .i64 (M.dropN wh), .int .i64 (M.err wh)]) ∧ Held w w' (B.sep ((zT y (M.dropM wh)).sep R)) from
                (H.turn.call (fun _ h' => zdrop_any h' HI.out.ok (by omega) wh)).mono fun e w' ⟨he, hh⟩ => ⟨he, hh.turn⟩)
              obtain ⟨M', hM'⟩ : ∃ M', M' = M.dropM wh := ⟨_, rfl⟩
              rw [← hM'] at X1 Y1 R1
              generalize M.err wh = er at *
              generalize M.dropN wh = dn at *
              clear hM' b0 b1 b2 b3 b4
              go_wp2_with fail
              ((with_reducible refine X1.out.mono ?_))
              rintro e w6 ⟨rfl, H⟩
              have HH6 := Lib.hid H
              clear H X1 HH5
              go_wp2_with fail
              ((with_reducible refine (Y1.out _ _ _ HH6.out).mono ?_))
              rintro e w7 ⟨rfl, H⟩
              have HH7 := Lib.hid H
              clear H Y1 HH6
              go_wp2_with fail
              go_meet
              have hl0 := HI.out.le
              exact ⟨by first | rfl | simp, ao, l, cc, M', had, rfl, HH7.out, HI.out.len, by omega, R1.out.1, R1.out.2.1, R1.out.2.2, HI.out.had⟩
          · as_aux_lemma =>
              have HP5 := Lib.hid HH5.out.pop
              obtain ⟨B, hB⟩ : ∃ B, B = M.bytes wh := ⟨_, rfl⟩
              obtain ⟨BL, hBL⟩ : ∃ BL, BL = B.length := ⟨_, rfl⟩
              have hBL2 : BL ≤ 256 := by
                rw [hBL, hB]
                unfold PM.bytes
                split
                · simp
                · rename_i he
                  have := HI.out.ok.bytes _ _ (PM.live (show M.err wh = 0 by simpa using he)).2.2.1
                  have := HI.out.ok.size1
                  omega
              have XB := Lib.hid (show Calls Try.prog 23 #[.pointer (some ⟨x, 0, none⟩), .int .i64 wh] w5 (GotBytes w5 (M.bytes wh) (M.err wh)) from by
                obtain ⟨_, h', _⟩ := HP5.out.fst
                exact A.bytes h' HI.out.ok (by omega) wh HWH.out)
              have YB := Lib.hid (fun (W : World) (C R : Thing) (H : Held w W (C.sep ((zT y M).sep R))) => show Calls Try.prog 24 #[.pointer (some ⟨y, 0, none⟩), .int .i64 wh] W (GotBytes W (M.bytes wh) (M.err wh)) from by
                obtain ⟨_, h', _⟩ := H.turn.fst
                exact zbytes_any h' HI.out.ok wh)
              rw [← hB] at XB YB
              unfold GotBytes at XB YB
              rw [← hBL] at XB YB
              have SB := Lib.hid (fun (W : World) (xa ya : Option Addr) (xc yc : Nat) (h1 : BytesAt W xa B) (h2 : BytesAt W ya B) => sameBytes_any W xa ya B B xc yc h1 h2)
              rw [← hBL, decide_eq_true (rfl : B = B)] at SB
              have HBL := Lib.hid hBL
              generalize M.err wh = er at *
              clear hB hBL b0 b1 b2 b3 b4 HH5
              go_wp2_with fail
              ((with_reducible refine XB.out.mono ?_))
              rintro e w6 ⟨oa, oc, rfl, hown, hst⟩
              have HH6 := Lib.hid ((HP5.out.got hown hst).push)
              clear hown hst HP5 XB
              go_wp2_with fail
              ((with_reducible refine (YB.out _ _ _ HH6.out).mono ?_))
              rintro e w7 ⟨ya, yc, rfl, hown, hst⟩
              have HH7 := Lib.hid (HH6.out.still hst)
              have SB7 := Lib.hid (SB.out w7 oa ya oc yc (by
                obtain ⟨_, ⟨ho, _⟩, _, _⟩ := HH7.out.last
                rw [HBL.out] at ho
                exact BytesAt.of_own ho) (by rw [HBL.out] at hown; exact BytesAt.of_own hown))
              clear hown hst HH6 YB SB
              go_wp2_with fail
              ((with_reducible refine SB7.out.mono ?_))
              rintro e w' ⟨rfl, rfl⟩
              clear SB7
              go_wp2_with fail
              go_loopw [31] (fun i wz => ∃ (q : Nat) (xs : List Value), q ≤ BL ∧ i = .int .i64 q ∧ Held w wz ((PT x M).sep ((zT y M).sep ((ownT 3 1 ao l cc (ints had)).sep (ownT 5 1 oa BL oc xs))))) (fun i _ => BL - (intOf i).toNat)
              case atStart => exact ⟨0, _, Nat.zero_le _, rfl, HH7.out⟩
              case round =>
                clear HH7
                obtain ⟨q, xs, hq, rfl, H⟩ := hrel
                by_cases hqm : q < BL
                · obtain ⟨g, rfl, ⟨u, hu⟩, hfz⟩ := ownT_cell H.last hqm
                  have HS := Lib.hid (H.setLast q hqm (.int .u8 98))
                  clear H
                  go_wp2_with fail
                  go_roundw
                  case rel => exact ⟨q + 1, _, by omega, by go_num, HS.out⟩
                  case measure => simp [intOf]; omega
                · have HS := Lib.hid H.pop
                  have hqm2 : BL ≤ q := by omega
                  clear H hqm
                  go_wp2_with fail
                  go_meet
                  have hI2 := HI.out
                  have hl0 := hI2.le
                  exact ⟨by first | rfl | simp, ao, l, cc, M, had, rfl, HS.out, hI2.len, by omega, hI2.ok.mono (by omega), hI2.sl, hI2.sz, hI2.had⟩
        case rest =>
          clear HH5 b0 b1 b2 b3 b4 HI HWH HNN HBA HBN HML
          obtain ⟨rfl, ao', l', cc', M', had', rfl, hI'⟩ := hcut
          have hok := hI'.ok
          have hsl := hI'.sl
          have hsz := hI'.sz
          obtain ⟨W0, ⟨L, hZ⟩, _⟩ := hI'.held.turn.fst
          obtain ⟨W1, hP, _⟩ := hI'.held.fst
          obtain ⟨fl, hfl⟩ : ∃ fl, fl = M'.fr.length := ⟨_, rfl⟩
          have hfl2 : fl ≤ 128 := by rw [hfl]; exact hok.frlen
          have z3 : wc.cell? ⟨y, 3, none⟩ = some (.slice (some L.fa) fl L.fc) := hfl ▸ hZ.hd.cell rfl
          have z0 : wc.cell? ⟨y, 0, none⟩ = some (.slice (some ⟨L.gb, 0, none⟩) n n) := hsl ▸ hZ.hd.cell rfl
          have z1 : wc.cell? ⟨y, 1, none⟩ = some (.slice (some ⟨L.cb, 0, none⟩) n n) := hsl ▸ hZ.hd.cell rfl
          have HZ3 := Lib.hid (fun V (hT : Still wc V) => still_cell hT z3 rfl)
          have HZ0 := Lib.hid (fun V (hT : Still wc V) => still_cell hT z0 rfl)
          have HZ1 := Lib.hid (fun V (hT : Still wc V) => still_cell hT z1 rfl)
          have HZC := Lib.hid (fun (j : Nat) (hj : j < n) V (hT : Still wc V) => show V.cell? ⟨L.gb, j, none⟩ = some (.int .i64 (genOf M' j)) ∧ V.cell? ⟨L.cb, j, none⟩ = some (.int .i64 (cntOf M' j)) from by
            obtain ⟨u, hu⟩ := get_some (l := M'.sl) (i := j) (by rw [hsl]; exact hj)
            obtain ⟨q1, q2, _, _⟩ := hZ.cell hu
            have e1 : genOf M' j = (u.g : Int) := by unfold genOf; rw [if_pos ⟨by omega, by rw [hsl]; omega⟩, Int.toNat_natCast, hu]; rfl
            have e2 : cntOf M' j = (u.c : Int) := by unfold cntOf; rw [if_pos ⟨by omega, by rw [hsl]; omega⟩, Int.toNat_natCast, hu]; rfl
            rw [e1, e2]
            exact ⟨still_cell hT q1 rfl, still_cell hT q2 rfl⟩)
          have F1 := Lib.hid (fun V (hT : Still wc V) => show Calls Try.prog 27 #[.pointer (some ⟨x, 0, none⟩)] V fun e w' => ∃ a c, e = .returned (.slice a fl c) ∧ NumsAt w' a (nums M'.fr) ∧ Still wc w' from
            (A.free ((PT x M').keep hP hT (fun _ _ h => h)) hok (by omega) fl hfl).mono fun e w' ⟨a, c, he, ho, hs⟩ => ⟨a, c, he, NumsAt.of_own ho (by rw [nums_length, hfl]), hT.trans hs⟩)
          have F2 := Lib.hid (fun V (a : Option Addr) (c : Nat) (hT : Still wc V) (hA : NumsAt V a (nums M'.fr)) => show Calls Try.prog 26 #[.slice a fl c, .slice (some L.fa) fl L.fc] V fun e w' => e = .returned (.bool true) ∧ Still wc w' from by
            have := sameInts_any V a (some L.fa) (nums M'.fr) (nums M'.fr) c L.fc rfl (by rw [nums_length, ← hfl]; omega) hA (hZ.ff.still hT)
            rw [nums_length, ← hfl, decide_eq_true (rfl : nums M'.fr = nums M'.fr)] at this
            exact this.mono fun e w' ⟨he, q, hq⟩ => ⟨he, by rw [hq]; exact hT.drewN q⟩)
          have F3 := Lib.hid (fun V (hT : Still wc V) => show Calls Try.prog 28 #[.pointer (some ⟨x, 0, none⟩)] V fun e w' => e = .returned (.int .i64 n) ∧ Still wc w' from by
            have := A.slots ((PT x M').keep hP hT (fun _ _ h => h)) hok (by omega)
            rw [hsl] at this
            exact this.mono fun e w' ⟨he, hs⟩ => ⟨he, hT.trans hs⟩)
          have F4 := Lib.hid (fun V (hT : Still wc V) => show Calls Try.prog 29 #[.pointer (some ⟨x, 0, none⟩)] V fun e w' => e = .returned (.int .i64 s) ∧ Still wc w' from by
            have := A.size ((PT x M').keep hP hT (fun _ _ h => h)) hok (by omega)
            rw [hsz] at this
            exact this.mono fun e w' ⟨he, hs⟩ => ⟨he, hT.trans hs⟩)
          have F5 := Lib.hid (fun (j : Nat) (hj : j < n) V (hT : Still wc V) => show Calls Try.prog 30 #[.pointer (some ⟨x, 0, none⟩), .int .i64 j] V fun e w' => e = .returned (.int .i64 (cntOf M' j)) ∧ Still wc w' from
            (A.count ((PT x M').keep hP hT (fun _ _ h => h)) hok (by omega) j (i64_lit (by omega) (by omega))).mono fun e w' ⟨he, hs⟩ => ⟨he, hT.trans hs⟩)
          have F6 := Lib.hid (fun (j : Nat) (hj : j < n) V (hT : Still wc V) => show Calls Try.prog 31 #[.pointer (some ⟨x, 0, none⟩), .int .i64 j] V fun e w' => e = .returned (.int .i64 (genOf M' j)) ∧ Still wc w' from
            (A.gen ((PT x M').keep hP hT (fun _ _ h => h)) hok (by omega) j (i64_lit (by omega) (by omega))).mono fun e w' ⟨he, hs⟩ => ⟨he, hT.trans hs⟩)
          have HI := Lib.hid hI'
          have hTd : Still wc wc.drew := (Turned.refl _ _).drew
          clear hZ hP hfl hok hsl hsz hI' z0 z1
          go_wp2_with fail
          go_region_held3 (fun V => V.cell? ⟨y, 3, none⟩ = some (.slice (some L.fa) fl L.fc)) (first | assumption | go_keep) (first
            | (go_at_call 27; refine (F1.out _ (by assumption)).mono ?_; rintro e w5 ⟨a5, c5, rfl, hA5, hT5⟩; have g5 := HZ3.out w5 hT5)
            | (go_at_call 26; refine (F2.out _ _ _ (by assumption) (by assumption)).mono ?_; rintro e w6 ⟨rfl, hT6⟩; have g6 := HZ3.out w6 hT6)
            | (go_at_call 28; refine (F3.out _ (by assumption)).mono ?_; rintro e w7 ⟨rfl, hT7⟩; have g7 := HZ3.out w7 hT7)
            | (go_at_call 29; refine (F4.out _ (by assumption)).mono ?_; rintro e w8 ⟨rfl, hT8⟩; have g8 := HZ3.out w8 hT8))
          all_goals
            have HT8 := Lib.hid (show Still wc w8 from by assumption)
            clear g5 g6 g7 g8 F1 F2 F3 F4 z3 HZ3 hTd
            go_wp2_with fail
            go_loopw [32] (fun i wz => ∃ j : Nat, j ≤ n ∧ i = .int .i64 j ∧ Still wc wz) (fun i _ => n - (intOf i).toNat)
            case atStart => exact ⟨0, Nat.zero_le _, rfl, HT8.out⟩
            case round =>
              clear HT8
              obtain ⟨j, hj, rfl, hT⟩ := hrel
              by_cases hjn : j < n
              · have hTd := hT.drew
                have v0 := HZ0.out _ hT
                have v1 := HZ1.out _ hT
                obtain ⟨v2, v3⟩ := HZC.out j hjn _ hT
                have HV := Lib.hid (fun V (h : Still wc V) => And.intro (HZ0.out V h) (And.intro (HZ1.out V h) (HZC.out j hjn V h)))
                have G5 := Lib.hid (F5.out j hjn)
                have G6 := Lib.hid (F6.out j hjn)
                generalize cntOf M' j = cv at *
                generalize genOf M' j = gv at *
                go_wp2_with fail
                go_region_held3 (fun V => V.cell? ⟨y, 0, none⟩ = some (.slice (some ⟨L.gb, 0, none⟩) n n) ∧ V.cell? ⟨y, 1, none⟩ = some (.slice (some ⟨L.cb, 0, none⟩) n n) ∧ V.cell? ⟨L.gb, j, none⟩ = some (.int .i64 gv) ∧ V.cell? ⟨L.cb, j, none⟩ = some (.int .i64 cv)) (first | exact ⟨by assumption, by assumption, by assumption, by assumption⟩ | go_keep) (first
                  | (go_at_call 30; refine (G5.out _ (by assumption)).mono ?_; rintro e w15 ⟨rfl, hT15⟩; obtain ⟨x0, x1, x2, x3⟩ := HV.out w15 hT15)
                  | (go_at_call 31; refine (G6.out _ (by assumption)).mono ?_; rintro e w16 ⟨rfl, hT16⟩; obtain ⟨y0, y1, y2, y3⟩ := HV.out w16 hT16))
                all_goals
                  have HT16 := Lib.hid (show Still wc w16 from by assumption)
                  clear x0 x1 x2 x3 y0 y1 y2 y3 v0 v1 v2 v3
                  go_wp2_with fail
                  go_roundw
                  case rel => exact ⟨j + 1, by omega, by go_num, HT16.out⟩
                  case measure => simp [intOf]; omega
              · have HT9 := Lib.hid hT
                clear hT
                have hjn2 : n ≤ j := by omega
                clear hjn
                go_wp2_with fail
                go_roundw
                case rel =>
                  have hI2 := HI.out
                  exact ⟨k + 1, l', ao', cc', M', had', by omega, by omega, by go_num, rfl, hI2.held.still HT9.out, hI2.len, hI2.le, hI2.ok, hI2.sl, hI2.sz, hI2.had⟩
                case measure => simp [intOf]; omega
      · have hex : (k < tl ∧ 100 ≤ k) ∨ tl ≤ k := by omega
        have hok := hI.ok
        have hsl := hI.sl
        obtain ⟨W1, hP, _⟩ := hI.held.fst
        have hTw := hI.held.ground
        have F5 := Lib.hid (fun (j : Int) (hj : i64 j) (hz : cntOf M j = 0) V (hT : Still wr V) => show Calls Try.prog 30 #[.pointer (some ⟨x, 0, none⟩), .int .i64 j] V fun e w' => e = .returned (.int .i64 0) ∧ Still wr w' from by
          have := A.count ((PT x M).keep hP hT (fun _ _ h => h)) hok (by omega) j hj
          rw [hz] at this
          exact this.mono fun e w' ⟨he, hs⟩ => ⟨he, hT.trans hs⟩)
        have F6 := Lib.hid (fun V (hT : Still wr V) => show Calls Try.prog 31 #[.pointer (some ⟨x, 0, none⟩), .int .i64 (-1)] V fun e w' => e = .returned (.int .i64 0) ∧ Still wr w' from by
          have := A.gen ((PT x M).keep hP hT (fun _ _ h => h)) hok (by omega) (-1) (i64_lit (by omega) (by omega))
          rw [show genOf M (-1) = 0 by unfold genOf; rw [if_neg (by omega)]] at this
          exact this.mono fun e w' ⟨he, hs⟩ => ⟨he, hT.trans hs⟩)
        have E1 := Lib.hid (F5.out (-1) (i64_lit (by omega) (by omega)) (by unfold cntOf; rw [if_neg (by omega)]))
        have E2 := Lib.hid (F5.out n (i64_lit (by omega) (by omega)) (by unfold cntOf; rw [if_neg (by rw [hsl]; omega)]))
        have HTW := Lib.hid hTw
        clear hin hI hok hsl hP F5 hTw
        rcases hex with ⟨q1, q2⟩ | q1
        all_goals
          go_wp2_with fail
          ((with_reducible refine (E1.out _ (Turned.refl _ _)).mono ?_))
          rintro e w5 ⟨rfl, hT5⟩
          have HT5 := Lib.hid hT5
          clear hT5
          go_wp2_with fail
          ((with_reducible refine (E2.out _ HT5.out).mono ?_))
          rintro e w6 ⟨rfl, hT6⟩
          have HT6 := Lib.hid hT6
          clear hT6 HT5
          go_wp2_with fail
          ((with_reducible refine (F6.out _ HT6.out).mono ?_))
          rintro e w7 ⟨rfl, hT7⟩
          have HT7 := Lib.hid hT7
          clear hT7 HT6
          go_wp2_with fail
          refine (works5 A _).mono ?_
          rintro e w8 ⟨rfl, hT8⟩
          have HT8 := Lib.hid (HTW.out.trans (HT7.out.trans hT8))
          clear hT8
          go_wp2_with fail
          go_ret
          exact ⟨by first | rfl | simp, HT8.out⟩
  · have C0 := Lib.hid (fun W => A.make_no n0 s0 W ⟨i1.1, i1.2⟩ ⟨i2.1, i2.2⟩ hg)
    have C1 := Lib.hid (fun W => zmake_arg n0 s0 W hg)
    clear hg h1 h0 h0'
    go_enter Try.func3, Try.ntmps3
    go_wp2_with fail
    refine (C0.out _).mono ?_
    rintro e w1 ⟨rfl, hT⟩
    have HT := Lib.hid hT
    clear hT
    go_wp2_with fail
    refine (C1.out _).mono ?_
    rintro e w' ⟨rfl, rfl⟩
    go_wp2_with fail
    refine (works5 A _).mono ?_
    rintro e w8 ⟨rfl, hT8⟩
    have HT8 := Lib.hid (HT.out.trans hT8)
    clear hT8
    go_wp2_with fail
    go_ret
    exact ⟨by first | rfl | simp, HT8.out⟩
end Go.Proofs.Ytinfckoaphgmkaa
