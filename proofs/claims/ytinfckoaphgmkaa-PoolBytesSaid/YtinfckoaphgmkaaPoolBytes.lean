/- PoolBytes: the walk. No condition but that the program's pool keeps its words. -/
import Derived.Test.YtinfckoaphgmkaaPoolStaleWalk
import Derived.Test.YtinfckoaphgmkaaBytesMath
namespace Go.Proofs.Ytinfckoaphgmkaa
open Go.RowKit
set_option linter.unusedVariables false
set_option maxRecDepth 100000

set_option maxHeartbeats 16000000 in
theorem bytes_walk {PT : Nat → PM → Thing} (A : PoolApi PT) (n0 : Int) (s : Sl Act5) (bs : Sl UInt8) (k0 : Int) (w : World) (h1 : SlOk encAct5 okAct5 5 w s) (h2 : SlOk encB okB 1 w bs) :
    Calls Try.prog 6 #[.int .i64 n0, .slice s.a s.len s.cap, .slice bs.a bs.len bs.cap, .int .i64 k0] w fun e w' => e = .returned (.bool true) ∧ Still w w' := by
  obtain ⟨N1, hN1⟩ : ∃ x, x = am n0 9 := ⟨_, rfl⟩
  have hn1 : N1 < 9 := by rw [hN1]; exact am_lt _ (by omega)
  have B1 := Lib.hid (fun W => among_lit n0 9 9 N1 rfl hN1 (by omega) (by omega) W)
  obtain ⟨K, hK⟩ : ∃ x, x = am k0 5 := ⟨_, rfl⟩
  have hK1 : K < 5 := by rw [hK]; exact am_lt _ (by omega)
  have B2 := Lib.hid (fun W => among_lit k0 5 5 K rfl hK (by omega) (by omega) W)
  obtain ⟨n, hn⟩ : ∃ n, n = N1 + 2 := ⟨_, rfl⟩
  have en : (2 : Int) + (N1 : Int) = n := by omega
  have n1 : 1 ≤ n := by omega
  have n2 : n ≤ 128 := by omega
  obtain ⟨sa, sl, sc, sx⟩ := s
  have hscap : sl ≤ sc := h1.le
  have hsmax : sc ≤ maxLen := h1.max
  unfold maxLen at hsmax
  have HSX := Lib.hid h1
  have HSL : Hid (sx.length = sl) := Lib.hid h1.len
  obtain ⟨ba, bl, bc, bx⟩ := bs
  have hbcap : bl ≤ bc := h2.le
  have hbmax : bc ≤ maxLen := h2.max
  unfold maxLen at hbmax
  have hbl : bx.length = bl := h2.len
  have hbn := h2.none
  have hbr := (BytesAt.of_row h2.row).take 8
  obtain ⟨b, hb⟩ : ∃ b, b = bx.take 8 := ⟨_, rfl⟩
  obtain ⟨m, hm⟩ : ∃ m, m = b.length := ⟨_, rfl⟩
  have hm8 : m ≤ 8 := by rw [hm, hb, List.length_take]; omega
  have hmb : (m = bl ∧ bl ≤ 8) ∨ (m = 8 ∧ 8 < bl) := by rw [hm, hb, List.length_take, hbl]; omega
  dsimp only at hbr hbn
  rw [← hb] at hbr
  have HBA := Lib.hid (show ∀ W, Still w W → BytesAt W ba b from fun W hT => hbr.still hT)
  have HBN := Lib.hid (show ba = none → bc = 0 from fun e => (hbn e).2)
  have HML := Lib.hid hm
  obtain ⟨i0, hi, hz0, hz1, hz2⟩ := info_parts infoIntW
  -- the first that is taken, and filled
  obtain ⟨f1, f2, f3⟩ := first_take n1 hm8
  obtain ⟨M0, hM0⟩ : ∃ M, M = PM.new n 8 := ⟨_, rfl⟩
  obtain ⟨M1, hM1⟩ : ∃ M, M = M0.takeM m := ⟨_, rfl⟩
  obtain ⟨M2, hM2⟩ : ∃ M, M = M1.fillM 1 b := ⟨_, rfl⟩
  rw [← hM0] at f1 f2 f3
  rw [← hM1] at f3
  obtain ⟨g1, g2⟩ := f3.filled (by decide) (b := b) (by simp [hm])
  rw [← hM2] at g2
  have o0 : M0.Ok 1 := hM0 ▸ (PM.new_ok n1 n2 (by omega) (by omega)).mono (by omega)
  have o1 : M1.Ok 1 := hM1 ▸ o0.take (by omega) m
  have o2 : M2.Ok 1 := hM2 ▸ o1.fill 1 b
  have C0 := Lib.hid (fun W => A.make_ok n 8 W n1 n2 (by omega) (by omega))
  have C1 := Lib.hid (fun (W : World) (q : Nat) (R : Thing) (H : Held w W ((PT q M0).sep R)) => H.call (fun _ h => A.take h o0 (by omega) m (i64_lit (by omega) (by omega))))
  rw [f1, f2, ← hM1] at C1
  have C2 := Lib.hid (fun (W : World) (q : Nat) (R : Thing) (H : Held w W ((PT q M1).sep R)) => H.call (fun _ h => A.fill h o1 (by omega) 1 (i64_lit (by omega) (by omega)) ba b m bc hm (HBA.out W H.ground) (by omega) (by omega) (by unfold maxLen; omega) HBN.out))
  rw [g1, ← hM2] at C2
  have HO2 := Lib.hid o2
  have HF2 := Lib.hid g2
  have HM0 := Lib.hid hM0
  have KEEP := Lib.hid (fun (M : PM) (c : Nat) (hF : M.Fst (c + 1) b) (hM : M.Ok (c + 1)) (hc : c < 10) (W : World) (q : Nat) (R : Thing) (H : Held w W ((PT q M).sep R)) => show Calls Try.prog 19 #[.pointer (some ⟨q, 0, none⟩), .int .i64 1] W fun e w' => e = .returned (.int .i64 0) ∧ Held w w' ((PT q (M.keepM 1)).sep R) from by
    have := H.call (fun _ h => A.keep h hM (by omega) 1 (i64_lit (by omega) (by omega)))
    rwa [(hF.err (Nat.succ_ne_zero c)).1] at this)
  clear hN1 hK hn h1 h2 hbn hbr hb hm f1 f2 f3 hM1 hM2 o0 o1 o2 g1 g2 hM0 hbl
  dsimp only
  go_enter Try.func6, Try.ntmps6
  go_wp2_with fail
  refine (works5 A _).mono ?_
  rintro e w1 ⟨rfl, hT⟩
  have HT := Lib.hid hT
  clear hT
  go_wp2_with fail
  refine (B1.out _).mono ?_
  rintro e w' ⟨rfl, rfl⟩
  go_wp2_with fail
  refine (C0.out _).mono ?_
  intro e w2 hN
  obtain ⟨q, rfl, H⟩ := Held.made HT.out hN
  rw [← HM0.out] at H
  have HH := Lib.hid H
  clear hN C0 H HT B1 en hn1
  have hif : (if (8 : Int) < (bl : Int) then (8 : Int) else (bl : Int)) = (m : Int) := by
    rcases hmb with ⟨e1, e2⟩ | ⟨e1, e2⟩
    · rw [if_neg (by omega), e1]
    · rw [if_pos (by omega), e1]; rfl
  have hx : (m : Int) ≤ (bc : Int) := by omega
  have hx0 : (0 : Int) ≤ (m : Int) := by omega
  clear hmb
  go_wp2_with fail
  refine (C1.out _ _ _ HH.out).mono ?_
  rintro e w3 ⟨rfl, H⟩
  have HH3 := Lib.hid H
  clear H HH C1 hif hx
  go_wp2_with fail
  refine (C2.out _ _ _ HH3.out).mono ?_
  rintro e w4 ⟨rfl, H⟩
  have HH4 := Lib.hid H
  clear H HH3 C2
  go_wp2_with fail
  refine (B2.out _).mono ?_
  rintro e w' ⟨rfl, rfl⟩
  clear B2
  go_wp2_with fail
  go_loopw [14] (fun i wr => ∃ (k : Nat) (M : PM), k ≤ K ∧ i = .int .i64 k ∧ Held w wr ((PT q M).sep Thing.none) ∧ M.Fst (k + 1) b ∧ M.Ok (k + 1)) (fun i _ => K - (intOf i).toNat)
  case atStart => exact ⟨0, M2, Nat.zero_le _, rfl, HH4.out, HF2.out, HO2.out⟩
  case round =>
    clear HH4 HF2 HO2
    obtain ⟨k, M, hk, rfl, H, hF, hM⟩ := hrel
    by_cases hlt : k < K
    · have D := Lib.hid (KEEP.out M k hF hM (by omega) wr q _ H)
      have HX := Lib.hid (show (M.keepM 1).Fst (k + 1 + 1) b ∧ (M.keepM 1).Ok (k + 1 + 1) from ⟨hF.keep (Nat.succ_ne_zero k), hM.keep 1⟩)
      clear H hF hM
      go_wp2_with fail
      refine D.out.mono ?_
      rintro e w5 ⟨rfl, H⟩
      have HH5 := Lib.hid H
      clear H D
      go_wp2_with fail
      go_roundw
      case rel => exact ⟨k + 1, _, by omega, by go_num, HH5.out, HX.out⟩
      case measure => simp [intOf]; omega
    · obtain rfl : k = K := by omega
      have HF := Lib.hid hF
      have HM := Lib.hid hM
      have HH5 := Lib.hid (show Held w (wr.alloc (.cells #[] 3)) ((PT q M).sep (ownT 3 1 (some ⟨wr.heap.size, 0, none⟩) 0 0 (ints []))) from (H.drop).new2 3 1)
      clear H hF hM KEEP
      go_wp2_with fail
      go_loopw [15, 16] (fun p i wr => ∃ (j l : Nat) (ao : Option Addr) (cc : Nat) (M : PM) (had : List Int), j ≤ sl ∧ j ≤ 60 ∧ l ≤ j ∧ i = .int .i64 j ∧ p = .slice ao l cc ∧ had.length = l ∧ Held w wr ((PT q M).sep (ownT 3 1 ao l cc (ints had))) ∧ M.Fst (k + 1) b ∧ M.Ok (k + 1 + j) ∧ ∀ h ∈ had, hSlot h ≠ 0 ∧ 0 ≤ h ∧ h ≤ 1000000) (fun _ i _ => sl - (intOf i).toNat)
      case atStart => exact ⟨0, 0, _, 0, M, [], Nat.zero_le _, Nat.zero_le _, Nat.zero_le _, rfl, rfl, rfl, HH5.out, HF.out, HM.out, fun h hh => by cases hh⟩
      case round =>
        clear HH5 HF HM M
        obtain ⟨j, l, ao, cc, M, had, hj, hj1, hlj, rfl, rfl, hl, H, hF, hM, hG⟩ := hrel
        by_cases hin : j < sl ∧ j < 60
        · obtain ⟨hlt, h60⟩ := hin
          obtain ⟨x, hx⟩ := get_some (l := sx) (i := j) (by rw [HSL.out]; exact hlt)
          obtain ⟨bb, o, rfl, hc⟩ := HSX.out.row j x hx
          obtain ⟨d, nn, h, hd, by_⟩ := x
          have HC := Lib.hid (fun (W : World) (hT : Still w W) => show W.cell? ⟨bb, o + j * 5 + 1, none⟩ = some (.int .i64 nn) ∧ W.cell? ⟨bb, o + j * 5 + 2, none⟩ = some (.int .i64 h) ∧ W.cell? ⟨bb, o + j * 5 + 3, none⟩ = some (.bool hd) from
            ⟨still_cell hT (hc 1 _ rfl) (by omega), still_cell hT (hc 2 _ rfl) (by omega), still_cell hT (hc 3 _ rfl) (by omega)⟩)
          obtain ⟨y, hy⟩ : ∃ y, y = am nn 9 := ⟨_, rfl⟩
          have hyl : y < 9 := by rw [hy]; exact am_lt _ (by omega)
          have B3 := Lib.hid (fun W => among_lit nn 9 9 y rfl hy (by omega) (by omega) W)
          obtain ⟨p1, p2⟩ := hF.take (Nat.succ_ne_zero k) hM (by omega) (y : Int)
          have p3 := hM.take (by omega) (y : Int)
          have D1 := Lib.hid (H.call (fun _ x => A.take x hM (by omega) y (i64_lit (by omega) (by omega))))
          obtain ⟨c1, _, _⟩ := HC.out wr H.ground
          have HLL := Lib.hid hl
          clear hx hc hy H hl hM hF
          rcases hd with _ | _
          · by_cases he : M.takeE y = 0
            · obtain ⟨q1, q2, q3⟩ := p2 he
              obtain ⟨th, hth⟩ : ∃ th, th = M.takeH y := ⟨_, rfl⟩
              rw [he, ← hth] at D1
              rw [← hth] at q1 q2 q3
              obtain ⟨M', hM'⟩ : ∃ M', M' = M.takeM y := ⟨_, rfl⟩
              rw [← hM'] at D1 p1 p3
              have HX := Lib.hid (show (M'.fillM th (List.replicate y 0)).Fst (k + 1) b ∧ (M'.fillM th (List.replicate y 0)).Ok (k + 1 + j) ∧ ∀ h ∈ had ++ [th], hSlot h ≠ 0 ∧ 0 ≤ h ∧ h ≤ 1000000 from ⟨p1.fill q1 _, p3.fill th _, fun h hh => by
                rcases List.mem_append.1 hh with hh | hh
                · exact hG h hh
                · simp at hh; subst hh; exact ⟨q1, q2, q3⟩⟩)
              have D2 := Lib.hid (fun (W : World) (R : Thing) (H : Held w W ((PT q M').sep R)) (xa : Option Addr) (hA : BytesAt W xa (List.replicate y 0)) (hn : xa = none → y = 0) => H.call (fun _ x => A.fill x p3 (by omega) th (i64_lit (by omega) (by omega)) xa (List.replicate y 0) y y (by simp) hA (by simp; omega) (Nat.le_refl _) (by unfold maxLen; omega) hn))
              have HL1 := Lib.hid (show (had ++ [th]).length = l + 1 by rw [List.length_append, HLL.out]; rfl)
              obtain ⟨i1, ki, kz0, kz1, kz2⟩ := info_parts infoByte
              have hb : (i1.bytes : Int) * (y : Int) ≤ 281474976710656 := by rw [kz2]; omega
              have hmk := fun W : World => run_make (P := Try.prog) W 32 5 i1 _ Try.underlying32 ki kz0 .i64 .i64 (y : Int) (y : Int) (Int.natCast_nonneg y) (Int.le_refl _) hb (by omega)
              simp only [kz1, Int.toNat_natCast, Nat.mul_one, show Value.cells (.int .u8 0) = #[.int .u8 0] from rfl, made_byt] at hmk
              clear ki kz0 kz1 kz2 hb p1 p2 p3 q1 q2 q3 hG he hth hM'
              go_wp2_with (go_at_call 13; ((with_reducible refine (B3.out _).mono ?_)); rintro e w' ⟨rfl, rfl⟩)
              ((with_reducible refine D1.out.mono ?_))
              rintro e w5 ⟨rfl, H⟩
              have HH5 := Lib.hid H
              obtain ⟨c1', _, _⟩ := HC.out w5 H.ground
              clear H D1 c1
              have HF5 := Lib.hid (D2.out (w5.alloc (.cells (byt (List.replicate y 0)).toArray 5)) _ (HH5.out.still ((Turned.refl _ _).alloc _)) (some ⟨w5.heap.size, 0, none⟩) (BytesAt.of_blk (r := []) (by rw [List.append_nil]; exact Blk.new w5 (byt (List.replicate y 0)) 5)) (fun e => by cases e))
              go_wp2_with (go_at_call 13; ((with_reducible refine (B3.out _).mono ?_)); rintro e w' ⟨rfl, rfl⟩)
              ((with_reducible refine HF5.out.mono ?_))
              rintro e w6 ⟨rfl, H⟩
              have HH6 := Lib.hid H
              clear H HF5 HH5 D2 hmk c1'
              go_wp2_with (at_builtin; refine wpList_append_own_at _ rfl (.tmp 101) (.tmp 103) 31 rfl 0 3 i0 (.int .i64 0) 1 8 Try.underlying31 hi hz0 hz1 hz2 rfl (by decide) (.slice ao l cc) l (ints had) rfl (ow_still HH6.out.own ((Turned.refl _ _).alloc _)) ⟨w6.heap.size, 0, none⟩ 1 1 [.int .i64 th] rfl rfl (ow_cells w6 _ _) (ow_ints rfl) (by unfold maxLen; omega) (by omega) (Nat.zero_le _) ?_; intro v8 w8 hown8 hg8 _ hat8; obtain ⟨a8, c8, rfl⟩ := ow_slice hown8; have HH8 := Lib.hid (show Held w w8 ((PT q (M'.fillM th (List.replicate y 0))).sep (ownT 3 1 a8 (l + 1) c8 (ints (had ++ [th])))) from by have := HH6.out.grown hown8 hg8 hat8; simpa [ints] using this); obtain ⟨e1, e2, e3⟩ := HC.out w8 HH8.out.ground; clear hown8 hg8 hat8 HH6 HC)
              go_roundw
              case rel => exact ⟨j + 1, l + 1, a8, c8, _, had ++ [th], by omega, by omega, by omega, by go_num, rfl, HL1.out, HH8.out, HX.out.1, HX.out.2.1.mono (by omega), HX.out.2.2⟩
              case measure => simp [intOf]; omega
            · have hbe : (M.takeE y == 0) = false := by rw [beq_eq_false_iff_ne]; exact he
              have HX := Lib.hid (show (M.takeM y).Fst (k + 1) b ∧ (M.takeM y).Ok (k + 1 + j) ∧ ∀ h ∈ had, hSlot h ≠ 0 ∧ 0 ≤ h ∧ h ≤ 1000000 from ⟨p1, p3, hG⟩)
              generalize M.takeE y = te at *
              generalize M.takeH y = th at *
              clear p1 p2 p3 hG he
              go_wp2_with (go_at_call 13; ((with_reducible refine (B3.out _).mono ?_)); rintro e w' ⟨rfl, rfl⟩)
              ((with_reducible refine D1.out.mono ?_))
              rintro e w5 ⟨rfl, H⟩
              have HH5 := Lib.hid H
              clear H D1 c1
              obtain ⟨e1, e2, e3⟩ := HC.out w5 HH5.out.ground
              clear HC
              go_wp2_with fail
              go_roundw
              case rel => exact ⟨j + 1, l, ao, cc, _, had, by omega, by omega, by omega, by go_num, rfl, HLL.out, HH5.out, HX.out.1, HX.out.2.1.mono (by omega), HX.out.2.2⟩
              case measure => simp [intOf]; omega
          · by_cases he : M.takeE y = 0
            · obtain ⟨q1, q2, q3⟩ := p2 he
              obtain ⟨th, hth⟩ : ∃ th, th = M.takeH y := ⟨_, rfl⟩
              rw [he, ← hth] at D1
              rw [← hth] at q1 q2 q3
              obtain ⟨M', hM'⟩ : ∃ M', M' = M.takeM y := ⟨_, rfl⟩
              rw [← hM'] at D1 p1 p3
              have HX := Lib.hid (show (M'.fillM th (List.replicate y 0)).Fst (k + 1) b ∧ (M'.fillM th (List.replicate y 0)).Ok (k + 1 + j) ∧ ∀ h ∈ had ++ [th], hSlot h ≠ 0 ∧ 0 ≤ h ∧ h ≤ 1000000 from ⟨p1.fill q1 _, p3.fill th _, fun h hh => by
                rcases List.mem_append.1 hh with hh | hh
                · exact hG h hh
                · simp at hh; subst hh; exact ⟨q1, q2, q3⟩⟩)
              have D2 := Lib.hid (fun (W : World) (R : Thing) (H : Held w W ((PT q M').sep R)) (xa : Option Addr) (hA : BytesAt W xa (List.replicate y 0)) (hn : xa = none → y = 0) => H.call (fun _ x => A.fill x p3 (by omega) th (i64_lit (by omega) (by omega)) xa (List.replicate y 0) y y (by simp) hA (by simp; omega) (Nat.le_refl _) (by unfold maxLen; omega) hn))
              have HL1 := Lib.hid (show (had ++ [th]).length = l + 1 by rw [List.length_append, HLL.out]; rfl)
              obtain ⟨i1, ki, kz0, kz1, kz2⟩ := info_parts infoByte
              have hb : (i1.bytes : Int) * (y : Int) ≤ 281474976710656 := by rw [kz2]; omega
              have hmk := fun W : World => run_make (P := Try.prog) W 32 5 i1 _ Try.underlying32 ki kz0 .i64 .i64 (y : Int) (y : Int) (Int.natCast_nonneg y) (Int.le_refl _) hb (by omega)
              simp only [kz1, Int.toNat_natCast, Nat.mul_one, show Value.cells (.int .u8 0) = #[.int .u8 0] from rfl, made_byt] at hmk
              clear ki kz0 kz1 kz2 hb p1 p2 p3 q1 q2 q3 hG he hth hM'
              go_wp2_with (go_at_call 13; ((with_reducible refine (B3.out _).mono ?_)); rintro e w' ⟨rfl, rfl⟩)
              ((with_reducible refine D1.out.mono ?_))
              rintro e w5 ⟨rfl, H⟩
              have HH5 := Lib.hid H
              obtain ⟨c1', _, _⟩ := HC.out w5 H.ground
              clear H D1 c1
              have HF5 := Lib.hid (D2.out (w5.alloc (.cells (byt (List.replicate y 0)).toArray 5)) _ (HH5.out.still ((Turned.refl _ _).alloc _)) (some ⟨w5.heap.size, 0, none⟩) (BytesAt.of_blk (r := []) (by rw [List.append_nil]; exact Blk.new w5 (byt (List.replicate y 0)) 5)) (fun e => by cases e))
              go_wp2_with (go_at_call 13; ((with_reducible refine (B3.out _).mono ?_)); rintro e w' ⟨rfl, rfl⟩)
              ((with_reducible refine HF5.out.mono ?_))
              rintro e w6 ⟨rfl, H⟩
              have HH6 := Lib.hid H
              clear H HF5 HH5 D2 hmk c1'
              go_wp2_with (at_builtin; refine wpList_append_own_at _ rfl (.tmp 101) (.tmp 103) 31 rfl 0 3 i0 (.int .i64 0) 1 8 Try.underlying31 hi hz0 hz1 hz2 rfl (by decide) (.slice ao l cc) l (ints had) rfl (ow_still HH6.out.own ((Turned.refl _ _).alloc _)) ⟨w6.heap.size, 0, none⟩ 1 1 [.int .i64 th] rfl rfl (ow_cells w6 _ _) (ow_ints rfl) (by unfold maxLen; omega) (by omega) (Nat.zero_le _) ?_; intro v8 w8 hown8 hg8 _ hat8; obtain ⟨a8, c8, rfl⟩ := ow_slice hown8; have HH8 := Lib.hid (show Held w w8 ((PT q (M'.fillM th (List.replicate y 0))).sep (ownT 3 1 a8 (l + 1) c8 (ints (had ++ [th])))) from by have := HH6.out.grown hown8 hg8 hat8; simpa [ints] using this); obtain ⟨t, ht⟩ : ∃ t, t = am h (l + 1) := ⟨_, rfl⟩; have htl : t < l + 1 := (by rw [ht]; exact am_lt _ (by omega)); have hl1 : 0 < l + 1 := (by omega); have B4 := Lib.hid (fun W => among_lit h ((l : Int) + 1) (l + 1) t (by omega) ht (by omega) (by omega) W); obtain ⟨z, hz⟩ := get_some (l := (had ++ [th])) (i := t) (by rw [HL1.out]; exact htl); obtain ⟨hz1', hz2', hz3'⟩ := HX.out.2.2 z (List.mem_of_getElem? hz); obtain ⟨bz, oz, hao, hcz⟩ := (HH8.out.ints HL1.out.symm) t z hz; have D4 := Lib.hid (HH8.out.call (fun _ x => A.drop x HX.out.2.1 (by omega) z (i64_lit (by omega) (by omega)))); have HY := Lib.hid (show ((M'.fillM th (List.replicate y 0)).dropM z).Fst (k + 1) b ∧ ((M'.fillM th (List.replicate y 0)).dropM z).Ok (k + 1 + (j + 1)) from ⟨HX.out.1.drop_other hz1', (HX.out.2.1.drop z).mono (by omega)⟩); subst hao; clear hz ht; obtain ⟨e1, e2, e3⟩ := HC.out w8 HH8.out.ground; clear hown8 hg8 hat8 HH6 HC)
              ((with_reducible refine (B4.out _).mono ?_))
              rintro e w' ⟨rfl, rfl⟩
              go_wp2_with fail
              ((with_reducible refine D4.out.mono ?_))
              rintro e w9 ⟨rfl, H⟩
              have HH9 := Lib.hid H
              clear H D4
              go_wp2_with fail
              go_roundw
              case rel => exact ⟨j + 1, l + 1, _, c8, _, (had ++ [th]), by omega, by omega, by omega, by go_num, rfl, HL1.out, HH9.out, HY.out.1, HY.out.2, HX.out.2.2⟩
              case measure => simp [intOf]; omega
            · have hbe : (M.takeE y == 0) = false := by rw [beq_eq_false_iff_ne]; exact he
              have HX := Lib.hid (show (M.takeM y).Fst (k + 1) b ∧ (M.takeM y).Ok (k + 1 + j) ∧ ∀ h ∈ had, hSlot h ≠ 0 ∧ 0 ≤ h ∧ h ≤ 1000000 from ⟨p1, p3, hG⟩)
              generalize M.takeE y = te at *
              generalize M.takeH y = th at *
              clear p1 p2 p3 hG he
              go_wp2_with (go_at_call 13; ((with_reducible refine (B3.out _).mono ?_)); rintro e w' ⟨rfl, rfl⟩)
              ((with_reducible refine D1.out.mono ?_))
              rintro e w5 ⟨rfl, H⟩
              have HH5 := Lib.hid H
              clear H D1 c1
              by_cases hl0 : l = 0
              · subst hl0
                obtain ⟨e1, e2, e3⟩ := HC.out w5 HH5.out.ground
                clear HC
                go_wp2_with fail
                go_roundw
                case rel => exact ⟨j + 1, 0, ao, cc, _, had, by omega, by omega, by omega, by go_num, rfl, HLL.out, HH5.out, HX.out.1, HX.out.2.1.mono (by omega), HX.out.2.2⟩
                case measure => simp [intOf]; omega
              · obtain ⟨e1, e2, e3⟩ := HC.out w5 HH5.out.ground
                clear HC
                obtain ⟨t, ht⟩ : ∃ t, t = am h (l) := ⟨_, rfl⟩
                have htl : t < l := by rw [ht]; exact am_lt _ (by omega)
                have hl1 : 0 < l := by omega
                have B4 := Lib.hid (fun W => among_lit h ((l : Int)) (l) t (by omega) ht (by omega) (by omega) W)
                obtain ⟨z, hz⟩ := get_some (l := had) (i := t) (by rw [HLL.out]; exact htl)
                obtain ⟨hz1', hz2', hz3'⟩ := HX.out.2.2 z (List.mem_of_getElem? hz)
                obtain ⟨bz, oz, hao, hcz⟩ := (HH5.out.ints HLL.out.symm) t z hz
                have D4 := Lib.hid (HH5.out.call (fun _ x => A.drop x HX.out.2.1 (by omega) z (i64_lit (by omega) (by omega))))
                have HY := Lib.hid (show ((M.takeM y).dropM z).Fst (k + 1) b ∧ ((M.takeM y).dropM z).Ok (k + 1 + (j + 1)) from ⟨HX.out.1.drop_other hz1', (HX.out.2.1.drop z).mono (by omega)⟩)
                subst hao
                clear hz ht
                clear hl0
                go_wp2_with fail
                ((with_reducible refine (B4.out _).mono ?_))
                rintro e w' ⟨rfl, rfl⟩
                go_wp2_with fail
                ((with_reducible refine D4.out.mono ?_))
                rintro e w9 ⟨rfl, H⟩
                have HH9 := Lib.hid H
                clear H D4
                go_wp2_with fail
                go_roundw
                case rel => exact ⟨j + 1, l, _, cc, _, had, by omega, by omega, by omega, by go_num, rfl, HLL.out, HH9.out, HY.out.1, HY.out.2, HX.out.2.2⟩
                case measure => simp [intOf]; omega
        · have hex : (j < sl ∧ 60 ≤ j) ∨ sl ≤ j := by omega
          have HH6 := Lib.hid H
          have HF6 := Lib.hid hF
          have HM6 := Lib.hid (hM.mono (N' := k + 61) (by omega))
          obtain ⟨R, hR⟩ : ∃ R, R = ownT 3 1 ao l cc (ints had) := ⟨_, rfl⟩
          rw [← hR] at HH6
          clear hin H hF hM hG hl hR
          rcases hex with ⟨g1, g2⟩ | g1
          all_goals
            go_wp2_with fail
            go_loopw [19] (fun i wr => ∃ (t : Nat) (M : PM), t ≤ k + 1 ∧ i = .int .i64 t ∧ Held w wr ((PT q M).sep R) ∧ (t ≤ k → M.Fst (k - t + 1) b) ∧ (t = k + 1 → M.err 1 = 40) ∧ M.Ok (k + 61 + t)) (fun i _ => k + 1 - (intOf i).toNat)
            case atStart => exact ⟨0, M, Nat.zero_le _, rfl, HH6.out, fun _ => HF6.out, fun h => by omega, HM6.out⟩
            case round =>
              clear HH6 HF6 HM6 M
              obtain ⟨t, M, ht, rfl, H, hF, hE, hM⟩ := hrel
              by_cases htk : t ≤ k
              · have hF := hF htk
                obtain ⟨d1, d2, d3⟩ := hF.drop
                obtain ⟨he, _⟩ := hF.err (Nat.succ_ne_zero _)
                have hb0 := hF.bytes (Nat.succ_ne_zero _)
                have D1 := Lib.hid (show Calls Try.prog 23 #[.pointer (some ⟨q, 0, none⟩), .int .i64 1] wr (GotBytes wr (M.bytes 1) (M.err 1)) from by
                  obtain ⟨_, h, _⟩ := H.fst
                  exact A.bytes h hM (by omega) 1 (i64_lit (by omega) (by omega)))
                rw [hb0, he] at D1
                unfold GotBytes at D1
                rw [← HML.out] at D1
                have D2 := Lib.hid (fun (W : World) (R : Thing) (H : Held w W ((PT q M).sep R)) => H.call (fun _ h => A.drop h hM (by omega) 1 (i64_lit (by omega) (by omega))))
                rw [d1, he] at D2
                obtain ⟨c, hc⟩ : ∃ c, c = k - t := ⟨_, rfl⟩
                rw [← hc] at D2
                have hce : ((c : Int) != (k : Int) - (t : Int)) = false := by rw [bne_eq_false_iff_eq]; omega
                have D3 := Lib.hid (fun (W : World) (xa : Option Addr) (xc : Nat) (hT : Still w W) (hA : BytesAt W xa b) => sameBytes_any W xa ba b b xc bc hA (HBA.out W hT))
                rw [← HML.out, decide_eq_true (rfl : b = b)] at D3
                have HX := Lib.hid (show (t + 1 ≤ k → (M.dropM 1).Fst (k - (t + 1) + 1) b) ∧ (t + 1 = k + 1 → (M.dropM 1).err 1 = 40) ∧ (M.dropM 1).Ok (k + 61 + (t + 1)) from
                  ⟨fun h => by have := d2 (by omega); rwa [show k - (t + 1) + 1 = k - t by omega], fun h => d3 (by omega), hM.drop 1⟩)
                have HH7 := Lib.hid H
                clear H hF hE hM d1 d2 d3 he hb0 hc
                go_wp2_with fail
                refine D1.out.mono ?_
                rintro e w6 ⟨xa, xc, rfl, hown, hst⟩
                have HH8 := Lib.hid ((HH7.out.got hown hst).assoc)
                clear hown hst HH7 D1
                go_wp2_with fail
                refine (D2.out _ _ HH8.out).mono ?_
                rintro e w7 ⟨rfl, H⟩
                have HH9 := Lib.hid H
                have HBX := Lib.hid (show BytesAt w7 xa b from by have := H.assoc'.own; rw [HML.out] at this; exact BytesAt.of_own this)
                clear H D2 HH8
                go_wp2_with fail
                ((with_reducible refine (D3.out w7 xa xc HH9.out.ground HBX.out).mono ?_))
                rintro e w' ⟨rfl, rfl⟩
                clear D3 HBX
                go_wp2_with fail
                go_roundw
                case rel => exact ⟨t + 1, _, by omega, by go_num, HH9.out.assoc'.drop, HX.out⟩
                case measure => simp [intOf]; omega
              · have he := hE (by omega)
                have D1 := Lib.hid (show Calls Try.prog 23 #[.pointer (some ⟨q, 0, none⟩), .int .i64 1] wr (GotBytes wr (M.bytes 1) (M.err 1)) from by
                  obtain ⟨_, h, _⟩ := H.fst
                  exact A.bytes h hM (by omega) 1 (i64_lit (by omega) (by omega)))
                rw [show M.bytes 1 = [] by unfold PM.bytes; rw [if_pos (by rw [he]; decide)], he] at D1
                have HH7 := Lib.hid H
                clear H hF hE hM he
                go_wp2_with fail
                refine D1.out.mono ?_
                rintro e w6 ⟨xa, xc, rfl, hown, hst⟩
                have HH8 := Lib.hid (HH7.out.still hst)
                clear hown hst HH7 D1
                go_wp2_with fail
                go_ret
                exact ⟨by first | rfl | simp, HH8.out.ground⟩
end Go.Proofs.Ytinfckoaphgmkaa
