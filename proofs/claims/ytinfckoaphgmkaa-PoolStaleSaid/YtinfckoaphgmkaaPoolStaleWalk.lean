/- PoolStale: the walk. No condition but that the program's pool keeps its words. -/
import Derived.Test.YtinfckoaphgmkaaPoolStale
namespace Go.Proofs.Ytinfckoaphgmkaa
open Go.RowKit
set_option linter.unusedVariables false
set_option maxRecDepth 100000

theorem Held.snd {w0 w : World} {A B : Thing} (h : Held w0 w (A.sep B)) : Held w0 w B := h.swap.drop
theorem Held.num {w0 w : World} {ao : Option Addr} {n cc : Nat} {l : List Int} (H : Held w0 w (ownT 3 1 ao n cc (Go.Proofs.Ytinfckoaphgmkaa.ints l))) (hn : n = l.length) : NumsAt w ao l := by
  obtain ⟨W, h, _, _⟩ := H
  exact ownT_ints h hn

/-- The counts of a pool's slots, up to one. -/
def PM.cnts (M : PM) (k : Nat) : List Int := (List.range k).map fun i => ((M.cnt i : Nat) : Int)
theorem PM.cnts_length (M : PM) (k : Nat) : (M.cnts k).length = k := by simp [PM.cnts]
theorem PM.cnts_succ (M : PM) (k : Nat) : M.cnts (k + 1) = M.cnts k ++ [((M.cnt k : Nat) : Int)] := by simp [PM.cnts, List.range_succ]

set_option maxHeartbeats 16000000 in
theorem stale_walk {PT : Nat → PM → Thing} (A : PoolApi PT) (n0 : Int) (s t : Sl Act5) (y0 : Int) (w : World) (h1 : SlOk encAct5 okAct5 5 w s) (h2 : SlOk encAct5 okAct5 5 w t) :
    Calls Try.prog 5 #[.int .i64 n0, .slice s.a s.len s.cap, .slice t.a t.len t.cap, .int .i64 y0] w fun e w' => e = .returned (.bool true) ∧ Still w w' := by
  obtain ⟨N1, hN1⟩ : ∃ x, x = am n0 9 := ⟨_, rfl⟩
  have hn1 : N1 < 9 := by rw [hN1]; exact am_lt _ (by omega)
  have B1 := Lib.hid (fun W => among_lit n0 9 9 N1 rfl hN1 (by omega) (by omega) W)
  obtain ⟨n, hn⟩ : ∃ n, n = N1 + 1 := ⟨_, rfl⟩
  have en : (1 : Int) + (N1 : Int) = n := by omega
  have n1 : 1 ≤ n := by omega
  have n2 : n ≤ 128 := by omega
  have C0 := Lib.hid (fun W (hT : Still w W) => play_any A n n1 n2 s W (SlOk.stays okAct5_stays w W s hT h1))
  obtain ⟨ta, tl, tc, tx⟩ := t
  have htcap : tl ≤ tc := h2.le
  have htmax : tc ≤ maxLen := h2.max
  unfold maxLen at htmax
  have HTX := Lib.hid h2
  have HTL : Hid (tx.length = tl) := Lib.hid h2.len
  obtain ⟨i0, hi, hz0, hz1, hz2⟩ := info_parts infoIntW
  dsimp only
  clear hN1 hn h1 h2
  go_enter Try.func5, Try.ntmps5
  go_wp2_with fail
  refine (works5 A _).mono ?_
  rintro e w1 ⟨rfl, hT⟩
  have HT := Lib.hid hT
  clear hT
  go_wp2_with fail
  refine (B1.out _).mono ?_
  rintro e w' ⟨rfl, rfl⟩
  go_wp2_with fail
  refine (C0.out _ HT.out).mono ?_
  rintro e w2 ⟨q, m, ao, cc, M0, had, rfl, H, hml, hm1, hM, hMl, _, hG⟩
  by_cases hm0 : m = 0
  · have HH := Lib.hid (HT.out.trans H.ground)
    clear H hml hm1 hM hMl hG C0 B1 en
    subst hm0
    go_wp2_with fail
    go_ret
    exact ⟨rfl, HH.out⟩
  · have hmp : 1 ≤ m := by omega
    obtain ⟨y, hy⟩ : ∃ y, y = am y0 m := ⟨_, rfl⟩
    have hym : y < m := by rw [hy]; exact am_lt _ (by omega)
    have B2 := Lib.hid (fun W => among_lit y0 m m y rfl hy (by omega) (by omega) W)
    obtain ⟨h, hh⟩ := get_some (l := had) (i := y) (by rw [hml]; exact hym)
    have hgv := hG h (List.mem_of_getElem? hh)
    obtain ⟨bh, oh, hao, hch⟩ := (H.ints hml.symm) y h hh
    subst hao
    have h64 : i64 h := by have := hgv.small hM; exact ⟨by omega, by omega⟩
    have HI64 := Lib.hid h64
    have HH := Lib.hid (show Held w1 w2 ((PT q M0).sep (ownT 3 1 (some ⟨bh, oh, none⟩) m cc (ints had))) from H)
    have HM0 := Lib.hid (show M0.Given h ∧ M0.Ok 101 ∧ M0.sl.length = n ∧ (M0.err h = 0 → (M0.slt h).c ≤ 101) from ⟨hgv, hM, hMl, fun he => (hM.low _ _ (PM.live he).2.2.1).2⟩)
    obtain ⟨R0, hR0⟩ : ∃ R, R = ownT 3 1 (some ⟨bh, oh, none⟩) m cc (ints had) := ⟨_, rfl⟩
    rw [← hR0] at HH
    clear H hml hM hMl hG C0 B1 en hy hh hgv h64 hR0 hm0
    go_wp2_with fail
    refine (B2.out _).mono ?_
    rintro e w' ⟨rfl, rfl⟩
    clear B2
    go_wp2_with fail
    go_loopw [12] (fun i wr => ∃ (k : Nat) (M : PM), k ≤ 200 ∧ i = .int .i64 k ∧ Held w1 wr ((PT q M).sep R0) ∧ M.Given h ∧ M.Ok (101 + k) ∧ M.sl.length = n ∧ (M.err h = 0 → (M.slt h).c + k ≤ 101) ∧ (0 < k → M.err h = 0)) (fun i _ => 200 - (intOf i).toNat)
    case atStart => exact ⟨0, M0, by omega, rfl, HH.out, HM0.out.1, HM0.out.2.1, HM0.out.2.2.1, HM0.out.2.2.2, fun h => by omega⟩
    case round =>
      clear HH HM0 hch
      obtain ⟨k, M, hk, rfl, H, hgv, hM, hMl, hcb, hk0⟩ := hrel
      have D1 := Lib.hid (H.call (fun _ x => A.drop x hM (by omega) h HI64.out))
      have hcase := hgv.drop hM (by omega)
      by_cases hlt : k < 200
      · have hMd := hM.drop h
        have hMdl : (M.dropM h).sl.length = n := by rw [(PM.drop_le M h).len]; exact hMl
        have hgd := hgv.le (PM.drop_le M h)
        rcases hcase with ⟨he, hgo⟩ | ⟨he, hc1, hgo⟩ | ⟨he, hc2, he2, hcc2, _⟩
        · have hdm : M.dropM h = M := by unfold PM.dropM; rw [if_pos (by rw [he]; decide)]
          have hdn : M.dropN h = 0 := by unfold PM.dropN; rw [if_pos (by rw [he]; decide)]
          rw [hdm, hdn, he] at D1
          have HX := Lib.hid (show M.Gone h ∧ M.Ok 400 ∧ M.sl.length = n from ⟨hgo, hM.mono (by omega), hMl⟩)
          clear hgv hM hMl hcb hk0 he hgo hMd hMdl hgd hdm hdn H
          go_wp2_with fail
          refine D1.out.mono ?_
          rintro e w3 ⟨rfl, H⟩
          have HH3 := Lib.hid H
          clear H D1
          go_wp2_with fail
          go_loopw [15] (fun i wr => ∃ (j : Nat) (M : PM), j ≤ tl ∧ j ≤ 60 ∧ i = .int .i64 j ∧ Held w1 wr ((PT q M).sep R0) ∧ M.Gone h ∧ M.Ok 400 ∧ M.sl.length = n) (fun i _ => tl - (intOf i).toNat)
          case atStart => exact ⟨0, M, Nat.zero_le _, Nat.zero_le _, rfl, HH3.out, HX.out⟩
          case round =>
            clear HH3 HX M
            obtain ⟨j, M, hj, hj1, rfl, H, hgo, hM, hMl⟩ := hrel
            by_cases hin : j < tl ∧ j < 60
            · obtain ⟨hlt, h60⟩ := hin
              obtain ⟨x, hx⟩ := get_some (l := tx) (i := j) (by rw [HTL.out]; exact hlt)
              obtain ⟨b, o, rfl, hc⟩ := HTX.out.row j x hx
              have c1 : wr.cell? ⟨b, o + j * 5 + 1, none⟩ = some (.int .i64 x.2.1) := still_cell (HT.out.trans H.ground) (hc 1 _ rfl) (by omega)
              obtain ⟨y, hy⟩ : ∃ y, y = am x.2.1 9 := ⟨_, rfl⟩
              have hyl : y < 9 := by rw [hy]; exact am_lt _ (by omega)
              have B2 := Lib.hid (fun W => among_lit x.2.1 9 9 y rfl hy (by omega) (by omega) W)
              have D2 := Lib.hid (H.call (fun _ x => A.take x hM (by omega) y (i64_lit (by omega) (by omega))))
              have HX := Lib.hid (show (M.takeM y).Gone h ∧ (M.takeM y).Ok 400 ∧ (M.takeM y).sl.length = n from ⟨hgo.le (hM.take_le y), hM.take (by omega) y, by rw [(hM.take_le y).len]; exact hMl⟩)
              generalize x.2.1 = xn at *
              clear hx hc hy H hgo hM hMl
              go_wp2_with (go_at_call 13; ((with_reducible refine (B2.out _).mono ?_)); rintro e w' ⟨rfl, rfl⟩)
              refine D2.out.mono ?_
              rintro e w4 ⟨rfl, H⟩
              have HH4 := Lib.hid H
              clear H D2
              go_wp2_with fail
              go_roundw
              case rel => exact ⟨j + 1, _, by omega, by omega, by go_num, HH4.out, HX.out⟩
              case measure => simp [intOf]; omega
            · have hex : (j < tl ∧ 60 ≤ j) ∨ tl ≤ j := by omega
              have he := hgo.err hM (by omega)
              have HM := Lib.hid hM
              obtain ⟨fl, hfl⟩ : ∃ fl, fl = M.fr.length := ⟨_, rfl⟩
              have hfl2 : fl ≤ 128 := by rw [hfl]; exact hM.frlen
              have HFL := Lib.hid (show (nums M.fr).length = fl by rw [nums_length, hfl])
              have K1 := Lib.hid (fun (W : World) (R : Thing) (H : Held w1 W ((PT q M).sep R)) => show Calls Try.prog 27 #[.pointer (some ⟨q, 0, none⟩)] W (GotNums W (nums M.fr) fl) from by
                obtain ⟨_, h, _⟩ := H.fst
                exact A.free h hM (by omega) fl hfl)
              have K2 := Lib.hid (fun (W : World) (R : Thing) (H : Held w1 W ((PT q M).sep R)) => show Calls Try.prog 28 #[.pointer (some ⟨q, 0, none⟩)] W fun e w' => e = .returned (.int .i64 n) ∧ Still W w' from by
                obtain ⟨_, h, _⟩ := H.fst
                have := A.slots h hM (by omega)
                rwa [hMl] at this)
              have K3 := Lib.hid (fun (W : World) (R : Thing) (H : Held w1 W ((PT q M).sep R)) (i : Nat) (hi : i < n) => show Calls Try.prog 30 #[.pointer (some ⟨q, 0, none⟩), .int .i64 i] W fun e w' => e = .returned (.int .i64 (M.cnt i : Nat)) ∧ Still W w' from by
                obtain ⟨_, h, _⟩ := H.fst
                have := A.count h hM (by omega) i (i64_lit (by omega) (by omega))
                rwa [cntOf_nat M (by omega)] at this)
              have K4 := Lib.hid (fun (W : World) (R : Thing) (H : Held w1 W ((PT q M).sep R)) => show Calls Try.prog 23 #[.pointer (some ⟨q, 0, none⟩), .int .i64 h] W (GotBytes W (M.bytes h) (M.err h)) from by
                obtain ⟨_, h', _⟩ := H.fst
                exact A.bytes h' hM (by omega) h HI64.out)
              have K5 := Lib.hid (fun (W : World) (R : Thing) (H : Held w1 W ((PT q M).sep R)) => H.call (fun _ x => A.drop x hM (by omega) h HI64.out))
              have K6 := Lib.hid (fun (W : World) (R : Thing) (H : Held w1 W ((PT q M).sep R)) => H.call (fun _ x => A.keep x hM (by omega) h HI64.out))
              have K7 := Lib.hid (fun (W : World) (R : Thing) (H : Held w1 W ((PT q M).sep R)) => H.call (fun _ x => A.fill x hM (by omega) h HI64.out none [] 0 0 rfl (BytesAt.nil _ _) (by simp) (Nat.le_refl _) (Nat.zero_le _) (fun _ => rfl)))
              rw [show M.bytes h = [] by unfold PM.bytes; rw [if_pos (by rw [he]; decide)], he] at K4
              rw [show M.dropN h = 0 by unfold PM.dropN; rw [if_pos (by rw [he]; decide)], show M.dropM h = M by unfold PM.dropM; rw [if_pos (by rw [he]; decide)], he] at K5
              rw [show M.keepM h = M by unfold PM.keepM; rw [if_pos (by rw [he]; decide)], he] at K6
              rw [show M.fillE h [] = 40 by unfold PM.fillE; rw [if_pos (by rw [he]; decide), he], show M.fillM h [] = M by unfold PM.fillM; rw [if_pos (by unfold PM.fillE; rw [if_pos (by rw [he]; decide), he]; decide)]] at K7
              have HH4 := Lib.hid H
              clear hin H hgo hM hMl hfl he
              rcases hex with ⟨g1, g2⟩ | g1
              all_goals
                go_wp2_with fail
                refine (K1.out _ _ HH4.out).mono ?_
                rintro e w5 ⟨fa, fc, rfl, hO, hst⟩
                have HH5 := Lib.hid ((HH4.out.got hO hst).assoc)
                have HN5 := Lib.hid (show Held w1 (w5.alloc (.cells #[] 3)) (((PT q M).sep (R0.sep (ownT 3 1 fa fl fc (ints (nums M.fr))))).sep (ownT 3 1 (some ⟨w5.heap.size, 0, none⟩) 0 0 (ints (M.cnts 0)))) from HH5.out.new2 3 1)
                clear hO hst HH4 HH5
                obtain ⟨R1, hR1⟩ : ∃ R, R = R0.sep (ownT 3 1 fa fl fc (ints (nums M.fr))) := ⟨_, rfl⟩
                have HR1 := Lib.hid hR1
                rw [← hR1] at HN5
                clear hR1
                go_wp2_with fail
                go_loopw [17, 18] (fun p i wr => ∃ (k : Nat) (ac : Option Addr) (cd : Nat), k ≤ n ∧ i = .int .i64 k ∧ p = .slice ac k cd ∧ Held w1 wr (((PT q M).sep R1).sep (ownT 3 1 ac k cd (ints (M.cnts k))))) (fun _ i _ => n - (intOf i).toNat)
                case atStart => exact ⟨0, _, 0, Nat.zero_le _, rfl, rfl, HN5.out⟩
                case round =>
                  clear HN5
                  obtain ⟨k3, ac, cd, hk3, rfl, rfl, H⟩ := hrel
                  have HHr := Lib.hid H
                  clear H
                  go_wp2_with fail
                  refine (K2.out _ _ HHr.out.assoc).mono ?_
                  rintro e w6 ⟨rfl, hst⟩
                  have HH6 := Lib.hid (HHr.out.still hst)
                  clear hst HHr
                  by_cases hk : k3 < n
                  · have HS := Lib.hid (M.cnts_succ k3)
                    have K3k := Lib.hid (K3.out w6 _ HH6.out.assoc k3 hk)
                    obtain ⟨cv, hcv⟩ : ∃ cv : Int, cv = ((M.cnt k3 : Nat) : Int) := ⟨_, rfl⟩
                    rw [← hcv] at HS K3k
                    clear hcv
                    go_wp2_with fail
                    refine K3k.out.mono ?_
                    rintro e w7 ⟨rfl, hst⟩
                    have HH7 := Lib.hid (HH6.out.still hst)
                    clear hst HH6 K3k
                    go_wp2_with (at_builtin; refine wpList_append_own_at _ rfl (.tmp 96) (.tmp 100) 31 rfl 0 3 i0 (.int .i64 0) 1 8 Try.underlying31 hi hz0 hz1 hz2 rfl (by decide) (.slice ac k3 cd) k3 (ints (M.cnts k3)) rfl (ow_still HH7.out.own ((Turned.refl _ _).alloc _)) ⟨w7.heap.size, 0, none⟩ 1 1 [.int .i64 cv] rfl rfl (ow_cells w7 _ _) (ow_ints rfl) (by unfold maxLen; omega) (by omega) (Nat.zero_le _) ?_; intro v8 w8 hown8 hg8 _ hat8; obtain ⟨a8, c8, rfl⟩ := ow_slice hown8; have HH8 := Lib.hid (HH7.out.grown hown8 hg8 hat8); clear hown8 hg8 hat8)
                    go_roundw
                    case rel => exact ⟨k3 + 1, a8, c8, by omega, by go_num, rfl, by have := HH8.out; rw [HS.out]; simpa [ints] using this⟩
                    case measure => simp [intOf]; omega
                  · obtain rfl : k3 = n := by omega
                    obtain ⟨R2, hR2⟩ : ∃ R, R = R1.sep (ownT 3 1 ac k3 cd (ints (M.cnts k3))) := ⟨_, rfl⟩
                    have HR2 := Lib.hid hR2
                    have HH7 := Lib.hid (show Held w1 w6 ((PT q M).sep R2) from by rw [hR2]; exact HH6.out.assoc)
                    clear hR2 HH6
                    go_wp2_with fail
                    refine (K4.out _ _ HH7.out).mono ?_
                    rintro e w8 ⟨bx, bc, rfl, _, hst⟩
                    have HH8 := Lib.hid (HH7.out.still hst)
                    clear hst HH7
                    go_wp2_with fail
                    refine (K5.out _ _ HH8.out).mono ?_
                    rintro e w9 ⟨rfl, H⟩
                    have HH9 := Lib.hid H
                    clear H HH8
                    go_wp2_with fail
                    refine (K6.out _ _ HH9.out).mono ?_
                    rintro e w10 ⟨rfl, H⟩
                    have HH10 := Lib.hid H
                    clear H HH9
                    go_wp2_with fail
                    refine (K7.out _ _ HH10.out).mono ?_
                    rintro e w11 ⟨rfl, H⟩
                    have HN11 := Lib.hid (show Held w1 (w11.alloc (.cells #[] 3)) (((PT q M).sep R2).sep (ownT 3 1 (some ⟨w11.heap.size, 0, none⟩) 0 0 (ints (M.cnts 0)))) from H.new2 3 1)
                    clear H HH10
                    go_wp2_with fail
                    go_loopw [25, 26] (fun p i wr => ∃ (k : Nat) (ad : Option Addr) (ce : Nat), k ≤ k3 ∧ i = .int .i64 k ∧ p = .slice ad k ce ∧ Held w1 wr (((PT q M).sep R2).sep (ownT 3 1 ad k ce (ints (M.cnts k))))) (fun _ i _ => k3 - (intOf i).toNat)
                    case atStart => exact ⟨0, _, 0, Nat.zero_le _, rfl, rfl, HN11.out⟩
                    case round =>
                      clear HN11
                      obtain ⟨k4, ad, ce, hk3, rfl, rfl, H⟩ := hrel
                      have HHr := Lib.hid H
                      clear H
                      go_wp2_with fail
                      refine (K2.out _ _ HHr.out.assoc).mono ?_
                      rintro e w6 ⟨rfl, hst⟩
                      have HH6 := Lib.hid (HHr.out.still hst)
                      clear hst HHr
                      by_cases hk : k4 < k3
                      · have HS := Lib.hid (M.cnts_succ k4)
                        have K3k := Lib.hid (K3.out w6 _ HH6.out.assoc k4 hk)
                        obtain ⟨cv, hcv⟩ : ∃ cv : Int, cv = ((M.cnt k4 : Nat) : Int) := ⟨_, rfl⟩
                        rw [← hcv] at HS K3k
                        clear hcv
                        go_wp2_with fail
                        refine K3k.out.mono ?_
                        rintro e w7 ⟨rfl, hst⟩
                        have HH7 := Lib.hid (HH6.out.still hst)
                        clear hst HH6 K3k
                        go_wp2_with (at_builtin; refine wpList_append_own_at _ rfl (.tmp 127) (.tmp 131) 31 rfl 0 3 i0 (.int .i64 0) 1 8 Try.underlying31 hi hz0 hz1 hz2 rfl (by decide) (.slice ad k4 ce) k4 (ints (M.cnts k4)) rfl (ow_still HH7.out.own ((Turned.refl _ _).alloc _)) ⟨w7.heap.size, 0, none⟩ 1 1 [.int .i64 cv] rfl rfl (ow_cells w7 _ _) (ow_ints rfl) (by unfold maxLen; omega) (by omega) (Nat.zero_le _) ?_; intro v8 w8 hown8 hg8 _ hat8; obtain ⟨a8, c8, rfl⟩ := ow_slice hown8; have HH8 := Lib.hid (HH7.out.grown hown8 hg8 hat8); clear hown8 hg8 hat8)
                        go_roundw
                        case rel => exact ⟨k4 + 1, a8, c8, by omega, by go_num, rfl, by have := HH8.out; rw [HS.out]; simpa [ints] using this⟩
                        case measure => simp [intOf]; omega
                      · obtain rfl : k4 = k3 := by omega
                        have HB := Lib.hid (show Held w1 w6 (ownT 3 1 ad k4 ce (ints (M.cnts k4))) from HH6.out.snd)
                        clear K2 K3 K4 K5 K6 K7
                        go_wp2_with fail
                        refine (K1.out _ _ HH6.out.assoc).mono ?_
                        rintro e w12 ⟨fb, fd, rfl, hO, hst⟩
                        have HH12 := Lib.hid (HH6.out.still hst)
                        have hF1 : NumsAt w12 fb (nums M.fr) := NumsAt.of_own hO HFL.out.symm
                        have hR2' := HH12.out.drop.snd
                        rw [HR2.out] at hR2'
                        have hN2 := hR2'.snd.num (M.cnts_length _).symm
                        have hR1' := hR2'.drop
                        rw [HR1.out] at hR1'
                        have hF2 := hR1'.snd.num HFL.out.symm
                        have hN1 := HH12.out.snd.num (M.cnts_length _).symm
                        have E1 := Lib.hid (sameInts_any w12 fb fa (nums M.fr) (nums M.fr) fd fc rfl (by rw [HFL.out]; omega) hF1 hF2)
                        rw [HFL.out, decide_eq_true (rfl : nums M.fr = nums M.fr)] at E1
                        have E2 := Lib.hid (fun q => sameInts_any (w12.drewN q) ad ac (M.cnts k4) (M.cnts k4) ce cd rfl (by rw [PM.cnts_length]; omega) (hN1.drewN q) (hN2.drewN q))
                        rw [PM.cnts_length, decide_eq_true (rfl : M.cnts k4 = M.cnts k4)] at E2
                        clear hO hst HH6 K1 hF1 hF2 hN1 hN2 hR1' hR2' HB
                        go_wp2_with fail
                        ((with_reducible refine E1.out.mono ?_))
                        rintro e w' ⟨rfl, qq, rfl⟩
                        clear E1
                        go_wp2_with fail
                        ((with_reducible refine (E2.out _).mono ?_))
                        rintro e w' ⟨rfl, qq2, rfl⟩
                        have HZ := Lib.hid (show Still w (w12.drewN (qq + qq2)) from (HT.out.trans HH12.out.ground).drewN (qq + qq2))
                        go_wp2_with fail
                        go_ret
                        exact ⟨by first | rfl | simp, HZ.out⟩
        · have hdn : M.dropN h = 0 := by unfold PM.dropN; rw [if_neg (by simp [he]), hc1]; rfl
          obtain ⟨M', hM'⟩ : ∃ M', M' = M.dropM h := ⟨_, rfl⟩
          rw [← hM'] at hgo hMd hMdl
          rw [← hM', hdn, he] at D1
          have HX := Lib.hid (show M'.Gone h ∧ M'.Ok 400 ∧ M'.sl.length = n from ⟨hgo, hMd.mono (by omega), hMdl⟩)
          clear hgv hM hMl hcb hk0 he hgo hMd hMdl hgd hdn H hM' hc1 M
          go_wp2_with fail
          refine D1.out.mono ?_
          rintro e w3 ⟨rfl, H⟩
          have HH3 := Lib.hid H
          clear H D1
          go_wp2_with fail
          go_loopw [15] (fun i wr => ∃ (j : Nat) (M : PM), j ≤ tl ∧ j ≤ 60 ∧ i = .int .i64 j ∧ Held w1 wr ((PT q M).sep R0) ∧ M.Gone h ∧ M.Ok 400 ∧ M.sl.length = n) (fun i _ => tl - (intOf i).toNat)
          case atStart => exact ⟨0, M', Nat.zero_le _, Nat.zero_le _, rfl, HH3.out, HX.out⟩
          case round =>
            clear HH3 HX M'
            obtain ⟨j, M, hj, hj1, rfl, H, hgo, hM, hMl⟩ := hrel
            by_cases hin : j < tl ∧ j < 60
            · obtain ⟨hlt, h60⟩ := hin
              obtain ⟨x, hx⟩ := get_some (l := tx) (i := j) (by rw [HTL.out]; exact hlt)
              obtain ⟨b, o, rfl, hc⟩ := HTX.out.row j x hx
              have c1 : wr.cell? ⟨b, o + j * 5 + 1, none⟩ = some (.int .i64 x.2.1) := still_cell (HT.out.trans H.ground) (hc 1 _ rfl) (by omega)
              obtain ⟨y, hy⟩ : ∃ y, y = am x.2.1 9 := ⟨_, rfl⟩
              have hyl : y < 9 := by rw [hy]; exact am_lt _ (by omega)
              have B2 := Lib.hid (fun W => among_lit x.2.1 9 9 y rfl hy (by omega) (by omega) W)
              have D2 := Lib.hid (H.call (fun _ x => A.take x hM (by omega) y (i64_lit (by omega) (by omega))))
              have HX := Lib.hid (show (M.takeM y).Gone h ∧ (M.takeM y).Ok 400 ∧ (M.takeM y).sl.length = n from ⟨hgo.le (hM.take_le y), hM.take (by omega) y, by rw [(hM.take_le y).len]; exact hMl⟩)
              generalize x.2.1 = xn at *
              clear hx hc hy H hgo hM hMl
              go_wp2_with (go_at_call 13; ((with_reducible refine (B2.out _).mono ?_)); rintro e w' ⟨rfl, rfl⟩)
              refine D2.out.mono ?_
              rintro e w4 ⟨rfl, H⟩
              have HH4 := Lib.hid H
              clear H D2
              go_wp2_with fail
              go_roundw
              case rel => exact ⟨j + 1, _, by omega, by omega, by go_num, HH4.out, HX.out⟩
              case measure => simp [intOf]; omega
            · have hex : (j < tl ∧ 60 ≤ j) ∨ tl ≤ j := by omega
              have he := hgo.err hM (by omega)
              have HM := Lib.hid hM
              obtain ⟨fl, hfl⟩ : ∃ fl, fl = M.fr.length := ⟨_, rfl⟩
              have hfl2 : fl ≤ 128 := by rw [hfl]; exact hM.frlen
              have HFL := Lib.hid (show (nums M.fr).length = fl by rw [nums_length, hfl])
              have K1 := Lib.hid (fun (W : World) (R : Thing) (H : Held w1 W ((PT q M).sep R)) => show Calls Try.prog 27 #[.pointer (some ⟨q, 0, none⟩)] W (GotNums W (nums M.fr) fl) from by
                obtain ⟨_, h, _⟩ := H.fst
                exact A.free h hM (by omega) fl hfl)
              have K2 := Lib.hid (fun (W : World) (R : Thing) (H : Held w1 W ((PT q M).sep R)) => show Calls Try.prog 28 #[.pointer (some ⟨q, 0, none⟩)] W fun e w' => e = .returned (.int .i64 n) ∧ Still W w' from by
                obtain ⟨_, h, _⟩ := H.fst
                have := A.slots h hM (by omega)
                rwa [hMl] at this)
              have K3 := Lib.hid (fun (W : World) (R : Thing) (H : Held w1 W ((PT q M).sep R)) (i : Nat) (hi : i < n) => show Calls Try.prog 30 #[.pointer (some ⟨q, 0, none⟩), .int .i64 i] W fun e w' => e = .returned (.int .i64 (M.cnt i : Nat)) ∧ Still W w' from by
                obtain ⟨_, h, _⟩ := H.fst
                have := A.count h hM (by omega) i (i64_lit (by omega) (by omega))
                rwa [cntOf_nat M (by omega)] at this)
              have K4 := Lib.hid (fun (W : World) (R : Thing) (H : Held w1 W ((PT q M).sep R)) => show Calls Try.prog 23 #[.pointer (some ⟨q, 0, none⟩), .int .i64 h] W (GotBytes W (M.bytes h) (M.err h)) from by
                obtain ⟨_, h', _⟩ := H.fst
                exact A.bytes h' hM (by omega) h HI64.out)
              have K5 := Lib.hid (fun (W : World) (R : Thing) (H : Held w1 W ((PT q M).sep R)) => H.call (fun _ x => A.drop x hM (by omega) h HI64.out))
              have K6 := Lib.hid (fun (W : World) (R : Thing) (H : Held w1 W ((PT q M).sep R)) => H.call (fun _ x => A.keep x hM (by omega) h HI64.out))
              have K7 := Lib.hid (fun (W : World) (R : Thing) (H : Held w1 W ((PT q M).sep R)) => H.call (fun _ x => A.fill x hM (by omega) h HI64.out none [] 0 0 rfl (BytesAt.nil _ _) (by simp) (Nat.le_refl _) (Nat.zero_le _) (fun _ => rfl)))
              rw [show M.bytes h = [] by unfold PM.bytes; rw [if_pos (by rw [he]; decide)], he] at K4
              rw [show M.dropN h = 0 by unfold PM.dropN; rw [if_pos (by rw [he]; decide)], show M.dropM h = M by unfold PM.dropM; rw [if_pos (by rw [he]; decide)], he] at K5
              rw [show M.keepM h = M by unfold PM.keepM; rw [if_pos (by rw [he]; decide)], he] at K6
              rw [show M.fillE h [] = 40 by unfold PM.fillE; rw [if_pos (by rw [he]; decide), he], show M.fillM h [] = M by unfold PM.fillM; rw [if_pos (by unfold PM.fillE; rw [if_pos (by rw [he]; decide), he]; decide)]] at K7
              have HH4 := Lib.hid H
              clear hin H hgo hM hMl hfl he
              rcases hex with ⟨g1, g2⟩ | g1
              all_goals
                go_wp2_with fail
                refine (K1.out _ _ HH4.out).mono ?_
                rintro e w5 ⟨fa, fc, rfl, hO, hst⟩
                have HH5 := Lib.hid ((HH4.out.got hO hst).assoc)
                have HN5 := Lib.hid (show Held w1 (w5.alloc (.cells #[] 3)) (((PT q M).sep (R0.sep (ownT 3 1 fa fl fc (ints (nums M.fr))))).sep (ownT 3 1 (some ⟨w5.heap.size, 0, none⟩) 0 0 (ints (M.cnts 0)))) from HH5.out.new2 3 1)
                clear hO hst HH4 HH5
                obtain ⟨R1, hR1⟩ : ∃ R, R = R0.sep (ownT 3 1 fa fl fc (ints (nums M.fr))) := ⟨_, rfl⟩
                have HR1 := Lib.hid hR1
                rw [← hR1] at HN5
                clear hR1
                go_wp2_with fail
                go_loopw [17, 18] (fun p i wr => ∃ (k : Nat) (ac : Option Addr) (cd : Nat), k ≤ n ∧ i = .int .i64 k ∧ p = .slice ac k cd ∧ Held w1 wr (((PT q M).sep R1).sep (ownT 3 1 ac k cd (ints (M.cnts k))))) (fun _ i _ => n - (intOf i).toNat)
                case atStart => exact ⟨0, _, 0, Nat.zero_le _, rfl, rfl, HN5.out⟩
                case round =>
                  clear HN5
                  obtain ⟨k3, ac, cd, hk3, rfl, rfl, H⟩ := hrel
                  have HHr := Lib.hid H
                  clear H
                  go_wp2_with fail
                  refine (K2.out _ _ HHr.out.assoc).mono ?_
                  rintro e w6 ⟨rfl, hst⟩
                  have HH6 := Lib.hid (HHr.out.still hst)
                  clear hst HHr
                  by_cases hk : k3 < n
                  · have HS := Lib.hid (M.cnts_succ k3)
                    have K3k := Lib.hid (K3.out w6 _ HH6.out.assoc k3 hk)
                    obtain ⟨cv, hcv⟩ : ∃ cv : Int, cv = ((M.cnt k3 : Nat) : Int) := ⟨_, rfl⟩
                    rw [← hcv] at HS K3k
                    clear hcv
                    go_wp2_with fail
                    refine K3k.out.mono ?_
                    rintro e w7 ⟨rfl, hst⟩
                    have HH7 := Lib.hid (HH6.out.still hst)
                    clear hst HH6 K3k
                    go_wp2_with (at_builtin; refine wpList_append_own_at _ rfl (.tmp 96) (.tmp 100) 31 rfl 0 3 i0 (.int .i64 0) 1 8 Try.underlying31 hi hz0 hz1 hz2 rfl (by decide) (.slice ac k3 cd) k3 (ints (M.cnts k3)) rfl (ow_still HH7.out.own ((Turned.refl _ _).alloc _)) ⟨w7.heap.size, 0, none⟩ 1 1 [.int .i64 cv] rfl rfl (ow_cells w7 _ _) (ow_ints rfl) (by unfold maxLen; omega) (by omega) (Nat.zero_le _) ?_; intro v8 w8 hown8 hg8 _ hat8; obtain ⟨a8, c8, rfl⟩ := ow_slice hown8; have HH8 := Lib.hid (HH7.out.grown hown8 hg8 hat8); clear hown8 hg8 hat8)
                    go_roundw
                    case rel => exact ⟨k3 + 1, a8, c8, by omega, by go_num, rfl, by have := HH8.out; rw [HS.out]; simpa [ints] using this⟩
                    case measure => simp [intOf]; omega
                  · obtain rfl : k3 = n := by omega
                    obtain ⟨R2, hR2⟩ : ∃ R, R = R1.sep (ownT 3 1 ac k3 cd (ints (M.cnts k3))) := ⟨_, rfl⟩
                    have HR2 := Lib.hid hR2
                    have HH7 := Lib.hid (show Held w1 w6 ((PT q M).sep R2) from by rw [hR2]; exact HH6.out.assoc)
                    clear hR2 HH6
                    go_wp2_with fail
                    refine (K4.out _ _ HH7.out).mono ?_
                    rintro e w8 ⟨bx, bc, rfl, _, hst⟩
                    have HH8 := Lib.hid (HH7.out.still hst)
                    clear hst HH7
                    go_wp2_with fail
                    refine (K5.out _ _ HH8.out).mono ?_
                    rintro e w9 ⟨rfl, H⟩
                    have HH9 := Lib.hid H
                    clear H HH8
                    go_wp2_with fail
                    refine (K6.out _ _ HH9.out).mono ?_
                    rintro e w10 ⟨rfl, H⟩
                    have HH10 := Lib.hid H
                    clear H HH9
                    go_wp2_with fail
                    refine (K7.out _ _ HH10.out).mono ?_
                    rintro e w11 ⟨rfl, H⟩
                    have HN11 := Lib.hid (show Held w1 (w11.alloc (.cells #[] 3)) (((PT q M).sep R2).sep (ownT 3 1 (some ⟨w11.heap.size, 0, none⟩) 0 0 (ints (M.cnts 0)))) from H.new2 3 1)
                    clear H HH10
                    go_wp2_with fail
                    go_loopw [25, 26] (fun p i wr => ∃ (k : Nat) (ad : Option Addr) (ce : Nat), k ≤ k3 ∧ i = .int .i64 k ∧ p = .slice ad k ce ∧ Held w1 wr (((PT q M).sep R2).sep (ownT 3 1 ad k ce (ints (M.cnts k))))) (fun _ i _ => k3 - (intOf i).toNat)
                    case atStart => exact ⟨0, _, 0, Nat.zero_le _, rfl, rfl, HN11.out⟩
                    case round =>
                      clear HN11
                      obtain ⟨k4, ad, ce, hk3, rfl, rfl, H⟩ := hrel
                      have HHr := Lib.hid H
                      clear H
                      go_wp2_with fail
                      refine (K2.out _ _ HHr.out.assoc).mono ?_
                      rintro e w6 ⟨rfl, hst⟩
                      have HH6 := Lib.hid (HHr.out.still hst)
                      clear hst HHr
                      by_cases hk : k4 < k3
                      · have HS := Lib.hid (M.cnts_succ k4)
                        have K3k := Lib.hid (K3.out w6 _ HH6.out.assoc k4 hk)
                        obtain ⟨cv, hcv⟩ : ∃ cv : Int, cv = ((M.cnt k4 : Nat) : Int) := ⟨_, rfl⟩
                        rw [← hcv] at HS K3k
                        clear hcv
                        go_wp2_with fail
                        refine K3k.out.mono ?_
                        rintro e w7 ⟨rfl, hst⟩
                        have HH7 := Lib.hid (HH6.out.still hst)
                        clear hst HH6 K3k
                        go_wp2_with (at_builtin; refine wpList_append_own_at _ rfl (.tmp 127) (.tmp 131) 31 rfl 0 3 i0 (.int .i64 0) 1 8 Try.underlying31 hi hz0 hz1 hz2 rfl (by decide) (.slice ad k4 ce) k4 (ints (M.cnts k4)) rfl (ow_still HH7.out.own ((Turned.refl _ _).alloc _)) ⟨w7.heap.size, 0, none⟩ 1 1 [.int .i64 cv] rfl rfl (ow_cells w7 _ _) (ow_ints rfl) (by unfold maxLen; omega) (by omega) (Nat.zero_le _) ?_; intro v8 w8 hown8 hg8 _ hat8; obtain ⟨a8, c8, rfl⟩ := ow_slice hown8; have HH8 := Lib.hid (HH7.out.grown hown8 hg8 hat8); clear hown8 hg8 hat8)
                        go_roundw
                        case rel => exact ⟨k4 + 1, a8, c8, by omega, by go_num, rfl, by have := HH8.out; rw [HS.out]; simpa [ints] using this⟩
                        case measure => simp [intOf]; omega
                      · obtain rfl : k4 = k3 := by omega
                        have HB := Lib.hid (show Held w1 w6 (ownT 3 1 ad k4 ce (ints (M.cnts k4))) from HH6.out.snd)
                        clear K2 K3 K4 K5 K6 K7
                        go_wp2_with fail
                        refine (K1.out _ _ HH6.out.assoc).mono ?_
                        rintro e w12 ⟨fb, fd, rfl, hO, hst⟩
                        have HH12 := Lib.hid (HH6.out.still hst)
                        have hF1 : NumsAt w12 fb (nums M.fr) := NumsAt.of_own hO HFL.out.symm
                        have hR2' := HH12.out.drop.snd
                        rw [HR2.out] at hR2'
                        have hN2 := hR2'.snd.num (M.cnts_length _).symm
                        have hR1' := hR2'.drop
                        rw [HR1.out] at hR1'
                        have hF2 := hR1'.snd.num HFL.out.symm
                        have hN1 := HH12.out.snd.num (M.cnts_length _).symm
                        have E1 := Lib.hid (sameInts_any w12 fb fa (nums M.fr) (nums M.fr) fd fc rfl (by rw [HFL.out]; omega) hF1 hF2)
                        rw [HFL.out, decide_eq_true (rfl : nums M.fr = nums M.fr)] at E1
                        have E2 := Lib.hid (fun q => sameInts_any (w12.drewN q) ad ac (M.cnts k4) (M.cnts k4) ce cd rfl (by rw [PM.cnts_length]; omega) (hN1.drewN q) (hN2.drewN q))
                        rw [PM.cnts_length, decide_eq_true (rfl : M.cnts k4 = M.cnts k4)] at E2
                        clear hO hst HH6 K1 hF1 hF2 hN1 hN2 hR1' hR2' HB
                        go_wp2_with fail
                        ((with_reducible refine E1.out.mono ?_))
                        rintro e w' ⟨rfl, qq, rfl⟩
                        clear E1
                        go_wp2_with fail
                        ((with_reducible refine (E2.out _).mono ?_))
                        rintro e w' ⟨rfl, qq2, rfl⟩
                        have HZ := Lib.hid (show Still w (w12.drewN (qq + qq2)) from (HT.out.trans HH12.out.ground).drewN (qq + qq2))
                        go_wp2_with fail
                        go_ret
                        exact ⟨by first | rfl | simp, HZ.out⟩
        · have hcb2 := hcb he
          have hdn : M.dropN h = (((M.slt h).c - 1 : Nat) : Int) := by unfold PM.dropN; rw [if_neg (by simp [he])]
          rw [hdn, he] at D1
          obtain ⟨c, hc⟩ : ∃ c, c = (M.slt h).c - 1 := ⟨_, rfl⟩
          rw [← hc] at D1 hcc2
          have hcz : ((c : Int) == 0) = false := by rw [beq_eq_false_iff_ne]; omega
          have HX := Lib.hid (show (M.dropM h).Given h ∧ (M.dropM h).Ok (101 + (k + 1)) ∧ (M.dropM h).sl.length = n ∧ ((M.dropM h).err h = 0 → ((M.dropM h).slt h).c + (k + 1) ≤ 101) ∧ (0 < k + 1 → (M.dropM h).err h = 0) from
            ⟨hgd, hMd, hMdl, fun _ => by omega, fun _ => he2⟩)
          clear hgv hM hMl hcb hk0 he hMd hMdl hgd hdn H he2 hcc2 hc2 hcb2 hc
          go_wp2_with fail
          refine D1.out.mono ?_
          rintro e w3 ⟨rfl, H⟩
          have HH3 := Lib.hid H
          clear H D1
          go_wp2_with fail
          go_roundw
          case rel => exact ⟨k + 1, _, by omega, by go_num, HH3.out, HX.out⟩
          case measure => simp [intOf]; omega
      · exfalso
        obtain rfl : k = 200 := by omega
        have h0 := hk0 (by omega)
        have := hcb h0
        omega
end Go.Proofs.Ytinfckoaphgmkaa
