/- PartBlocks: the walk. No condition but that the program's partitions and pool keep their words. -/
import Derived.Test.YtbljjmehjkmjaaaPtWorks
namespace Go.Proofs.Ytbljjmehjkmjaaa
open Go.RowKit
set_option linter.unusedVariables false
set_option linter.unusedSimpArgs false
set_option maxRecDepth 100000

/-- A partition that blocks, behind j claims of s envelopes for r places, all published. -/
structure BkIn (P : PM) (M : RM) (s r j k : Nat) : Prop where
  n : M.n = r
  ov : M.ov = false
  h : M.h = 0
  l : M.l.length = j
  fr : P.fr.length + j = s
  sz : P.size = 8
  inv : PtInv P (M.refs ++ [])
  ok : P.Ok (2 * k)
  mok : M.Ok k
theorem BkIn.start {s r : Nat} (h1 : 1 ≤ s) (h2 : s ≤ 128) (h3 : 1 ≤ r) (h4 : r ≤ 64) : BkIn (PM.new s 8) (RM.new r false) s r 0 0 :=
  ⟨rfl, rfl, rfl, rfl, by simp [PM.new], rfl, PtInv.new s 8, PM.new_ok h1 h2 (by omega) (by omega), RM.new_ok h3 h4⟩
theorem BkIn.go {P : PM} {M : RM} {s r j k : Nat} (H : BkIn P M s r j k) (hs : j < s) (hr : j < r) (hk : k ≤ 30) {y : Int} (h0 : 0 ≤ y) (h8 : y ≤ 8) :
    ptClE P M y = 0 ∧ ptClA P M y = (j : Int) ∧ 1 ≤ ptClH P M y ∧ (ptClM P M y).pubE (j : Int) = 0 ∧ BkIn (ptClP P M y) ((ptClM P M y).pubM (j : Int)) s r (j + 1) (k + 1) ∧ ((ptClM P M y).pubM (j : Int)).h = 0 := by
  have hfr := H.fr
  have hnf : M.l.length ≠ M.n := by rw [H.l, H.n]; omega
  have htl : M.tail = j := by unfold RM.tail; rw [H.h, H.l]; omega
  have htk := H.mok.low
  have hfrn : P.fr ≠ [] := fun e => by rw [e] at hfr; simp at hfr; omega
  have hE : ptClE P M y = 0 := by
    unfold ptClE
    rw [if_neg (by omega), if_neg (by rw [H.sz]; omega), if_neg (by omega), if_neg (fun hh => hnf hh.1), if_neg (fun hh => hfrn hh.1)]
  obtain ⟨c1, c2, c3, c4, c5, _⟩ := pt_claim H.inv H.ok H.mok (by omega) hE
  obtain ⟨o1, o2, _, o4⟩ := ptCl_ok H.ok H.mok y
  have eM : ptClM P M y = { M with l := M.l ++ [⟨ptClH P M y, false⟩] } := by
    rw [show ptClM P M y = ptWin M (ptClH P M y) from if_neg (fun hn => hn hE), show ptWin M (ptClH P M y) = _ from if_neg hnf]
  have eP : ptClP P M y = P.takeM y := by
    rw [show ptClP P M y = (ptP0 P M).takeM y from if_neg (fun hn => hn hE), show ptP0 P M = P from if_neg hnf]
  have hcut : (ptClM P M y).cut (j : Int) = j := by rw [eM]; unfold RM.cut; simp only [H.h]; omega
  have hfind : (ptClM P M y).findE (j : Int) = 0 := by
    rw [eM]; unfold RM.findE RM.tail; simp only [H.h, List.length_append, List.length_singleton, H.l]
    rw [if_neg (by omega), if_neg (by omega), if_neg (by omega)]
  have hpl : (ptClM P M y).pl (j : Int) = ⟨ptClH P M y, false⟩ := by
    unfold RM.pl
    rw [hcut, eM]
    simp only
    rw [List.getElem?_append_right (by rw [H.l]; exact Nat.le_refl _), H.l, Nat.sub_self]; rfl
  have hpub : (ptClM P M y).pubE (j : Int) = 0 := by
    unfold RM.pubE
    rw [if_neg (fun hn => hn hfind), hpl]; rfl
  have hh : ((ptClM P M y).pubM (j : Int)).h = 0 := by
    unfold RM.pubM
    rw [if_neg (fun hn => hn hpub)]
    rw [eM]; exact H.h
  refine ⟨hE, by rw [show ptClA P M y = M.tail from if_neg (fun hn => hn hE), htl], c4, hpub, ⟨?_, ?_, hh, ?_, ?_, by rw [o4]; exact H.sz, inv_pub (inv_claim H.inv H.ok H.mok (by omega) y) _, o1.mono (by omega), o2.pub _⟩, hh⟩
  · rw [(n_pub _ _).1, (n_claim P M y).1]; exact H.n
  · rw [(n_pub _ _).2, (n_claim P M y).2]; exact H.ov
  · unfold RM.pubM
    rw [if_neg (fun hn => hn hpub)]
    simp only [List.length_set]
    rw [eM]; simp [H.l]
  · rw [eP]
    unfold PM.takeM
    rw [if_neg (by rw [H.sz]; omega)]
    cases hf : P.fr with
    | nil => exact absurd hf hfrn
    | cons a l => rw [hf] at hfr; simp at hfr ⊢; omega
theorem BkIn.no {P : PM} {M : RM} {s r j k : Nat} (H : BkIn P M s r j k) (hj : j = min s r) (hk : k ≤ 30) (hs1 : 1 ≤ s) (hr1 : 1 ≤ r) {y : Int} (h0 : 0 ≤ y) (h8 : y ≤ 8) :
    (∀ er, (er = if r ≤ s then (60 : Int) else 50) → ptClE P M y = er ∧ ptClA P M y = 0 ∧ ptClH P M y = 0 ∧ ptClP P M y = P ∧ ptClM P M y = M) := by
  intro er her
  have hfr := H.fr
  have htl : M.tail = j := by unfold RM.tail; rw [H.h, H.l]; omega
  have htk := H.mok.low
  have hjl : j ≤ 64 := by have := H.mok.len; have := H.mok.max; rw [← H.l]; omega
  have hE : ptClE P M y = er := by
    unfold ptClE
    rw [if_neg (by omega), if_neg (by rw [H.sz]; omega), if_neg (by omega)]
    by_cases hrs : r ≤ s
    · rw [if_pos hrs] at her
      rw [if_pos ⟨by rw [H.l, H.n]; omega, .inl H.ov⟩, her]
    · rw [if_neg hrs] at her
      have hnf : M.l.length ≠ M.n := by rw [H.l, H.n]; omega
      rw [if_neg (fun hh => hnf hh.1), if_pos ⟨List.eq_nil_of_length_eq_zero (by omega), .inl hnf⟩, her]
  have hne : ptClE P M y ≠ 0 := by rw [hE, her]; split <;> omega
  exact ⟨hE, if_pos hne, if_pos hne, if_pos hne, if_pos hne⟩

set_option maxHeartbeats 4000000 in
theorem blocks_walk {PT : Nat → PM → Thing} {XT : Nat → Nat → RM → Thing} (A : PartApi PT XT) (B : PoolApi12 PT) (a b c : Int) (w : World) :
    Calls Try.prog 4 #[.int .i64 a, .int .i64 b, .int .i64 c] w fun e w' => e = .returned (.bool true) ∧ Still w w' := by
  obtain ⟨s0, hs0⟩ : ∃ s, s = am a 20 := ⟨_, rfl⟩
  obtain ⟨r0, hr0⟩ : ∃ r, r = am b 20 := ⟨_, rfl⟩
  obtain ⟨y, hy⟩ : ∃ y, y = am c 9 := ⟨_, rfl⟩
  have hs0l : s0 < 20 := by rw [hs0]; exact am_lt _ (by omega)
  have hr0l : r0 < 20 := by rw [hr0]; exact am_lt _ (by omega)
  have hyl : y < 9 := by rw [hy]; exact am_lt _ (by omega)
  have B1 := Lib.hid (fun W => among_lit a 20 20 s0 rfl hs0 (by omega) (by omega) W)
  have B2 := Lib.hid (fun W => among_lit b 20 20 r0 rfl hr0 (by omega) (by omega) W)
  have B3 := Lib.hid (fun W => among_lit c 9 9 y rfl hy (by omega) (by omega) W)
  obtain ⟨s, hs⟩ : ∃ s, s = 1 + s0 := ⟨_, rfl⟩
  obtain ⟨r, hr⟩ : ∃ r, r = 1 + r0 := ⟨_, rfl⟩
  have hs' : (1 : Int) + (s0 : Int) = (s : Int) := by omega
  have hr' : (1 : Int) + (r0 : Int) = (r : Int) := by omega
  have hs1 : 1 ≤ s := by omega
  have hs2 : s ≤ 20 := by omega
  have hr1 : 1 ≤ r := by omega
  have hr2 : r ≤ 20 := by omega
  have HW := Lib.hid (works12 A B w)
  have C0 := Lib.hid (fun V => show Calls Try.prog 7 #[.int .i64 s, .int .i64 8] V (PNew PT V s 8) from B.make_ok s 8 V hs1 (by omega) (by omega) (by omega))
  have C1 := Lib.hid (fun (W : World) (q : Nat) (R : Thing) (H : Held w W ((PT q (PM.new s 8)).sep R)) => show Calls Try.prog 9 #[.pointer (some ⟨q, 0, none⟩), .int .i64 r, .int .i64 0] W (XNew XT W q r false) from by
    obtain ⟨_, h, _⟩ := H.fst
    exact A.make_ok h (PM.new_ok hs1 (by omega) (by omega) (by omega)) (by omega) r false (by omega) (by omega))
  obtain ⟨mn, hmn⟩ : ∃ mn, mn = min s r := ⟨_, rfl⟩
  have hif : (if (r : Int) < (s : Int) then (r : Int) else (s : Int)) = (mn : Int) := by split <;> omega
  have hmn1 : mn ≤ 20 := by omega
  have HMn := Lib.hid hmn
  clear hs0 hr0 hy hs hr hmn
  go_enter Try.func4, Try.ntmps4
  go_wp2_with (first
    | (go_at_call 6; ((with_reducible refine HW.out.mono ?_)); rintro e w1 ⟨rfl, hT⟩; have HT1 := Lib.hid hT; clear hT)
    | (go_at_call 8; first | (((with_reducible refine (B1.out _).mono ?_)); rintro e w' ⟨rfl, hw⟩; rw [← hw]; clear hw) | (((with_reducible refine (B2.out _).mono ?_)); rintro e w' ⟨rfl, hw⟩; rw [← hw]; clear hw))
    | (go_at_call 7; ((with_reducible refine (C0.out _).mono ?_)); intro e w2 hN; obtain ⟨q, rfl, H⟩ := Held.made HT1.out hN; have H2 := Lib.hid H; clear H hN)
    | (go_at_call 9; ((with_reducible refine (C1.out _ _ _ H2.out).mono ?_)); rintro e w3 ⟨x, rfl, hV⟩; have H3 := Lib.hid (H2.out.turn_none hV); clear hV))
  go_loopw [11] (fun i wr => ∃ (k j : Nat) (P : PM) (M : RM), k ≤ 30 ∧ i = .int .i64 k ∧ (k < mn ∧ j = k ∨ mn ≤ k ∧ j = mn) ∧ BkIn P M s r j k ∧ Held w wr (((PT q P).sep (XT x q M)).sep Thing.none)) (fun i _ => 30 - (intOf i).toNat)
  case atStart => exact ⟨0, 0, _, _, Nat.zero_le _, rfl, by have := HMn.out; omega, BkIn.start hs1 (by omega) hr1 (by omega), H3.out⟩
  case round =>
    clear H2 H3 C0 C1 HW B1 B2
    obtain ⟨k, j, P, M, hk, rfl, hj, hI, hH⟩ := hrel
    have HI := Lib.hid hI
    have HH := Lib.hid hH
    clear hI hH
    by_cases hlt : k < 30
    · rcases hj with ⟨hkm, rfl⟩ | ⟨hkm, hj⟩
      · obtain ⟨f1, f2, f3, f4, f5, f6⟩ := HI.out.go (by have := HMn.out; omega) (by have := HMn.out; omega) (by omega) (y := (y : Int)) (by omega) (by omega)
        have HC := Lib.hid (HH.out.call (fun _ h => A.claim h HI.out.inv HI.out.ok HI.out.mok (by omega) (by omega) y ⟨by omega, by omega⟩))
        rw [f1, f2] at HC
        obtain ⟨o1, o2, _⟩ := ptCl_ok HI.out.ok HI.out.mok (y : Int)
        have hi2 := inv_claim HI.out.inv HI.out.ok HI.out.mok (by omega) (y : Int)
        have HP := Lib.hid (fun (W : World) (H : Held w W (((PT q (ptClP P M y)).sep (XT x q (ptClM P M y))).sep Thing.none)) => H.call (fun _ h => A.pub h hi2 o1 o2 (by omega) (by omega) j ⟨by omega, by omega⟩))
        rw [f4] at HP
        have HHd := Lib.hid (fun (W : World) (H : Held w W (((PT q (ptClP P M y)).sep (XT x q ((ptClM P M y).pubM j))).sep Thing.none)) => H.read (fun _ h => A.head h f5.ok f5.mok (by omega) (by omega)))
        rw [f6] at HHd
        have HF5 := Lib.hid f5
        have hkm' : (j : Int) < (mn : Int) := by omega
        have hkm2 : ¬ (mn : Int) ≤ (j : Int) := by omega
        have hh1 : ¬ ptClH P M y < 1 := by omega
        generalize (ptClM P M y).pubM j = M3 at *
        generalize ptClM P M y = M2 at *
        generalize ptClP P M y = P2 at *
        generalize ptClH P M y = hh at *
        clear f1 f2 f3 f4 f5 f6 o1 o2 hi2 HH
        go_wp2_with (first
          | (go_at_call 8; ((with_reducible refine (B3.out _).mono ?_)); rintro e w' ⟨rfl, hw⟩; rw [← hw]; clear hw)
          | (go_at_call 10; ((with_reducible refine HC.out.mono ?_)); rintro e w4 ⟨rfl, hs⟩; have H4 := Lib.hid hs; clear hs)
          | (go_at_call 12; ((with_reducible refine (HP.out _ H4.out).mono ?_)); rintro e w5 ⟨rfl, hs⟩; have H5 := Lib.hid hs; clear hs)
          | (go_at_call 14; ((with_reducible refine (HHd.out _ H5.out).mono ?_)); rintro e w6 ⟨rfl, hs⟩; have H6 := Lib.hid hs; clear hs))
        go_roundw
        case rel => exact ⟨j + 1, j + 1, P2, M3, by omega, by go_num, by omega, HF5.out, H6.out⟩
        case measure => simp [intOf]; omega
      · obtain ⟨er, her⟩ : ∃ er : Int, er = if r ≤ s then (60 : Int) else 50 := ⟨_, rfl⟩
        obtain ⟨f1, f2, f3, f4, f5⟩ := HI.out.no (by rw [hj]; exact HMn.out) hk hs1 hr1 (y := (y : Int)) (by omega) (by omega) er her
        have HC := Lib.hid (HH.out.call (fun _ h => A.claim h HI.out.inv HI.out.ok HI.out.mok (by omega) (by omega) y ⟨by omega, by omega⟩))
        rw [f1, f2, f3, f4, f5] at HC
        have HHd := Lib.hid (fun (W : World) (H : Held w W (((PT q P).sep (XT x q M)).sep Thing.none)) => H.read (fun _ h => A.head h HI.out.ok HI.out.mok (by omega) (by omega)))
        rw [HI.out.h] at HHd
        have HN := Lib.hid (show BkIn P M s r j (k + 1) from ⟨HI.out.n, HI.out.ov, HI.out.h, HI.out.l, HI.out.fr, HI.out.sz, HI.out.inv, HI.out.ok.mono (by omega), HI.out.mok.mono (by omega)⟩)
        have hkm2 : (mn : Int) ≤ (k : Int) := by omega
        have HJ := Lib.hid hj
        clear f1 f2 f3 f4 f5 HH hj
        rcases Nat.lt_or_ge s r with hsr | hsr
        · have hsr' : ¬ (r : Int) ≤ (s : Int) := by omega
          rw [if_neg (by omega)] at her
          subst her
          go_wp2_with (first
            | (go_at_call 8; ((with_reducible refine (B3.out _).mono ?_)); rintro e w' ⟨rfl, hw⟩; rw [← hw]; clear hw)
            | (go_at_call 10; ((with_reducible refine HC.out.mono ?_)); rintro e w4 ⟨rfl, hs⟩; have H4 := Lib.hid hs; clear hs)
            | (go_at_call 14; ((with_reducible refine (HHd.out _ H4.out).mono ?_)); rintro e w6 ⟨rfl, hs⟩; have H6 := Lib.hid hs; clear hs))
          go_roundw
          case rel => exact ⟨k + 1, j, P, M, by omega, by go_num, .inr ⟨by omega, HJ.out⟩, HN.out, H6.out⟩
          case measure => simp [intOf]; omega
        · have hsr' : (r : Int) ≤ (s : Int) := by omega
          rw [if_pos hsr] at her
          subst her
          go_wp2_with (first
            | (go_at_call 8; ((with_reducible refine (B3.out _).mono ?_)); rintro e w' ⟨rfl, hw⟩; rw [← hw]; clear hw)
            | (go_at_call 10; ((with_reducible refine HC.out.mono ?_)); rintro e w4 ⟨rfl, hs⟩; have H4 := Lib.hid hs; clear hs)
            | (go_at_call 14; ((with_reducible refine (HHd.out _ H4.out).mono ?_)); rintro e w6 ⟨rfl, hs⟩; have H6 := Lib.hid hs; clear hs))
          go_roundw
          case rel => exact ⟨k + 1, j, P, M, by omega, by go_num, .inr ⟨by omega, HJ.out⟩, HN.out, H6.out⟩
          case measure => simp [intOf]; omega
    · obtain rfl : k = 30 := by omega
      have hj' : j = mn := by omega
      have e1 : ptClE P M (-1) = 2 := if_pos (by omega)
      have e2 : ptClE P M 9 = 3 := by unfold ptClE; rw [if_neg (by omega), if_pos (by rw [HI.out.sz]; omega)]
      have HC1 := Lib.hid (HH.out.call (fun _ h => A.claim h HI.out.inv HI.out.ok HI.out.mok (by omega) (by omega) (-1) ⟨by omega, by omega⟩))
      have HC2 := Lib.hid (fun (W : World) (H : Held w W (((PT q P).sep (XT x q M)).sep Thing.none)) => H.call (fun _ h => A.claim h HI.out.inv HI.out.ok HI.out.mok (by omega) (by omega) 9 ⟨by omega, by omega⟩))
      rw [e1, show ptClA P M (-1) = 0 from if_pos (by omega), show ptClH P M (-1) = 0 from if_pos (by omega), show ptClP P M (-1) = P from if_pos (by omega), show ptClM P M (-1) = M from if_pos (by omega)] at HC1
      rw [e2, show ptClA P M 9 = 0 from if_pos (by omega), show ptClH P M 9 = 0 from if_pos (by omega), show ptClP P M 9 = P from if_pos (by omega), show ptClM P M 9 = M from if_pos (by omega)] at HC2
      have HTl := Lib.hid (fun (W : World) (H : Held w W (((PT q P).sep (XT x q M)).sep Thing.none)) => H.read (fun _ h => A.tail h HI.out.ok HI.out.mok (by omega) (by omega)))
      rw [show M.tail = mn by unfold RM.tail; rw [HI.out.h, HI.out.l, hj']; omega] at HTl
      clear e1 e2 hj hj' HH
      go_wp2_with (first
        | (go_at_call 10; first | (((with_reducible refine HC1.out.mono ?_)); rintro e w4 ⟨rfl, hs⟩; have H4 := Lib.hid hs; clear hs) | (((with_reducible refine (HC2.out _ H4.out).mono ?_)); rintro e w5 ⟨rfl, hs⟩; have H5 := Lib.hid hs; clear hs))
        | (go_at_call 15; ((with_reducible refine (HTl.out _ H5.out).mono ?_)); rintro e w6 ⟨rfl, hs⟩; have H6 := Lib.hid hs; clear hs))
      all_goals (
        go_ret
        exact ⟨by first | rfl | (simp; have := HMn.out; omega), H6.out.ground⟩)
end Go.Proofs.Ytbljjmehjkmjaaa
