/- TopicFinds: the walk. No condition but that the program's sets keep their words. -/
import Derived.Test.YtmmkcfiecgpkpaaGreatBxTpWorks
import Derived.Test.YtmmkcfiecgpkpaaGreatBxTpFind
import Derived.Test.YtmmkcfiecgpkpaaGreatBdAct13
import Derived.Test.YtmmkcfiecgpkpaaGreatBdKeepA
import Derived.Test.YtmmkcfiecgpkpaaGreatBxTpOrdLem
namespace Go.Proofs.YtmmkcfiecgpkpaaGreat
open Go.RowKit
set_option linter.unusedVariables false
set_option linter.unusedSimpArgs false
set_option maxRecDepth 100000

theorem okB_stays13 : Stays okB := fun _ _ _ _ h => h
theorem okAct13_stays : Stays okAct13 := fun w w' a ht h => ⟨h.1, h.2.1, SlOk.stays okB_stays13 w w' _ ht h.2.2.1, h.2.2.2⟩
theorem few13_len (xs : List Act13) : (few13 xs).length ≤ 80 := by unfold few13; rw [List.length_map, List.length_take]; omega
theorem few13_small {xs : List Act13} {a : A13} (h : a ∈ few13 xs) : a.2.1.length ≤ 100 := by
  unfold few13 at h
  obtain ⟨b, _, rfl⟩ := List.mem_map.1 h
  unfold cut13
  show (List.take 100 _).length ≤ 100
  rw [List.length_take]; omega

set_option maxHeartbeats 8000000 in
theorem tpfinds_walk {HT : Nat → Nat → List Txt → List (List Nat) → Thing} {PT : Nat → PM → Thing} {XT : Nat → Nat → RM → Thing} (A : TopicApi HT PT XT) (s : Sl Act13) (w : World) (hs : SlOk encAct13 okAct13 6 w s) :
    Calls Tryz.prog 5 #[.slice s.a s.len s.cap] w fun e w' => e = .returned (.bool true) ∧ Still w w' := by
  obtain ⟨l, hl⟩ : ∃ l, l = few13 s.xs := ⟨_, rfl⟩
  have HF := Lib.hid (fun V (h : Still w V) => few13_any s V (SlOk.stays okAct13_stays w V s h hs))
  unfold Few13Post at HF
  rw [← hl] at HF
  have hln : l.length ≤ 80 := by rw [hl]; exact few13_len _
  have HSm := Lib.hid (fun a (ha : a ∈ l) => show a.2.1.length ≤ 100 from few13_small (by rw [← hl]; exact ha))
  obtain ⟨n, hn⟩ : ∃ n, n = l.length := ⟨_, rfl⟩
  rw [← hn] at HF hln
  have HN := Lib.hid hn
  have HW := Lib.hid (works13 A w)
  have C0 := Lib.hid (fun W => show Calls Tryz.prog 8 #[.int .i64 4, .int .i64 8] W fun e w' => ∃ x q, e = .returned (.tuple #[.pointer (some ⟨x, 0, none⟩), .int .i64 0]) ∧ ∃ U, (setT HT PT XT x q [] ⟨PM.new 4 8, []⟩).at_ w' U ∧ Still W w' ∧ ∀ k, U k → W.heap.size ≤ k from A.make_ok 4 8 W (by omega) (by omega) (by omega) (by omega))
  have HO0 := Lib.hid (show (StM.mk (PM.new 4 8) []).Ok [] 0 0 from StM.new_ok (by decide) (by decide) (by decide) (by decide))
  obtain ⟨sa, sl, sc, sx⟩ := s
  dsimp only at HF ⊢
  clear hs hl hn
  go_enter Tryz.func5, Tryz.ntmps5
  go_wp2_with (first
    | (go_at_call 10; ((with_reducible refine HW.out.mono ?_)); rintro e w1 ⟨rfl, hT⟩; have HT1 := Lib.hid hT; clear hT)
    | (go_at_call 8; ((with_reducible refine (C0.out _).mono ?_)); intro e w2 hN; obtain ⟨x, q, rfl, H⟩ := Held.madeS A HT1.out hN; have H2 := Lib.hid H; clear H hN)
    | (go_at_call 11; ((with_reducible refine (HF.out _ H2.out.ground).mono ?_)); rintro e w3 ⟨g, n2, c, rfl, hn2, ho2, hs2⟩; subst n2; have H3 := Lib.hid (H2.out.got ho2 hs2).assoc; clear ho2 hs2))
  clear HF HW C0 HT1 H2
  obtain ⟨R, hR⟩ : ∃ R, R = Thing.none.sep (ownT 37 6 (some ⟨g, 0, none⟩) n c (rowOf encA13 l)) := ⟨_, rfl⟩
  rw [← hR] at H3
  have HRow := Lib.hid (fun (V : World) (B : Thing) (h : Held w V (B.sep R)) => show V.ownsRow 0 37 6 (.slice (some ⟨g, 0, none⟩) n c) n (rowOf encA13 l) from by
    rw [hR] at h
    exact h.snd.own)
  clear hR
  go_loopw [5] (fun i wr => ∃ (k : Nat) (L : List (List Nat)) (T : List TpM), k ≤ n ∧ i = .int .i64 k ∧ Fits L T ∧ (StM.mk (PM.new 4 8) T).Ok [] 0 0 ∧ NmD T ∧ Held w wr ((setT HT PT XT x q L ⟨PM.new 4 8, T⟩).sep R)) (fun i _ => n - (intOf i).toNat)
  case atStart => exact ⟨0, [], [], by omega, rfl, rfl, HO0.out, nmD_nil, H3.out⟩
  case round =>
    clear H3
    obtain ⟨k, L, T, hk, rfl, hf, ho, hd, hh⟩ := hrel
    have HF := Lib.hid hf
    have HO := Lib.hid ho
    have HD := Lib.hid hd
    have HH := Lib.hid hh
    have hT16 : T.length ≤ 16 := ho.len
    clear hf ho hd hh
    obtain ⟨_, hhd⟩ := HH.out.headS
    have CT := Lib.hid (fun (V : World) (h : Still wr V) => by
      obtain ⟨_, hhd⟩ := (HH.out.still h).headS
      exact A.topics hhd HF.out hT16)
    obtain ⟨nT, hnT⟩ : ∃ m, m = T.length := ⟨_, rfl⟩
    rw [show (StM.mk (PM.new 4 8) T).T = T from rfl, ← hnT] at CT
    have hTi : (nT : Int) ≤ 16 := by omega
    by_cases hlt : k < n
    · have hki : (k : Int) < (n : Int) := by omega
      obtain ⟨a, ha⟩ := get_some (l := l) (i := k) (by rw [← HN.out]; exact hlt)
      obtain ⟨a0, u, ky, aA, aB, aC⟩ := a
      have hul : u.length ≤ 100 := HSm.out _ (List.mem_of_getElem? ha)
      have HC := Lib.hid (fun (V : World) (B : Thing) (h : Held w V (B.sep R)) => show V.cell? ⟨g, k * 6 + 1, none⟩ = some (.string ⟨u.toArray⟩) ∧ V.cell? ⟨g, k * 6 + 3, none⟩ = some (.int .i64 aA) from by
        obtain ⟨_, d1, _, d3, _⟩ := act_cells13 (HRow.out V B h) ha
        exact ⟨d1, d3⟩)
      obtain ⟨p0, hp0⟩ : ∃ p, p = am aA 8 := ⟨_, rfl⟩
      have hp8 : p0 < 8 := by rw [hp0]; exact am_lt _ (by omega)
      have BA := Lib.hid (fun W => among_lit aA 8 8 p0 rfl hp0 (by omega) (by omega) W)
      obtain ⟨np, hnp⟩ : ∃ m, m = 1 + p0 := ⟨_, rfl⟩
      have hnp' : (1 : Int) + (p0 : Int) = (np : Int) := by omega
      have hwp : IntKind.i64.wrap ((1 : Int) + (p0 : Int)) = (np : Int) := by simp [IntKind.wrap, IntKind.signed, IntKind.bits]; omega
      have CF := Lib.hid (fun (V : World) (h : Still wr V) => show Calls Tryz.prog 15 #[.pointer (some ⟨x, 0, none⟩), .string ⟨u.toArray⟩] V fun e w' => e = .returned (.tuple #[.int .i64 (findN T u), .int .i64 (findE T u)]) ∧ Still V w' from by
        obtain ⟨_, hhd⟩ := (HH.out.still h).headS
        exact A.find hhd HF.out hT16 u (by omega))
      have CO := Lib.hid (fun (V : World) (h : Still wr V) => show Calls Tryz.prog 13 #[.pointer (some ⟨x, 0, none⟩), .string ⟨u.toArray⟩, .int .i64 (IntKind.i64.wrap ((1 : Int) + (p0 : Int))), .int .i64 2, .int .i64 0] V fun e w' => e = .returned (.tuple #[.int .i64 (openN T u np 2 0), .int .i64 (openE T u np 2 0)]) ∧ ∃ L', Fits L' (openT T u np 2 0) ∧ Held w w' ((setT HT PT XT x q L' ⟨PM.new 4 8, openT T u np 2 0⟩).sep R) from by
        rw [hwp]
        exact Held.openS A (HH.out.still h) HF.out HO.out (by omega) (by omega) u (by omega) np 2 0 ⟨by omega, by omega⟩ ⟨by omega, by omega⟩ ⟨by omega, by omega⟩)
      have HO1 := Lib.hid (HO.out.open u np 2 0)
      have HD1 := Lib.hid (HD.out.open hul np 2 0)
      have hle1 : (openT T u np 2 0).length ≤ 16 := HO1.out.len
      have HLe := Lib.hid hle1
      clear hle1 ha hp0 hnp hwp hnp'
      by_cases he : openE T u (np : Int) 2 0 = 0
      · obtain ⟨q1, q2, _, _, _⟩ := open_ok he
        have qn := open_name he
        have ql := open_len he
        rw [q1] at CF
        rw [he, q2, ← hnT] at CO
        rw [← hnT] at qn ql
        have hwr : IntKind.i64.wrap ((nT : Int) + 1) = (nT : Int) + 1 := by simp [IntKind.wrap, IntKind.signed, IntKind.bits]; omega
        generalize findN T u = fn at *
        generalize openT T u np 2 0 = T1 at *
        have CT1 := Lib.hid (fun (W : World) (L' : List (List Nat)) (hf : Fits L' T1) (H : Held w W ((setT HT PT XT x q L' ⟨PM.new 4 8, T1⟩).sep R)) => show Calls Tryz.prog 33 #[.pointer (some ⟨x, 0, none⟩)] W fun e w' => e = .returned (.int .i64 (IntKind.i64.wrap ((nT : Int) + 1))) ∧ Still W w' from by
          obtain ⟨_, hhd⟩ := H.headS
          have := A.topics hhd hf HLe.out
          rw [ql] at this
          rw [hwr]
          exact this)
        have CN1 := Lib.hid (fun (W : World) (L' : List (List Nat)) (hf : Fits L' T1) (H : Held w W ((setT HT PT XT x q L' ⟨PM.new 4 8, T1⟩).sep R)) => show Calls Tryz.prog 30 #[.pointer (some ⟨x, 0, none⟩), .int .i64 (nT : Nat)] W fun e w' => e = .returned (.string ⟨u.toArray⟩) ∧ Still W w' from by
          obtain ⟨_, hhd⟩ := H.headS
          have := A.name hhd hf HLe.out (nT : Nat) ⟨by omega, by omega⟩
          rw [qn] at this
          exact this)
        clear q1 q2 qn ql he hnT hwr
        go_wp2_with (first
          | (go_at_call 33; ((with_reducible refine (CT.out _ (Turned.refl _ _)).mono ?_)); rintro e w4 ⟨rfl, h4⟩; have H4 := Lib.hid h4; obtain ⟨z1, _⟩ := HC.out w4 _ (HH.out.still h4); clear h4)
          | (go_at_call 15; ((with_reducible refine (CF.out _ H4.out).mono ?_)); rintro e w5 ⟨rfl, h5⟩; have h5d : Still wr w5.drew := (H4.out.trans h5).drew; obtain ⟨z3, z4⟩ := HC.out w5.drew _ (HH.out.still h5d); clear h5))
        clear z1
        go_region_held3 (fun Z => Z.cell? ⟨g, k * 6 + 1, none⟩ = some (.string ⟨u.toArray⟩) ∧ Z.cell? ⟨g, k * 6 + 3, none⟩ = some (.int .i64 aA)) (first | exact ⟨by assumption, by assumption⟩ | go_keep) (first
          | (go_at_call 12; ((with_reducible refine (BA.out _).mono ?_)); rintro e w6 ⟨rfl, hw6⟩; subst hw6)
          | (go_at_call 13; ((with_reducible refine (CO.out _ h5d).mono ?_)); rintro e w7 ⟨rfl, L7, hf7, H⟩; have H7 := Lib.hid H; have F7 := Lib.hid hf7; obtain ⟨y1, y2⟩ := HC.out w7 _ H; clear H hf7))
        all_goals (
          go_wp2_with fail
          have h7d : Still w7 w7.drew := (Turned.refl _ _).drew
          obtain ⟨y3, _⟩ := HC.out _ _ (H7.out.still h7d)
          go_region_held3 (fun Z => Z.cell? ⟨g, k * 6 + 1, none⟩ = some (.string ⟨u.toArray⟩)) (first | assumption | go_keep) (first
            | (go_at_call 33; ((with_reducible refine (CT1.out _ _ F7.out (H7.out.still h7d)).mono ?_)); rintro e w8 ⟨rfl, h8⟩; have h78 : Still w7 w8 := h7d.trans h8; obtain ⟨y4, _⟩ := HC.out _ _ (H7.out.still h78); clear h8)
            | (go_at_call 30; ((with_reducible refine (CN1.out _ _ F7.out (H7.out.still h78)).mono ?_)); rintro e w9 ⟨rfl, h9⟩; have h79 : Still w7 w9 := h78.trans h9; obtain ⟨y5, _⟩ := HC.out _ _ (H7.out.still h79); clear h9)))
        all_goals (
          go_wp2_with fail
          go_roundw
          case rel => exact ⟨k + 1, L7, T1, by omega, by go_num, F7.out, HO1.out, HD1.out, H7.out.still h79⟩
          case measure => simp [intOf]; omega)
      · have qn : openN T u (np : Int) 2 0 = 0 := by unfold openN; rw [if_pos he]
        rw [qn, open_no he] at CO
        clear qn HO1 HD1 HLe
        have her : openE T u (np : Int) 2 0 = 80 ∨ openE T u (np : Int) 2 0 = 2 ∨ openE T u (np : Int) 2 0 = 6 ∨ openE T u (np : Int) 2 0 = 4 := by
          revert he
          unfold openE
          repeat' split
          all_goals simp
        generalize openE T u (np : Int) 2 0 = er at *
        generalize findN T u = fn at *
        generalize findE T u = fe at *
        have CT1 := Lib.hid (fun (W : World) (L' : List (List Nat)) (hf : Fits L' T) (H : Held w W ((setT HT PT XT x q L' ⟨PM.new 4 8, T⟩).sep R)) => show Calls Tryz.prog 33 #[.pointer (some ⟨x, 0, none⟩)] W fun e w' => e = .returned (.int .i64 (nT : Nat)) ∧ Still W w' from by
          obtain ⟨_, hhd⟩ := H.headS
          have := A.topics hhd hf hT16
          rw [← hnT] at this
          exact this)
        clear hnT
        rcases her with rfl | rfl | rfl | rfl
        all_goals clear he
        all_goals (
          go_wp2_with (first
            | (go_at_call 33; ((with_reducible refine (CT.out _ (Turned.refl _ _)).mono ?_)); rintro e w4 ⟨rfl, h4⟩; have H4 := Lib.hid h4; obtain ⟨z1, _⟩ := HC.out w4 _ (HH.out.still h4); clear h4)
            | (go_at_call 15; ((with_reducible refine (CF.out _ H4.out).mono ?_)); rintro e w5 ⟨rfl, h5⟩; have h5d : Still wr w5.drew := (H4.out.trans h5).drew; obtain ⟨z3, z4⟩ := HC.out w5.drew _ (HH.out.still h5d); clear h5))
          clear z1
          go_region_held3 (fun Z => Z.cell? ⟨g, k * 6 + 1, none⟩ = some (.string ⟨u.toArray⟩) ∧ Z.cell? ⟨g, k * 6 + 3, none⟩ = some (.int .i64 aA)) (first | exact ⟨by assumption, by assumption⟩ | go_keep) (first
            | (go_at_call 12; ((with_reducible refine (BA.out _).mono ?_)); rintro e w6 ⟨rfl, hw6⟩; subst hw6)
            | (go_at_call 13; ((with_reducible refine (CO.out _ h5d).mono ?_)); rintro e w7 ⟨rfl, L7, hf7, H⟩; have H7 := Lib.hid H; have F7 := Lib.hid hf7; obtain ⟨y1, y2⟩ := HC.out w7 _ H; clear H hf7))
          all_goals (
            go_wp2_with fail
            go_quiet (fail))
          all_goals (
            go_wp2_with (go_at_call 33; ((with_reducible refine (CT1.out _ _ F7.out (H7.out.still ((Turned.refl _ w7).drewN _))).mono ?_)); rintro e w8 ⟨rfl, h8⟩; have h78 : Still w7 w8 := ((Turned.refl _ w7).drewN _).trans h8; clear h8)
            go_roundw
            case rel => exact ⟨k + 1, L7, T, by omega, by go_num, F7.out, HO.out, HD.out, H7.out.still h78⟩
            case measure => simp [intOf]; omega))
    · have hki : ¬ ((k : Int) < (n : Int)) := by omega
      have hdk : decide (k < n) = false := decide_eq_false hlt
      have CN := Lib.hid (fun (j : Nat) (hj : j < nT) => by
        obtain ⟨u, q1, q2, q3, q4⟩ := HD.out.find HO.out.names (k := j) (by omega)
        exact (show ∃ u : Txt, (∀ V, Still wr V → Calls Tryz.prog 30 #[.pointer (some ⟨x, 0, none⟩), .int .i64 (j : Nat)] V fun e w' => e = .returned (.string ⟨u.toArray⟩) ∧ Still V w') ∧ (∀ V, Still wr V → Calls Tryz.prog 15 #[.pointer (some ⟨x, 0, none⟩), .string ⟨u.toArray⟩] V fun e w' => e = .returned (.tuple #[.int .i64 (j : Nat), .int .i64 0]) ∧ Still V w') from ⟨u, fun V h => by
          obtain ⟨_, hhd⟩ := (HH.out.still h).headS
          have := A.name hhd HF.out hT16 (j : Nat) ⟨by omega, by omega⟩
          rw [q1] at this
          exact this, fun V h => by
          obtain ⟨_, hhd⟩ := (HH.out.still h).headS
          have := A.find hhd HF.out hT16 u (by omega)
          rw [q3, q4] at this
          exact this⟩))
      have HGr := Lib.hid HH.out.ground
      clear hnT HH HD HO hhd
      go_wp2_with fail
      go_loopw [11] (fun i wx => ∃ j : Nat, j ≤ nT ∧ i = .int .i64 j ∧ Still wr wx) (fun i _ => nT - (intOf i).toNat)
      case atStart => exact ⟨0, Nat.zero_le _, rfl, Turned.refl _ _⟩
      case round =>
        obtain ⟨j, hj, rfl, hst⟩ := hrel
        have HSt := Lib.hid hst
        clear hst
        by_cases hj2 : j < nT
        · have hji : (j : Int) < (nT : Int) := by omega
          obtain ⟨u, hN1, hF1⟩ := CN.out j hj2
          have HN1 := Lib.hid hN1
          have HF1 := Lib.hid hF1
          clear hN1 hF1
          go_wp2_with (first
            | (go_at_call 33; ((with_reducible refine (CT.out _ HSt.out).mono ?_)); rintro e w5 ⟨rfl, h5⟩; have H5 := Lib.hid (HSt.out.trans h5); clear h5)
            | (go_at_call 30; ((with_reducible refine (HN1.out _ H5.out).mono ?_)); rintro e w6 ⟨rfl, h6⟩; have H6 := Lib.hid (H5.out.trans h6); clear h6)
            | (go_at_call 15; ((with_reducible refine (HF1.out _ H6.out).mono ?_)); rintro e w7 ⟨rfl, h7⟩; have H7 := Lib.hid (H6.out.trans h7); clear h7))
          go_roundw
          case rel => exact ⟨j + 1, by omega, by go_num, H7.out⟩
          case measure => simp [intOf]; omega
        · have hji : (nT : Int) ≤ (j : Int) := by omega
          go_wp2_with (first
            | (go_at_call 33; ((with_reducible refine (CT.out _ H5.out).mono ?_)); rintro e w6 ⟨rfl, h6⟩; have H6 := Lib.hid (H5.out.trans h6); clear h6)
            | (go_at_call 33; ((with_reducible refine (CT.out _ HSt.out).mono ?_)); rintro e w5 ⟨rfl, h5⟩; have H5 := Lib.hid (HSt.out.trans h5); clear h5))
          go_ret
          exact ⟨by first | rfl | simp, HGr.out.trans H6.out⟩
end Go.Proofs.YtmmkcfiecgpkpaaGreat
