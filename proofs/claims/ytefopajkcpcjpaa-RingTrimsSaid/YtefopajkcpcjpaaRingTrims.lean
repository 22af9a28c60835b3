/- RingTrims: the walk. No condition but that the program's ring keeps its words. -/
import Derived.Test.YtefopajkcpcjpaaWorks6
import Derived.Test.YtefopajkcpcjpaaReadInts
namespace Go.Proofs.Ytefopajkcpcjpaa
open Go.RowKit
set_option linter.unusedVariables false
set_option linter.unusedSimpArgs false
set_option maxRecDepth 100000

theorem tw_all {α : Type} (f : α → Bool) : ∀ (l : List α) (t : Nat), t ≤ (l.takeWhile f).length → (l.take t).all f = true
  | [], t, _ => by simp
  | a :: r, 0, _ => by simp
  | a :: r, t + 1, h => by
    by_cases ha : f a = true
    · rw [List.takeWhile_cons_of_pos ha] at h
      simp only [List.take_succ_cons, List.all_cons, ha, Bool.true_and]
      exact tw_all f r t (by simp at h; omega)
    · rw [List.takeWhile_cons_of_neg ha] at h; simp at h
theorem all_tw {α : Type} (f : α → Bool) : ∀ (l : List α) (t : Nat), t ≤ l.length → (l.take t).all f = true → t ≤ (l.takeWhile f).length
  | [], t, h, _ => by simpa using h
  | a :: r, 0, _, _ => Nat.zero_le _
  | a :: r, t + 1, h, ha => by
    simp only [List.take_succ_cons, List.all_cons, Bool.and_eq_true] at ha
    rw [List.takeWhile_cons_of_pos ha.1]
    have := all_tw f r t (by simp at h; omega) ha.2
    simp; omega

/-- A ring that blocks, with so many places, whose references are told by their offsets. -/
structure Tr (M : RM) (rm n : Nat) : Prop where
  n_ : M.n = rm
  ov : M.ov = false
  h : M.h = 0
  len : M.l.length = n
  ref : ∀ i, i < n → ∃ d, M.l[i]? = some ⟨100 + (i : Int), d⟩
theorem Tr.new (rm : Nat) : Tr (RM.new rm false) rm 0 := ⟨rfl, rfl, rfl, rfl, fun i hi => absurd hi (Nat.not_lt_zero _)⟩
theorem Tr.claim {M : RM} {rm n : Nat} (T : Tr M rm n) (hn : n < rm) (hr : rm ≤ 64) : Tr (M.claimM (100 + (n : Int))) rm (n + 1) := by
  have he : M.claimE (100 + (n : Int)) = 0 := by
    unfold RM.claimE RM.tail
    rw [if_neg (by omega), if_neg (by rw [T.h, T.len]; omega), if_neg (by rw [T.len, T.n_]; omega)]
  have hm : M.claimM (100 + (n : Int)) = { M with l := M.l ++ [⟨100 + (n : Int), false⟩] } := by
    unfold RM.claimM; rw [if_neg (by rw [he]; simp), if_neg (by rw [T.len, T.n_]; omega)]
  rw [hm]
  refine ⟨T.n_, T.ov, T.h, by simp [T.len], fun i hi => ?_⟩
  by_cases e : i = n
  · subst e
    exact ⟨false, by show (M.l ++ _)[_]? = _; rw [List.getElem?_append_right (by rw [T.len]; exact Nat.le_refl _), T.len, Nat.sub_self]; rfl⟩
  · obtain ⟨d, hd⟩ := T.ref i (by omega)
    exact ⟨d, by show (M.l ++ _)[_]? = _; rw [List.getElem?_append_left (by rw [T.len]; omega)]; exact hd⟩
theorem Tr.pub {M : RM} {rm n : Nat} (T : Tr M rm n) (x : Int) : Tr (M.pubM x) rm n := by
  unfold RM.pubM
  split
  · exact T
  · rename_i he
    refine ⟨T.n_, T.ov, T.h, by simpa using T.len, fun i hi => ?_⟩
    obtain ⟨d, hd⟩ := T.ref i hi
    by_cases e : M.cut x = i
    · refine ⟨true, ?_⟩
      show (M.l.set _ _)[i]? = _
      rw [e, List.getElem?_set_self (by rw [T.len]; exact hi)]
      have : M.pl x = ⟨100 + (i : Int), d⟩ := by unfold RM.pl; rw [e, hd]; rfl
      rw [this]
    · exact ⟨d, by show (M.l.set _ _)[i]? = _; rw [List.getElem?_set_ne e]; exact hd⟩
theorem Tr.ok {M : RM} {rm n : Nat} (T : Tr M rm n) (h1 : 1 ≤ rm) (h2 : rm ≤ 64) (h3 : n ≤ rm) : M.Ok 64 := ⟨by rw [T.n_]; exact h1, by rw [T.n_]; exact h2, by rw [T.len, T.n_]; exact h3, by unfold RM.tail; rw [T.h, T.len]; omega⟩
theorem Tr.cut {M : RM} {rm n : Nat} (T : Tr M rm n) (t : Nat) : M.cut (t : Int) = t := by unfold RM.cut; rw [T.h]; omega
def RM.cR (M : RM) : Nat := (M.l.takeWhile (·.d)).length
theorem Tr.ready {M : RM} {rm n : Nat} (T : Tr M rm n) : M.ready 0 = M.cR ∧ M.cR ≤ n := by
  have hc := T.cut 0
  have hl := tw_le (·.d) M.l
  rw [T.len] at hl
  refine ⟨?_, hl⟩
  unfold RM.ready RM.tail
  rw [show M.cut 0 = 0 from hc, T.h, T.len, List.drop_zero]
  unfold RM.cR
  omega
theorem Tr.trim_no {M : RM} {rm n t : Nat} (T : Tr M rm n) (ht : t ≤ n) (h : M.cR < t) : M.trimE (t : Int) = 8 ∧ M.trimL (t : Int) = [] ∧ M.trimM (t : Int) = M := by
  have he : M.trimE (t : Int) = 8 := by
    unfold RM.trimE
    rw [if_neg (by unfold RM.tail; rw [T.h, T.len]; omega), T.cut, if_neg (fun ha => by have := all_tw _ _ _ (by rw [T.len]; exact ht) ha; unfold RM.cR at h; omega)]
  exact ⟨he, by unfold RM.trimL; rw [if_pos (by rw [he]; simp)], by unfold RM.trimM; rw [if_pos (by rw [he]; simp)]⟩
theorem Tr.trim_ok {M : RM} {rm n t : Nat} (T : Tr M rm n) (ht : t ≤ n) (h : t ≤ M.cR) : M.trimE (t : Int) = 0 ∧ M.trimL (t : Int) = (M.l.take t).map (·.r) ∧ (M.trimM (t : Int)).h = t ∧ (M.trimM (t : Int)).tail = n ∧ ((t = 0 ∧ True) ∨ (M.trimM (t : Int)).getE ((t : Int) - 1) = 61) := by
  have he : M.trimE (t : Int) = 0 := by
    unfold RM.trimE
    rw [if_neg (by unfold RM.tail; rw [T.h, T.len]; omega), T.cut, if_pos (tw_all _ _ _ h)]
  have hm : M.trimM (t : Int) = { M with h := M.h + t, l := M.l.drop t } := by unfold RM.trimM; rw [if_neg (by rw [he]; simp), T.cut]
  refine ⟨he, by unfold RM.trimL; rw [if_neg (by rw [he]; simp), T.cut], by rw [hm, T.h]; simp, by rw [hm]; unfold RM.tail; rw [List.length_drop, T.len, T.h]; dsimp only; omega, ?_⟩
  by_cases h0 : t = 0
  · exact .inl ⟨h0, trivial⟩
  · right
    have : (M.trimM (t : Int)).findE ((t : Int) - 1) = 61 := by
      rw [hm]; unfold RM.findE; rw [T.h]; dsimp only
      rw [if_neg (by omega), if_pos (by omega)]
    unfold RM.getE
    rw [if_pos (by rw [this]; simp), this]
theorem Tr.refs {M : RM} {rm n t : Nat} (T : Tr M rm n) (ht : t ≤ n) {i : Nat} (hi : i < t) : ((M.l.take t).map (·.r))[i]? = some (100 + (i : Int)) := by
  obtain ⟨d, hd⟩ := T.ref i (by omega)
  rw [List.getElem?_map, List.getElem?_take, if_pos hi, hd]
  rfl

set_option maxHeartbeats 4000000 in
theorem trims_walk {RT : Nat → RM → Thing} (A : RingApi RT) (r0 n0 : Int) (s : Sl Int) (t0 : Int) (w : World) (h1 : SlOk encI (okI .i64) 1 w s) :
    Calls Try.prog 7 #[.int .i64 r0, .int .i64 n0, .slice s.a s.len s.cap, .int .i64 t0] w fun e w' => e = .returned (.bool true) ∧ Still w w' := by
  obtain ⟨sa, sl, sc, sx⟩ := s
  have HSL := Lib.hid h1.len
  have hscap : sl ≤ sc := h1.le
  have hsmax : sc ≤ maxLen := h1.max
  have HSX := Lib.hid (nums_row h1.row)
  unfold maxLen at hsmax
  clear h1
  dsimp only at HSL HSX ⊢
  obtain ⟨R1, hR1⟩ : ∃ x, x = am r0 64 := ⟨_, rfl⟩
  have hr1 : R1 < 64 := by rw [hR1]; exact am_lt _ (by omega)
  have B1 := Lib.hid (fun W => among_lit r0 64 64 R1 rfl hR1 (by omega) (by omega) W)
  obtain ⟨rm, hrm⟩ : ∃ rm, rm = R1 + 1 := ⟨_, rfl⟩
  have erm : (1 : Int) + (R1 : Int) = rm := by omega
  have rm1 : 1 ≤ rm := by omega
  have rm2 : rm ≤ 64 := by omega
  obtain ⟨n, hn⟩ : ∃ x, x = am n0 (rm + 1) := ⟨_, rfl⟩
  have hnr : n ≤ rm := by have : n < rm + 1 := by rw [hn]; exact am_lt _ (by omega)
                          omega
  have B2 := Lib.hid (fun W => among_lit n0 ((rm : Int) + 1) (rm + 1) n (by omega) hn (by omega) (by omega) W)
  obtain ⟨t, ht⟩ : ∃ x, x = am t0 (n + 1) := ⟨_, rfl⟩
  have htn : t ≤ n := by have : t < n + 1 := by rw [ht]; exact am_lt _ (by omega)
                         omega
  have B3 := Lib.hid (fun W => among_lit t0 ((n : Int) + 1) (n + 1) t (by omega) ht (by omega) (by omega) W)
  have C0 := Lib.hid (fun W => A.make_ok rm false W rm1 rm2)
  rw [show polB false = 0 from rfl] at C0
  have C1 := Lib.hid (fun (w0 W : World) (q i : Nat) (M : RM) (T : Tr M rm i) (hi : i < n) (R : Thing) (H : Held w0 W ((RT q M).sep R)) => show Calls Try.prog 13 #[.pointer (some ⟨q, 0, none⟩), .int .i64 (100 + (i : Int))] W fun e w' => (∃ a b c, e = .returned (.tuple #[.int .i64 a, .int .i64 b, .int .i64 c])) ∧ Held w0 w' ((RT q (M.claimM (100 + (i : Int)))).sep R) from
    (H.call (fun _ h => A.claim h (T.ok rm1 rm2 (by omega)) (by omega) (100 + (i : Int)) (w64_lit (by omega) (by omega)))).mono fun e w' ⟨he, hh⟩ => ⟨⟨_, _, _, he⟩, hh⟩)
  have C2 := Lib.hid (fun (w0 W : World) (q : Nat) (M : RM) (T : Tr M rm n) (y : Nat) (hy : y ≤ n) (R : Thing) (H : Held w0 W ((RT q M).sep R)) => show Calls Try.prog 15 #[.pointer (some ⟨q, 0, none⟩), .int .i64 (y : Nat)] W fun e w' => (∃ a, e = .returned (.int .i64 a)) ∧ Held w0 w' ((RT q (M.pubM (y : Nat))).sep R) from
    (H.call (fun _ h => A.pub h (T.ok rm1 rm2 hnr) (by omega) (y : Nat) (w64_lit (by omega) (by omega)))).mono fun e w' ⟨he, hh⟩ => ⟨⟨_, he⟩, hh⟩)
  have C3 := Lib.hid (fun (w0 W : World) (q : Nat) (M : RM) (T : Tr M rm n) (R : Thing) (H : Held w0 W ((RT q M).sep R)) => show Calls Try.prog 22 #[.pointer (some ⟨q, 0, none⟩), .int .i64 0] W fun e w' => e = .returned (.int .i64 (M.cR : Nat)) ∧ Still W w' from by
    obtain ⟨_, h, _⟩ := H.fst
    have := A.ready h (T.ok rm1 rm2 hnr) (by omega) 0 (w64_lit (by omega) (by omega))
    rwa [T.ready.1] at this)
  have C4 := Lib.hid (fun (w0 W : World) (q : Nat) (M : RM) (T : Tr M rm n) (R : Thing) (H : Held w0 W ((RT q M).sep R)) => held_trim H (fun _ h => A.trim h (T.ok rm1 rm2 hnr) (by omega) (t : Nat) (w64_lit (by omega) (by omega))))
  clear hR1 hn ht hrm
  go_enter Try.func7, Try.ntmps7
  go_wp2_with fail
  refine (works6 A _).mono ?_
  rintro e w1 ⟨rfl, hT⟩
  have HT := Lib.hid hT
  clear hT
  go_wp2_with fail
  refine (B1.out _).mono ?_
  rintro e w' ⟨rfl, rfl⟩
  go_wp2_with fail
  refine (B2.out _).mono ?_
  rintro e w' ⟨rfl, rfl⟩
  go_wp2_with fail
  refine (C0.out _).mono ?_
  intro e w2 hN
  obtain ⟨q, rfl, H⟩ := Held.ring HT.out hN
  have HH := Lib.hid H
  clear hN C0 H B1 B2 erm hr1
  go_wp2_with fail
  go_loopw [11] (fun i wr => ∃ (k : Nat) (M : RM), k ≤ n ∧ i = .int .i64 k ∧ Tr M rm k ∧ Held w wr ((RT q M).sep Thing.none)) (fun i _ => n - (intOf i).toNat)
  case atStart => exact ⟨0, _, Nat.zero_le _, rfl, Tr.new rm, HH.out⟩
  case round =>
    clear HH
    obtain ⟨k, M, hk, rfl, hTr, H⟩ := hrel
    have HTr := Lib.hid hTr
    have HH := Lib.hid H
    clear hTr H
    by_cases hlt : k < n
    · have D1 := Lib.hid (C1.out w wr q k M HTr.out hlt _ HH.out)
      clear C1 C2 C3 C4 B3
      go_wp2_with fail
      refine D1.out.mono ?_
      rintro e w3 ⟨⟨a, b, c, rfl⟩, H⟩
      have HH3 := Lib.hid H
      clear H D1 HH
      go_wp2_with fail
      go_roundw
      case rel => exact ⟨k + 1, _, by omega, by go_num, HTr.out.claim (by omega) rm2, HH3.out⟩
      case measure => simp [intOf]; omega
    · obtain rfl : k = n := by omega
      clear C1
      go_wp2_with fail
      have HH0 := Lib.hid HH.out
      have HTr0 := Lib.hid HTr.out
      go_loopw [12] (fun u wx => ∃ (j : Nat) (M : RM), j ≤ sl ∧ j ≤ 100 ∧ u = .int .i64 j ∧ Tr M rm k ∧ Held w wx ((RT q M).sep Thing.none)) (fun u _ => sl - (intOf u).toNat)
      case atStart => exact ⟨0, M, Nat.zero_le _, Nat.zero_le _, rfl, HTr0.out, HH0.out⟩
      case round =>
        clear HTr HH HH0 HTr0
        obtain ⟨j, M, hj, hj1, rfl, hTr, H⟩ := hrel
        have HTr := Lib.hid hTr
        have HH := Lib.hid H
        have HG := Lib.hid H.ground
        clear hTr H
        by_cases hin : j < sl ∧ j < 100
        · obtain ⟨hjs, hj100⟩ := hin
          obtain ⟨x, hx⟩ := get_some (l := sx) (i := j) (by rw [HSL.out]; exact hjs)
          obtain ⟨b, o, rfl, hc⟩ := HSX.out j x hx
          rename_i wx
          have c0 := still_cell HG.out hc rfl
          obtain ⟨Y, hY⟩ : ∃ Y, Y = am x (k + 1) := ⟨_, rfl⟩
          have hY1 : Y ≤ k := by have : Y < k + 1 := by rw [hY]; exact am_lt _ (by omega)
                                 omega
          have E1 := Lib.hid (fun W => among_lit x ((k : Int) + 1) (k + 1) Y (by omega) hY (by omega) (by omega) W)
          have D2 := Lib.hid (fun W H => C2.out w W q M HTr.out Y hY1 Thing.none H)
          clear hc hx hY C2 C3 C4 B3 HSX HG
          go_wp2_with fail
          refine (E1.out _).mono ?_
          rintro e w' ⟨rfl, rfl⟩
          go_wp2_with fail
          refine (D2.out _ HH.out).mono ?_
          rintro e w3 ⟨⟨a, rfl⟩, H⟩
          have HH3 := Lib.hid H
          clear H D2 E1 HH
          go_wp2_with fail
          go_roundw
          case rel => exact ⟨j + 1, _, by omega, by omega, by go_num, HTr.out.pub _, HH3.out⟩
          case measure => simp [intOf]; omega
        · have hex : (j < sl ∧ 100 ≤ j) ∨ sl ≤ j := by omega
          clear hin
          obtain ⟨cr, hcr⟩ : ∃ cr, cr = M.cR := ⟨_, rfl⟩
          have hcrn : cr ≤ k := by rw [hcr]; exact HTr.out.ready.2
          have D3 := Lib.hid (fun W H => C3.out w W q M HTr.out Thing.none H)
          have D4 := Lib.hid (fun W H => C4.out w W q M HTr.out Thing.none H)
          rw [← hcr] at D3
          have HCR := Lib.hid hcr
          have hMo : ∀ x, (M.trimM x).Ok 64 := fun x => (HTr.out.ok rm1 rm2 hnr).trim x
          have F1 := Lib.hid (fun (x : Int) (W : World) (R : Thing) (H : Held w W ((RT q (M.trimM x)).sep R)) => show Calls Try.prog 24 #[.pointer (some ⟨q, 0, none⟩)] W fun e w' => e = .returned (.int .i64 (M.trimM x).h) ∧ Still W w' from by
            obtain ⟨_, h, _⟩ := H.fst
            exact A.head h (hMo x) (by omega))
          have F2 := Lib.hid (fun (x : Int) (W : World) (R : Thing) (H : Held w W ((RT q (M.trimM x)).sep R)) => show Calls Try.prog 25 #[.pointer (some ⟨q, 0, none⟩)] W fun e w' => e = .returned (.int .i64 (M.trimM x).tail) ∧ Still W w' from by
            obtain ⟨_, h, _⟩ := H.fst
            exact A.tail h (hMo x) (by omega))
          have F3 := Lib.hid (fun (x : Int) (W : World) (R : Thing) (H : Held w W ((RT q (M.trimM x)).sep R)) (n : Nat) (hn : n = (M.trimM x).l.length) => show Calls Try.prog 28 #[.pointer (some ⟨q, 0, none⟩)] W (OutNums W (M.trimM x).refs n) from by
            obtain ⟨_, h, _⟩ := H.fst
            exact A.refs h (hMo x) (by omega) n hn)
          have F4 := Lib.hid (fun (x : Int) (W : World) (R : Thing) (H : Held w W ((RT q (M.trimM x)).sep R)) => show Calls Try.prog 17 #[.pointer (some ⟨q, 0, none⟩), .int .i64 ((t : Int) - 1)] W fun e w' => e = .returned (.tuple #[.int .i64 ((M.trimM x).getR ((t : Int) - 1)), .int .i64 ((M.trimM x).getE ((t : Int) - 1))]) ∧ Still W w' from by
            obtain ⟨_, h, _⟩ := H.fst
            exact A.get h (hMo x) (by omega) ((t : Int) - 1) (w64_lit (by omega) (by omega)))
          have HTN := Lib.hid htn
          clear C2 C3 C4 HSX HG hcr
          rcases hex with ⟨hx1, hx2⟩ | hx1
          all_goals
            go_wp2_with fail
            refine (B3.out _).mono ?_
            rintro e w' ⟨rfl, rfl⟩
            go_wp2_with fail
            refine (D3.out _ HH.out).mono ?_
            rintro e w3 ⟨rfl, hst3⟩
            have HH3 := Lib.hid (HH.out.still hst3)
            clear hst3 HH D3 B3
          all_goals
            by_cases hct : cr < t
            · obtain ⟨z1, z2, z3⟩ := HTr.out.trim_no HTN.out (by rw [← HCR.out]; exact hct)
              have G1 := Lib.hid (F1.out (t : Nat))
              have G3 := Lib.hid (F3.out (t : Nat))
              rw [z3] at G1 G3
              rw [z1, z2, z3] at D4
              have G3 := Lib.hid (fun W R H => G3.out W R H k HTr.out.len.symm)
              rw [HTr.out.h] at G1
              clear F1 F2 F3 F4 z1 z2 z3 hMo
              go_wp2_with fail
              refine (D4.out _ HH3.out).mono ?_
              rintro e w4 ⟨a4, c4, rfl, H⟩
              have HH4 := Lib.hid H.unnum
              clear H D4 HH3
              go_wp2_with fail
              refine (G1.out _ _ HH4.out).mono ?_
              rintro e w5 ⟨rfl, hst5⟩
              have HH5 := Lib.hid (HH4.out.still hst5)
              clear hst5 HH4 G1
              go_wp2_with fail
              refine (G3.out _ _ HH5.out).mono ?_
              rintro e w6 ⟨a6, c6, rfl, _, hst6⟩
              have HH6 := Lib.hid (HH5.out.still hst6)
              clear hst6 HH5 G3
              go_wp2_with fail
              go_ret
              exact ⟨by simp, HH6.out.ground⟩
            · obtain ⟨z1, z2, z3, z4, z5⟩ := HTr.out.trim_ok HTN.out (by rw [← HCR.out]; omega)
              have G1 := Lib.hid (F1.out (t : Nat))
              have G2 := Lib.hid (F2.out (t : Nat))
              have G4 := Lib.hid (F4.out (t : Nat))
              rw [z3] at G1
              rw [z4] at G2
              obtain ⟨L, hL⟩ : ∃ L, L = (M.l.take t).map (·.r) := ⟨_, rfl⟩
              have hLl : L.length = t := by rw [hL, List.length_map, List.length_take, HTr.out.len]; omega
              have HLr := Lib.hid (fun i (hi : i < t) => (hL ▸ HTr.out.refs HTN.out hi : L[i]? = some (100 + (i : Int))))
              rw [z1, z2, ← hL, hLl] at D4
              obtain ⟨M2, hM2⟩ : ∃ M2, M2 = M.trimM (t : Int) := ⟨_, rfl⟩
              rw [← hM2] at D4 G1 G2 G4 z5
              obtain ⟨ge, hge⟩ : ∃ ge, ge = M2.getE ((t : Int) - 1) := ⟨_, rfl⟩
              obtain ⟨gr, hgr⟩ : ∃ gr, gr = M2.getR ((t : Int) - 1) := ⟨_, rfl⟩
              rw [← hge, ← hgr] at G4
              rw [← hge] at z5
              have HLL := Lib.hid hLl
              have hct2 : t ≤ cr := by omega
              clear F1 F2 F3 F4 z1 z2 z3 z4 hMo hM2 hge hgr hL hLl hct
              go_wp2_with fail
              refine (D4.out _ HH3.out).mono ?_
              rintro e w4 ⟨a4, c4, rfl, H⟩
              have HH4 := Lib.hid H
              clear H D4 HH3
              go_wp2_with fail
              go_loopw [16] (fun u wy => ∃ i : Nat, i ≤ t ∧ u = .int .i64 i ∧ Held w wy ((numsT (RT q M2) a4 L).sep Thing.none)) (fun u _ => t - (intOf u).toNat)
              case atStart => exact ⟨0, Nat.zero_le _, rfl, HH4.out⟩
              case round =>
                clear HH4
                obtain ⟨i, hi, rfl, H⟩ := hrel
                have HH := Lib.hid H
                have HA := Lib.hid H.nums
                clear H
                by_cases hit : i < t
                · obtain ⟨b, o, rfl, hc⟩ := HA.out i _ (HLr.out i hit)
                  clear HA G1 G2 G4 z5
                  go_wp2_with fail
                  go_roundw
                  case rel => exact ⟨i + 1, by omega, by go_num, HH.out⟩
                  case measure => simp [intOf]; omega
                · obtain rfl : i = t := by omega
                  clear HA
                  rcases z5 with ⟨h0, _⟩ | h61
                  · obtain rfl : i = 0 := h0
                    go_wp2_with fail
                    refine (G4.out _ _ HH.out.unnum).mono ?_
                    rintro e w5 ⟨rfl, hst5⟩
                    have HH5 := Lib.hid (HH.out.unnum.still hst5)
                    clear hst5 HH G4
                    go_wp2_with fail
                    refine (G1.out _ _ HH5.out).mono ?_
                    rintro e w6 ⟨rfl, hst6⟩
                    have HH6 := Lib.hid (HH5.out.still hst6)
                    clear hst6 HH5 G1
                    go_wp2_with fail
                    refine (G2.out _ _ HH6.out).mono ?_
                    rintro e w7 ⟨rfl, hst7⟩
                    have HH7 := Lib.hid (HH6.out.still hst7)
                    clear hst7 HH6 G2
                    go_wp2_with fail
                    go_ret
                    exact ⟨by simp, HH7.out.ground⟩
                  · subst h61
                    go_wp2_with fail
                    refine (G4.out _ _ HH.out.unnum).mono ?_
                    rintro e w5 ⟨rfl, hst5⟩
                    have HH5 := Lib.hid (HH.out.unnum.still hst5)
                    clear hst5 HH G4
                    go_wp2_with fail
                    refine (G1.out _ _ HH5.out).mono ?_
                    rintro e w6 ⟨rfl, hst6⟩
                    have HH6 := Lib.hid (HH5.out.still hst6)
                    clear hst6 HH5 G1
                    go_wp2_with fail
                    refine (G2.out _ _ HH6.out).mono ?_
                    rintro e w7 ⟨rfl, hst7⟩
                    have HH7 := Lib.hid (HH6.out.still hst7)
                    clear hst7 HH6 G2
                    go_wp2_with fail
                    all_goals (go_ret; exact ⟨by simp, HH7.out.ground⟩)
end Go.Proofs.Ytefopajkcpcjpaa
