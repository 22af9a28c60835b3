/- RingOrder: the walk. No condition but that the program's ring keeps its words. -/
import Derived.Test.YtefopajkcpcjpaaRingPlaysW
namespace Go.Proofs.Ytefopajkcpcjpaa
open Go.RowKit
set_option linter.unusedVariables false
set_option linter.unusedSimpArgs false
set_option maxRecDepth 100000

theorem RM.claim_ov (M : RM) (x : Int) : (M.claimM x).ov = M.ov := by unfold RM.claimM; split <;> (try split) <;> rfl
theorem RM.pub_ov (M : RM) (x : Int) : (M.pubM x).ov = M.ov := by unfold RM.pubM; split <;> rfl
theorem RM.trim_ov (M : RM) (x : Int) : (M.trimM x).ov = M.ov := by unfold RM.trimM; split <;> rfl
theorem RM.pub_tail (M : RM) (x : Int) : (M.pubM x).tail = M.tail ∧ (M.pubM x).h = M.h := by
  unfold RM.pubM
  split
  · exact ⟨rfl, rfl⟩
  · exact ⟨by unfold RM.tail; simp, rfl⟩
theorem RM.trim_tail (M : RM) (x : Int) : (M.trimM x).tail = M.tail ∧ M.h ≤ (M.trimM x).h := by
  unfold RM.trimM
  split
  · exact ⟨rfl, Nat.le_refl _⟩
  · rename_i he
    have hc := (RM.trim_cut (show M.trimE x = 0 by simpa using he)).1
    exact ⟨by unfold RM.tail; rw [List.length_drop]; dsimp only; omega, Nat.le_add_right _ _⟩
theorem RM.claim_tail {M : RM} {x : Int} (he : M.claimE x = 0) (hp : 1 ≤ M.n) : (M.claimM x).tail = M.tail + 1 ∧ M.h ≤ (M.claimM x).h ∧ M.claimA x = M.tail ∧ (M.ov = false → M.claimW x = 0 ∧ (M.claimM x).h = M.h) := by
  have h1 : M.claimA x = M.tail := by unfold RM.claimA; rw [if_neg (by rw [he]; simp)]
  by_cases hf : M.l.length = M.n
  · have e1 : M.claimM x = { M with h := M.h + 1, l := M.l.drop 1 ++ [⟨x, false⟩] } := by unfold RM.claimM; rw [if_neg (by rw [he]; simp), if_pos hf]
    rw [e1]
    refine ⟨by unfold RM.tail; simp; omega, Nat.le_succ _, h1, fun hov => ?_⟩
    unfold RM.claimE at he
    split at he
    · cases he
    · split at he
      · cases he
      · rw [if_pos ⟨hf, .inl hov⟩] at he; cases he
  · have e1 : M.claimM x = { M with l := M.l ++ [⟨x, false⟩] } := by unfold RM.claimM; rw [if_neg (by rw [he]; simp), if_neg hf]
    have e2 : M.claimW x = 0 := by unfold RM.claimW; rw [if_neg (by rw [he]; simp), if_neg hf]
    rw [e1, e2]
    exact ⟨by unfold RM.tail; simp; omega, Nat.le_refl _, h1, fun _ => ⟨rfl, rfl⟩⟩
theorem RM.claim_no {M : RM} {x : Int} (he : M.claimE x ≠ 0) : M.claimM x = M ∧ M.claimW x = 0 := ⟨by unfold RM.claimM; rw [if_pos he], by unfold RM.claimW; rw [if_pos he]⟩

structure OrdIn (RT : Nat → RM → Thing) (w wr : World) (q rm k : Nat) (ov : Bool) (M : RM) : Prop where
  held : Held w wr ((RT q M).sep Thing.none)
  ok : M.Ok k
  n : M.n = rm
  ov : M.ov = ov
def OrdMid (RT : Nat → RM → Thing) (w : World) (q rm k h0 : Nat) (ov : Bool) (nx : Value) (wx : World) : Prop := ∃ M : RM, nx = .int .i64 (M.tail : Nat) ∧ h0 ≤ M.h ∧ OrdIn RT w wx q rm (k + 1) ov M

set_option maxHeartbeats 8000000 in
theorem order_walk {RT : Nat → RM → Thing} (A : RingApi RT) (r0 p0 : Int) (s : Sl Act6) (w : World) (h1 : SlOk encAct6 okAct6 2 w s) :
    Calls Try.prog 4 #[.int .i64 r0, .int .i64 p0, .slice s.a s.len s.cap] w fun e w' => e = .returned (.bool true) ∧ Still w w' := by
  obtain ⟨sa, sl, sc, sx⟩ := s
  have hscap : sl ≤ sc := h1.le
  have hsmax : sc ≤ maxLen := h1.max
  unfold maxLen at hsmax
  have HS := Lib.hid h1
  have HSL : Hid (sx.length = sl) := Lib.hid h1.len
  clear h1
  dsimp only at HSL HS ⊢
  obtain ⟨R1, hR1⟩ : ∃ x, x = am r0 64 := ⟨_, rfl⟩
  have hr1 : R1 < 64 := by rw [hR1]; exact am_lt _ (by omega)
  have B1 := Lib.hid (fun W => among_lit r0 64 64 R1 rfl hR1 (by omega) (by omega) W)
  obtain ⟨P1, hP1⟩ : ∃ x, x = am p0 2 := ⟨_, rfl⟩
  have hp1 : P1 < 2 := by rw [hP1]; exact am_lt _ (by omega)
  have B2 := Lib.hid (fun W => among_lit p0 2 2 P1 rfl hP1 (by omega) (by omega) W)
  obtain ⟨ov, hov⟩ : ∃ b : Bool, ((P1 : Nat) : Int) = polB b := by
    rcases (show P1 = 0 ∨ P1 = 1 by omega) with h | h
    · exact ⟨false, by rw [h]; rfl⟩
    · exact ⟨true, by rw [h]; rfl⟩
  obtain ⟨rm, hrm⟩ : ∃ rm, rm = R1 + 1 := ⟨_, rfl⟩
  have erm : (1 : Int) + (R1 : Int) = rm := by omega
  have rm1 : 1 ≤ rm := by omega
  have rm2 : rm ≤ 64 := by omega
  have HO0 := Lib.hid (RM.new_ok (ov := ov) rm1 rm2)
  have C0 := Lib.hid (fun W => A.make_ok rm ov W rm1 rm2)
  rw [← hov] at C0
  have HOV := Lib.hid hov
  clear hR1 hrm hP1 hov
  go_enter Try.func4, Try.ntmps4
  go_wp2_with fail
  refine (works6 A _).mono ?_
  rintro e w1 ⟨rfl, hT⟩
  have HT := Lib.hid hT
  clear hT
  go_wp2_with fail
  refine (B1.out _).mono ?_
  rintro e w' ⟨rfl, rfl⟩
  go_wp2_with fail
  refine (B2.out _).mono ?_
  rintro e w' ⟨rfl, rfl⟩
  go_wp2_with fail
  refine (C0.out _).mono ?_
  intro e w2 hN
  obtain ⟨q, rfl, H⟩ := Held.ring HT.out hN
  have HI0 := Lib.hid (show OrdIn RT w w2 q rm 0 ov (RM.new rm ov) from ⟨H, HO0.out, rfl, rfl⟩)
  clear hN C0 H B1 B2 erm hr1 HO0
  go_wp2_with fail
  go_loopw [9, 10] (fun nx i wr => ∃ (k : Nat) (M : RM), k ≤ sl ∧ k ≤ 200 ∧ i = .int .i64 k ∧ nx = .int .i64 (M.tail : Nat) ∧ OrdIn RT w wr q rm k ov M) (fun _ i _ => sl - (intOf i).toNat)
  case atStart => exact ⟨0, _, Nat.zero_le _, Nat.zero_le _, rfl, rfl, HI0.out⟩
  case round =>
    clear HI0
    obtain ⟨k, M, hk, hk1, rfl, rfl, hI⟩ := hrel
    by_cases hin : k < sl ∧ k < 200
    · obtain ⟨hlt, h200⟩ := hin
      obtain ⟨a, hx⟩ := get_some (l := sx) (i := k) (by rw [HSL.out]; exact hlt)
      obtain ⟨b, o, rfl, hc⟩ := HS.out.row k a hx
      have hok := HS.out.each a (List.mem_of_getElem? hx)
      have hT := hI.held.ground
      obtain ⟨d, nn⟩ := a
      have c0 : wr.cell? ⟨b, o + k * 2, none⟩ = some (.int .i64 d) := still_cell hT (hc 0 _ rfl) (by omega)
      have c1 : wr.cell? ⟨b, o + k * 2 + 1, none⟩ = some (.int .i64 nn) := still_cell hT (hc 1 _ rfl) (by omega)
      obtain ⟨v, hv⟩ : ∃ v, v = am d 8 := ⟨_, rfl⟩
      have hvl : v < 8 := by rw [hv]; exact am_lt _ (by omega)
      have D1 := Lib.hid (fun W => among_lit d 8 8 v rfl hv (by omega) (by omega) W)
      have HH := Lib.hid (show Held w (wr.alloc (.cells #[.int .i64 d, .int .i64 nn] 32)) ((RT q M).sep (Thing.none.sep (blkT wr.heap.size [.int .i64 d, .int .i64 nn] 32))) from (hI.held.box [.int .i64 d, .int .i64 nn] 32).assoc)
      have HI := Lib.hid hI
      have HOk := Lib.hid hI.ok
      have hlow : M.tail ≤ k := hI.ok.low
      have hle : M.h ≤ M.tail := Nat.le_add_right _ _
      obtain ⟨Bx, hBx⟩ : ∃ Bx, Bx = wr.heap.size := ⟨_, rfl⟩
      have HD := Lib.hid (fun (V : World) (H : Held w V ((RT q M).sep (Thing.none.sep (blkT Bx [.int .i64 d, .int .i64 nn] 32)))) => show Calls Try.prog 24 #[.pointer (some ⟨q, 0, none⟩)] V fun e w' => e = .returned (.int .i64 M.h) ∧ Still V w' from by
        obtain ⟨_, h', _⟩ := H.fst
        exact A.head h' HOk.out (by omega))
      clear hx hc hok hT hv hI
      go_wp2_with fail
      rw [← hBx] at HH ⊢
      refine (HD.out _ HH.out).mono ?_
      rintro e w3 ⟨rfl, hst⟩
      have HH3 := Lib.hid (HH.out.still hst)
      have b0 := HH3.out.snd.snd.blk.cell (o := 0) (v := .int .i64 d) rfl
      have b1 := HH3.out.snd.snd.blk.cell (o := 1) (v := .int .i64 nn) rfl
      clear hst HH HD c0 c1 hBx
      go_upto_block 2 with (refine (D1.out _).mono ?_; rintro e w' ⟨rfl, rfl⟩)
      clear D1 b0
      go_cut [9] (fun nx wx => OrdMid RT w q rm k M.h ov nx wx)
      case first =>
        rcases (show v = 0 ∨ v = 1 ∨ v = 2 ∨ v = 3 ∨ v = 4 ∨ v = 5 ∨ v = 6 ∨ v = 7 by omega) with rfl | rfl | rfl | rfl | rfl | rfl | rfl | rfl
        · as_aux_lemma =>
            obtain ⟨Y, hY⟩ : ∃ Y, Y = am nn 1000 := ⟨_, rfl⟩
            have hYt : Y < 1000 := by rw [hY]; exact am_lt _ (by omega)
            have E1 := Lib.hid (fun W => among_lit nn 1000 1000 Y rfl hY (by omega) (by omega) W)
            have X1 := Lib.hid (HH3.out.call (fun _ h' => A.claim h' HOk.out (by omega) (1 + (Y : Nat)) (w64_lit (by omega) (by omega))))
            obtain ⟨cx, hcx⟩ : ∃ cx : Int, cx = 1 + (Y : Nat) := ⟨_, rfl⟩
            rw [← hcx] at X1
            have R0 := Lib.hid (show (M.claimM cx).Ok (k + 1) ∧ (M.claimM cx).n = rm ∧ (M.claimM cx).ov = ov from ⟨HOk.out.claim _, by rw [RM.claim_n]; exact HI.out.n, by rw [RM.claim_ov]; exact HI.out.ov⟩)
            have HX2 := Lib.hid (fun (V : World) (R : Thing) (H : Held w V ((RT q (M.claimM cx)).sep R)) => show Calls Try.prog 24 #[.pointer (some ⟨q, 0, none⟩)] V fun e w' => e = .returned (.int .i64 (M.claimM cx).h) ∧ Still V w' from by
              obtain ⟨_, h', _⟩ := H.fst
              exact A.head h' R0.out.1 (by omega))
            have hmv := HI.out.ov
            by_cases he : M.claimE cx = 0
            · have R1 := RM.claim_tail he HOk.out.pos
              rw [he, R1.2.2.1] at X1
              have R2 := Lib.hid R1
              obtain ⟨M', hM'⟩ : ∃ M', M' = M.claimM cx := ⟨_, rfl⟩
              have HM' := Lib.hid hM'
              rw [← hM'] at X1 HX2 R0
              have ht' : (M'.tail : Nat) = M.tail + 1 := by rw [hM']; exact R1.1
              have hh' : M.h ≤ M'.h := by rw [hM']; exact R1.2.1
              have hcb := R1.2.2.2
              rw [← hM', hmv] at hcb
              clear hM' he hY R1 hmv
              have HT' := Lib.hid ht'
              cases ov with
              | false =>
                obtain ⟨hw0, hh0⟩ := hcb rfl
                rw [hw0] at X1
                rw [hh0] at HX2
                have e0 : P1 = 0 := by have := HOV.out; rw [show polB false = 0 from rfl] at this; omega
                subst e0
                clear hw0 hh0 hcb ht'
                go_wp2_with fail
                refine (E1.out _).mono ?_
                rintro e w' ⟨rfl, rfl⟩
                go_wp2_with fail
                rw [← hcx]
                ((with_reducible refine X1.out.mono ?_))
                rintro e w6 ⟨rfl, H⟩
                have HH6 := Lib.hid H
                clear H X1 E1 b1 hcx
                go_wp2_with fail
                refine (HX2.out _ _ HH6.out).mono ?_
                rintro e w7 ⟨rfl, hst⟩
                have HH7 := Lib.hid (HH6.out.two.still hst)
                clear hst HX2 HH6
                go_wp2_with fail
                go_meet
                exact ⟨M', by rw [HT'.out]; first | rfl | exact congrArg (Value.int .i64) (by omega), hh', HH7.out, R0.out.1, R0.out.2.1, R0.out.2.2⟩
              | true =>
                have e0 : P1 = 1 := by have := HOV.out; rw [show polB true = 1 from rfl] at this; omega
                subst e0
                generalize M.claimW cx = qw at *
                clear hcb ht'
                go_wp2_with fail
                refine (E1.out _).mono ?_
                rintro e w' ⟨rfl, rfl⟩
                go_wp2_with fail
                rw [← hcx]
                ((with_reducible refine X1.out.mono ?_))
                rintro e w6 ⟨rfl, H⟩
                have HH6 := Lib.hid H.two
                clear H X1 E1 b1 hcx
                go_wp2_with fail
                go_meet
                exact ⟨M', by rw [HT'.out]; first | rfl | exact congrArg (Value.int .i64) (by omega), hh', HH6.out, R0.out.1, R0.out.2.1, R0.out.2.2⟩
            · obtain ⟨m1, m2⟩ := RM.claim_no he
              have hb1 : (M.claimE cx == 0) = false := by rw [beq_eq_false_iff_ne]; exact he
              rw [m1, m2] at X1
              rw [m1] at HX2 R0
              generalize M.claimE cx = qe at *
              generalize M.claimA cx = qa at *
              clear he hY m1 m2 hmv
              cases ov with
              | false =>
                have e0 : P1 = 0 := by have := HOV.out; rw [show polB false = 0 from rfl] at this; omega
                subst e0
                go_wp2_with fail
                refine (E1.out _).mono ?_
                rintro e w' ⟨rfl, rfl⟩
                go_wp2_with fail
                rw [← hcx]
                ((with_reducible refine X1.out.mono ?_))
                rintro e w6 ⟨rfl, H⟩
                have HH6 := Lib.hid H
                clear H X1 E1 b1 hcx
                go_wp2_with fail
                refine (HX2.out _ _ HH6.out).mono ?_
                rintro e w7 ⟨rfl, hst⟩
                have HH7 := Lib.hid (HH6.out.two.still hst)
                clear hst HX2 HH6
                go_wp2_with fail
                go_meet
                exact ⟨M, rfl, Nat.le_refl _, HH7.out, R0.out.1, R0.out.2.1, R0.out.2.2⟩
              | true =>
                have e0 : P1 = 1 := by have := HOV.out; rw [show polB true = 1 from rfl] at this; omega
                subst e0
                go_wp2_with fail
                refine (E1.out _).mono ?_
                rintro e w' ⟨rfl, rfl⟩
                go_wp2_with fail
                rw [← hcx]
                ((with_reducible refine X1.out.mono ?_))
                rintro e w6 ⟨rfl, H⟩
                have HH6 := Lib.hid H.two
                clear H X1 E1 b1 hcx
                go_wp2_with fail
                go_meet
                exact ⟨M, rfl, Nat.le_refl _, HH6.out, R0.out.1, R0.out.2.1, R0.out.2.2⟩
        · as_aux_lemma =>
            obtain ⟨Y, hY⟩ : ∃ Y, Y = am nn 1000 := ⟨_, rfl⟩
            have hYt : Y < 1000 := by rw [hY]; exact am_lt _ (by omega)
            have E1 := Lib.hid (fun W => among_lit nn 1000 1000 Y rfl hY (by omega) (by omega) W)
            have X1 := Lib.hid (HH3.out.call (fun _ h' => A.claim h' HOk.out (by omega) (1 + (Y : Nat)) (w64_lit (by omega) (by omega))))
            obtain ⟨cx, hcx⟩ : ∃ cx : Int, cx = 1 + (Y : Nat) := ⟨_, rfl⟩
            rw [← hcx] at X1
            have R0 := Lib.hid (show (M.claimM cx).Ok (k + 1) ∧ (M.claimM cx).n = rm ∧ (M.claimM cx).ov = ov from ⟨HOk.out.claim _, by rw [RM.claim_n]; exact HI.out.n, by rw [RM.claim_ov]; exact HI.out.ov⟩)
            have HX2 := Lib.hid (fun (V : World) (R : Thing) (H : Held w V ((RT q (M.claimM cx)).sep R)) => show Calls Try.prog 24 #[.pointer (some ⟨q, 0, none⟩)] V fun e w' => e = .returned (.int .i64 (M.claimM cx).h) ∧ Still V w' from by
              obtain ⟨_, h', _⟩ := H.fst
              exact A.head h' R0.out.1 (by omega))
            have hmv := HI.out.ov
            by_cases he : M.claimE cx = 0
            · have R1 := RM.claim_tail he HOk.out.pos
              rw [he, R1.2.2.1] at X1
              have R2 := Lib.hid R1
              obtain ⟨M', hM'⟩ : ∃ M', M' = M.claimM cx := ⟨_, rfl⟩
              have HM' := Lib.hid hM'
              rw [← hM'] at X1 HX2 R0
              have ht' : (M'.tail : Nat) = M.tail + 1 := by rw [hM']; exact R1.1
              have hh' : M.h ≤ M'.h := by rw [hM']; exact R1.2.1
              have hcb := R1.2.2.2
              rw [← hM', hmv] at hcb
              clear hM' he hY R1 hmv
              have HT' := Lib.hid ht'
              cases ov with
              | false =>
                obtain ⟨hw0, hh0⟩ := hcb rfl
                rw [hw0] at X1
                rw [hh0] at HX2
                have e0 : P1 = 0 := by have := HOV.out; rw [show polB false = 0 from rfl] at this; omega
                subst e0
                clear hw0 hh0 hcb ht'
                go_wp2_with fail
                refine (E1.out _).mono ?_
                rintro e w' ⟨rfl, rfl⟩
                go_wp2_with fail
                rw [← hcx]
                ((with_reducible refine X1.out.mono ?_))
                rintro e w6 ⟨rfl, H⟩
                have HH6 := Lib.hid H
                clear H X1 E1 b1 hcx
                go_wp2_with fail
                refine (HX2.out _ _ HH6.out).mono ?_
                rintro e w7 ⟨rfl, hst⟩
                have HH7 := Lib.hid (HH6.out.two.still hst)
                clear hst HX2 HH6
                go_wp2_with fail
                go_meet
                exact ⟨M', by rw [HT'.out]; first | rfl | exact congrArg (Value.int .i64) (by omega), hh', HH7.out, R0.out.1, R0.out.2.1, R0.out.2.2⟩
              | true =>
                have e0 : P1 = 1 := by have := HOV.out; rw [show polB true = 1 from rfl] at this; omega
                subst e0
                generalize M.claimW cx = qw at *
                clear hcb ht'
                go_wp2_with fail
                refine (E1.out _).mono ?_
                rintro e w' ⟨rfl, rfl⟩
                go_wp2_with fail
                rw [← hcx]
                ((with_reducible refine X1.out.mono ?_))
                rintro e w6 ⟨rfl, H⟩
                have HH6 := Lib.hid H.two
                clear H X1 E1 b1 hcx
                go_wp2_with fail
                go_meet
                exact ⟨M', by rw [HT'.out]; first | rfl | exact congrArg (Value.int .i64) (by omega), hh', HH6.out, R0.out.1, R0.out.2.1, R0.out.2.2⟩
            · obtain ⟨m1, m2⟩ := RM.claim_no he
              have hb1 : (M.claimE cx == 0) = false := by rw [beq_eq_false_iff_ne]; exact he
              rw [m1, m2] at X1
              rw [m1] at HX2 R0
              generalize M.claimE cx = qe at *
              generalize M.claimA cx = qa at *
              clear he hY m1 m2 hmv
              cases ov with
              | false =>
                have e0 : P1 = 0 := by have := HOV.out; rw [show polB false = 0 from rfl] at this; omega
                subst e0
                go_wp2_with fail
                refine (E1.out _).mono ?_
                rintro e w' ⟨rfl, rfl⟩
                go_wp2_with fail
                rw [← hcx]
                ((with_reducible refine X1.out.mono ?_))
                rintro e w6 ⟨rfl, H⟩
                have HH6 := Lib.hid H
                clear H X1 E1 b1 hcx
                go_wp2_with fail
                refine (HX2.out _ _ HH6.out).mono ?_
                rintro e w7 ⟨rfl, hst⟩
                have HH7 := Lib.hid (HH6.out.two.still hst)
                clear hst HX2 HH6
                go_wp2_with fail
                go_meet
                exact ⟨M, rfl, Nat.le_refl _, HH7.out, R0.out.1, R0.out.2.1, R0.out.2.2⟩
              | true =>
                have e0 : P1 = 1 := by have := HOV.out; rw [show polB true = 1 from rfl] at this; omega
                subst e0
                go_wp2_with fail
                refine (E1.out _).mono ?_
                rintro e w' ⟨rfl, rfl⟩
                go_wp2_with fail
                rw [← hcx]
                ((with_reducible refine X1.out.mono ?_))
                rintro e w6 ⟨rfl, H⟩
                have HH6 := Lib.hid H.two
                clear H X1 E1 b1 hcx
                go_wp2_with fail
                go_meet
                exact ⟨M, rfl, Nat.le_refl _, HH6.out, R0.out.1, R0.out.2.1, R0.out.2.2⟩
        · as_aux_lemma =>
            obtain ⟨Y, hY⟩ : ∃ Y, Y = am nn 1000 := ⟨_, rfl⟩
            have hYt : Y < 1000 := by rw [hY]; exact am_lt _ (by omega)
            have E1 := Lib.hid (fun W => among_lit nn 1000 1000 Y rfl hY (by omega) (by omega) W)
            have X1 := Lib.hid (HH3.out.call (fun _ h' => A.claim h' HOk.out (by omega) (1 + (Y : Nat)) (w64_lit (by omega) (by omega))))
            obtain ⟨cx, hcx⟩ : ∃ cx : Int, cx = 1 + (Y : Nat) := ⟨_, rfl⟩
            rw [← hcx] at X1
            have R0 := Lib.hid (show (M.claimM cx).Ok (k + 1) ∧ (M.claimM cx).n = rm ∧ (M.claimM cx).ov = ov from ⟨HOk.out.claim _, by rw [RM.claim_n]; exact HI.out.n, by rw [RM.claim_ov]; exact HI.out.ov⟩)
            have HX2 := Lib.hid (fun (V : World) (R : Thing) (H : Held w V ((RT q (M.claimM cx)).sep R)) => show Calls Try.prog 24 #[.pointer (some ⟨q, 0, none⟩)] V fun e w' => e = .returned (.int .i64 (M.claimM cx).h) ∧ Still V w' from by
              obtain ⟨_, h', _⟩ := H.fst
              exact A.head h' R0.out.1 (by omega))
            have hmv := HI.out.ov
            by_cases he : M.claimE cx = 0
            · have R1 := RM.claim_tail he HOk.out.pos
              rw [he, R1.2.2.1] at X1
              have R2 := Lib.hid R1
              obtain ⟨M', hM'⟩ : ∃ M', M' = M.claimM cx := ⟨_, rfl⟩
              have HM' := Lib.hid hM'
              rw [← hM'] at X1 HX2 R0
              have ht' : (M'.tail : Nat) = M.tail + 1 := by rw [hM']; exact R1.1
              have hh' : M.h ≤ M'.h := by rw [hM']; exact R1.2.1
              have hcb := R1.2.2.2
              rw [← hM', hmv] at hcb
              clear hM' he hY R1 hmv
              have HT' := Lib.hid ht'
              cases ov with
              | false =>
                obtain ⟨hw0, hh0⟩ := hcb rfl
                rw [hw0] at X1
                rw [hh0] at HX2
                have e0 : P1 = 0 := by have := HOV.out; rw [show polB false = 0 from rfl] at this; omega
                subst e0
                clear hw0 hh0 hcb ht'
                go_wp2_with fail
                refine (E1.out _).mono ?_
                rintro e w' ⟨rfl, rfl⟩
                go_wp2_with fail
                rw [← hcx]
                ((with_reducible refine X1.out.mono ?_))
                rintro e w6 ⟨rfl, H⟩
                have HH6 := Lib.hid H
                clear H X1 E1 b1 hcx
                go_wp2_with fail
                refine (HX2.out _ _ HH6.out).mono ?_
                rintro e w7 ⟨rfl, hst⟩
                have HH7 := Lib.hid (HH6.out.two.still hst)
                clear hst HX2 HH6
                go_wp2_with fail
                go_meet
                exact ⟨M', by rw [HT'.out]; first | rfl | exact congrArg (Value.int .i64) (by omega), hh', HH7.out, R0.out.1, R0.out.2.1, R0.out.2.2⟩
              | true =>
                have e0 : P1 = 1 := by have := HOV.out; rw [show polB true = 1 from rfl] at this; omega
                subst e0
                generalize M.claimW cx = qw at *
                clear hcb ht'
                go_wp2_with fail
                refine (E1.out _).mono ?_
                rintro e w' ⟨rfl, rfl⟩
                go_wp2_with fail
                rw [← hcx]
                ((with_reducible refine X1.out.mono ?_))
                rintro e w6 ⟨rfl, H⟩
                have HH6 := Lib.hid H.two
                clear H X1 E1 b1 hcx
                go_wp2_with fail
                go_meet
                exact ⟨M', by rw [HT'.out]; first | rfl | exact congrArg (Value.int .i64) (by omega), hh', HH6.out, R0.out.1, R0.out.2.1, R0.out.2.2⟩
            · obtain ⟨m1, m2⟩ := RM.claim_no he
              have hb1 : (M.claimE cx == 0) = false := by rw [beq_eq_false_iff_ne]; exact he
              rw [m1, m2] at X1
              rw [m1] at HX2 R0
              generalize M.claimE cx = qe at *
              generalize M.claimA cx = qa at *
              clear he hY m1 m2 hmv
              cases ov with
              | false =>
                have e0 : P1 = 0 := by have := HOV.out; rw [show polB false = 0 from rfl] at this; omega
                subst e0
                go_wp2_with fail
                refine (E1.out _).mono ?_
                rintro e w' ⟨rfl, rfl⟩
                go_wp2_with fail
                rw [← hcx]
                ((with_reducible refine X1.out.mono ?_))
                rintro e w6 ⟨rfl, H⟩
                have HH6 := Lib.hid H
                clear H X1 E1 b1 hcx
                go_wp2_with fail
                refine (HX2.out _ _ HH6.out).mono ?_
                rintro e w7 ⟨rfl, hst⟩
                have HH7 := Lib.hid (HH6.out.two.still hst)
                clear hst HX2 HH6
                go_wp2_with fail
                go_meet
                exact ⟨M, rfl, Nat.le_refl _, HH7.out, R0.out.1, R0.out.2.1, R0.out.2.2⟩
              | true =>
                have e0 : P1 = 1 := by have := HOV.out; rw [show polB true = 1 from rfl] at this; omega
                subst e0
                go_wp2_with fail
                refine (E1.out _).mono ?_
                rintro e w' ⟨rfl, rfl⟩
                go_wp2_with fail
                rw [← hcx]
                ((with_reducible refine X1.out.mono ?_))
                rintro e w6 ⟨rfl, H⟩
                have HH6 := Lib.hid H.two
                clear H X1 E1 b1 hcx
                go_wp2_with fail
                go_meet
                exact ⟨M, rfl, Nat.le_refl _, HH6.out, R0.out.1, R0.out.2.1, R0.out.2.2⟩
        · as_aux_lemma =>
            obtain ⟨Y, hY⟩ : ∃ Y, Y = am nn (M.tail + 1) := ⟨_, rfl⟩
            have hYt : Y ≤ M.tail := by have : Y < M.tail + 1 := by rw [hY]; exact am_lt _ (by omega)
                                        omega
            have E1 := Lib.hid (fun W => among_lit nn ((M.tail : Int) + 1) (M.tail + 1) Y (by omega) hY (by omega) (by omega) W)
            have X1 := Lib.hid (HH3.out.call (fun _ h' => A.pub h' HOk.out (by omega) (Y : Nat) (w64_lit (by omega) (by omega))))
            have R1 := Lib.hid (show (M.pubM (Y : Nat)).Ok (k + 1) ∧ (M.pubM (Y : Nat)).n = rm ∧ (M.pubM (Y : Nat)).ov = ov ∧ (M.pubM (Y : Nat)).tail = M.tail ∧ M.h ≤ (M.pubM (Y : Nat)).h from
              ⟨(HOk.out.pub _).mono (by omega), by rw [RM.pub_n]; exact HI.out.n, by rw [RM.pub_ov]; exact HI.out.ov, (RM.pub_tail _ _).1, Nat.le_of_eq (RM.pub_tail _ _).2.symm⟩)
            obtain ⟨M', hM'⟩ : ∃ M', M' = M.pubM (Y : Nat) := ⟨_, rfl⟩
            rw [← hM'] at X1 R1
            generalize M.pubE (Y : Nat) = qe at *
            clear hM' hY
            go_wp2_with fail
            refine (E1.out _).mono ?_
            rintro e w' ⟨rfl, rfl⟩
            go_wp2_with fail
            ((with_reducible refine X1.out.mono ?_))
            rintro e w6 ⟨rfl, H⟩
            have HH7 := Lib.hid H.two
            clear H X1 E1 b1
            go_wp2_with fail
            go_meet
            exact ⟨M', by rw [R1.out.2.2.2.1], R1.out.2.2.2.2, HH7.out, R1.out.1, R1.out.2.1, R1.out.2.2.1⟩
        · as_aux_lemma =>
            obtain ⟨Y, hY⟩ : ∃ Y, Y = am nn (M.tail + 1) := ⟨_, rfl⟩
            have hYt : Y ≤ M.tail := by have : Y < M.tail + 1 := by rw [hY]; exact am_lt _ (by omega)
                                        omega
            have E1 := Lib.hid (fun W => among_lit nn ((M.tail : Int) + 1) (M.tail + 1) Y (by omega) hY (by omega) (by omega) W)
            have X1 := Lib.hid (HH3.out.call (fun _ h' => A.pub h' HOk.out (by omega) (Y : Nat) (w64_lit (by omega) (by omega))))
            have R1 := Lib.hid (show (M.pubM (Y : Nat)).Ok (k + 1) ∧ (M.pubM (Y : Nat)).n = rm ∧ (M.pubM (Y : Nat)).ov = ov ∧ (M.pubM (Y : Nat)).tail = M.tail ∧ M.h ≤ (M.pubM (Y : Nat)).h from
              ⟨(HOk.out.pub _).mono (by omega), by rw [RM.pub_n]; exact HI.out.n, by rw [RM.pub_ov]; exact HI.out.ov, (RM.pub_tail _ _).1, Nat.le_of_eq (RM.pub_tail _ _).2.symm⟩)
            obtain ⟨M', hM'⟩ : ∃ M', M' = M.pubM (Y : Nat) := ⟨_, rfl⟩
            rw [← hM'] at X1 R1
            generalize M.pubE (Y : Nat) = qe at *
            clear hM' hY
            go_wp2_with fail
            refine (E1.out _).mono ?_
            rintro e w' ⟨rfl, rfl⟩
            go_wp2_with fail
            ((with_reducible refine X1.out.mono ?_))
            rintro e w6 ⟨rfl, H⟩
            have HH7 := Lib.hid H.two
            clear H X1 E1 b1
            go_wp2_with fail
            go_meet
            exact ⟨M', by rw [R1.out.2.2.2.1], R1.out.2.2.2.2, HH7.out, R1.out.1, R1.out.2.1, R1.out.2.2.1⟩
        · as_aux_lemma =>
            obtain ⟨Y, hY⟩ : ∃ Y, Y = am nn (M.tail + 1) := ⟨_, rfl⟩
            have hYt : Y ≤ M.tail := by have : Y < M.tail + 1 := by rw [hY]; exact am_lt _ (by omega)
                                        omega
            have E1 := Lib.hid (fun W => among_lit nn ((M.tail : Int) + 1) (M.tail + 1) Y (by omega) hY (by omega) (by omega) W)
            have X1 := Lib.hid (HH3.out.call (fun _ h' => A.pub h' HOk.out (by omega) (Y : Nat) (w64_lit (by omega) (by omega))))
            have R1 := Lib.hid (show (M.pubM (Y : Nat)).Ok (k + 1) ∧ (M.pubM (Y : Nat)).n = rm ∧ (M.pubM (Y : Nat)).ov = ov ∧ (M.pubM (Y : Nat)).tail = M.tail ∧ M.h ≤ (M.pubM (Y : Nat)).h from
              ⟨(HOk.out.pub _).mono (by omega), by rw [RM.pub_n]; exact HI.out.n, by rw [RM.pub_ov]; exact HI.out.ov, (RM.pub_tail _ _).1, Nat.le_of_eq (RM.pub_tail _ _).2.symm⟩)
            obtain ⟨M', hM'⟩ : ∃ M', M' = M.pubM (Y : Nat) := ⟨_, rfl⟩
            rw [← hM'] at X1 R1
            generalize M.pubE (Y : Nat) = qe at *
            clear hM' hY
            go_wp2_with fail
            refine (E1.out _).mono ?_
            rintro e w' ⟨rfl, rfl⟩
            go_wp2_with fail
            ((with_reducible refine X1.out.mono ?_))
            rintro e w6 ⟨rfl, H⟩
            have HH7 := Lib.hid H.two
            clear H X1 E1 b1
            go_wp2_with fail
            go_meet
            exact ⟨M', by rw [R1.out.2.2.2.1], R1.out.2.2.2.2, HH7.out, R1.out.1, R1.out.2.1, R1.out.2.2.1⟩
        · as_aux_lemma =>
            obtain ⟨Y, hY⟩ : ∃ Y, Y = am nn (M.tail + 1) := ⟨_, rfl⟩
            have hYt : Y ≤ M.tail := by have : Y < M.tail + 1 := by rw [hY]; exact am_lt _ (by omega)
                                        omega
            have E1 := Lib.hid (fun W => among_lit nn ((M.tail : Int) + 1) (M.tail + 1) Y (by omega) hY (by omega) (by omega) W)
            have X1 := Lib.hid (held_trim HH3.out (fun _ h' => A.trim h' HOk.out (by omega) (Y : Nat) (w64_lit (by omega) (by omega))))
            have R1 := Lib.hid (show (M.trimM (Y : Nat)).Ok (k + 1) ∧ (M.trimM (Y : Nat)).n = rm ∧ (M.trimM (Y : Nat)).ov = ov ∧ (M.trimM (Y : Nat)).tail = M.tail ∧ M.h ≤ (M.trimM (Y : Nat)).h from
              ⟨(HOk.out.trim _).mono (by omega), by rw [RM.trim_n]; exact HI.out.n, by rw [RM.trim_ov]; exact HI.out.ov, (RM.trim_tail _ _).1, (RM.trim_tail _ _).2⟩)
            obtain ⟨M', hM'⟩ : ∃ M', M' = M.trimM (Y : Nat) := ⟨_, rfl⟩
            rw [← hM'] at X1 R1
            generalize M.trimL (Y : Nat) = L at *
            generalize M.trimE (Y : Nat) = qe at *
            clear hM' hY
            go_wp2_with fail
            refine (E1.out _).mono ?_
            rintro e w' ⟨rfl, rfl⟩
            go_wp2_with fail
            ((with_reducible refine X1.out.mono ?_))
            rintro e w6 ⟨xa, xc, rfl, H⟩
            have HH7 := Lib.hid H.two.unnum
            clear H X1 E1 b1
            go_wp2_with fail
            go_meet
            exact ⟨M', by rw [R1.out.2.2.2.1], R1.out.2.2.2.2, HH7.out, R1.out.1, R1.out.2.1, R1.out.2.2.1⟩
        · as_aux_lemma =>
            obtain ⟨Y, hY⟩ : ∃ Y, Y = am nn 1000 := ⟨_, rfl⟩
            have hYt : Y < 1000 := by rw [hY]; exact am_lt _ (by omega)
            have E1 := Lib.hid (fun W => among_lit nn 1000 1000 Y rfl hY (by omega) (by omega) W)
            have X1 := Lib.hid (HH3.out.call (fun _ h' => A.claim h' HOk.out (by omega) (1 + (Y : Nat)) (w64_lit (by omega) (by omega))))
            obtain ⟨cx, hcx⟩ : ∃ cx : Int, cx = 1 + (Y : Nat) := ⟨_, rfl⟩
            rw [← hcx] at X1
            have R0 := Lib.hid (show (M.claimM cx).Ok (k + 1) ∧ (M.claimM cx).n = rm ∧ (M.claimM cx).ov = ov from ⟨HOk.out.claim _, by rw [RM.claim_n]; exact HI.out.n, by rw [RM.claim_ov]; exact HI.out.ov⟩)
            have HX2 := Lib.hid (fun (V : World) (R : Thing) (H : Held w V ((RT q (M.claimM cx)).sep R)) => show Calls Try.prog 24 #[.pointer (some ⟨q, 0, none⟩)] V fun e w' => e = .returned (.int .i64 (M.claimM cx).h) ∧ Still V w' from by
              obtain ⟨_, h', _⟩ := H.fst
              exact A.head h' R0.out.1 (by omega))
            have hmv := HI.out.ov
            by_cases he : M.claimE cx = 0
            · have R1 := RM.claim_tail he HOk.out.pos
              rw [he, R1.2.2.1] at X1
              have R2 := Lib.hid R1
              obtain ⟨M', hM'⟩ : ∃ M', M' = M.claimM cx := ⟨_, rfl⟩
              have HM' := Lib.hid hM'
              rw [← hM'] at X1 HX2 R0
              have ht' : (M'.tail : Nat) = M.tail + 1 := by rw [hM']; exact R1.1
              have hh' : M.h ≤ M'.h := by rw [hM']; exact R1.2.1
              have hcb := R1.2.2.2
              rw [← hM', hmv] at hcb
              clear hM' he hY R1 hmv
              have HT' := Lib.hid ht'
              cases ov with
              | false =>
                obtain ⟨hw0, hh0⟩ := hcb rfl
                rw [hw0] at X1
                rw [hh0] at HX2
                have e0 : P1 = 0 := by have := HOV.out; rw [show polB false = 0 from rfl] at this; omega
                subst e0
                clear hw0 hh0 hcb ht'
                go_wp2_with fail
                refine (E1.out _).mono ?_
                rintro e w' ⟨rfl, rfl⟩
                go_wp2_with fail
                rw [← hcx]
                ((with_reducible refine X1.out.mono ?_))
                rintro e w6 ⟨rfl, H⟩
                have HH6 := Lib.hid H
                clear H X1 E1 b1 hcx
                go_wp2_with fail
                refine (HX2.out _ _ HH6.out).mono ?_
                rintro e w7 ⟨rfl, hst⟩
                have HH7 := Lib.hid (HH6.out.two.still hst)
                clear hst HX2 HH6
                go_wp2_with fail
                go_meet
                exact ⟨M', by rw [HT'.out]; first | rfl | exact congrArg (Value.int .i64) (by omega), hh', HH7.out, R0.out.1, R0.out.2.1, R0.out.2.2⟩
              | true =>
                have e0 : P1 = 1 := by have := HOV.out; rw [show polB true = 1 from rfl] at this; omega
                subst e0
                generalize M.claimW cx = qw at *
                clear hcb ht'
                go_wp2_with fail
                refine (E1.out _).mono ?_
                rintro e w' ⟨rfl, rfl⟩
                go_wp2_with fail
                rw [← hcx]
                ((with_reducible refine X1.out.mono ?_))
                rintro e w6 ⟨rfl, H⟩
                have HH6 := Lib.hid H.two
                clear H X1 E1 b1 hcx
                go_wp2_with fail
                go_meet
                exact ⟨M', by rw [HT'.out]; first | rfl | exact congrArg (Value.int .i64) (by omega), hh', HH6.out, R0.out.1, R0.out.2.1, R0.out.2.2⟩
            · obtain ⟨m1, m2⟩ := RM.claim_no he
              have hb1 : (M.claimE cx == 0) = false := by rw [beq_eq_false_iff_ne]; exact he
              rw [m1, m2] at X1
              rw [m1] at HX2 R0
              generalize M.claimE cx = qe at *
              generalize M.claimA cx = qa at *
              clear he hY m1 m2 hmv
              cases ov with
              | false =>
                have e0 : P1 = 0 := by have := HOV.out; rw [show polB false = 0 from rfl] at this; omega
                subst e0
                go_wp2_with fail
                refine (E1.out _).mono ?_
                rintro e w' ⟨rfl, rfl⟩
                go_wp2_with fail
                rw [← hcx]
                ((with_reducible refine X1.out.mono ?_))
                rintro e w6 ⟨rfl, H⟩
                have HH6 := Lib.hid H
                clear H X1 E1 b1 hcx
                go_wp2_with fail
                refine (HX2.out _ _ HH6.out).mono ?_
                rintro e w7 ⟨rfl, hst⟩
                have HH7 := Lib.hid (HH6.out.two.still hst)
                clear hst HX2 HH6
                go_wp2_with fail
                go_meet
                exact ⟨M, rfl, Nat.le_refl _, HH7.out, R0.out.1, R0.out.2.1, R0.out.2.2⟩
              | true =>
                have e0 : P1 = 1 := by have := HOV.out; rw [show polB true = 1 from rfl] at this; omega
                subst e0
                go_wp2_with fail
                refine (E1.out _).mono ?_
                rintro e w' ⟨rfl, rfl⟩
                go_wp2_with fail
                rw [← hcx]
                ((with_reducible refine X1.out.mono ?_))
                rintro e w6 ⟨rfl, H⟩
                have HH6 := Lib.hid H.two
                clear H X1 E1 b1 hcx
                go_wp2_with fail
                go_meet
                exact ⟨M, rfl, Nat.le_refl _, HH6.out, R0.out.1, R0.out.2.1, R0.out.2.2⟩
      case rest =>
        clear HH3 b1 HI HOk hlow
        obtain ⟨M', rfl, hhM, hI'⟩ := hcut
        have hok := hI'.ok
        have hn := hI'.n
        obtain ⟨Wx, hP, _⟩ := hI'.held.fst
        have hlow' : M'.tail ≤ k + 1 := hok.low
        have hlen := hok.len
        have F1 := Lib.hid (fun V (hT : Still wc V) => show Calls Try.prog 25 #[.pointer (some ⟨q, 0, none⟩)] V fun e w' => e = .returned (.int .i64 M'.tail) ∧ Still wc w' from
          (A.tail ((RT q M').keep hP hT (fun _ _ h => h)) hok (by omega)).mono fun e w' ⟨he, hs⟩ => ⟨he, hT.trans hs⟩)
        have F2 := Lib.hid (fun V (hT : Still wc V) => show Calls Try.prog 24 #[.pointer (some ⟨q, 0, none⟩)] V fun e w' => e = .returned (.int .i64 M'.h) ∧ Still wc w' from
          (A.head ((RT q M').keep hP hT (fun _ _ h => h)) hok (by omega)).mono fun e w' ⟨he, hs⟩ => ⟨he, hT.trans hs⟩)
        have HI := Lib.hid hI'
        have hT0 : Still wc wc := Turned.refl _ _
        obtain ⟨tt, htt⟩ : ∃ tt : Int, tt = (M'.tail : Nat) := ⟨_, rfl⟩
        obtain ⟨hh, hhh⟩ : ∃ hh : Int, hh = (M'.h : Nat) := ⟨_, rfl⟩
        obtain ⟨h9, hh9⟩ : ∃ h9 : Int, h9 = (M.h : Nat) := ⟨_, rfl⟩
        have q1 : tt - hh ≤ (rm : Int) := by rw [htt, hhh]; unfold RM.tail; omega
        have q2 : h9 ≤ hh := by omega
        have q3 : 0 ≤ tt - hh := by rw [htt, hhh]; unfold RM.tail; omega
        have q4 : tt < 1000000 := by omega
        have q5 : 0 ≤ hh := by omega
        have q6 : hh ≤ 1000000 := by omega
        rw [← htt, ← hh9]
        rw [← htt] at F1
        rw [← hhh] at F2
        have HTT := Lib.hid htt
        clear hP hok hn hlow' hlen hI' htt hhh hh9 hhM hle
        go_wp2_with (first
          | (go_at_call 25; refine (F1.out _ (by assumption)).mono ?_; rintro e w4 ⟨rfl, hT4⟩)
          | (go_at_call 24; refine (F2.out _ (by assumption)).mono ?_; rintro e w5 ⟨rfl, hT5⟩))
        have HT5 := Lib.hid (show Still wc w5 from by assumption)
        clear F1 F2
        go_roundw
        case rel => exact ⟨k + 1, M', by omega, by omega, by go_num, by rw [← HTT.out], HI.out.held.still HT5.out, HI.out.ok, HI.out.n, HI.out.ov⟩
        case measure => simp [intOf]; omega
    · have hex : (k < sl ∧ 200 ≤ k) ∨ sl ≤ k := by omega
      have HTW := Lib.hid hI.held.ground
      clear hin hI
      rcases hex with ⟨q1, q2⟩ | q1
      all_goals
        go_wp2_with fail
        go_ret
        exact ⟨by first | rfl | simp, HTW.out⟩
end Go.Proofs.Ytefopajkcpcjpaa
