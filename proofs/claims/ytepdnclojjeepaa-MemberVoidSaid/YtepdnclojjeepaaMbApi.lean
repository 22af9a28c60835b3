/- What the statements of layer 15 want of the program's list of members, told of the plain one: one word for each call; what works does. No condition but the words. -/
import Derived.Test.YtepdnclojjeepaaMbRef
import Derived.Test.YtepdnclojjeepaaHeld
namespace Go.Proofs.Ytepdnclojjeepaa
open Go.RowKit
set_option linter.unusedVariables false
set_option linter.unusedSimpArgs false
set_option maxRecDepth 100000

structure MemberApi (MT : Nat → MbM → Thing) : Prop where
  make_ : ∀ w : World, Calls Try.prog 8 #[] w fun e w' => ∃ q, e = .returned (.pointer (some ⟨q, 0, none⟩)) ∧ MNew MT w MbM.new q w'
  join : ∀ {w : World} {W : Nat → Prop} {q K : Nat} {M : MbM}, (MT q M).at_ w W → M.Ok K → K < 1000000 → ∀ x : Int, -9223372036854775808 ≤ x → x ≤ 9223372036854775807 →
    Calls Try.prog 10 #[.pointer (some ⟨q, 0, none⟩), .int .i64 x] w fun e w' => e = .returned (.tuple #[.int .i64 ((M.joinV x : Nat) : Int), .int .i64 (M.joinE x)]) ∧ Goes (MT q (M.join x)) W w w'
  leave : ∀ {w : World} {W : Nat → Prop} {q K : Nat} {M : MbM}, (MT q M).at_ w W → M.Ok K → K < 1000000 → ∀ x : Int, -9223372036854775808 ≤ x → x ≤ 9223372036854775807 →
    Calls Try.prog 12 #[.pointer (some ⟨q, 0, none⟩), .int .i64 x] w fun e w' => e = .returned (.tuple #[.int .i64 ((M.leaveV x : Nat) : Int), .int .i64 (M.findE x)]) ∧ Goes (MT q (M.leave x)) W w w'
  has : ∀ {w : World} {W : Nat → Prop} {q K : Nat} {M : MbM}, (MT q M).at_ w W → M.Ok K → K < 1000000 → ∀ x : Int, -9223372036854775808 ≤ x → x ≤ 9223372036854775807 →
    Calls Try.prog 20 #[.pointer (some ⟨q, 0, none⟩), .int .i64 x] w fun e w' => e = .returned (.bool (decide (M.findE x = 0))) ∧ Still w w'
  since : ∀ {w : World} {W : Nat → Prop} {q K : Nat} {M : MbM}, (MT q M).at_ w W → M.Ok K → K < 1000000 → ∀ x : Int, -9223372036854775808 ≤ x → x ≤ 9223372036854775807 →
    Calls Try.prog 14 #[.pointer (some ⟨q, 0, none⟩), .int .i64 x] w fun e w' => e = .returned (.tuple #[.int .i64 ((M.sinceV x : Nat) : Int), .int .i64 (M.findE x)]) ∧ Still w w'
  rank : ∀ {w : World} {W : Nat → Prop} {q K : Nat} {M : MbM}, (MT q M).at_ w W → M.Ok K → K < 1000000 → ∀ x : Int, -9223372036854775808 ≤ x → x ≤ 9223372036854775807 →
    Calls Try.prog 16 #[.pointer (some ⟨q, 0, none⟩), .int .i64 x] w fun e w' => e = .returned (.tuple #[.int .i64 ((M.rankV x : Nat) : Int), .int .i64 (M.findE x)]) ∧ Still w w'
  all_ : ∀ {w : World} {W : Nat → Prop} {q K : Nat} {M : MbM}, (MT q M).at_ w W → M.Ok K → K < 1000000 → ∀ n, n = M.memb.length → Calls Try.prog 23 #[.pointer (some ⟨q, 0, none⟩)] w (OutNums w (intsN M.memb) n)
  time : ∀ {w : World} {W : Nat → Prop} {q K : Nat} {M : MbM}, (MT q M).at_ w W → M.Ok K → K < 1000000 → Calls Try.prog 25 #[.pointer (some ⟨q, 0, none⟩)] w fun e w' => e = .returned (.int .i64 ((M.T : Nat) : Int)) ∧ Still w w'
  eldest : ∀ {w : World} {W : Nat → Prop} {q K : Nat} {M : MbM}, (MT q M).at_ w W → M.Ok K → K < 1000000 → Calls Try.prog 18 #[.pointer (some ⟨q, 0, none⟩)] w fun e w' => e = .returned (.tuple #[.int .i64 ((M.eldV : Nat) : Int), .int .i64 M.eldE]) ∧ Still w w'
section
variable {MT : Nat → MbM → Thing} {w0 w : World} {q K : Nat} {M : MbM} {R : Thing}
theorem Held.joinM (A : MemberApi MT) (H : Held w0 w ((MT q M).sep R)) (hM : M.Ok K) (hK : K < 1000000) {x : Int} {v : Nat} {r : Int} {M' : MbM} (h1 : -9223372036854775808 ≤ x) (h2 : x ≤ 9223372036854775807) (hv : M.joinV x = v) (hr : M.joinE x = r) (hm : M.join x = M') :
    Calls Try.prog 10 #[.pointer (some ⟨q, 0, none⟩), .int .i64 x] w fun e w' => e = .returned (.tuple #[.int .i64 ((v : Nat) : Int), .int .i64 r]) ∧ Held w0 w' ((MT q M').sep R) := by
  subst hv hr hm; exact H.call (fun _ h => A.join h hM hK x h1 h2)
theorem Held.leaveM (A : MemberApi MT) (H : Held w0 w ((MT q M).sep R)) (hM : M.Ok K) (hK : K < 1000000) {x : Int} {v : Nat} {r : Int} {M' : MbM} (h1 : -9223372036854775808 ≤ x) (h2 : x ≤ 9223372036854775807) (hv : M.leaveV x = v) (hr : M.findE x = r) (hm : M.leave x = M') :
    Calls Try.prog 12 #[.pointer (some ⟨q, 0, none⟩), .int .i64 x] w fun e w' => e = .returned (.tuple #[.int .i64 ((v : Nat) : Int), .int .i64 r]) ∧ Held w0 w' ((MT q M').sep R) := by
  subst hv hr hm; exact H.call (fun _ h => A.leave h hM hK x h1 h2)
theorem Held.hasM (A : MemberApi MT) (H : Held w0 w ((MT q M).sep R)) (hM : M.Ok K) (hK : K < 1000000) {x : Int} (h1 : -9223372036854775808 ≤ x) (h2 : x ≤ 9223372036854775807) {r : Bool} (hr : decide (M.findE x = 0) = r) :
    Calls Try.prog 20 #[.pointer (some ⟨q, 0, none⟩), .int .i64 x] w fun e w' => e = .returned (.bool r) ∧ Still w w' := by
  subst hr; obtain ⟨_, h, _⟩ := H.fst; exact A.has h hM hK x h1 h2
theorem Held.sinceM (A : MemberApi MT) (H : Held w0 w ((MT q M).sep R)) (hM : M.Ok K) (hK : K < 1000000) {x : Int} (h1 : -9223372036854775808 ≤ x) (h2 : x ≤ 9223372036854775807) {v : Nat} {r : Int} (hv : M.sinceV x = v) (hr : M.findE x = r) :
    Calls Try.prog 14 #[.pointer (some ⟨q, 0, none⟩), .int .i64 x] w fun e w' => e = .returned (.tuple #[.int .i64 ((v : Nat) : Int), .int .i64 r]) ∧ Still w w' := by
  subst hv hr; obtain ⟨_, h, _⟩ := H.fst; exact A.since h hM hK x h1 h2
theorem Held.rankM (A : MemberApi MT) (H : Held w0 w ((MT q M).sep R)) (hM : M.Ok K) (hK : K < 1000000) {x : Int} (h1 : -9223372036854775808 ≤ x) (h2 : x ≤ 9223372036854775807) {v : Nat} {r : Int} (hv : M.rankV x = v) (hr : M.findE x = r) :
    Calls Try.prog 16 #[.pointer (some ⟨q, 0, none⟩), .int .i64 x] w fun e w' => e = .returned (.tuple #[.int .i64 ((v : Nat) : Int), .int .i64 r]) ∧ Still w w' := by
  subst hv hr; obtain ⟨_, h, _⟩ := H.fst; exact A.rank h hM hK x h1 h2
theorem Held.timeM (A : MemberApi MT) (H : Held w0 w ((MT q M).sep R)) (hM : M.Ok K) (hK : K < 1000000) {v : Nat} (hv : M.T = v) :
    Calls Try.prog 25 #[.pointer (some ⟨q, 0, none⟩)] w fun e w' => e = .returned (.int .i64 ((v : Nat) : Int)) ∧ Still w w' := by
  subst hv; obtain ⟨_, h, _⟩ := H.fst; exact A.time h hM hK
theorem Held.eldM (A : MemberApi MT) (H : Held w0 w ((MT q M).sep R)) (hM : M.Ok K) (hK : K < 1000000) {v : Nat} {r : Int} (hv : M.eldV = v) (hr : M.eldE = r) :
    Calls Try.prog 18 #[.pointer (some ⟨q, 0, none⟩)] w fun e w' => e = .returned (.tuple #[.int .i64 ((v : Nat) : Int), .int .i64 r]) ∧ Still w w' := by
  subst hv hr; obtain ⟨_, h, _⟩ := H.fst; exact A.eldest h hM hK
theorem OutNums.at {w w' : World} {l : List Int} {n : Nat} {e : Ending} (hn : n = l.length) (h : OutNums w l n e w') : ∃ a c, e = .returned (.slice a n c) ∧ NumsAt w' a l ∧ Still w w' := by
  obtain ⟨a, c, he, ho, hs⟩ := h
  exact ⟨a, c, he, NumsAt.of_own ho hn, hs⟩
theorem Held.allM (A : MemberApi MT) (H : Held w0 w ((MT q M).sep R)) (hM : M.Ok K) (hK : K < 1000000) {l : List Nat} {n : Nat} (hl : M.memb = l) (hn : n = l.length) :
    Calls Try.prog 23 #[.pointer (some ⟨q, 0, none⟩)] w fun e w' => ∃ a c, e = .returned (.slice a n c) ∧ NumsAt w' a (intsN l) ∧ Still w w' := by
  subst hl; obtain ⟨_, h, _⟩ := H.fst
  exact (A.all_ h hM hK n hn).mono fun e w' ho => ho.at (by rw [intsN_len]; exact hn)
end
theorem same_nums {V : World} {a b : Option Addr} {l : List Int} {n c c' : Nat} (hn : n = l.length) (h1 : n ≤ 1000000) (hA : NumsAt V a l) (hB : NumsAt V b l) :
    Calls Try.prog 22 #[.slice a n c, .slice b n c'] V fun e w' => e = .returned (.bool true) ∧ Still V w' := by
  subst hn
  exact (sameInts_any V a b l l c c' rfl (by omega) hA hB).mono fun e w' ⟨he, n, hw⟩ => ⟨by rw [he]; simp, by rw [hw]; exact (Turned.refl _ _).drewN n⟩

set_option maxHeartbeats 2000000 in
theorem works15 {MT : Nat → MbM → Thing} (A : MemberApi MT) (w : World) : Calls Try.prog 26 #[] w fun e w' => e = .returned (.bool true) ∧ Still w w' := by
  have HMk := Lib.hid (A.make_ w)
  obtain ⟨M1, hM1⟩ : ∃ M1, M1 = MbM.new.join 5 := ⟨_, rfl⟩
  obtain ⟨M2, hM2⟩ : ∃ M2, M2 = M1.join 2 := ⟨_, rfl⟩
  obtain ⟨M3, hM3⟩ : ∃ M3, M3 = M2.leave 5 := ⟨_, rfl⟩
  obtain ⟨M4, hM4⟩ : ∃ M4, M4 = M3.join 5 := ⟨_, rfl⟩
  have o0 := MbM.new_ok
  have o1 : M1.Ok 1 := by rw [hM1]; exact o0.join 5
  have o2 : M2.Ok 2 := by rw [hM2]; exact o1.join 2
  have o3 : M3.Ok 3 := by rw [hM3]; exact o2.leave 5
  have o4 : M4.Ok 4 := by rw [hM4]; exact o3.join 5
  have e1 : M3.joinV 5 = 4 ∧ M3.joinE 5 = 0 := by rw [hM3, hM2, hM1]; decide
  have e2 : M4.eldV = 2 ∧ M4.eldE = 0 ∧ M4.sinceV 5 = 4 ∧ M4.findE 5 = 0 ∧ M4.memb = [2, 5] ∧ M4.T = 4 := by rw [hM4, hM3, hM2, hM1]; decide
  obtain ⟨e3, e4⟩ := e1
  obtain ⟨e5, e6, e7, e8, e9, e10⟩ := e2
  have H1 := Lib.hid (fun (V : World) (q : Nat) (H : Held w V ((MT q MbM.new).sep Thing.none)) => Held.joinM A H o0 (by omega) (x := 5) (by omega) (by omega) rfl rfl hM1.symm)
  have H2 := Lib.hid (fun (V : World) (q : Nat) (H : Held w V ((MT q M1).sep Thing.none)) => Held.joinM A H o1 (by omega) (x := 2) (by omega) (by omega) rfl rfl hM2.symm)
  have H3 := Lib.hid (fun (V : World) (q : Nat) (H : Held w V ((MT q M2).sep Thing.none)) => Held.leaveM A H o2 (by omega) (x := 5) (by omega) (by omega) rfl rfl hM3.symm)
  have H4 := Lib.hid (fun (V : World) (q : Nat) (H : Held w V ((MT q M3).sep Thing.none)) => Held.joinM A H o3 (by omega) (x := 5) (by omega) (by omega) e3 e4 hM4.symm)
  have H5 := Lib.hid (fun (V : World) (q : Nat) (H : Held w V ((MT q M4).sep Thing.none)) => Held.eldM A H o4 (by omega) e5 e6)
  have H6 := Lib.hid (fun (V : World) (q : Nat) (H : Held w V ((MT q M4).sep Thing.none)) => Held.sinceM A H o4 (by omega) (x := 5) (by omega) (by omega) e7 e8)
  have H7 := Lib.hid (fun (V : World) (q : Nat) (H : Held w V ((MT q M4).sep Thing.none)) => Held.allM A H o4 (by omega) (n := 2) e9 rfl)
  have H8 := Lib.hid (fun (V : World) (q : Nat) (H : Held w V ((MT q M4).sep Thing.none)) => Held.timeM A H o4 (by omega) e10)
  have HSm := Lib.hid (fun (V : World) (a : Option Addr) (c : Nat) (h : NumsAt V a (intsN [2, 5])) => show Calls Try.prog 22 #[.slice a (2 : Nat) c, .slice (some ⟨V.heap.size, 0, none⟩) (2 : Nat) 2] (V.alloc (.cells #[.int .i64 2, .int .i64 5] 3)) fun e w' => e = .returned (.bool true) ∧ Still V w' from
    (same_nums (n := 2) rfl (by omega) (h.still ((Turned.refl _ _).alloc _)) (NumsAt.of_blk (Blk.new V (ints [2, 5]) 3))).mono fun e w' ⟨he, hs⟩ => ⟨he, ((Turned.refl _ _).alloc _).trans hs⟩)
  clear o0 o1 o2 o3 o4 e3 e4 e5 e6 e7 e8 e9 e10 hM1 hM2 hM3 hM4
  go_enter Try.func26, Try.ntmps26
  go_wp2_with (first
    | (go_at_call 8; ((with_reducible refine HMk.out.mono ?_)); rintro e w1 ⟨q, rfl, hN⟩; have K1 := Lib.hid ((Held.start (Turned.refl _ w)).new hN); clear hN)
    | (go_at_call 10; ((with_reducible refine (H1.out _ _ K1.out).mono ?_)); rintro e w2 ⟨rfl, k2⟩; have K2 := Lib.hid k2; clear k2 K1)
    | (go_at_call 10; ((with_reducible refine (H2.out _ _ K2.out).mono ?_)); rintro e w3 ⟨rfl, k3⟩; have K3 := Lib.hid k3; clear k3 K2)
    | (go_at_call 12; ((with_reducible refine (H3.out _ _ K3.out).mono ?_)); rintro e w4 ⟨rfl, k4⟩; have K4 := Lib.hid k4; clear k4 K3)
    | (go_at_call 10; ((with_reducible refine (H4.out _ _ K4.out).mono ?_)); rintro e w5 ⟨rfl, k5⟩; have K5 := Lib.hid k5; clear k5 K4)
    | (go_at_call 18; ((with_reducible refine (H5.out _ _ K5.out).mono ?_)); rintro e w6 ⟨rfl, hs⟩; have K6 := Lib.hid (K5.out.still hs); clear hs K5)
    | (go_at_call 14; ((with_reducible refine (H6.out _ _ K6.out).mono ?_)); rintro e w7 ⟨rfl, hs⟩; have K7 := Lib.hid (K6.out.still hs); clear hs K6)
    | (go_at_call 23; ((with_reducible refine (H7.out _ _ K7.out).mono ?_)); rintro e w8 ⟨a8, c8, rfl, ha, hs⟩; have S8 := Lib.hid ha; have K8 := Lib.hid (K7.out.still hs); clear hs ha K7)
    | (go_at_call 22; ((with_reducible refine (HSm.out _ _ _ S8.out).mono ?_)); rintro e w9 ⟨rfl, hs⟩; have K9 := Lib.hid (K8.out.still hs); clear hs K8)
    | (go_at_call 25; ((with_reducible refine (H8.out _ _ K9.out).mono ?_)); rintro e wa ⟨rfl, hs⟩; have Ka := Lib.hid (K9.out.still hs); clear hs K9))
  go_ret
  exact ⟨by first | rfl | simp, Ka.out.ground⟩
end Go.Proofs.Ytepdnclojjeepaa
