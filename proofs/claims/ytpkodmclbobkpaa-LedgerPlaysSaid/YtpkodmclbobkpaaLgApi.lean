/- What the statements of layer 14 want of the program's ledger, told of the plain one: one word for each call; what works does. The words are shown of the program in another text. No condition but the words. -/
import Derived.Test.YtpkodmclbobkpaaLgRefBack
import Derived.Test.YtpkodmclbobkpaaHeld
namespace Go.Proofs.Ytpkodmclbobkpaa
open Go.RowKit
set_option linter.unusedVariables false
set_option linter.unusedSimpArgs false
set_option maxRecDepth 100000

structure LedgerApi (LT : Nat → LgM → Thing) : Prop where
  make_no : ∀ (b : Int) (w : World), ¬ (0 ≤ b ∧ b ≤ 1099511627776) → Calls Try.prog 9 #[.int .i64 b] w fun e w' => e = .returned (.tuple #[.pointer none, .int .i64 2]) ∧ Still w w'
  make_ok : ∀ (b : Int) (w : World), 0 ≤ b → b ≤ 1099511627776 → Calls Try.prog 9 #[.int .i64 b] w fun e w' => ∃ q, e = .returned (.tuple #[.pointer (some ⟨q, 0, none⟩), .int .i64 0]) ∧ LNew LT w (LgM.new b) q w'
  accept : ∀ {w : World} {W : Nat → Prop} {q : Nat} {M : LgM}, (LT q M).at_ w W → M.Ok → ∀ x : Int, -9223372036854775808 ≤ x → x ≤ 9223372036854775807 →
    Calls Try.prog 15 #[.pointer (some ⟨q, 0, none⟩), .int .i64 x] w fun e w' => e = .returned (.int .i64 (addE M x true)) ∧ Goes (LT q (M.add x true)) W w w'
  skip : ∀ {w : World} {W : Nat → Prop} {q : Nat} {M : LgM}, (LT q M).at_ w W → M.Ok → ∀ x : Int, -9223372036854775808 ≤ x → x ≤ 9223372036854775807 →
    Calls Try.prog 17 #[.pointer (some ⟨q, 0, none⟩), .int .i64 x] w fun e w' => e = .returned (.int .i64 (addE M x false)) ∧ Goes (LT q (M.add x false)) W w w'
  back : ∀ {w : World} {W : Nat → Prop} {q : Nat} {M : LgM}, (LT q M).at_ w W → M.Ok → ∀ x : Int, -9223372036854775808 ≤ x → x ≤ 9223372036854775807 →
    Calls Try.prog 18 #[.pointer (some ⟨q, 0, none⟩), .int .i64 x] w fun e w' => e = .returned (.int .i64 (backE M x)) ∧ Goes (LT q (M.back x)) W w w'
  is_ : ∀ {w : World} {W : Nat → Prop} {q : Nat} {M : LgM}, (LT q M).at_ w W → M.Ok → ∀ x : Int, -9223372036854775808 ≤ x → x ≤ 9223372036854775807 →
    Calls Try.prog 20 #[.pointer (some ⟨q, 0, none⟩), .int .i64 x] w fun e w' => e = .returned (.tuple #[.bool (lgiV M.L x), .int .i64 (lgiE M.L x)]) ∧ Still w w'
  from_ : ∀ {w : World} {W : Nat → Prop} {q : Nat} {M : LgM}, (LT q M).at_ w W → M.Ok →
    Calls Try.prog 22 #[.pointer (some ⟨q, 0, none⟩)] w fun e w' => e = .returned (.int .i64 M.b) ∧ Still w w'
  end_ : ∀ {w : World} {W : Nat → Prop} {q : Nat} {M : LgM}, (LT q M).at_ w W → M.Ok →
    Calls Try.prog 23 #[.pointer (some ⟨q, 0, none⟩)] w fun e w' => e = .returned (.int .i64 M.fin) ∧ Still w w'
  accepted : ∀ {w : World} {W : Nat → Prop} {q : Nat} {M : LgM}, (LT q M).at_ w W → M.Ok → ∀ m, m = (spOf M.L true).length →
    Calls Try.prog 25 #[.pointer (some ⟨q, 0, none⟩)] w (OutSp w (spOf M.L true) m)
  skipped : ∀ {w : World} {W : Nat → Prop} {q : Nat} {M : LgM}, (LT q M).at_ w W → M.Ok → ∀ m, m = (spOf M.L false).length →
    Calls Try.prog 27 #[.pointer (some ⟨q, 0, none⟩)] w (OutSp w (spOf M.L false) m)
  copy : ∀ {w : World} {W : Nat → Prop} {q : Nat} {M : LgM}, (LT q M).at_ w W → M.Ok →
    Calls Try.prog 29 #[.pointer (some ⟨q, 0, none⟩)] w fun e w' => ∃ q', e = .returned (.pointer (some ⟨q', 0, none⟩)) ∧ LNew LT w M q' w'
section
variable {LT : Nat → LgM → Thing} {w0 w : World} {q : Nat} {M : LgM} {R : Thing}
theorem Held.accL (A : LedgerApi LT) (H : Held w0 w ((LT q M).sep R)) (hM : M.Ok) {x r : Int} {M' : LgM} (h1 : -9223372036854775808 ≤ x) (h2 : x ≤ 9223372036854775807) (he : addE M x true = r) (hm : M.add x true = M') :
    Calls Try.prog 15 #[.pointer (some ⟨q, 0, none⟩), .int .i64 x] w fun e w' => e = .returned (.int .i64 r) ∧ Held w0 w' ((LT q M').sep R) := by
  subst he hm; exact H.call (fun _ h => A.accept h hM x h1 h2)
theorem Held.skpL (A : LedgerApi LT) (H : Held w0 w ((LT q M).sep R)) (hM : M.Ok) {x r : Int} {M' : LgM} (h1 : -9223372036854775808 ≤ x) (h2 : x ≤ 9223372036854775807) (he : addE M x false = r) (hm : M.add x false = M') :
    Calls Try.prog 17 #[.pointer (some ⟨q, 0, none⟩), .int .i64 x] w fun e w' => e = .returned (.int .i64 r) ∧ Held w0 w' ((LT q M').sep R) := by
  subst he hm; exact H.call (fun _ h => A.skip h hM x h1 h2)
theorem Held.backL (A : LedgerApi LT) (H : Held w0 w ((LT q M).sep R)) (hM : M.Ok) {x r : Int} {M' : LgM} (h1 : -9223372036854775808 ≤ x) (h2 : x ≤ 9223372036854775807) (he : backE M x = r) (hm : M.back x = M') :
    Calls Try.prog 18 #[.pointer (some ⟨q, 0, none⟩), .int .i64 x] w fun e w' => e = .returned (.int .i64 r) ∧ Held w0 w' ((LT q M').sep R) := by
  subst he hm; exact H.call (fun _ h => A.back h hM x h1 h2)
theorem Held.isL (A : LedgerApi LT) (H : Held w0 w ((LT q M).sep R)) (hM : M.Ok) {x : Int} (h1 : -9223372036854775808 ≤ x) (h2 : x ≤ 9223372036854775807) {v : Bool} {r : Int} (hv : lgiV M.L x = v) (hr : lgiE M.L x = r) :
    Calls Try.prog 20 #[.pointer (some ⟨q, 0, none⟩), .int .i64 x] w fun e w' => e = .returned (.tuple #[.bool v, .int .i64 r]) ∧ Still w w' := by
  subst hv hr; obtain ⟨_, h, _⟩ := H.fst; exact A.is_ h hM x h1 h2
theorem Held.endL (A : LedgerApi LT) (H : Held w0 w ((LT q M).sep R)) (hM : M.Ok) {f : Int} (hf : M.fin = f) :
    Calls Try.prog 23 #[.pointer (some ⟨q, 0, none⟩)] w fun e w' => e = .returned (.int .i64 f) ∧ Still w w' := by
  subst hf; obtain ⟨_, h, _⟩ := H.fst; exact A.end_ h hM
theorem Held.fromL (A : LedgerApi LT) (H : Held w0 w ((LT q M).sep R)) (hM : M.Ok) {f : Int} (hf : M.b = f) :
    Calls Try.prog 22 #[.pointer (some ⟨q, 0, none⟩)] w fun e w' => e = .returned (.int .i64 f) ∧ Still w w' := by
  subst hf; obtain ⟨_, h, _⟩ := H.fst; exact A.from_ h hM
theorem Held.acdL (A : LedgerApi LT) (H : Held w0 w ((LT q M).sep R)) (hM : M.Ok) {l : List (Int × Int)} {m : Nat} (hl : spOf M.L true = l) (hm : m = l.length) :
    Calls Try.prog 25 #[.pointer (some ⟨q, 0, none⟩)] w fun e w' => ∃ a c, e = .returned (.slice a m c) ∧ SpAt w' a l ∧ Still w w' := by
  subst hl; obtain ⟨_, h, _⟩ := H.fst; exact (A.accepted h hM m hm).mono fun e w' ho => ho.at hm
theorem Held.skdL (A : LedgerApi LT) (H : Held w0 w ((LT q M).sep R)) (hM : M.Ok) {l : List (Int × Int)} {m : Nat} (hl : spOf M.L false = l) (hm : m = l.length) :
    Calls Try.prog 27 #[.pointer (some ⟨q, 0, none⟩)] w fun e w' => ∃ a c, e = .returned (.slice a m c) ∧ SpAt w' a l ∧ Still w w' := by
  subst hl; obtain ⟨_, h, _⟩ := H.fst; exact (A.skipped h hM m hm).mono fun e w' ho => ho.at hm
end
theorem SpAt.still {w w' : World} {a : Option Addr} {l : List (Int × Int)} (h : SpAt w a l) (ht : Still w w') : SpAt w' a l := RowAt.stays h ht

set_option maxHeartbeats 2000000 in
theorem works14 {LT : Nat → LgM → Thing} (A : LedgerApi LT) (w : World) : Calls Try.prog 11 #[] w fun e w' => e = .returned (.bool true) ∧ Still w w' := by
  have o0 : (LgM.new 5).Ok := LgM.new_ok (by omega) (by omega)
  have HMk := Lib.hid (A.make_ok 5 w (by omega) (by omega))
  have H8 := Lib.hid (fun (V : World) (q : Nat) (H : Held w V ((LT q (LgM.new 5)).sep Thing.none)) => Held.accL A H o0 (x := 8) (r := 0) (M' := ⟨5, [(5, 8, true)]⟩) (by omega) (by omega) (by rfl) (by rfl))
  have o1 : LgM.Ok ⟨5, [(5, 8, true)]⟩ := o0.add 8 true
  have H9 := Lib.hid (fun (V : World) (q : Nat) (H : Held w V ((LT q ⟨5, [(5, 8, true)]⟩).sep Thing.none)) => Held.skpL A H o1 (x := 9) (r := 0) (M' := ⟨5, [(5, 8, true), (8, 9, false)]⟩) (by omega) (by omega) (by rfl) (by rfl))
  have o2 : LgM.Ok ⟨5, [(5, 8, true), (8, 9, false)]⟩ := o1.add 9 false
  have H10 := Lib.hid (fun (V : World) (q : Nat) (H : Held w V ((LT q ⟨5, [(5, 8, true), (8, 9, false)]⟩).sep Thing.none)) => Held.accL A H o2 (x := 10) (r := 0) (M' := ⟨5, [(5, 8, true), (8, 9, false), (9, 10, true)]⟩) (by omega) (by omega) (by rfl) (by rfl))
  have o3 : LgM.Ok ⟨5, [(5, 8, true), (8, 9, false), (9, 10, true)]⟩ := o2.add 10 true
  have H12 := Lib.hid (fun (V : World) (q : Nat) (H : Held w V ((LT q ⟨5, [(5, 8, true), (8, 9, false), (9, 10, true)]⟩).sep Thing.none)) => Held.accL A H o3 (x := 12) (r := 0) (M' := ⟨5, [(5, 8, true), (8, 9, false), (9, 12, true)]⟩) (by omega) (by omega) (by rfl) (by rfl))
  have o4 : LgM.Ok ⟨5, [(5, 8, true), (8, 9, false), (9, 12, true)]⟩ := o3.add 12 true
  have HIs := Lib.hid (fun (V : World) (q : Nat) (H : Held w V ((LT q ⟨5, [(5, 8, true), (8, 9, false), (9, 12, true)]⟩).sep Thing.none)) => Held.isL A H o4 (x := 8) (v := false) (r := 0) (by omega) (by omega) (by rfl) (by rfl))
  have HEn := Lib.hid (fun (V : World) (q : Nat) (H : Held w V ((LT q ⟨5, [(5, 8, true), (8, 9, false), (9, 12, true)]⟩).sep Thing.none)) => Held.endL A H o4 (f := 12) (by rfl))
  have HAc := Lib.hid (fun (V : World) (q : Nat) (H : Held w V ((LT q ⟨5, [(5, 8, true), (8, 9, false), (9, 12, true)]⟩).sep Thing.none)) => Held.acdL A H o4 (l := [(5, 8), (9, 12)]) (m := 2) (by rfl) rfl)
  have HSk := Lib.hid (fun (V : World) (q : Nat) (H : Held w V ((LT q ⟨5, [(5, 8, true), (8, 9, false), (9, 12, true)]⟩).sep Thing.none)) => Held.skdL A H o4 (l := [(8, 9)]) (m := 1) (by rfl) rfl)
  have HS1 := Lib.hid (fun (V : World) (a : Option Addr) (c : Nat) (h : SpAt V a [(5, 8), (9, 12)]) => show Calls Try.prog 24 #[.slice a (2 : Nat) c, .slice (some ⟨V.heap.size, 0, none⟩) (2 : Nat) 2] (V.alloc (.cells #[.int .i64 5, .int .i64 8, .int .i64 9, .int .i64 12] 47)) fun e w' => e = .returned (.bool true) ∧ Still V w' from
    (sameSpans_any _ a _ [(5, 8), (9, 12)] [(5, 8), (9, 12)] 2 2 c 2 rfl rfl (by omega) (h.still ((Turned.refl _ _).alloc _)) (SpAt.of_blk (Blk.new V (rowOf sp2V [(5, 8), (9, 12)]) 47))).mono fun e w' ⟨he, hs⟩ => ⟨by rw [he]; rfl, ((Turned.refl _ _).alloc _).trans hs⟩)
  have HS2 := Lib.hid (fun (V : World) (a : Option Addr) (c : Nat) (h : SpAt V a [(8, 9)]) => show Calls Try.prog 24 #[.slice a (1 : Nat) c, .slice (some ⟨V.heap.size, 0, none⟩) (1 : Nat) 1] (V.alloc (.cells #[.int .i64 8, .int .i64 9] 47)) fun e w' => e = .returned (.bool true) ∧ Still V w' from
    (sameSpans_any _ a _ [(8, 9)] [(8, 9)] 1 1 c 1 rfl rfl (by omega) (h.still ((Turned.refl _ _).alloc _)) (SpAt.of_blk (Blk.new V (rowOf sp2V [(8, 9)]) 47))).mono fun e w' ⟨he, hs⟩ => ⟨by rw [he]; rfl, ((Turned.refl _ _).alloc _).trans hs⟩)
  clear o0 o1 o2 o3 o4
  go_enter Try.func11, Try.ntmps11
  go_wp2_with (first
    | (go_at_call 9; ((with_reducible refine HMk.out.mono ?_)); rintro e w1 ⟨q, rfl, hN⟩; have K1 := Lib.hid ((Held.start (Turned.refl _ w)).new hN); clear hN)
    | (go_at_call 15; ((with_reducible refine (H8.out _ _ K1.out).mono ?_)); rintro e w2 ⟨rfl, k2⟩; have K2 := Lib.hid k2; clear k2 K1)
    | (go_at_call 17; ((with_reducible refine (H9.out _ _ K2.out).mono ?_)); rintro e w3 ⟨rfl, k3⟩; have K3 := Lib.hid k3; clear k3 K2)
    | (go_at_call 15; ((with_reducible refine (H10.out _ _ K3.out).mono ?_)); rintro e w4 ⟨rfl, k4⟩; have K4 := Lib.hid k4; clear k4 K3)
    | (go_at_call 15; ((with_reducible refine (H12.out _ _ K4.out).mono ?_)); rintro e w5 ⟨rfl, k5⟩; have K5 := Lib.hid k5; clear k5 K4)
    | (go_at_call 20; ((with_reducible refine (HIs.out _ _ K5.out).mono ?_)); rintro e w6 ⟨rfl, hs⟩; have K6 := Lib.hid (K5.out.still hs); clear hs K5)
    | (go_at_call 25; ((with_reducible refine (HAc.out _ _ K6.out).mono ?_)); rintro e w7 ⟨a7, c7, rfl, ha, hs⟩; have S7 := Lib.hid ha; have K7 := Lib.hid (K6.out.still hs); clear hs ha K6)
    | (go_at_call 24; ((with_reducible refine (HS1.out _ _ _ S7.out).mono ?_)); rintro e w8 ⟨rfl, hs⟩; have K8 := Lib.hid (K7.out.still hs); clear hs K7)
    | (go_at_call 27; ((with_reducible refine (HSk.out _ _ K8.out).mono ?_)); rintro e w9 ⟨a9, c9, rfl, ha, hs⟩; have S9 := Lib.hid ha; have K9 := Lib.hid (K8.out.still hs); clear hs ha K8)
    | (go_at_call 24; ((with_reducible refine (HS2.out _ _ _ S9.out).mono ?_)); rintro e wa ⟨rfl, hs⟩; have Ka := Lib.hid (K9.out.still hs); clear hs K9)
    | (go_at_call 23; ((with_reducible refine (HEn.out _ _ Ka.out).mono ?_)); rintro e wb ⟨rfl, hs⟩; have Kb := Lib.hid (Ka.out.still hs); clear hs Ka))
  go_ret
  exact ⟨by first | rfl | simp, Kb.out.ground⟩
end Go.Proofs.Ytpkodmclbobkpaa
