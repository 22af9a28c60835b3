/- What the statements of layer 17 want of the program's table, told of the plain one: one word for each call; what works does. No condition but the words. -/
import Derived.Test.YtplnbphbccflfaaRbHelp
import Derived.Test.YtplnbphbccflfaaSit
import Derived.Test.YtplnbphbccflfaaShBits
import Derived.Deep.RegionHeld3
import Derived.Deep.CutBlock
import Derived.BigQuiet
import Derived.BigRegion
namespace Go.Proofs.Ytplnbphbccflfaa
open Go.RowKit
set_option linter.unusedVariables false
set_option linter.unusedSimpArgs false
set_option maxRecDepth 100000

/-- A new table. -/
def BNew (BT : Nat → TbM → Thing) (w : World) (M : TbM) (q : Nat) (w' : World) : Prop := ∃ W, (BT q M).at_ w' W ∧ Still w w' ∧ ∀ k, W k → w.heap.size ≤ k
structure RebalApi (BT : Nat → TbM → Thing) : Prop where
  make_ : ∀ w : World, Calls Try.prog 8 #[] w fun e w' => ∃ q, e = .returned (.pointer (some ⟨q, 0, none⟩)) ∧ BNew BT w TbM.new q w'
  begin_ : ∀ {w : World} {W : Nat → Prop} {q K : Nat} {M : TbM}, (BT q M).at_ w W → M.Ok K → K < 1000000 → ∀ {bo ao : Option Addr} {ps : List Plc} {ms : List Int} {n m c1 c2 : Nat}, n = ps.length → m = ms.length → n ≤ 1000 → m ≤ 1000 →
    PlAt w bo ps → NumsAt w ao ms → (∀ a, bo = some a → ¬ W a.block) → (∀ a, ao = some a → ¬ W a.block) →
    Calls Try.prog 12 #[.pointer (some ⟨q, 0, none⟩), .slice bo n c1, .slice ao m c2] w fun e w' => e = .returned (.tuple #[.bool (M.beginV ps ms), .int .i64 (begE ps ms)]) ∧ Goes (BT q (M.begin_ ps ms)) W w w'
  ack : ∀ {w : World} {W : Nat → Prop} {q K : Nat} {M : TbM}, (BT q M).at_ w W → M.Ok K → K < 1000000 → ∀ x : Int, -9223372036854775808 ≤ x → x ≤ 9223372036854775807 →
    Calls Try.prog 15 #[.pointer (some ⟨q, 0, none⟩), .int .i64 x] w fun e w' => e = .returned (.tuple #[.bool (M.ackV x), .int .i64 (M.ackE x)]) ∧ Goes (BT q (M.ack x)) W w w'
  settled : ∀ {w : World} {W : Nat → Prop} {q K : Nat} {M : TbM}, (BT q M).at_ w W → M.Ok K → K < 1000000 → Calls Try.prog 23 #[.pointer (some ⟨q, 0, none⟩)] w fun e w' => e = .returned (.bool (decide (M.W = []))) ∧ Still w w'
  gen : ∀ {w : World} {W : Nat → Prop} {q K : Nat} {M : TbM}, (BT q M).at_ w W → M.Ok K → K < 1000000 → Calls Try.prog 20 #[.pointer (some ⟨q, 0, none⟩)] w fun e w' => e = .returned (.int .i64 ((M.G : Nat) : Int)) ∧ Still w w'
  owners : ∀ {w : World} {W : Nat → Prop} {q K : Nat} {M : TbM}, (BT q M).at_ w W → M.Ok K → K < 1000000 → ∀ n, n = M.O.length → Calls Try.prog 19 #[.pointer (some ⟨q, 0, none⟩)] w (OutRow encOw 3 51 w M.O n)
  target : ∀ {w : World} {W : Nat → Prop} {q K : Nat} {M : TbM}, (BT q M).at_ w W → M.Ok K → K < 1000000 → ∀ n, n = M.T.length → Calls Try.prog 26 #[.pointer (some ⟨q, 0, none⟩)] w (OutRow encOw 3 51 w M.T n)
  revoked : ∀ {w : World} {W : Nat → Prop} {q K : Nat} {M : TbM}, (BT q M).at_ w W → M.Ok K → K < 1000000 → ∀ x : Int, -9223372036854775808 ≤ x → x ≤ 9223372036854775807 → ∀ n, n = (revI M.O M.T x).length →
    Calls Try.prog 28 #[.pointer (some ⟨q, 0, none⟩), .int .i64 x] w (OutRow encPl 2 49 w (revI M.O M.T x) n)
  waits : ∀ {w : World} {W : Nat → Prop} {q K : Nat} {M : TbM}, (BT q M).at_ w W → M.Ok K → K < 1000000 → ∀ n, n = M.W.length → Calls Try.prog 22 #[.pointer (some ⟨q, 0, none⟩)] w (OutNums w M.W n)
  has : ∀ {w : World} {W : Nat → Prop} {q K : Nat} {M : TbM}, (BT q M).at_ w W → M.Ok K → K < 1000000 → ∀ (x : Int) (p : Plc), -9223372036854775808 ≤ x → x ≤ 9223372036854775807 →
    Calls Try.prog 27 #[.pointer (some ⟨q, 0, none⟩), .int .i64 x, .agg #[.int .i64 p.1, .int .i64 p.2]] w fun e w' => e = .returned (.int .i64 (M.hasE x p)) ∧ Still w w'
section
variable {BT : Nat → TbM → Thing} {w0 w : World} {q K : Nat} {M : TbM} {R : Thing}
theorem Held.beginC (A : RebalApi BT) (hM : M.Ok K) (hK : K < 1000000) {bo ao : Option Addr} {ps : List Plc} {ms : List Int} {n m c1 c2 : Nat} {v : Bool} {E : Int} {M' : TbM} (hn : n = ps.length) (hm : m = ms.length) (h1 : n ≤ 1000) (h2 : m ≤ 1000)
    (hv : M.beginV ps ms = v) (hE : begE ps ms = E) (hM' : M.begin_ ps ms = M') (HH : Held w0 w ((BT q M).sep (R.sep ((plsT bo n c1 ps).sep (intsT ao m c2 ms))))) :
    Calls Try.prog 12 #[.pointer (some ⟨q, 0, none⟩), .slice bo n c1, .slice ao m c2] w fun e w' => e = .returned (.tuple #[.bool v, .int .i64 E]) ∧ Held w0 w' ((BT q M').sep (R.sep ((plsT bo n c1 ps).sep (intsT ao m c2 ms)))) := by
  subst hv hE hM'
  have HH' := HH
  obtain ⟨W, hW, hlo, hst⟩ := HH'
  have hW' := hW
  obtain ⟨W1, W2, hb, ⟨W3, W4, hr, ⟨W5, W6, hp, hi, hd3, hW3⟩, hd2, hW2⟩, hd1, hW1⟩ := hW'
  refine (A.begin_ hb hM hK hn hm h1 h2 (RowAt.of_own encPl_len hp.1 hn) (NumsAt.of_own hi.1 hm) (fun a ha hk => hd1 _ hk ((hW2 _).2 (.inr ((hW3 _).2 (.inl (ownT_blk hp a ha)))))) (fun a ha hk => hd1 _ hk ((hW2 _).2 (.inr ((hW3 _).2 (.inr (ownT_blk hi a ha))))))).mono ?_
  rintro e w' ⟨he, hg⟩
  refine ⟨he, ?_⟩
  have hgo : Goes ((BT q (M.begin_ ps ms)).sep (R.sep ((plsT bo n c1 ps).sep (intsT ao m c2 ms)))) W w w' := by
    obtain ⟨W', g1, g2, g3⟩ := hg
    refine ⟨fun k => W' k ∨ W2 k, ⟨W', W2, g1, Thing.keep _ ⟨W3, W4, hr, ⟨W5, W6, hp, hi, hd3, hW3⟩, hd2, hW2⟩ g2 (fun k hk hk1 => hd1 k hk1 hk), fun k hk hk2 => ?_, fun k => Iff.rfl⟩, g2.mono (fun k _ hk => (hW1 k).2 (.inl hk)), fun k hk => ?_⟩
    · rcases g3 k hk with h | h
      · exact hd1 k h hk2
      · have := Thing.lt _ (show ((R.sep ((plsT bo n c1 ps).sep (intsT ao m c2 ms)))).at_ w W2 from ⟨W3, W4, hr, ⟨W5, W6, hp, hi, hd3, hW3⟩, hd2, hW2⟩) k hk2; omega
    · rcases hk with hk | hk
      · exact (g3 k hk).imp (fun h => (hW1 k).2 (.inl h)) id
      · exact .inl ((hW1 k).2 (.inr hk))
  obtain ⟨Wn, q1, q2, q3⟩ := hgo
  have hfin : Held w0 w' ((BT q (M.begin_ ps ms)).sep (R.sep ((plsT bo n c1 ps).sep (intsT ao m c2 ms)))) := ⟨Wn, q1, fun k hk => by
    rcases q3 k hk with h | h
    · exact hlo k h
    · exact Nat.le_trans hst.size h, hst.past q2 (fun i hi => .inr (hlo i hi))⟩
  exact hfin
theorem Held.beginB (A : RebalApi BT) (hM : M.Ok K) (hK : K < 1000000) {bo ao : Option Addr} {ps : List Plc} {ms : List Int} {n m c1 c2 : Nat} {v : Bool} {E : Int} {M' : TbM} (hn : n = ps.length) (hm : m = ms.length) (h1 : n ≤ 1000) (h2 : m ≤ 1000)
    (hv : M.beginV ps ms = v) (hE : begE ps ms = E) (hM' : M.begin_ ps ms = M') (H : Held w0 w ((((BT q M).sep R).sep (plsT bo n c1 ps)).sep (intsT ao m c2 ms))) :
    Calls Try.prog 12 #[.pointer (some ⟨q, 0, none⟩), .slice bo n c1, .slice ao m c2] w fun e w' => e = .returned (.tuple #[.bool v, .int .i64 E]) ∧ Held w0 w' ((BT q M').sep R) :=
  (Held.beginC A hM hK hn hm h1 h2 hv hE hM' H.assoc.assoc).mono fun e w' ⟨he, h⟩ => ⟨he, h.assoc'.drop⟩
theorem Held.ackB (A : RebalApi BT) (hM : M.Ok K) (hK : K < 1000000) {x : Int} {v : Bool} {E : Int} {M' : TbM} (h1 : -9223372036854775808 ≤ x) (h2 : x ≤ 9223372036854775807) (hv : M.ackV x = v) (hE : M.ackE x = E) (hM' : M.ack x = M') (H : Held w0 w ((BT q M).sep R)) :
    Calls Try.prog 15 #[.pointer (some ⟨q, 0, none⟩), .int .i64 x] w fun e w' => e = .returned (.tuple #[.bool v, .int .i64 E]) ∧ Held w0 w' ((BT q M').sep R) := by
  subst hv hE hM'; exact H.call (fun _ h => A.ack h hM hK x h1 h2)
theorem Held.settledB (A : RebalApi BT) (hM : M.Ok K) (hK : K < 1000000) {v : Bool} (hv : decide (M.W = []) = v) (H : Held w0 w ((BT q M).sep R)) :
    Calls Try.prog 23 #[.pointer (some ⟨q, 0, none⟩)] w fun e w' => e = .returned (.bool v) ∧ Still w w' := by
  subst hv; obtain ⟨_, h, _⟩ := H.fst; exact A.settled h hM hK
theorem Held.genB (A : RebalApi BT) (hM : M.Ok K) (hK : K < 1000000) {v : Nat} (hv : M.G = v) (H : Held w0 w ((BT q M).sep R)) :
    Calls Try.prog 20 #[.pointer (some ⟨q, 0, none⟩)] w fun e w' => e = .returned (.int .i64 ((v : Nat) : Int)) ∧ Still w w' := by
  subst hv; obtain ⟨_, h, _⟩ := H.fst; exact A.gen h hM hK
theorem Held.hasB (A : RebalApi BT) (hM : M.Ok K) (hK : K < 1000000) {x : Int} (a b : Int) {v : Int} (h1 : -9223372036854775808 ≤ x) (h2 : x ≤ 9223372036854775807) (hv : M.hasE x (a, b) = v) (H : Held w0 w ((BT q M).sep R)) :
    Calls Try.prog 27 #[.pointer (some ⟨q, 0, none⟩), .int .i64 x, .agg #[.int .i64 a, .int .i64 b]] w fun e w' => e = .returned (.int .i64 v) ∧ Still w w' := by
  subst hv; obtain ⟨_, h, _⟩ := H.fst; exact A.has h hM hK x (a, b) h1 h2
theorem Held.ownersB (A : RebalApi BT) (hM : M.Ok K) (hK : K < 1000000) {l : List Own} {n : Nat} (hl : M.O = l) (hn : n = l.length) (H : Held w0 w ((BT q M).sep R)) :
    Calls Try.prog 19 #[.pointer (some ⟨q, 0, none⟩)] w fun e w' => ∃ a c, e = .returned (.slice a n c) ∧ Held w0 w' (((BT q M).sep R).sep (ownsT a n c l)) := by
  subst hl; obtain ⟨_, h, _⟩ := H.fst
  exact (A.owners h hM hK n hn).mono fun e w' ho => H.row ho
theorem Held.targetB (A : RebalApi BT) (hM : M.Ok K) (hK : K < 1000000) {l : List Own} {n : Nat} (hl : M.T = l) (hn : n = l.length) (H : Held w0 w ((BT q M).sep R)) :
    Calls Try.prog 26 #[.pointer (some ⟨q, 0, none⟩)] w fun e w' => ∃ a c, e = .returned (.slice a n c) ∧ Held w0 w' (((BT q M).sep R).sep (ownsT a n c l)) := by
  subst hl; obtain ⟨_, h, _⟩ := H.fst
  exact (A.target h hM hK n hn).mono fun e w' ho => H.row ho
theorem Held.waitsB (A : RebalApi BT) (hM : M.Ok K) (hK : K < 1000000) {l : List Int} {n : Nat} (hl : M.W = l) (hn : n = l.length) (H : Held w0 w ((BT q M).sep R)) :
    Calls Try.prog 22 #[.pointer (some ⟨q, 0, none⟩)] w fun e w' => ∃ a c, e = .returned (.slice a n c) ∧ Held w0 w' (((BT q M).sep R).sep (intsT a n c l)) := by
  subst hl; obtain ⟨_, h, _⟩ := H.fst
  exact (A.waits h hM hK n hn).mono fun e w' ho => H.outs ho
end

def tb1 : TbM := TbM.new.begin_ (plN 2) [1]
def tb2 : TbM := tb1.begin_ (plN 2) [1, 2]
def tb3 : TbM := tb2.ack 1
theorem w17_facts : begE (plN 2) [1] = 0 ∧ TbM.new.beginV (plN 2) [1] = true ∧ begE (plN 2) [1, 2] = 0 ∧ tb1.beginV (plN 2) [1, 2] = false ∧ tb2.G = 1 ∧ tb2.W = [1] ∧ tb2.hasE 1 (0, 1) = 170 ∧ tb2.ackV 1 = true ∧ tb2.ackE 1 = 0 ∧ tb3.G = 2 ∧ tb3.hasE 2 (0, 1) = 0 := by decide
set_option maxHeartbeats 4000000 in
theorem works17 {BT : Nat → TbM → Thing} (A : RebalApi BT) (w : World) : Calls Try.prog 18 #[] w fun e w' => e = .returned (.bool true) ∧ Still w w' := by
  obtain ⟨f1, f2, f3, f4, f5, f6, f7, f8, f9, f10, f11⟩ := w17_facts
  have o0 := TbM.new_ok
  have o1 : tb1.Ok 1 := o0.begin_ _ _
  have o2 : tb2.Ok 2 := o1.begin_ _ _
  have o3 : tb3.Ok 3 := o2.ack _
  have HMk := Lib.hid (A.make_ w)
  have HPl := Lib.hid (fun V => show Calls Try.prog 11 #[.int .i64 2] V (OutRow encPl 2 49 V (plN 2) 2) from places_any 2 V (by omega))
  have H1 := Lib.hid (fun (V : World) (q : Nat) (bo ao : Option Addr) (c1 : Nat) (H : Held w V ((((BT q TbM.new).sep Thing.none).sep (plsT bo 2 c1 (plN 2))).sep (intsT ao 1 1 [1]))) => Held.beginB A o0 (by omega) (n := 2) (m := 1) (by rw [plN_len]) rfl (by omega) (by omega) f2 f1 (show TbM.new.begin_ (plN 2) [1] = tb1 from rfl) H)
  have H2 := Lib.hid (fun (V : World) (q : Nat) (bo ao : Option Addr) (c1 : Nat) (H : Held w V ((((BT q tb1).sep Thing.none).sep (plsT bo 2 c1 (plN 2))).sep (intsT ao 2 2 [1, 2]))) => Held.beginB A o1 (by omega) (n := 2) (m := 2) (by rw [plN_len]) rfl (by omega) (by omega) f4 f3 (show tb1.begin_ (plN 2) [1, 2] = tb2 from rfl) H)
  have H3 := Lib.hid (fun (V : World) (q : Nat) (H : Held w V ((BT q tb2).sep Thing.none)) => Held.genB A o2 (by omega) f5 H)
  have H4 := Lib.hid (fun (V : World) (q : Nat) (H : Held w V ((BT q tb2).sep Thing.none)) => Held.waitsB A o2 (by omega) (n := 1) f6 rfl H)
  have H5 := Lib.hid (fun (V : World) (q : Nat) (a : Option Addr) (c : Nat) (H : Held w V ((BT q tb2).sep (Thing.none.sep (intsT a 1 c [1])))) => Held.hasB A o2 (by omega) (x := 1) 0 1 (by omega) (by omega) f7 H)
  have H6 := Lib.hid (fun (V : World) (q : Nat) (a : Option Addr) (c : Nat) (H : Held w V ((BT q tb2).sep (Thing.none.sep (intsT a 1 c [1])))) => Held.ackB A o2 (by omega) (x := 1) (by omega) (by omega) f8 f9 (show tb2.ack 1 = tb3 from rfl) H)
  have H7 := Lib.hid (fun (V : World) (q : Nat) (a : Option Addr) (c : Nat) (H : Held w V ((BT q tb3).sep (Thing.none.sep (intsT a 1 c [1])))) => Held.genB A o3 (by omega) f10 H)
  have H8 := Lib.hid (fun (V : World) (q : Nat) (a : Option Addr) (c : Nat) (H : Held w V ((BT q tb3).sep (Thing.none.sep (intsT a 1 c [1])))) => Held.hasB A o3 (by omega) (x := 2) 0 1 (by omega) (by omega) f11 H)
  have HSm := Lib.hid (fun (V : World) (q : Nat) (a : Option Addr) (c : Nat) (H : Held w V ((BT q tb3).sep (Thing.none.sep (intsT a 1 c [1])))) => show Calls Try.prog 41 #[.slice a (1 : Nat) c, .slice (some ⟨V.heap.size, 0, none⟩) (1 : Nat) 1] (V.alloc (.cells #[.int .i64 1] 3)) fun e w' => e = .returned (.bool true) ∧ Still V w' from
    (sameInts_any (V.alloc (.cells #[.int .i64 1] 3)) a (some ⟨V.heap.size, 0, none⟩) [1] [1] c 1 rfl (by simp) ((Held.ints (A := Thing.none) H.snd rfl).still ((Turned.refl _ _).alloc _)) (NumsAt.of_blk (Blk.new V (ints [1]) 3))).mono fun e w' ⟨he, n, hw⟩ => ⟨by rw [he]; simp, by rw [hw]; exact ((Turned.refl _ _).alloc _).drewN n⟩)
  have HL1 := Lib.hid (fun (V : World) (R : Thing) (H : Held w V R) => show Held w (V.alloc (.cells #[.int .i64 1] 3)) (R.sep (intsT (some ⟨V.heap.size, 0, none⟩) 1 1 [1])) from lit_held H (l := [1]) (n := 1) rfl (by omega))
  have HL2 := Lib.hid (fun (V : World) (R : Thing) (H : Held w V R) => show Held w (V.alloc (.cells #[.int .i64 1, .int .i64 2] 3)) (R.sep (intsT (some ⟨V.heap.size, 0, none⟩) 2 2 [1, 2])) from lit_held H (l := [1, 2]) (n := 2) rfl (by omega))
  clear o0 o1 o2 o3 f1 f2 f3 f4 f5 f6 f7 f8 f9 f10 f11
  go_enter Try.func18, Try.ntmps18
  go_wp2_with (go_at_call 8; ((with_reducible refine HMk.out.mono ?_)); rintro e w1 ⟨q, rfl, hN⟩; have K1 := Lib.hid ((Held.start (Turned.refl _ w)).new hN); clear hN)
  go_wp2_with (go_at_call 11; ((with_reducible refine (HPl.out _).mono ?_)); rintro e w2 ho; obtain ⟨a2, c2, rfl, k2⟩ := K1.out.row ho; have K2 := Lib.hid (HL1.out _ _ k2); clear ho k2 K1)
  go_wp2_with (go_at_call 12; ((with_reducible refine (H1.out _ _ _ _ _ K2.out).mono ?_)); rintro e w3 ⟨rfl, k3⟩; have K3 := Lib.hid k3; clear k3 K2)
  go_wp2_with (go_at_call 11; ((with_reducible refine (HPl.out _).mono ?_)); rintro e w4 ho; obtain ⟨a4, c4, rfl, k4⟩ := K3.out.row ho; have K4 := Lib.hid (HL2.out _ _ k4); clear ho k4 K3)
  go_wp2_with (go_at_call 12; ((with_reducible refine (H2.out _ _ _ _ _ K4.out).mono ?_)); rintro e w5 ⟨rfl, k5⟩; have K5 := Lib.hid k5; clear k5 K4)
  go_wp2_with (go_at_call 20; ((with_reducible refine (H3.out _ _ K5.out).mono ?_)); rintro e w6 ⟨rfl, hs⟩; have K6 := Lib.hid (K5.out.still hs); clear hs K5)
  go_wp2_with (go_at_call 22; ((with_reducible refine (H4.out _ _ K6.out).mono ?_)); rintro e w7 ⟨a7, c7, rfl, k7⟩; have K7 := Lib.hid k7.assoc; clear k7 K6)
  go_wp2_with (go_at_call 27; ((with_reducible refine (H5.out _ _ _ _ K7.out).mono ?_)); rintro e w8 ⟨rfl, hs⟩; have K8 := Lib.hid (K7.out.still hs); clear hs K7)
  go_wp2_with (go_at_call 15; ((with_reducible refine (H6.out _ _ _ _ K8.out).mono ?_)); rintro e w9 ⟨rfl, k9⟩; have K9 := Lib.hid k9; clear k9 K8)
  go_wp2_with (first
    | (go_at_call 41; ((with_reducible refine (HSm.out _ _ _ _ K9.out).mono ?_)); rintro e wa ⟨rfl, hs⟩; have Ka := Lib.hid (K9.out.still hs); clear hs K9)
    | (go_at_call 20; ((with_reducible refine (H7.out _ _ _ _ Ka.out).mono ?_)); rintro e wb ⟨rfl, hs⟩; have Kb := Lib.hid (Ka.out.still hs); clear hs Ka)
    | (go_at_call 27; ((with_reducible refine (H8.out _ _ _ _ Kb.out).mono ?_)); rintro e wc ⟨rfl, hs⟩; have Kc := Lib.hid (Kb.out.still hs); clear hs Kb))
  go_ret
  exact ⟨by first | rfl | simp, Kc.out.ground⟩
end Go.Proofs.Ytplnbphbccflfaa
