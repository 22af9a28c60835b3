/- What the statements of layer 18 want of the program's track, told of the plain one: one word for each call; what works does. No condition but the words. -/
import Derived.Test.YtdlkdagmaeapdaaFnMk
import Derived.Test.YtdlkdagmaeapdaaFnSeek
import Derived.Test.YtdlkdagmaeapdaaHeld
import Derived.Deep.DeepCutAuto
import Derived.BigRegion
namespace Go.Proofs.Ytdlkdagmaeapdaa
open Go.RowKit
set_option linter.unusedVariables false
set_option linter.unusedSimpArgs false
set_option maxRecDepth 100000

structure FenceApi (FT : Nat → FnM → Thing) (LT : Nat → LgM → Thing) : Prop where
  make_no : ∀ (b : Int) (w : World), ¬ (0 ≤ b ∧ b ≤ 1099511627776) → Calls Try.prog 8 #[.int .i64 b] w fun e w' => e = .returned (.tuple #[.pointer none, .int .i64 2]) ∧ Still w w'
  make_ok : ∀ (b : Int) (w : World), 0 ≤ b → b ≤ 1099511627776 → Calls Try.prog 8 #[.int .i64 b] w fun e w' => ∃ q, e = .returned (.tuple #[.pointer (some ⟨q, 0, none⟩), .int .i64 0]) ∧ FNew FT w (FnM.new b) q w'
  peek : ∀ {w : World} {W : Nat → Prop} {q : Nat} {M : FnM}, (FT q M).at_ w W → M.Ok → ∀ h t : Int, -9223372036854775808 ≤ h → h ≤ 9223372036854775807 → -9223372036854775808 ≤ t → t ≤ 9223372036854775807 →
    Calls Try.prog 20 #[.pointer (some ⟨q, 0, none⟩), .int .i64 h, .int .i64 t] w fun e w' => e = .returned (.tuple #[.int .i64 (M.peekV h t), .int .i64 (M.peekE h t)]) ∧ Still w w'
  del : ∀ {w : World} {W : Nat → Prop} {q : Nat} {M : FnM}, (FT q M).at_ w W → M.Ok → ∀ h t : Int, -9223372036854775808 ≤ h → h ≤ 9223372036854775807 → -9223372036854775808 ≤ t → t ≤ 9223372036854775807 →
    Calls Try.prog 13 #[.pointer (some ⟨q, 0, none⟩), .int .i64 h, .int .i64 t] w fun e w' => e = .returned (.tuple #[.int .i64 (M.delV h t), .int .i64 (M.delE h t)]) ∧ Goes (FT q (M.del h t)) W w w'
  com : ∀ {w : World} {W : Nat → Prop} {q : Nat} {M : FnM}, (FT q M).at_ w W → M.Ok → ∀ x : Int, -9223372036854775808 ≤ x → x ≤ 9223372036854775807 →
    Calls Try.prog 15 #[.pointer (some ⟨q, 0, none⟩), .int .i64 x] w fun e w' => e = .returned (.int .i64 (M.comE x)) ∧ Goes (FT q (M.com x)) W w w'
  seek : ∀ {w : World} {W : Nat → Prop} {q : Nat} {M : FnM}, (FT q M).at_ w W → M.Ok → ∀ x h t : Int, -9223372036854775808 ≤ x → x ≤ 9223372036854775807 → -9223372036854775808 ≤ h → h ≤ 9223372036854775807 → -9223372036854775808 ≤ t → t ≤ 9223372036854775807 →
    Calls Try.prog 17 #[.pointer (some ⟨q, 0, none⟩), .int .i64 x, .int .i64 h, .int .i64 t] w fun e w' => e = .returned (.int .i64 (M.seekE x h t)) ∧ Goes (FT q (M.seek x h t)) W w w'
  back : ∀ {w : World} {W : Nat → Prop} {q : Nat} {M : FnM}, (FT q M).at_ w W → M.Ok →
    Calls Try.prog 19 #[.pointer (some ⟨q, 0, none⟩)] w fun e w' => e = .returned (.tuple #[]) ∧ Goes (FT q M.back) W w w'
  next : ∀ {w : World} {W : Nat → Prop} {q : Nat} {M : FnM}, (FT q M).at_ w W → M.Ok →
    Calls Try.prog 25 #[.pointer (some ⟨q, 0, none⟩)] w fun e w' => e = .returned (.int .i64 M.N) ∧ Still w w'
  committed : ∀ {w : World} {W : Nat → Prop} {q : Nat} {M : FnM}, (FT q M).at_ w W → M.Ok →
    Calls Try.prog 23 #[.pointer (some ⟨q, 0, none⟩)] w fun e w' => e = .returned (.int .i64 M.L.fin) ∧ Still w w'
  ledger : ∀ {w : World} {W : Nat → Prop} {q : Nat} {M : FnM}, (FT q M).at_ w W → M.Ok →
    Calls Try.prog 26 #[.pointer (some ⟨q, 0, none⟩)] w fun e w' => ∃ q', e = .returned (.pointer (some ⟨q', 0, none⟩)) ∧ LNew LT w M.L q' w'
section
variable {FT : Nat → FnM → Thing} {LT : Nat → LgM → Thing} {w0 w : World} {q : Nat} {M : FnM} {R : Thing}
theorem Held.delF (A : FenceApi FT LT) (H : Held w0 w ((FT q M).sep R)) (hM : M.Ok) {h t v r : Int} {M' : FnM} (h1 : -9223372036854775808 ≤ h) (h2 : h ≤ 9223372036854775807) (h3 : -9223372036854775808 ≤ t) (h4 : t ≤ 9223372036854775807) (hv : M.delV h t = v) (he : M.delE h t = r) (hm : M.del h t = M') :
    Calls Try.prog 13 #[.pointer (some ⟨q, 0, none⟩), .int .i64 h, .int .i64 t] w fun e w' => e = .returned (.tuple #[.int .i64 v, .int .i64 r]) ∧ Held w0 w' ((FT q M').sep R) := by
  subst hv he hm; exact H.call (fun _ h' => A.del h' hM h t h1 h2 h3 h4)
theorem Held.comF (A : FenceApi FT LT) (H : Held w0 w ((FT q M).sep R)) (hM : M.Ok) {x r : Int} {M' : FnM} (h1 : -9223372036854775808 ≤ x) (h2 : x ≤ 9223372036854775807) (he : M.comE x = r) (hm : M.com x = M') :
    Calls Try.prog 15 #[.pointer (some ⟨q, 0, none⟩), .int .i64 x] w fun e w' => e = .returned (.int .i64 r) ∧ Held w0 w' ((FT q M').sep R) := by
  subst he hm; exact H.call (fun _ h' => A.com h' hM x h1 h2)
theorem Held.seekF (A : FenceApi FT LT) (H : Held w0 w ((FT q M).sep R)) (hM : M.Ok) {x h t r : Int} {M' : FnM} (x1 : -9223372036854775808 ≤ x) (x2 : x ≤ 9223372036854775807) (h1 : -9223372036854775808 ≤ h) (h2 : h ≤ 9223372036854775807) (h3 : -9223372036854775808 ≤ t) (h4 : t ≤ 9223372036854775807) (he : M.seekE x h t = r) (hm : M.seek x h t = M') :
    Calls Try.prog 17 #[.pointer (some ⟨q, 0, none⟩), .int .i64 x, .int .i64 h, .int .i64 t] w fun e w' => e = .returned (.int .i64 r) ∧ Held w0 w' ((FT q M').sep R) := by
  subst he hm; exact H.call (fun _ h' => A.seek h' hM x h t x1 x2 h1 h2 h3 h4)
theorem Held.backF (A : FenceApi FT LT) (H : Held w0 w ((FT q M).sep R)) (hM : M.Ok) :
    Calls Try.prog 19 #[.pointer (some ⟨q, 0, none⟩)] w fun e w' => e = .returned (.tuple #[]) ∧ Held w0 w' ((FT q M.back).sep R) := H.call (fun _ h' => A.back h' hM)
theorem Held.peekF (A : FenceApi FT LT) (H : Held w0 w ((FT q M).sep R)) (hM : M.Ok) {h t v r : Int} (h1 : -9223372036854775808 ≤ h) (h2 : h ≤ 9223372036854775807) (h3 : -9223372036854775808 ≤ t) (h4 : t ≤ 9223372036854775807) (hv : M.peekV h t = v) (he : M.peekE h t = r) :
    Calls Try.prog 20 #[.pointer (some ⟨q, 0, none⟩), .int .i64 h, .int .i64 t] w fun e w' => e = .returned (.tuple #[.int .i64 v, .int .i64 r]) ∧ Still w w' := by
  subst hv he; obtain ⟨_, h', _⟩ := H.fst; exact A.peek h' hM h t h1 h2 h3 h4
theorem Held.nextF (A : FenceApi FT LT) (H : Held w0 w ((FT q M).sep R)) (hM : M.Ok) {f : Int} (hf : M.N = f) :
    Calls Try.prog 25 #[.pointer (some ⟨q, 0, none⟩)] w fun e w' => e = .returned (.int .i64 f) ∧ Still w w' := by
  subst hf; obtain ⟨_, h, _⟩ := H.fst; exact A.next h hM
theorem Held.cmdF (A : FenceApi FT LT) (H : Held w0 w ((FT q M).sep R)) (hM : M.Ok) {f : Int} (hf : M.L.fin = f) :
    Calls Try.prog 23 #[.pointer (some ⟨q, 0, none⟩)] w fun e w' => e = .returned (.int .i64 f) ∧ Still w w' := by
  subst hf; obtain ⟨_, h, _⟩ := H.fst; exact A.committed h hM
theorem Held.ledF (A : FenceApi FT LT) (H : Held w0 w ((FT q M).sep R)) (hM : M.Ok) :
    Calls Try.prog 26 #[.pointer (some ⟨q, 0, none⟩)] w fun e w' => ∃ q', e = .returned (.pointer (some ⟨q', 0, none⟩)) ∧ Held w0 w' ((LT q' M.L).sep ((FT q M).sep R)) := by
  obtain ⟨_, h, _⟩ := H.fst
  exact (A.ledger h hM).mono fun e w' ⟨q', he, hn⟩ => ⟨q', he, H.new hn⟩
end

def f18a : FnM := ⟨⟨0, []⟩, 1⟩
def f18b : FnM := ⟨⟨0, [(0, 3, false)]⟩, 4⟩
def f18c : FnM := ⟨⟨0, [(0, 3, false), (3, 4, true)]⟩, 4⟩
set_option maxHeartbeats 2000000 in
theorem works18 {FT : Nat → FnM → Thing} {LT : Nat → LgM → Thing} (A : FenceApi FT LT) (w : World) : Calls Try.prog 10 #[] w fun e w' => e = .returned (.bool true) ∧ Still w w' := by
  have o0 : (FnM.new 0).Ok := FnM.new_ok (by omega) (by omega)
  have HMk := Lib.hid (A.make_ok 0 w (by omega) (by omega))
  have H1 := Lib.hid (fun (V : World) (q : Nat) (H : Held w V ((FT q (FnM.new 0)).sep Thing.none)) => Held.delF A H o0 (h := 0) (t := 5) (v := 0) (r := 0) (M' := f18a) (by omega) (by omega) (by omega) (by omega) (by rfl) (by rfl) (by rfl))
  have o1 : f18a.Ok := o0.del 0 5
  have H2 := Lib.hid (fun (V : World) (q : Nat) (H : Held w V ((FT q f18a).sep Thing.none)) => Held.delF A H o1 (h := 3) (t := 5) (v := 3) (r := 0) (M' := f18b) (by omega) (by omega) (by omega) (by omega) (by rfl) (by rfl) (by rfl))
  have o2 : f18b.Ok := o1.del 3 5
  have H3 := Lib.hid (fun (V : World) (q : Nat) (H : Held w V ((FT q f18b).sep Thing.none)) => Held.cmdF A H o2 (f := 3) (by rfl))
  have H4 := Lib.hid (fun (V : World) (q : Nat) (H : Held w V ((FT q f18b).sep Thing.none)) => Held.comF A H o2 (x := 4) (r := 0) (M' := f18c) (by omega) (by omega) (by rfl) (by rfl))
  have o3 : f18c.Ok := o2.com 4
  have H5 := Lib.hid (fun (V : World) (q : Nat) (H : Held w V ((FT q f18c).sep Thing.none)) => Held.comF A H o3 (x := 5) (r := 61) (M' := f18c) (by omega) (by omega) (by rfl) (by rfl))
  have H6 := Lib.hid (fun (V : World) (q : Nat) (H : Held w V ((FT q f18c).sep Thing.none)) => Held.nextF A H o3 (f := 4) (by rfl))
  clear o0 o1 o2 o3
  go_enter Try.func10, Try.ntmps10
  go_wp2_with (first
    | (go_at_call 8; ((with_reducible refine HMk.out.mono ?_)); rintro e w1 ⟨q, rfl, hN⟩; have K1 := Lib.hid ((Held.start (Turned.refl _ w)).new hN); clear hN)
    | (go_at_call 13; ((with_reducible refine (H1.out _ _ K1.out).mono ?_)); rintro e w2 ⟨rfl, k2⟩; have K2 := Lib.hid k2; clear k2 K1)
    | (go_at_call 13; ((with_reducible refine (H2.out _ _ K2.out).mono ?_)); rintro e w3 ⟨rfl, k3⟩; have K3 := Lib.hid k3; clear k3 K2)
    | (go_at_call 23; ((with_reducible refine (H3.out _ _ K3.out).mono ?_)); rintro e w4 ⟨rfl, hs⟩; have K4 := Lib.hid (K3.out.still hs); clear hs K3)
    | (go_at_call 15; ((with_reducible refine (H4.out _ _ K4.out).mono ?_)); rintro e w5 ⟨rfl, k5⟩; have K5 := Lib.hid k5; clear k5 K4)
    | (go_at_call 15; ((with_reducible refine (H5.out _ _ K5.out).mono ?_)); rintro e w6 ⟨rfl, k6⟩; have K6 := Lib.hid k6; clear k6 K5)
    | (go_at_call 25; ((with_reducible refine (H6.out _ _ K6.out).mono ?_)); rintro e w7 ⟨rfl, hs⟩; have K7 := Lib.hid (K6.out.still hs); clear hs K6))
  go_ret
  exact ⟨by first | rfl | simp, K7.out.ground⟩
end Go.Proofs.Ytdlkdagmaeapdaa
