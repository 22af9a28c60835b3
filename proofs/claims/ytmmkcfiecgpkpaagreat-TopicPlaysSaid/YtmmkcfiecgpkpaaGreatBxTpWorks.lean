/- Texts that lie next to one another, laid into one: each says what it holds. No condition but what each states. -/
import Derived.Test.YtmmkcfiecgpkpaaGreatBdTpM
import Derived.Test.YtmmkcfiecgpkpaaGreatBdRead

/- The chapter's example of layer 13. No condition but that the program's sets keep their words. -/
namespace Go.Proofs.YtmmkcfiecgpkpaaGreat
open Go.RowKit
set_option linter.unusedVariables false
set_option linter.unusedSimpArgs false
set_option maxRecDepth 100000

def tS0 : StM := ⟨PM.new 4 8, []⟩
def tS1 : StM := ⟨tS0.P, openT tS0.T [97] 3 4 0⟩
theorem t_1 : openE tS0.T [97] 3 4 0 = 0 ∧ openN tS0.T [97] 3 4 0 = 0 := by decide +kernel
theorem t_2 : routE tS1.T [97] [3] = 0 ∧ routT tS1.T [97] [3] = 0 ∧ routP tS1.T [97] [3] = 1 := by decide +kernel
theorem t_3 : tclE tS1 [97] [3] 1 = 0 ∧ tclT tS1 [97] [3] 1 = 0 ∧ tclP tS1 [97] [3] 1 = 1 ∧ tclA tS1 [97] [3] 1 = 0 ∧ tclH tS1 [97] [3] 1 = 1 := by decide +kernel
theorem t_4 : (tclM tS1 [97] [3] 1).T.length = 1 := by decide +kernel
theorem t_o0 : tS0.Ok [] 0 0 := StM.new_ok (by decide) (by decide) (by decide) (by decide)
theorem t_o1 : tS1.Ok [] 0 0 := t_o0.open [97] 3 4 0
theorem t_o2 : (tclM tS1 [97] [3] 1).Ok [] 2 1 := t_o1.claim (by decide) [97] [3] 1

section
variable {HT : Nat → Nat → List Txt → List (List Nat) → Thing} {PT : Nat → PM → Thing} {XT : Nat → Nat → RM → Thing}
/-- A set that is held, with where its partitions lie. -/
theorem Held.openS (A : TopicApi HT PT XT) {w0 w : World} {R : Thing} {s q : Nat} {S : StM} {L : List (List Nat)} {X : List Int} {N K : Nat} (H : Held w0 w ((setT HT PT XT s q L S).sep R)) (hf : Fits L S.T) (hO : S.Ok X N K) (hN : N < 900000) (hK : K < 900000) (l : Txt) (hl : l.length ≤ 300) (n r p : Int) (hn : w64 n) (hr : w64 r) (hp : w64 p) :
    Calls Tryz.prog 13 #[.pointer (some ⟨s, 0, none⟩), tx l, .int .i64 n, .int .i64 r, .int .i64 p] w fun e w' => e = .returned (.tuple #[.int .i64 (openN S.T l n r p), .int .i64 (openE S.T l n r p)]) ∧ ∃ L', Fits L' (openT S.T l n r p) ∧ Held w0 w' ((setT HT PT XT s q L' ⟨S.P, openT S.T l n r p⟩).sep R) := by
  obtain ⟨W, h1, h2⟩ := H.fst
  exact (A.open_ h1 hf hO hN hK l hl n r p hn hr hp).mono fun e w' ⟨he, L', hf', hg⟩ => ⟨he, L', hf', h2 _ _ hg⟩
theorem Held.claimS (A : TopicApi HT PT XT) {w0 w : World} {R : Thing} {s q : Nat} {S : StM} {L : List (List Nat)} {X : List Int} {N K : Nat} (H : Held w0 w ((setT HT PT XT s q L S).sep R)) (hf : Fits L S.T) (hO : S.Ok X N K) (hN : N < 900000) (hK : K < 900000) (l : Txt) (hl : l.length ≤ 300)
    (k : List UInt8) (ao : Option Addr) (m cap : Nat) (hm : m = k.length) (hA : BytesAt w ao k) (hW : SlW ao m cap) (hmx : m ≤ 100) (n : Int) (hn : w64 n) :
    Calls Tryz.prog 20 #[.pointer (some ⟨s, 0, none⟩), tx l, .slice ao m cap, .int .i64 n] w fun e w' => e = .returned (.tuple #[plcA (tclT S l k n) (tclP S l k n), .int .i64 (tclA S l k n), .int .i64 (tclH S l k n), .int .i64 (tclE S l k n)]) ∧ Held w0 w' ((setT HT PT XT s q L (tclM S l k n)).sep R) :=
  Held.call H fun _ h => A.claim h hf hO hN hK l hl k ao m cap hm hA hW hmx n hn
/-- What holds a set that is held. -/
theorem Held.headS {w0 w : World} {R : Thing} {s q : Nat} {S : StM} {L : List (List Nat)} (H : Held w0 w ((setT HT PT XT s q L S).sep R)) : ∃ W, (HT s q (S.T.map (·.nm)) L).at_ w W := by
  obtain ⟨_, ⟨W1, _, h1, _⟩, _⟩ := H.fst; exact ⟨W1, h1⟩
theorem Held.routeS (A : TopicApi HT PT XT) {w0 w : World} {R : Thing} {s q : Nat} {S : StM} {L : List (List Nat)} {X : List Int} {N K : Nat} (H : Held w0 w ((setT HT PT XT s q L S).sep R)) (hf : Fits L S.T) (hO : S.Ok X N K) (l : Txt) (hl : l.length ≤ 300)
    (k : List UInt8) (ao : Option Addr) (m cap : Nat) (hm : m = k.length) (hA : BytesAt w ao k) (hW : SlW ao m cap) (hmx : m ≤ 100) :
    Calls Tryz.prog 17 #[.pointer (some ⟨s, 0, none⟩), tx l, .slice ao m cap] w fun e w' => e = .returned (.tuple #[plcA (routT S.T l k) (routP S.T l k), .int .i64 (routE S.T l k)]) ∧ Held w0 w' ((setT HT PT XT s q L S).sep R) := by
  obtain ⟨_, h⟩ := H.headS
  exact (A.route h hf hO.len hO.nps l hl k ao m cap hm hA hW hmx).mono fun e w' k => ⟨k.1, H.still k.2⟩
theorem Held.topicsS (A : TopicApi HT PT XT) {w0 w : World} {R : Thing} {s q : Nat} {S : StM} {L : List (List Nat)} {X : List Int} {N K : Nat} (H : Held w0 w ((setT HT PT XT s q L S).sep R)) (hf : Fits L S.T) (hO : S.Ok X N K) :
    Calls Tryz.prog 33 #[.pointer (some ⟨s, 0, none⟩)] w fun e w' => e = .returned (.int .i64 S.T.length) ∧ Held w0 w' ((setT HT PT XT s q L S).sep R) := by
  obtain ⟨_, h⟩ := H.headS
  exact (A.topics h hf hO.len).mono fun e w' k => ⟨k.1, H.still k.2⟩
theorem Held.madeS (A : TopicApi HT PT XT) {w0 w w' : World} {n s : Nat} {e : Ending} (H : Still w0 w) (h : ∃ x q, e = .returned (.tuple #[.pointer (some ⟨x, 0, none⟩), .int .i64 0]) ∧ ∃ W, (setT HT PT XT x q [] ⟨PM.new n s, []⟩).at_ w' W ∧ Still w w' ∧ ∀ k, W k → w.heap.size ≤ k) :
    ∃ x q, e = .returned (.tuple #[.pointer (some ⟨x, 0, none⟩), .int .i64 0]) ∧ Held w0 w' ((setT HT PT XT x q [] ⟨PM.new n s, []⟩).sep Thing.none) := by
  obtain ⟨x, q, he, hW⟩ := h
  exact ⟨x, q, he, (Held.start H).new hW⟩
end

theorem one_byte (w : World) (x : UInt8) : BytesAt (w.alloc (.cells #[.int .u8 (x.toNat : Int)] 5)) (some ⟨w.heap.size, 0, none⟩) [x] ∧ SlW (some ⟨w.heap.size, 0, none⟩) 1 1 :=
  ⟨BytesAt.of_blk (r := []) (Blk.new w [.int .u8 (x.toNat : Int)] 5), ⟨Nat.le_refl _, by unfold maxLen; omega, fun h => by cases h⟩⟩
theorem one_three (w : World) : BytesAt (w.alloc (.cells #[.int .u8 3] 5)) (some ⟨w.heap.size, 0, none⟩) [3] ∧ SlW (some ⟨w.heap.size, 0, none⟩) 1 1 := one_byte w 3
theorem one_three2 (w : World) (xs : Array Value) (e : TypeId) : BytesAt ((w.alloc (.cells xs e)).alloc (.cells #[.int .u8 3] 5)) (some ⟨w.heap.size + 1, 0, none⟩) [3] ∧ SlW (some ⟨w.heap.size + 1, 0, none⟩) 1 1 := by
  have := one_three (w.alloc (.cells xs e))
  rwa [World.size_alloc] at this

set_option maxHeartbeats 2000000 in
theorem works13 {HT : Nat → Nat → List Txt → List (List Nat) → Thing} {PT : Nat → PM → Thing} {XT : Nat → Nat → RM → Thing} (A : TopicApi HT PT XT) (w : World) : Calls Tryz.prog 10 #[] w fun e w' => e = .returned (.bool true) ∧ Still w w' := by
  have C0 := Lib.hid (show Calls Tryz.prog 8 #[.int .i64 4, .int .i64 8] w fun e w' => ∃ x q, e = .returned (.tuple #[.pointer (some ⟨x, 0, none⟩), .int .i64 0]) ∧ ∃ W, (setT HT PT XT x q [] ⟨PM.new 4 8, []⟩).at_ w' W ∧ Still w w' ∧ ∀ k, W k → w.heap.size ≤ k from A.make_ok 4 8 w (by omega) (by omega) (by omega) (by omega))
  have C1 := Lib.hid (fun (W : World) (s q : Nat) (R : Thing) (H : Held w W ((setT HT PT XT s q [] tS0).sep R)) => Held.openS A H rfl t_o0 (by omega) (by omega) [97] (by simp) 3 4 0 ⟨by omega, by omega⟩ ⟨by omega, by omega⟩ ⟨by omega, by omega⟩)
  have C2 := Lib.hid (fun (W : World) (s q : Nat) (L : List (List Nat)) (hf : Fits L tS1.T) (R : Thing) (H : Held w W ((setT HT PT XT s q L tS1).sep R)) (ao : Option Addr) (hA : BytesAt W ao [3] ∧ SlW ao 1 1) => Held.routeS A H hf t_o1 [97] (by simp) [3] ao 1 1 rfl hA.1 hA.2 (by omega))
  have C3 := Lib.hid (fun (W : World) (s q : Nat) (L : List (List Nat)) (hf : Fits L tS1.T) (R : Thing) (H : Held w W ((setT HT PT XT s q L tS1).sep R)) (ao : Option Addr) (hA : BytesAt W ao [3] ∧ SlW ao 1 1) => Held.claimS A H hf t_o1 (by omega) (by omega) [97] (by simp) [3] ao 1 1 rfl hA.1 hA.2 (by omega) 1 ⟨by omega, by omega⟩)
  have C4 := Lib.hid (fun (W : World) (s q : Nat) (L : List (List Nat)) (hf : Fits L (tclM tS1 [97] [3] 1).T) (R : Thing) (H : Held w W ((setT HT PT XT s q L (tclM tS1 [97] [3] 1)).sep R)) => Held.topicsS A H hf t_o2)
  have HF := Lib.hid (fun L (hf : Fits L tS1.T) => show Fits L (tclM tS1 [97] [3] 1).T from fits_claim hf [97] [3] 1)
  rw [t_1.1, t_1.2, show openT tS0.T [97] 3 4 0 = tS1.T from rfl] at C1
  rw [t_2.1, t_2.2.1, t_2.2.2] at C2
  rw [t_3.1, t_3.2.1, t_3.2.2.1, t_3.2.2.2.1, t_3.2.2.2.2] at C3
  rw [t_4] at C4
  unfold tx at C1 C2 C3
  generalize tclM tS1 [97] [3] 1 = S2 at *
  go_enter Tryz.func10, Tryz.ntmps10
  go_wp2_with (first
    | (go_at_call 8; ((with_reducible refine C0.out.mono ?_)); intro e w1 hN; obtain ⟨x, q, rfl, H⟩ := Held.madeS A (Turned.refl _ _) hN; have H1 := Lib.hid H; clear H hN)
    | (go_at_call 13; ((with_reducible refine (C1.out _ _ _ _ H1.out).mono ?_)); rintro e w2 ⟨rfl, L, hf, H⟩; have H2 := Lib.hid H; have F2 := Lib.hid hf; clear H hf)
    | (go_at_call 17; ((with_reducible refine (C2.out _ _ _ _ F2.out _ (H2.out.still ((Turned.refl _ _).alloc _)) _ (one_three w2)).mono ?_)); rintro e w3 ⟨rfl, H⟩; have H3 := Lib.hid H; clear H)
    | (go_at_call 20; ((with_reducible refine (C3.out _ _ _ _ F2.out _ (((H3.out.box [.int .i64 0, .int .i64 1] 25).assoc).still ((Turned.refl _ _).alloc _)) _ (one_three2 w3 _ _)).mono ?_)); rintro e w4 ⟨rfl, H⟩; have H4 := Lib.hid H; have HB := Lib.hid (Held.blk (Held.snd (Held.snd H))); have p0 := (HB.out.alloc (.cells #[.int .i64 0, .int .i64 1] 25)).cell (o := 0) rfl; have p1 := (HB.out.alloc (.cells #[.int .i64 0, .int .i64 1] 25)).cell (o := 1) rfl; clear H)
    | (go_at_call 33; ((with_reducible refine (C4.out _ _ _ _ (HF.out _ F2.out) _ (H4.out.still ((Turned.refl _ _).alloc _))).mono ?_)); rintro e w5 ⟨rfl, H⟩; have H5 := Lib.hid H; clear H))
  go_ret
  exact ⟨by first | rfl | simp, H5.out.ground⟩
end Go.Proofs.YtmmkcfiecgpkpaaGreat
