/- TrieVoid: the walk. No condition but that the program's tree keeps its words, and its words of a tree that no call made. -/
import Derived.Test.YtpmkokckjieidaaGreatDoorTrieWorks
namespace Go.Proofs.YtpmkokckjieidaaGreatDoor
open Go.RowKit
set_option linter.unusedVariables false
set_option linter.unusedSimpArgs false
set_option maxRecDepth 100000

/-- The words of a tree that no call made: V tells which pointers are such ones. zero: what 'var z trie.Tree' lays. -/
structure VoidTrie (V : Option Addr → World → Prop) (zero : Obj) : Prop where
  nil_ : ∀ W, V none W
  zero : ∀ W : World, V (some ⟨W.heap.size, 0, none⟩) (W.alloc zero)
  still : ∀ {p : Option Addr} {W W' : World}, V p W → Still W W' → V p W'
  mtch : ∀ {p : Option Addr} {W : World} (s : Txt), s.length ≤ 300 → V p W → Calls Tryz.prog 22 #[.pointer p, tx s] W fun e w' => (∃ a n c, e = .returned (.tuple #[.slice a n c, .int .i64 1])) ∧ Still W w'
  of : ∀ {p : Option Addr} {W : World} (f : Txt), f.length ≤ 300 → V p W → Calls Tryz.prog 19 #[.pointer p, tx f] W fun e w' => (∃ a n c, e = .returned (.tuple #[.slice a n c, .int .i64 1])) ∧ Still W w'
  put : ∀ {p : Option Addr} {W : World} (f : Txt) (n : Int), f.length ≤ 300 → V p W → Calls Tryz.prog 13 #[.pointer p, tx f, .int .i64 n] W fun e w' => e = .returned (.int .i64 1) ∧ Still W w'
  take : ∀ {p : Option Addr} {W : World} (f : Txt) (n : Int), f.length ≤ 300 → V p W → Calls Tryz.prog 15 #[.pointer p, tx f, .int .i64 n] W fun e w' => e = .returned (.int .i64 1) ∧ Still W w'
  drop : ∀ {p : Option Addr} {W : World} (n : Int), V p W → Calls Tryz.prog 17 #[.pointer p, .int .i64 n] W fun e w' => e = .returned (.int .i64 0) ∧ Still W w'
  filters : ∀ {p : Option Addr} {W : World}, V p W → Calls Tryz.prog 28 #[.pointer p] W fun e w' => (∃ a c, e = .returned (.slice a 0 c)) ∧ Still W w'
  pairs : ∀ {p : Option Addr} {W : World}, V p W → Calls Tryz.prog 24 #[.pointer p] W fun e w' => e = .returned (.int .i64 0) ∧ Still W w'
  nodes : ∀ {p : Option Addr} {W : World}, V p W → Calls Tryz.prog 29 #[.pointer p] W fun e w' => e = .returned (.int .i64 0) ∧ Still W w'

/-- What 'var z trie.Tree' lays: the landed struct's noughts. -/
def zeroTrie : Obj := .cells #[.pointer none, .int .i64 0] 57

structure VTrie (V : Option Addr → World → Prop) (w : World) (b : Nat) (W : World) : Prop where
  z : V (some ⟨b, 0, none⟩) W
  nl : V none W
  st : Still w W
theorem VTrie.go {V : Option Addr → World → Prop} {zero : Obj} (A : VoidTrie V zero) {w W W' : World} {b : Nat} (h : VTrie V w b W) (ht : Still W W') : VTrie V w b W' := ⟨A.still h.z ht, A.nil_ _, h.st.trans ht⟩

set_option maxHeartbeats 4000000 in
theorem tvoid_walk {tT : Nat → List Pr → Thing} (A : TrieApi tT) {V : Option Addr → World → Prop} (Z : VoidTrie V zeroTrie) (n : Int) (w : World) :
    Calls Tryz.prog 8 #[.int .i64 n] w fun e w' => e = .returned (.bool true) ∧ Still w w' := by
  have e1 : ([97] : Txt).length ≤ 300 := by decide
  have C1 := Lib.hid (fun p W (h : V p W) => Z.mtch [97] e1 h)
  have C2 := Lib.hid (fun p W (h : V p W) => Z.of [97] e1 h)
  have C3 := Lib.hid (fun p W (h : V p W) => Z.put [97] n e1 h)
  have C4 := Lib.hid (fun p W (h : V p W) => Z.take [97] n e1 h)
  have HWk := Lib.hid (works10 A w)
  unfold tx at C1 C2 C3 C4
  clear e1
  go_enter Tryz.func8, Tryz.ntmps8
  go_wp2_with fail
  refine HWk.out.mono ?_
  rintro e w1 ⟨rfl, hT⟩
  obtain ⟨b, hb⟩ : ∃ b, b = w1.heap.size := ⟨_, rfl⟩
  obtain ⟨Wz, hWz⟩ : ∃ Wz, Wz = w1.alloc zeroTrie := ⟨_, rfl⟩
  have HS : VTrie V w b Wz := ⟨by rw [hb, hWz]; exact Z.zero w1, Z.nil_ _, by rw [hWz]; exact hT.alloc _⟩
  have hWz2 : w1.alloc (.cells #[.pointer none, .int .i64 0] 57) = Wz := hWz.symm
  clear hT hWz HWk
  go_upto_region 5 with fail
  rw [← hb]
  clear hWz2 hb
  go_wp2_with (first
    | (go_at_call 22; ((with_reducible refine (C1.out _ _ HS.nl).mono ?_)); rintro e w2 ⟨⟨a2, n2, c2, rfl⟩, hT⟩; replace HS := HS.go Z hT; clear hT)
    | (go_at_call 22; ((with_reducible refine (C1.out _ _ HS.z).mono ?_)); rintro e w3 ⟨⟨a3, n3, c3, rfl⟩, hT⟩; replace HS := HS.go Z hT; clear hT)
    | (go_at_call 19; ((with_reducible refine (C2.out _ _ HS.nl).mono ?_)); rintro e w4 ⟨⟨a4, n4, c4, rfl⟩, hT⟩; replace HS := HS.go Z hT; clear hT)
    | (go_at_call 13; ((with_reducible refine (C3.out _ _ HS.nl).mono ?_)); rintro e w5 ⟨rfl, hT⟩; replace HS := HS.go Z hT; clear hT)
    | (go_at_call 13; ((with_reducible refine (C3.out _ _ HS.z).mono ?_)); rintro e w6 ⟨rfl, hT⟩; replace HS := HS.go Z hT; clear hT)
    | (go_at_call 15; ((with_reducible refine (C4.out _ _ HS.nl).mono ?_)); rintro e w7 ⟨rfl, hT⟩; replace HS := HS.go Z hT; clear hT)
    | (go_at_call 15; ((with_reducible refine (C4.out _ _ HS.z).mono ?_)); rintro e w8 ⟨rfl, hT⟩; replace HS := HS.go Z hT; clear hT)
    | (go_at_call 17; ((with_reducible refine (Z.drop n HS.nl).mono ?_)); rintro e w9 ⟨rfl, hT⟩; replace HS := HS.go Z hT; clear hT)
    | (go_at_call 17; ((with_reducible refine (Z.drop n HS.z).mono ?_)); rintro e w10 ⟨rfl, hT⟩; replace HS := HS.go Z hT; clear hT)
    | (go_at_call 28; ((with_reducible refine (Z.filters HS.nl).mono ?_)); rintro e w11 ⟨⟨a11, c11, rfl⟩, hT⟩; replace HS := HS.go Z hT; clear hT)
    | (go_at_call 28; ((with_reducible refine (Z.filters HS.z).mono ?_)); rintro e w12 ⟨⟨a12, c12, rfl⟩, hT⟩; replace HS := HS.go Z hT; clear hT)
    | (go_at_call 24; ((with_reducible refine (Z.pairs HS.nl).mono ?_)); rintro e w13 ⟨rfl, hT⟩; replace HS := HS.go Z hT; clear hT)
    | (go_at_call 24; ((with_reducible refine (Z.pairs HS.z).mono ?_)); rintro e w14 ⟨rfl, hT⟩; replace HS := HS.go Z hT; clear hT)
    | (go_at_call 29; ((with_reducible refine (Z.nodes HS.nl).mono ?_)); rintro e w15 ⟨rfl, hT⟩; replace HS := HS.go Z hT; clear hT)
    | (go_at_call 29; ((with_reducible refine (Z.nodes HS.z).mono ?_)); rintro e w16 ⟨rfl, hT⟩; replace HS := HS.go Z hT; clear hT))
  go_ret
  exact ⟨by first | rfl | simp, HS.st⟩
end Go.Proofs.YtpmkokckjieidaaGreatDoor
