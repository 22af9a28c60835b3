/- RebalVoid: the walk. No condition but that the program's table keeps its words, and its words of a table that no call made. -/
import Derived.Test.YtplnbphbccflfaaRbApi
namespace Go.Proofs.Ytplnbphbccflfaa
open Go.RowKit
set_option linter.unusedVariables false
set_option linter.unusedSimpArgs false
set_option maxRecDepth 100000

/-- The words of a table that no call made: V tells which pointers are such ones. zero: what 'var z rebal.Table' lays. -/
structure VoidRebal (V : Option Addr → World → Prop) (zero : Obj) : Prop where
  nil_ : ∀ W, V none W
  zero : ∀ W : World, V (some ⟨W.heap.size, 0, none⟩) (W.alloc zero)
  still : ∀ {p : Option Addr} {W W' : World}, V p W → Still W W' → V p W'
  begin_ : ∀ {p bo ao : Option Addr} {W : World} {n m c1 c2 : Nat}, V p W → Calls Try.prog 12 #[.pointer p, .slice bo n c1, .slice ao m c2] W fun e w' => e = .returned (.tuple #[.bool false, .int .i64 1]) ∧ Still W w'
  ack : ∀ {p : Option Addr} {W : World} (n : Int), V p W → Calls Try.prog 15 #[.pointer p, .int .i64 n] W fun e w' => e = .returned (.tuple #[.bool false, .int .i64 1]) ∧ Still W w'
  has : ∀ {p : Option Addr} {W : World} (n a b : Int), V p W → Calls Try.prog 27 #[.pointer p, .int .i64 n, .agg #[.int .i64 a, .int .i64 b]] W fun e w' => e = .returned (.int .i64 1) ∧ Still W w'
  settled : ∀ {p : Option Addr} {W : World}, V p W → Calls Try.prog 23 #[.pointer p] W fun e w' => e = .returned (.bool false) ∧ Still W w'
  gen : ∀ {p : Option Addr} {W : World}, V p W → Calls Try.prog 20 #[.pointer p] W fun e w' => e = .returned (.int .i64 0) ∧ Still W w'
  owners : ∀ {p : Option Addr} {W : World}, V p W → Calls Try.prog 19 #[.pointer p] W fun e w' => (∃ a c, e = .returned (.slice a 0 c)) ∧ Still W w'
  target : ∀ {p : Option Addr} {W : World}, V p W → Calls Try.prog 26 #[.pointer p] W fun e w' => (∃ a c, e = .returned (.slice a 0 c)) ∧ Still W w'
  revoked : ∀ {p : Option Addr} {W : World} (n : Int), V p W → Calls Try.prog 28 #[.pointer p, .int .i64 n] W fun e w' => (∃ a c, e = .returned (.slice a 0 c)) ∧ Still W w'
  waits : ∀ {p : Option Addr} {W : World}, V p W → Calls Try.prog 22 #[.pointer p] W fun e w' => (∃ a c, e = .returned (.slice a 0 c)) ∧ Still W w'
/-- What 'var z rebal.Table' lays: the struct's noughts. -/
def zeroRb : Obj := .cells #[.slice none 0 0, .slice none 0 0, .int .i64 0, .bool false] 57

def VRb (V : Option Addr → World → Prop) (w : World) (b : Nat) (W : World) : Prop := V (some ⟨b, 0, none⟩) W ∧ V none W ∧ Still w W
theorem VRb.go {V : Option Addr → World → Prop} {zero : Obj} (A : VoidRebal V zero) {w W W' : World} {b : Nat} (h : VRb V w b W) (ht : Still W W') : VRb V w b W' := ⟨A.still h.1 ht, A.nil_ _, h.2.2.trans ht⟩

set_option maxHeartbeats 4000000 in
theorem rbvoid_walk {BT : Nat → TbM → Thing} (A : RebalApi BT) {V : Option Addr → World → Prop} (Z : VoidRebal V zeroRb) (n : Int) (w : World) :
    Calls Try.prog 6 #[.int .i64 n] w fun e w' => e = .returned (.bool true) ∧ Still w w' := by
  have HPl := Lib.hid (fun V => show Calls Try.prog 11 #[.int .i64 1] V (OutRow encPl 2 49 V (plN 1) 1) from places_any 1 V (by omega))
  go_enter Try.func6, Try.ntmps6
  go_wp2_with fail
  refine (works17 A _).mono ?_
  rintro e w1 ⟨rfl, hT⟩
  obtain ⟨b, hb⟩ : ∃ b, b = w1.heap.size := ⟨_, rfl⟩
  obtain ⟨Wz, hWz⟩ : ∃ Wz, Wz = w1.alloc zeroRb := ⟨_, rfl⟩
  have H1 := Lib.hid (show VRb V w b Wz from ⟨by rw [hb, hWz]; exact Z.zero w1, Z.nil_ _, by rw [hWz]; exact hT.alloc _⟩)
  have hWz2 : w1.alloc (.cells #[.slice none 0 0, .slice none 0 0, .int .i64 0, .bool false] 57) = Wz := hWz.symm
  clear hT hWz
  go_upto_region 5 with fail
  rw [← hb]
  clear hWz2 hb
  go_wp2_with fail
  refine (HPl.out _).mono ?_
  rintro e w2 ⟨a2, c2, rfl, _, hT⟩
  have H2 := Lib.hid (H1.out.go Z (hT.alloc (.cells #[.int .i64 1] 3)))
  clear hT H1
  go_wp2_with fail
  refine (Z.begin_ H2.out.2.1).mono ?_
  rintro e w3 ⟨rfl, hT⟩
  have H3 := Lib.hid (H2.out.go Z hT)
  clear hT H2
  go_wp2_with fail
  refine (HPl.out _).mono ?_
  rintro e w4 ⟨a4, c4, rfl, _, hT⟩
  have H4 := Lib.hid (H3.out.go Z (hT.alloc (.cells #[.int .i64 1] 3)))
  clear hT H3
  go_wp2_with fail
  refine (Z.begin_ H4.out.1).mono ?_
  rintro e w5 ⟨rfl, hT⟩
  have H5 := Lib.hid (H4.out.go Z hT)
  clear hT H4
  go_wp2_with fail
  refine (Z.ack n H5.out.2.1).mono ?_
  rintro e w6 ⟨rfl, hT⟩
  have H6 := Lib.hid (H5.out.go Z hT)
  clear hT H5
  go_wp2_with fail
  refine (Z.ack n H6.out.1).mono ?_
  rintro e w7 ⟨rfl, hT⟩
  have H7 := Lib.hid (H6.out.go Z hT)
  clear hT H6
  go_wp2_with fail
  refine (Z.has n 0 0 H7.out.2.1).mono ?_
  rintro e w8 ⟨rfl, hT⟩
  have H8 := Lib.hid (H7.out.go Z hT)
  clear hT H7
  go_wp2_with fail
  refine (Z.has n 0 0 H8.out.1).mono ?_
  rintro e w9 ⟨rfl, hT⟩
  have H9 := Lib.hid (H8.out.go Z hT)
  clear hT H8
  go_wp2_with fail
  refine (Z.settled H9.out.2.1).mono ?_
  rintro e w10 ⟨rfl, hT⟩
  have H10 := Lib.hid (H9.out.go Z hT)
  clear hT H9
  go_wp2_with fail
  refine (Z.settled H10.out.1).mono ?_
  rintro e w11 ⟨rfl, hT⟩
  have H11 := Lib.hid (H10.out.go Z hT)
  clear hT H10
  go_wp2_with fail
  refine (Z.gen H11.out.2.1).mono ?_
  rintro e w12 ⟨rfl, hT⟩
  have H12 := Lib.hid (H11.out.go Z hT)
  clear hT H11
  go_wp2_with fail
  refine (Z.gen H12.out.1).mono ?_
  rintro e w13 ⟨rfl, hT⟩
  have H13 := Lib.hid (H12.out.go Z hT)
  clear hT H12
  go_wp2_with fail
  refine (Z.owners H13.out.2.1).mono ?_
  rintro e w14 ⟨⟨a14, c14, rfl⟩, hT⟩
  have H14 := Lib.hid (H13.out.go Z hT)
  clear hT H13
  go_wp2_with fail
  refine (Z.owners H14.out.1).mono ?_
  rintro e w15 ⟨⟨a15, c15, rfl⟩, hT⟩
  have H15 := Lib.hid (H14.out.go Z hT)
  clear hT H14
  go_wp2_with fail
  refine (Z.target H15.out.2.1).mono ?_
  rintro e w16 ⟨⟨a16, c16, rfl⟩, hT⟩
  have H16 := Lib.hid (H15.out.go Z hT)
  clear hT H15
  go_wp2_with fail
  refine (Z.target H16.out.1).mono ?_
  rintro e w17 ⟨⟨a17, c17, rfl⟩, hT⟩
  have H17 := Lib.hid (H16.out.go Z hT)
  clear hT H16
  go_wp2_with fail
  refine (Z.revoked n H17.out.2.1).mono ?_
  rintro e w18 ⟨⟨a18, c18, rfl⟩, hT⟩
  have H18 := Lib.hid (H17.out.go Z hT)
  clear hT H17
  go_wp2_with fail
  refine (Z.waits H18.out.1).mono ?_
  rintro e w19 ⟨⟨a19, c19, rfl⟩, hT⟩
  have H19 := Lib.hid (H18.out.go Z hT)
  clear hT H18
  go_wp2_with fail
  go_ret
  exact ⟨by first | rfl | simp, H19.out.2.2⟩
end Go.Proofs.Ytplnbphbccflfaa
