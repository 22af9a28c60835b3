/- PartVoid: the walk. No condition but that the program's partitions and pool keep their words, and its words of a partition that no call made. -/
import Derived.Test.YtbljjmehjkmjaaaPtWorks
namespace Go.Proofs.Ytbljjmehjkmjaaa
open Go.RowKit
set_option linter.unusedVariables false
set_option maxRecDepth 100000

/-- The words of a partition that no call made: V tells which pointers are such ones. zero: what 'var z part.Part' lays. -/
structure VoidPart (V : Option Addr → World → Prop) (zero : Obj) : Prop where
  nil_ : ∀ W, V none W
  zero : ∀ W : World, V (some ⟨W.heap.size, 0, none⟩) (W.alloc zero)
  still : ∀ {p : Option Addr} {W W' : World}, V p W → Still W W' → V p W'
  make : ∀ {W : World}, Calls Try.prog 9 #[.pointer none, .int .i64 1, .int .i64 0] W fun e w' => e = .returned (.tuple #[.pointer none, .int .i64 1]) ∧ Still W w'
  claim : ∀ {p : Option Addr} {W : World} (n : Int), V p W → Calls Try.prog 10 #[.pointer p, .int .i64 n] W fun e w' => e = .returned (.tuple #[.int .i64 0, .int .i64 0, .int .i64 1]) ∧ Still W w'
  fill : ∀ {p : Option Addr} {W : World} (n : Int), V p W → Calls Try.prog 11 #[.pointer p, .int .i64 n, .slice none 0 0] W fun e w' => e = .returned (.int .i64 1) ∧ Still W w'
  pub : ∀ {p : Option Addr} {W : World} (n : Int), V p W → Calls Try.prog 12 #[.pointer p, .int .i64 n] W fun e w' => e = .returned (.int .i64 1) ∧ Still W w'
  read : ∀ {p : Option Addr} {W : World} (n : Int), V p W → Calls Try.prog 13 #[.pointer p, .int .i64 n] W fun e w' => e = .returned (.tuple #[.int .i64 0, .int .i64 1]) ∧ Still W w'
  peek : ∀ {p : Option Addr} {W : World} (n : Int), V p W → Calls Try.prog 16 #[.pointer p, .int .i64 n] W fun e w' => (∃ a c, e = .returned (.tuple #[.slice a 0 c, .int .i64 1])) ∧ Still W w'
  trim : ∀ {p : Option Addr} {W : World} (n : Int), V p W → Calls Try.prog 19 #[.pointer p, .int .i64 n] W fun e w' => e = .returned (.tuple #[.int .i64 0, .int .i64 1]) ∧ Still W w'
  head : ∀ {p : Option Addr} {W : World}, V p W → Calls Try.prog 14 #[.pointer p] W fun e w' => e = .returned (.int .i64 0) ∧ Still W w'
  tail : ∀ {p : Option Addr} {W : World}, V p W → Calls Try.prog 15 #[.pointer p] W fun e w' => e = .returned (.int .i64 0) ∧ Still W w'
  ready : ∀ {p : Option Addr} {W : World} (n : Int), V p W → Calls Try.prog 20 #[.pointer p, .int .i64 n] W fun e w' => e = .returned (.int .i64 0) ∧ Still W w'
  handles : ∀ {p : Option Addr} {W : World}, V p W → Calls Try.prog 21 #[.pointer p] W fun e w' => (∃ a c, e = .returned (.slice a 0 c)) ∧ Still W w'

/-- What 'var z part.Part' lays: the landed struct's noughts. -/
def zeroPart : Obj := .cells #[.pointer none, .pointer none, .int .i64 0] 48

def VPt (V : Option Addr → World → Prop) (w : World) (b : Nat) (W : World) : Prop := V (some ⟨b, 0, none⟩) W ∧ V none W ∧ Still w W
theorem VPt.go {V : Option Addr → World → Prop} {zero : Obj} (A : VoidPart V zero) {w W W' : World} {b : Nat} (h : VPt V w b W) (ht : Still W W') : VPt V w b W' := ⟨A.still h.1 ht, A.nil_ _, h.2.2.trans ht⟩

set_option maxHeartbeats 4000000 in
theorem ptvoid_walk {PT : Nat → PM → Thing} {XT : Nat → Nat → RM → Thing} (A : PartApi PT XT) (B : PoolApi12 PT) {V : Option Addr → World → Prop} (Z : VoidPart V zeroPart) (n : Int) (w : World) :
    Calls Try.prog 5 #[.int .i64 n] w fun e w' => e = .returned (.bool true) ∧ Still w w' := by
  go_enter Try.func5, Try.ntmps5
  go_wp2_with fail
  refine (works12 A B _).mono ?_
  rintro e w1 ⟨rfl, hT⟩
  obtain ⟨b, hb⟩ : ∃ b, b = w1.heap.size := ⟨_, rfl⟩
  obtain ⟨Wz, hWz⟩ : ∃ Wz, Wz = w1.alloc zeroPart := ⟨_, rfl⟩
  have H1 := Lib.hid (show VPt V w b Wz from ⟨by rw [hb, hWz]; exact Z.zero w1, Z.nil_ _, by rw [hWz]; exact hT.alloc _⟩)
  have hWz2 : w1.alloc (.cells #[.pointer none, .pointer none, .int .i64 0] 48) = Wz := hWz.symm
  clear hT hWz
  go_upto_region 5 with fail
  rw [← hb]
  clear hWz2 hb
  go_wp2_with fail
  refine (Z.make).mono ?_
  rintro e w2 ⟨rfl, hT⟩
  have H2 := Lib.hid (H1.out.go Z hT)
  clear hT H1
  go_wp2_with fail
  refine (Z.claim n H2.out.2.1).mono ?_
  rintro e w3 ⟨rfl, hT⟩
  have H3 := Lib.hid (H2.out.go Z hT)
  clear hT H2
  go_wp2_with fail
  refine (Z.claim n H3.out.1).mono ?_
  rintro e w4 ⟨rfl, hT⟩
  have H4 := Lib.hid (H3.out.go Z hT)
  clear hT H3
  go_wp2_with fail
  refine (Z.read n H4.out.2.1).mono ?_
  rintro e w5 ⟨rfl, hT⟩
  have H5 := Lib.hid (H4.out.go Z hT)
  clear hT H4
  go_wp2_with fail
  refine (Z.peek n H5.out.1).mono ?_
  rintro e w6 ⟨⟨a6, c6, rfl⟩, hT⟩
  have H6 := Lib.hid (H5.out.go Z hT)
  clear hT H5
  go_wp2_with fail
  refine (Z.trim n H6.out.2.1).mono ?_
  rintro e w7 ⟨rfl, hT⟩
  have H7 := Lib.hid (H6.out.go Z hT)
  clear hT H6
  go_wp2_with fail
  refine (Z.fill n H7.out.2.1).mono ?_
  rintro e w8 ⟨rfl, hT⟩
  have H8 := Lib.hid (H7.out.go Z hT)
  clear hT H7
  go_wp2_with fail
  refine (Z.pub n H8.out.1).mono ?_
  rintro e w9 ⟨rfl, hT⟩
  have H9 := Lib.hid (H8.out.go Z hT)
  clear hT H8
  go_wp2_with fail
  refine (Z.head H9.out.2.1).mono ?_
  rintro e w10 ⟨rfl, hT⟩
  have H10 := Lib.hid (H9.out.go Z hT)
  clear hT H9
  go_wp2_with fail
  refine (Z.head H10.out.1).mono ?_
  rintro e w11 ⟨rfl, hT⟩
  have H11 := Lib.hid (H10.out.go Z hT)
  clear hT H10
  go_wp2_with fail
  refine (Z.tail H11.out.2.1).mono ?_
  rintro e w12 ⟨rfl, hT⟩
  have H12 := Lib.hid (H11.out.go Z hT)
  clear hT H11
  go_wp2_with fail
  refine (Z.tail H12.out.1).mono ?_
  rintro e w13 ⟨rfl, hT⟩
  have H13 := Lib.hid (H12.out.go Z hT)
  clear hT H12
  go_wp2_with fail
  refine (Z.ready n H13.out.2.1).mono ?_
  rintro e w14 ⟨rfl, hT⟩
  have H14 := Lib.hid (H13.out.go Z hT)
  clear hT H13
  go_wp2_with fail
  refine (Z.ready n H14.out.1).mono ?_
  rintro e w15 ⟨rfl, hT⟩
  have H15 := Lib.hid (H14.out.go Z hT)
  clear hT H14
  go_wp2_with fail
  refine (Z.handles H15.out.2.1).mono ?_
  rintro e w16 ⟨⟨a16, c16, rfl⟩, hT⟩
  have H16 := Lib.hid (H15.out.go Z hT)
  clear hT H15
  go_wp2_with fail
  refine (Z.handles H16.out.1).mono ?_
  rintro e w17 ⟨⟨a17, c17, rfl⟩, hT⟩
  have H17 := Lib.hid (H16.out.go Z hT)
  clear hT H16
  go_wp2_with fail
  go_ret
  exact ⟨by first | rfl | simp, H17.out.2.2⟩
end Go.Proofs.Ytbljjmehjkmjaaa
