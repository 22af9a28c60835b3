/- MemberVoid: the walk. No condition but that the program's list keeps its words, and its words of a list that no call made. -/
import Derived.Test.YtepdnclojjeepaaMbApi
namespace Go.Proofs.Ytepdnclojjeepaa
open Go.RowKit
set_option linter.unusedVariables false
set_option linter.unusedSimpArgs false
set_option maxRecDepth 100000

/-- The words of a list that no call made: V tells which pointers are such ones. zero: what 'var z member.List' lays. -/
structure VoidMember (V : Option Addr → World → Prop) (zero : Obj) : Prop where
  nil_ : ∀ W, V none W
  zero : ∀ W : World, V (some ⟨W.heap.size, 0, none⟩) (W.alloc zero)
  still : ∀ {p : Option Addr} {W W' : World}, V p W → Still W W' → V p W'
  join : ∀ {p : Option Addr} {W : World} (n : Int), V p W → Calls Try.prog 10 #[.pointer p, .int .i64 n] W fun e w' => e = .returned (.tuple #[.int .i64 0, .int .i64 1]) ∧ Still W w'
  leave : ∀ {p : Option Addr} {W : World} (n : Int), V p W → Calls Try.prog 12 #[.pointer p, .int .i64 n] W fun e w' => e = .returned (.tuple #[.int .i64 0, .int .i64 1]) ∧ Still W w'
  since : ∀ {p : Option Addr} {W : World} (n : Int), V p W → Calls Try.prog 14 #[.pointer p, .int .i64 n] W fun e w' => e = .returned (.tuple #[.int .i64 0, .int .i64 1]) ∧ Still W w'
  rank : ∀ {p : Option Addr} {W : World} (n : Int), V p W → Calls Try.prog 16 #[.pointer p, .int .i64 n] W fun e w' => e = .returned (.tuple #[.int .i64 0, .int .i64 1]) ∧ Still W w'
  eldest : ∀ {p : Option Addr} {W : World}, V p W → Calls Try.prog 18 #[.pointer p] W fun e w' => e = .returned (.tuple #[.int .i64 0, .int .i64 1]) ∧ Still W w'
  has : ∀ {p : Option Addr} {W : World} (n : Int), V p W → Calls Try.prog 20 #[.pointer p, .int .i64 n] W fun e w' => e = .returned (.bool false) ∧ Still W w'
  all_ : ∀ {p : Option Addr} {W : World}, V p W → Calls Try.prog 23 #[.pointer p] W fun e w' => (∃ a c, e = .returned (.slice a 0 c)) ∧ Still W w'
  time : ∀ {p : Option Addr} {W : World}, V p W → Calls Try.prog 25 #[.pointer p] W fun e w' => e = .returned (.int .i64 0) ∧ Still W w'
/-- What 'var z member.List' lays: the struct's noughts.. -/
def zeroMb : Obj := .cells #[.slice none 0 0, .int .i64 0] 48

def VMb (V : Option Addr → World → Prop) (w : World) (b : Nat) (W : World) : Prop := V (some ⟨b, 0, none⟩) W ∧ V none W ∧ Still w W
theorem VMb.go {V : Option Addr → World → Prop} {zero : Obj} (A : VoidMember V zero) {w W W' : World} {b : Nat} (h : VMb V w b W) (ht : Still W W') : VMb V w b W' := ⟨A.still h.1 ht, A.nil_ _, h.2.2.trans ht⟩

set_option maxHeartbeats 4000000 in
theorem mvoid_walk {MT : Nat → MbM → Thing} (A : MemberApi MT) {V : Option Addr → World → Prop} (Z : VoidMember V zeroMb) (n : Int) (w : World) :
    Calls Try.prog 6 #[.int .i64 n] w fun e w' => e = .returned (.bool true) ∧ Still w w' := by
  go_enter Try.func6, Try.ntmps6
  go_wp2_with fail
  refine (works15 A _).mono ?_
  rintro e w1 ⟨rfl, hT⟩
  obtain ⟨b, hb⟩ : ∃ b, b = w1.heap.size := ⟨_, rfl⟩
  obtain ⟨Wz, hWz⟩ : ∃ Wz, Wz = w1.alloc zeroMb := ⟨_, rfl⟩
  have H1 := Lib.hid (show VMb V w b Wz from ⟨by rw [hb, hWz]; exact Z.zero w1, Z.nil_ _, by rw [hWz]; exact hT.alloc _⟩)
  have hWz2 : w1.alloc (.cells #[.slice none 0 0, .int .i64 0] 48) = Wz := hWz.symm
  clear hT hWz
  go_upto_region 5 with fail
  rw [← hb]
  clear hWz2 hb
  go_wp2_with fail
  refine (Z.join n H1.out.2.1).mono ?_
  rintro e w2 ⟨rfl, hT⟩
  have H2 := Lib.hid (H1.out.go Z hT)
  clear hT H1
  go_wp2_with fail
  refine (Z.join n H2.out.1).mono ?_
  rintro e w3 ⟨rfl, hT⟩
  have H3 := Lib.hid (H2.out.go Z hT)
  clear hT H2
  go_wp2_with fail
  refine (Z.leave n H3.out.2.1).mono ?_
  rintro e w4 ⟨rfl, hT⟩
  have H4 := Lib.hid (H3.out.go Z hT)
  clear hT H3
  go_wp2_with fail
  refine (Z.eldest H4.out.1).mono ?_
  rintro e w5 ⟨rfl, hT⟩
  have H5 := Lib.hid (H4.out.go Z hT)
  clear hT H4
  go_wp2_with fail
  refine (Z.since n H5.out.2.1).mono ?_
  rintro e w6 ⟨rfl, hT⟩
  have H6 := Lib.hid (H5.out.go Z hT)
  clear hT H5
  go_wp2_with fail
  refine (Z.rank n H6.out.1).mono ?_
  rintro e w7 ⟨rfl, hT⟩
  have H7 := Lib.hid (H6.out.go Z hT)
  clear hT H6
  go_wp2_with fail
  refine (Z.has n H7.out.2.1).mono ?_
  rintro e w8 ⟨rfl, hT⟩
  have H8 := Lib.hid (H7.out.go Z hT)
  clear hT H7
  go_wp2_with fail
  refine (Z.has n H8.out.1).mono ?_
  rintro e w9 ⟨rfl, hT⟩
  have H9 := Lib.hid (H8.out.go Z hT)
  clear hT H8
  go_wp2_with fail
  refine (Z.all_ H9.out.2.1).mono ?_
  rintro e w10 ⟨⟨a10, c10, rfl⟩, hT⟩
  have H10 := Lib.hid (H9.out.go Z hT)
  clear hT H9
  go_wp2_with fail
  refine (Z.all_ H10.out.1).mono ?_
  rintro e w11 ⟨⟨a11, c11, rfl⟩, hT⟩
  have H11 := Lib.hid (H10.out.go Z hT)
  clear hT H10
  go_wp2_with fail
  refine (Z.time H11.out.2.1).mono ?_
  rintro e w12 ⟨rfl, hT⟩
  have H12 := Lib.hid (H11.out.go Z hT)
  clear hT H11
  go_wp2_with fail
  refine (Z.time H12.out.1).mono ?_
  rintro e w13 ⟨rfl, hT⟩
  have H13 := Lib.hid (H12.out.go Z hT)
  clear hT H12
  go_wp2_with fail
  go_ret
  exact ⟨by first | rfl | simp, H13.out.2.2⟩
end Go.Proofs.Ytepdnclojjeepaa
