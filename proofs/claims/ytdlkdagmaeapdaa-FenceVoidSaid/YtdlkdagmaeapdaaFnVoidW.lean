/- FenceVoid: the walk. No condition but that the program's track keeps its words, and its words of a track that no call made. -/
import Derived.Test.YtdlkdagmaeapdaaFnApi
namespace Go.Proofs.Ytdlkdagmaeapdaa
open Go.RowKit
set_option linter.unusedVariables false
set_option linter.unusedSimpArgs false
set_option maxRecDepth 100000

/-- The words of a track that no call made: V tells which pointers are such ones. zero: what 'var z fence.Track' lays. -/
structure VoidFence (V : Option Addr → World → Prop) (zero : Obj) : Prop where
  nil_ : ∀ W, V none W
  zero : ∀ W : World, V (some ⟨W.heap.size, 0, none⟩) (W.alloc zero)
  still : ∀ {p : Option Addr} {W W' : World}, V p W → Still W W' → V p W'
  back : ∀ {p : Option Addr} {W : World}, V p W → Calls Try.prog 19 #[.pointer p] W fun e w' => e = .returned (.tuple #[]) ∧ Still W w'
  peek : ∀ {p : Option Addr} {W : World} (a b : Int), V p W → Calls Try.prog 20 #[.pointer p, .int .i64 a, .int .i64 b] W fun e w' => (∃ v, e = .returned (.tuple #[.int .i64 v, .int .i64 1])) ∧ Still W w'
  del : ∀ {p : Option Addr} {W : World} (a b : Int), V p W → Calls Try.prog 13 #[.pointer p, .int .i64 a, .int .i64 b] W fun e w' => (∃ v, e = .returned (.tuple #[.int .i64 v, .int .i64 1])) ∧ Still W w'
  com : ∀ {p : Option Addr} {W : World} (n : Int), V p W → Calls Try.prog 15 #[.pointer p, .int .i64 n] W fun e w' => e = .returned (.int .i64 1) ∧ Still W w'
  seek : ∀ {p : Option Addr} {W : World} (n a b : Int), V p W → Calls Try.prog 17 #[.pointer p, .int .i64 n, .int .i64 a, .int .i64 b] W fun e w' => e = .returned (.int .i64 1) ∧ Still W w'
  next : ∀ {p : Option Addr} {W : World}, V p W → Calls Try.prog 25 #[.pointer p] W fun e w' => e = .returned (.int .i64 0) ∧ Still W w'
  committed : ∀ {p : Option Addr} {W : World}, V p W → Calls Try.prog 23 #[.pointer p] W fun e w' => e = .returned (.int .i64 0) ∧ Still W w'
  ledger : ∀ {p : Option Addr} {W : World}, V p W → Calls Try.prog 26 #[.pointer p] W fun e w' => e = .returned (.pointer none) ∧ Still W w'
/-- What 'var z fence.Track' lays: the struct's noughts. -/
def zeroFn : Obj := .cells #[.pointer none, .int .i64 0] 71

def VFn (V : Option Addr → World → Prop) (w : World) (b : Nat) (W : World) : Prop := V (some ⟨b, 0, none⟩) W ∧ V none W ∧ Still w W
theorem VFn.go {V : Option Addr → World → Prop} {zero : Obj} (A : VoidFence V zero) {w W W' : World} {b : Nat} (h : VFn V w b W) (ht : Still W W') : VFn V w b W' := ⟨A.still h.1 ht, A.nil_ _, h.2.2.trans ht⟩

set_option maxHeartbeats 4000000 in
theorem fnvoid_walk {FT : Nat → FnM → Thing} {LT : Nat → LgM → Thing} (A : FenceApi FT LT) {V : Option Addr → World → Prop} (Z : VoidFence V zeroFn) (n : Int) (w : World) :
    Calls Try.prog 7 #[.int .i64 n] w fun e w' => e = .returned (.bool true) ∧ Still w w' := by
  go_enter Try.func7, Try.ntmps7
  go_wp2_with fail
  refine (works18 A _).mono ?_
  rintro e w1 ⟨rfl, hT⟩
  obtain ⟨b, hb⟩ : ∃ b, b = w1.heap.size := ⟨_, rfl⟩
  obtain ⟨Wz, hWz⟩ : ∃ Wz, Wz = w1.alloc zeroFn := ⟨_, rfl⟩
  have H1 := Lib.hid (show VFn V w b Wz from ⟨by rw [hb, hWz]; exact Z.zero w1, Z.nil_ _, by rw [hWz]; exact hT.alloc _⟩)
  have hWz2 : w1.alloc (.cells #[.pointer none, .int .i64 0] 71) = Wz := hWz.symm
  clear hT hWz
  go_upto_region 5 with fail
  rw [← hb]
  clear hWz2 hb
  go_wp2_with fail
  refine (Z.back H1.out.2.1).mono ?_
  rintro e w2 ⟨rfl, hT⟩
  have H2 := Lib.hid (H1.out.go Z hT)
  clear hT H1
  go_wp2_with fail
  refine (Z.back H2.out.1).mono ?_
  rintro e w3 ⟨rfl, hT⟩
  have H3 := Lib.hid (H2.out.go Z hT)
  clear hT H2
  go_wp2_with fail
  refine (Z.peek n n H3.out.2.1).mono ?_
  rintro e w4 ⟨⟨v4, rfl⟩, hT⟩
  have H4 := Lib.hid (H3.out.go Z hT)
  clear hT H3
  go_wp2_with fail
  refine (Z.del n n H4.out.1).mono ?_
  rintro e w5 ⟨⟨v5, rfl⟩, hT⟩
  have H5 := Lib.hid (H4.out.go Z hT)
  clear hT H4
  go_wp2_with fail
  refine (Z.com n H5.out.2.1).mono ?_
  rintro e w6 ⟨rfl, hT⟩
  have H6 := Lib.hid (H5.out.go Z hT)
  clear hT H5
  go_wp2_with fail
  refine (Z.com n H6.out.1).mono ?_
  rintro e w7 ⟨rfl, hT⟩
  have H7 := Lib.hid (H6.out.go Z hT)
  clear hT H6
  go_wp2_with fail
  refine (Z.seek n n n H7.out.2.1).mono ?_
  rintro e w8 ⟨rfl, hT⟩
  have H8 := Lib.hid (H7.out.go Z hT)
  clear hT H7
  go_wp2_with fail
  refine (Z.seek n n n H8.out.1).mono ?_
  rintro e w9 ⟨rfl, hT⟩
  have H9 := Lib.hid (H8.out.go Z hT)
  clear hT H8
  go_wp2_with fail
  refine (Z.next H9.out.2.1).mono ?_
  rintro e w10 ⟨rfl, hT⟩
  have H10 := Lib.hid (H9.out.go Z hT)
  clear hT H9
  go_wp2_with fail
  refine (Z.next H10.out.1).mono ?_
  rintro e w11 ⟨rfl, hT⟩
  have H11 := Lib.hid (H10.out.go Z hT)
  clear hT H10
  go_wp2_with fail
  refine (Z.committed H11.out.2.1).mono ?_
  rintro e w12 ⟨rfl, hT⟩
  have H12 := Lib.hid (H11.out.go Z hT)
  clear hT H11
  go_wp2_with fail
  refine (Z.committed H12.out.1).mono ?_
  rintro e w13 ⟨rfl, hT⟩
  have H13 := Lib.hid (H12.out.go Z hT)
  clear hT H12
  go_wp2_with fail
  refine (Z.ledger H13.out.2.1).mono ?_
  rintro e w14 ⟨rfl, hT⟩
  have H14 := Lib.hid (H13.out.go Z hT)
  clear hT H13
  go_wp2_with fail
  refine (Z.ledger H14.out.1).mono ?_
  rintro e w15 ⟨rfl, hT⟩
  have H15 := Lib.hid (H14.out.go Z hT)
  clear hT H14
  go_wp2_with fail
  go_ret
  exact ⟨by first | rfl | simp, H15.out.2.2⟩
end Go.Proofs.Ytdlkdagmaeapdaa
