/- LedgerVoid: the walk. No condition but that the program's ledger keeps its words, and its words of a ledger that no call made. -/
import Derived.Test.YtpkodmclbobkpaaLgApi
namespace Go.Proofs.Ytpkodmclbobkpaa
open Go.RowKit
set_option linter.unusedVariables false
set_option linter.unusedSimpArgs false
set_option maxRecDepth 100000

/-- The words of a ledger that no call made: V tells which pointers are such ones. zero: what 'var z ledger.Ledger' lays. -/
structure VoidLedger (V : Option Addr → World → Prop) (zero : Obj) : Prop where
  nil_ : ∀ W, V none W
  zero : ∀ W : World, V (some ⟨W.heap.size, 0, none⟩) (W.alloc zero)
  still : ∀ {p : Option Addr} {W W' : World}, V p W → Still W W' → V p W'
  is_ : ∀ {p : Option Addr} {W : World} (n : Int), V p W → Calls Try.prog 20 #[.pointer p, .int .i64 n] W fun e w' => e = .returned (.tuple #[.bool false, .int .i64 1]) ∧ Still W w'
  acc : ∀ {p : Option Addr} {W : World} (n : Int), V p W → Calls Try.prog 15 #[.pointer p, .int .i64 n] W fun e w' => e = .returned (.int .i64 1) ∧ Still W w'
  skp : ∀ {p : Option Addr} {W : World} (n : Int), V p W → Calls Try.prog 17 #[.pointer p, .int .i64 n] W fun e w' => e = .returned (.int .i64 1) ∧ Still W w'
  back : ∀ {p : Option Addr} {W : World} (n : Int), V p W → Calls Try.prog 18 #[.pointer p, .int .i64 n] W fun e w' => e = .returned (.int .i64 1) ∧ Still W w'
  from_ : ∀ {p : Option Addr} {W : World}, V p W → Calls Try.prog 22 #[.pointer p] W fun e w' => e = .returned (.int .i64 0) ∧ Still W w'
  end_ : ∀ {p : Option Addr} {W : World}, V p W → Calls Try.prog 23 #[.pointer p] W fun e w' => e = .returned (.int .i64 0) ∧ Still W w'
  accepted : ∀ {p : Option Addr} {W : World}, V p W → Calls Try.prog 25 #[.pointer p] W fun e w' => (∃ a c, e = .returned (.slice a 0 c)) ∧ Still W w'
  skipped : ∀ {p : Option Addr} {W : World}, V p W → Calls Try.prog 27 #[.pointer p] W fun e w' => (∃ a c, e = .returned (.slice a 0 c)) ∧ Still W w'
  copy : ∀ {p : Option Addr} {W : World}, V p W → Calls Try.prog 29 #[.pointer p] W fun e w' => e = .returned (.pointer none) ∧ Still W w'
/-- What 'var z ledger.Ledger' lays: the struct's noughts (the landed struct's). -/
def zeroLg : Obj := .cells #[.slice none 0 0, .bool false] 53

def VLg (V : Option Addr → World → Prop) (w : World) (b : Nat) (W : World) : Prop := V (some ⟨b, 0, none⟩) W ∧ V none W ∧ Still w W
theorem VLg.go {V : Option Addr → World → Prop} {zero : Obj} (A : VoidLedger V zero) {w W W' : World} {b : Nat} (h : VLg V w b W) (ht : Still W W') : VLg V w b W' := ⟨A.still h.1 ht, A.nil_ _, h.2.2.trans ht⟩

set_option maxHeartbeats 4000000 in
theorem lvoid_walk {LT : Nat → LgM → Thing} (A : LedgerApi LT) {V : Option Addr → World → Prop} (Z : VoidLedger V zeroLg) (n : Int) (w : World) :
    Calls Try.prog 8 #[.int .i64 n] w fun e w' => e = .returned (.bool true) ∧ Still w w' := by
  go_enter Try.func8, Try.ntmps8
  go_wp2_with fail
  refine (works14 A _).mono ?_
  rintro e w1 ⟨rfl, hT⟩
  obtain ⟨b, hb⟩ : ∃ b, b = w1.heap.size := ⟨_, rfl⟩
  obtain ⟨Wz, hWz⟩ : ∃ Wz, Wz = w1.alloc zeroLg := ⟨_, rfl⟩
  have H1 := Lib.hid (show VLg V w b Wz from ⟨by rw [hb, hWz]; exact Z.zero w1, Z.nil_ _, by rw [hWz]; exact hT.alloc _⟩)
  have hWz2 : w1.alloc (.cells #[.slice none 0 0, .bool false] 53) = Wz := hWz.symm
  clear hT hWz
  go_upto_region 5 with fail
  rw [← hb]
  clear hWz2 hb
  go_wp2_with fail
  refine (Z.is_ n H1.out.2.1).mono ?_
  rintro e w2 ⟨rfl, hT⟩
  have H2 := Lib.hid (H1.out.go Z hT)
  clear hT H1
  go_wp2_with fail
  refine (Z.is_ n H2.out.1).mono ?_
  rintro e w3 ⟨rfl, hT⟩
  have H3 := Lib.hid (H2.out.go Z hT)
  clear hT H2
  go_wp2_with fail
  refine (Z.acc n H3.out.2.1).mono ?_
  rintro e w4 ⟨rfl, hT⟩
  have H4 := Lib.hid (H3.out.go Z hT)
  clear hT H3
  go_wp2_with fail
  refine (Z.acc n H4.out.1).mono ?_
  rintro e w5 ⟨rfl, hT⟩
  have H5 := Lib.hid (H4.out.go Z hT)
  clear hT H4
  go_wp2_with fail
  refine (Z.skp n H5.out.2.1).mono ?_
  rintro e w6 ⟨rfl, hT⟩
  have H6 := Lib.hid (H5.out.go Z hT)
  clear hT H5
  go_wp2_with fail
  refine (Z.skp n H6.out.1).mono ?_
  rintro e w7 ⟨rfl, hT⟩
  have H7 := Lib.hid (H6.out.go Z hT)
  clear hT H6
  go_wp2_with fail
  refine (Z.back n H7.out.2.1).mono ?_
  rintro e w8 ⟨rfl, hT⟩
  have H8 := Lib.hid (H7.out.go Z hT)
  clear hT H7
  go_wp2_with fail
  refine (Z.back n H8.out.1).mono ?_
  rintro e w9 ⟨rfl, hT⟩
  have H9 := Lib.hid (H8.out.go Z hT)
  clear hT H8
  go_wp2_with fail
  refine (Z.from_ H9.out.2.1).mono ?_
  rintro e w10 ⟨rfl, hT⟩
  have H10 := Lib.hid (H9.out.go Z hT)
  clear hT H9
  go_wp2_with fail
  refine (Z.from_ H10.out.1).mono ?_
  rintro e w11 ⟨rfl, hT⟩
  have H11 := Lib.hid (H10.out.go Z hT)
  clear hT H10
  go_wp2_with fail
  refine (Z.end_ H11.out.2.1).mono ?_
  rintro e w12 ⟨rfl, hT⟩
  have H12 := Lib.hid (H11.out.go Z hT)
  clear hT H11
  go_wp2_with fail
  refine (Z.end_ H12.out.1).mono ?_
  rintro e w13 ⟨rfl, hT⟩
  have H13 := Lib.hid (H12.out.go Z hT)
  clear hT H12
  go_wp2_with fail
  refine (Z.accepted H13.out.2.1).mono ?_
  rintro e w14 ⟨⟨a14, c14, rfl⟩, hT⟩
  have H14 := Lib.hid (H13.out.go Z hT)
  clear hT H13
  go_wp2_with fail
  refine (Z.skipped H14.out.1).mono ?_
  rintro e w15 ⟨⟨a15, c15, rfl⟩, hT⟩
  have H15 := Lib.hid (H14.out.go Z hT)
  clear hT H14
  go_wp2_with fail
  refine (Z.copy H15.out.2.1).mono ?_
  rintro e w16 ⟨rfl, hT⟩
  have H16 := Lib.hid (H15.out.go Z hT)
  clear hT H15
  go_wp2_with fail
  refine (Z.copy H16.out.1).mono ?_
  rintro e w17 ⟨rfl, hT⟩
  have H17 := Lib.hid (H16.out.go Z hT)
  clear hT H16
  go_wp2_with fail
  go_ret
  exact ⟨by first | rfl | simp, H17.out.2.2⟩
end Go.Proofs.Ytpkodmclbobkpaa
