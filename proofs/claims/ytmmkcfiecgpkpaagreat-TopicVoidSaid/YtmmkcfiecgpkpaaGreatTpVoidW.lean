/- TopicVoid: the walk. No condition but that the program's sets keep their words, and its words of a set that no call made. -/
import Derived.Test.YtmmkcfiecgpkpaaGreatBxTpWorks
namespace Go.Proofs.YtmmkcfiecgpkpaaGreat
open Go.RowKit
set_option linter.unusedVariables false
set_option linter.unusedSimpArgs false
set_option maxRecDepth 100000

/-- The words of a set that no call made: V tells which pointers are such ones. zero: what 'var z topic.Set' lays. -/
structure VoidTopic (V : Option Addr → World → Prop) (zero : Obj) : Prop where
  nil_ : ∀ W, V none W
  zero : ∀ W : World, V (some ⟨W.heap.size, 0, none⟩) (W.alloc zero)
  still : ∀ {p : Option Addr} {W W' : World}, V p W → Still W W' → V p W'
  open_ : ∀ {p : Option Addr} {W : World}, V p W → Calls Tryz.prog 13 #[.pointer p, .string ⟨#[97]⟩, .int .i64 1, .int .i64 1, .int .i64 0] W fun e w' => e = .returned (.tuple #[.int .i64 0, .int .i64 1]) ∧ Still W w'
  find : ∀ {p : Option Addr} {W : World}, V p W → Calls Tryz.prog 15 #[.pointer p, .string ⟨#[97]⟩] W fun e w' => e = .returned (.tuple #[.int .i64 0, .int .i64 1]) ∧ Still W w'
  part : ∀ {p : Option Addr} {W : World}, V p W → Calls Tryz.prog 22 #[.pointer p, .agg #[.int .i64 0, .int .i64 0]] W fun e w' => e = .returned (.tuple #[.pointer none, .int .i64 1]) ∧ Still W w'
  route : ∀ {p : Option Addr} {W : World}, V p W → Calls Tryz.prog 17 #[.pointer p, .string ⟨#[97]⟩, .slice none 0 0] W fun e w' => e = .returned (.tuple #[.agg #[.int .i64 0, .int .i64 0], .int .i64 1]) ∧ Still W w'
  claim : ∀ {p : Option Addr} {W : World} (n : Int), V p W → Calls Tryz.prog 20 #[.pointer p, .string ⟨#[97]⟩, .slice none 0 0, .int .i64 n] W fun e w' => e = .returned (.tuple #[.agg #[.int .i64 0, .int .i64 0], .int .i64 0, .int .i64 0, .int .i64 1]) ∧ Still W w'
  name : ∀ {p : Option Addr} {W : World} (n : Int), V p W → Calls Tryz.prog 30 #[.pointer p, .int .i64 n] W fun e w' => e = .returned (.string ⟨#[]⟩) ∧ Still W w'
  places : ∀ {p : Option Addr} {W : World} (n : Int) (b : Nat), V p W → W.cell? ⟨b, 0, none⟩ = some (.int .i64 n) → Calls Tryz.prog 27 #[.pointer p, .slice (some ⟨b, 0, none⟩) 1 1] W fun e w' => (∃ a c, e = .returned (.slice a 0 c)) ∧ Still W w'
  topics : ∀ {p : Option Addr} {W : World}, V p W → Calls Tryz.prog 33 #[.pointer p] W fun e w' => e = .returned (.int .i64 0) ∧ Still W w'
  pool : ∀ {p : Option Addr} {W : World}, V p W → Calls Tryz.prog 35 #[.pointer p] W fun e w' => e = .returned (.pointer none) ∧ Still W w'
/-- What 'var z topic.Set' lays: the struct's noughts. TO BE SET to the landed struct's. -/
def zeroSet : Obj := .cells #[.pointer none, .slice none 0 0] 74

def VSt (V : Option Addr → World → Prop) (w : World) (b : Nat) (W : World) : Prop := V (some ⟨b, 0, none⟩) W ∧ V none W ∧ Still w W
theorem VSt.go {V : Option Addr → World → Prop} {zero : Obj} (A : VoidTopic V zero) {w W W' : World} {b : Nat} (h : VSt V w b W) (ht : Still W W') : VSt V w b W' := ⟨A.still h.1 ht, A.nil_ _, h.2.2.trans ht⟩

set_option maxHeartbeats 4000000 in
theorem tpvoid_walk {HT : Nat → Nat → List Txt → List (List Nat) → Thing} {PT : Nat → PM → Thing} {XT : Nat → Nat → RM → Thing} (A : TopicApi HT PT XT) {V : Option Addr → World → Prop} (Z : VoidTopic V zeroSet) (n : Int) (w : World) :
    Calls Tryz.prog 7 #[.int .i64 n] w fun e w' => e = .returned (.bool true) ∧ Still w w' := by
  go_enter Tryz.func7, Tryz.ntmps7
  go_wp2_with fail
  refine (works13 A _).mono ?_
  rintro e w1 ⟨rfl, hT⟩
  obtain ⟨b, hb⟩ : ∃ b, b = w1.heap.size := ⟨_, rfl⟩
  obtain ⟨Wz, hWz⟩ : ∃ Wz, Wz = w1.alloc zeroSet := ⟨_, rfl⟩
  have H1 := Lib.hid (show VSt V w b Wz from ⟨by rw [hb, hWz]; exact Z.zero w1, Z.nil_ _, by rw [hWz]; exact hT.alloc _⟩)
  have hWz2 : w1.alloc (.cells #[.pointer none, .slice none 0 0] 74) = Wz := hWz.symm
  clear hT hWz
  go_upto_region 5 with fail
  rw [← hb]
  clear hWz2 hb
  go_wp2_with fail
  refine (Z.open_ H1.out.2.1).mono ?_
  rintro e w2 ⟨rfl, hT⟩
  have H2 := Lib.hid (H1.out.go Z hT)
  clear hT H1
  go_wp2_with fail
  refine (Z.open_ H2.out.1).mono ?_
  rintro e w3 ⟨rfl, hT⟩
  have H3 := Lib.hid (H2.out.go Z hT)
  clear hT H2
  go_wp2_with fail
  refine (Z.find H3.out.2.1).mono ?_
  rintro e w4 ⟨rfl, hT⟩
  have H4 := Lib.hid (H3.out.go Z hT)
  clear hT H3
  go_wp2_with fail
  refine (Z.part H4.out.1).mono ?_
  rintro e w5 ⟨rfl, hT⟩
  have H5 := Lib.hid (H4.out.go Z hT)
  clear hT H4
  go_wp2_with fail
  refine (Z.route H5.out.2.1).mono ?_
  rintro e w6 ⟨rfl, hT⟩
  have H6 := Lib.hid (H5.out.go Z hT)
  clear hT H5
  have H7 := Lib.hid (H6.out.go Z ((Turned.refl _ _).alloc (.cells #[.int .i64 0, .int .i64 0] 25)))
  clear H6
  go_wp2_with fail
  refine (Z.claim n H7.out.1).mono ?_
  rintro e w8 ⟨rfl, hT⟩
  have H8 := Lib.hid (H7.out.go Z hT)
  clear hT H7
  have H9 := Lib.hid (H8.out.go Z ((Turned.refl _ _).alloc (.cells #[.int .i64 0, .int .i64 0] 25)))
  clear H8
  go_wp2_with fail
  refine (Z.name n H9.out.2.1).mono ?_
  rintro e w10 ⟨rfl, hT⟩
  have H10 := Lib.hid (H9.out.go Z hT)
  clear hT H9
  go_wp2_with fail
  refine (Z.name n H10.out.1).mono ?_
  rintro e w11 ⟨rfl, hT⟩
  have H11 := Lib.hid (H10.out.go Z hT)
  clear hT H10
  have H12 := Lib.hid (H11.out.go Z ((Turned.refl _ _).alloc (.cells #[.int .i64 n] 3)))
  clear H11
  go_wp2_with fail
  refine (Z.places n _ H12.out.2.1 ((Blk.new _ [.int .i64 n] 3).cell (o := 0) rfl)).mono ?_
  rintro e w13 ⟨⟨a13, c13, rfl⟩, hT⟩
  have H13 := Lib.hid (H12.out.go Z hT)
  clear hT H12
  have H14 := Lib.hid (H13.out.go Z ((Turned.refl _ _).alloc (.cells #[.int .i64 n] 3)))
  clear H13
  go_wp2_with fail
  refine (Z.places n _ H14.out.1 ((Blk.new _ [.int .i64 n] 3).cell (o := 0) rfl)).mono ?_
  rintro e w15 ⟨⟨a15, c15, rfl⟩, hT⟩
  have H15 := Lib.hid (H14.out.go Z hT)
  clear hT H14
  go_wp2_with fail
  refine (Z.topics H15.out.2.1).mono ?_
  rintro e w16 ⟨rfl, hT⟩
  have H16 := Lib.hid (H15.out.go Z hT)
  clear hT H15
  go_wp2_with fail
  refine (Z.topics H16.out.1).mono ?_
  rintro e w17 ⟨rfl, hT⟩
  have H17 := Lib.hid (H16.out.go Z hT)
  clear hT H16
  go_wp2_with fail
  refine (Z.pool H17.out.2.1).mono ?_
  rintro e w18 ⟨rfl, hT⟩
  have H18 := Lib.hid (H17.out.go Z hT)
  clear hT H17
  go_wp2_with fail
  refine (Z.pool H18.out.1).mono ?_
  rintro e w19 ⟨rfl, hT⟩
  have H19 := Lib.hid (H18.out.go Z hT)
  clear hT H18
  go_wp2_with fail
  go_ret
  exact ⟨by first | rfl | simp, H19.out.2.2⟩
end Go.Proofs.YtmmkcfiecgpkpaaGreat
