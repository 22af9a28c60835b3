import Derived.Test.YtbljjmehjkmjaaaHandleBook
import Derived.Test.YtbljjmehjkmjaaaThing
import Derived.Test.YtbljjmehjkmjaaaBytes
import Derived.Test.YtbljjmehjkmjaaaIntsCopy
import Derived.Deep.RegionHeld3
import Derived.Deep.DeepCutAuto
import Derived.Deep.CutBlock
import Derived.Deep.RegionLaw
import Derived.BigRegion

/- The document's pool, as it lies in memory: what it holds, and what single stores and new blocks leave of it. No condition. -/
namespace Go.Proofs.Ytbljjmehjkmjaaa
open Go.RowKit
set_option linter.unusedVariables false
set_option maxRecDepth 100000

structure ZLay where
  gb : Nat
  cb : Nat
  bb : Nat
  fa : Addr
  fc : Nat

def nums (l : List Nat) : List Int := l.map fun k : Nat => (k : Int)
theorem nums_length (l : List Nat) : (nums l).length = l.length := by simp [nums]
theorem nums_get {l : List Nat} {i k : Nat} (h : l[i]? = some k) : (nums l)[i]? = some (k : Int) := by simp [nums, h]
theorem nums_setn (l : List Nat) (i k : Nat) : (nums l).set i (k : Int) = nums (l.set i k) := by simp [nums, List.map_set]

/-- A slot's bytes: where they lie. -/
structure BtsAt (w : World) (W : Nat → Prop) (no : Nat → Prop) (a : Option Addr) (c : Nat) (b : List UInt8) : Prop where
  at_ : BytesAt w a b
  le : b.length ≤ c
  max : c ≤ maxLen
  none : a = none → c = 0
  own : ∀ x, a = some x → W x.block ∧ ¬ no x.block

def ZLay.fix (q : Nat) (L : ZLay) (k : Nat) : Prop := k = q ∨ k = L.gb ∨ k = L.cb ∨ k = L.bb

theorem BtsAt.turned {w w' : World} {W S no : Nat → Prop} {a : Option Addr} {c : Nat} {b : List UInt8} (h : BtsAt w W no a c b) (ht : Turned S w w') (hs : ∀ k, W k → ¬ no k → ¬ S k) : BtsAt w' W no a c b :=
  ⟨h.at_.turned ht (fun x hx => hs _ (h.own x hx).1 (h.own x hx).2), h.le, h.max, h.none, h.own⟩
theorem BtsAt.more {w : World} {W W' no : Nat → Prop} {a : Option Addr} {c : Nat} {b : List UInt8} (h : BtsAt w W no a c b) (hW : ∀ k, W k → W' k) : BtsAt w W' no a c b :=
  ⟨h.at_, h.le, h.max, h.none, fun x hx => ⟨hW _ (h.own x hx).1, (h.own x hx).2⟩⟩

theorem size_setCell (w : World) (p : Addr) (v : Value) : (w.setCell p v).heap.size = w.heap.size := by simp [World.setCell]

theorem map_set_same {l : List Slt} {k : Nat} {s t : Slt} {α : Type} (f : Slt → α) (hs : l[k]? = some s) (hf : f t = f s) : (l.set k t).map f = l.map f := by
  rw [List.map_set, hf]
  apply List.ext_getElem?
  intro i
  by_cases e : k = i
  · subst e
    rw [List.getElem?_set_self (by simp; exact get_lt hs), List.getElem?_map, hs]; rfl
  · rw [List.getElem?_set_ne e]

end Go.Proofs.Ytbljjmehjkmjaaa

/- What the calls of the document's pool do: live, Keep, Bytes, Fill. No condition. -/
namespace Go.Proofs.Ytbljjmehjkmjaaa
open Go.RowKit
set_option linter.unusedVariables false
set_option linter.unusedSimpArgs false
set_option maxRecDepth 100000

def PM.errS (M : PM) (h : Int) : Int := if M.err h = 0 then (hSlot h : Nat) else 0
def PM.liveV (M : PM) (h : Int) : Value := .tuple #[.int .i64 (M.errS h), .int .i64 (M.err h)]

end Go.Proofs.Ytbljjmehjkmjaaa

/- What the calls of the document's pool do: Bytes, Fill, Drop. No condition. -/
namespace Go.Proofs.Ytbljjmehjkmjaaa
open Go.RowKit
set_option linter.unusedVariables false
set_option linter.unusedSimpArgs false
set_option maxRecDepth 100000

/-- Bytes that are handed out: a slice of one's own, or nil. -/
def GotBytes (w : World) (b : List UInt8) (er : Int) (e : Ending) (w' : World) : Prop :=
  ∃ a c, e = .returned (.tuple #[.slice a b.length c, .int .i64 er]) ∧ w'.ownsRow w.heap.size 5 1 (.slice a b.length c) b.length (byt b) ∧ Still w w'

theorem byt_nil_own (w : World) (B : Nat) : w.ownsRow B 5 1 (.slice none 0 0) 0 (byt []) := ⟨rfl, .inl ⟨rfl, rfl⟩⟩

/-- New bytes of one's own are laid into a slot. -/
theorem BtsAt.of_own {w w' : World} {W no : Nat → Prop} {a : Option Addr} {c : Nat} {b : List UInt8} (hown : w'.ownsRow w.heap.size 5 1 (.slice a b.length c) b.length (byt b)) (hno : ∀ k, no k → k < w.heap.size) :
    BtsAt w' (fun i => W i ∨ (Value.slice a b.length c).ownBlock = some i) no a c b := by
  obtain ⟨h1, h2, h3⟩ := ow_le hown
  refine ⟨BytesAt.of_own hown, h1, h2, fun e => (h3 e).2, fun x hx => ⟨.inr (by rw [hx]; rfl), fun h => ?_⟩⟩
  have := (ow_lt hown x hx).1
  have := hno _ h
  omega

end Go.Proofs.Ytbljjmehjkmjaaa

/- What Drop of the document's pool does. No condition. -/
namespace Go.Proofs.Ytbljjmehjkmjaaa
open Go.RowKit
set_option linter.unusedVariables false
set_option linter.unusedSimpArgs false
set_option maxRecDepth 100000

end Go.Proofs.Ytbljjmehjkmjaaa

/- What Take of the document's pool does. No condition. -/
namespace Go.Proofs.Ytbljjmehjkmjaaa
open Go.RowKit
set_option linter.unusedVariables false
set_option linter.unusedSimpArgs false
set_option maxRecDepth 100000

theorem row_byt (l : List UInt8) : rowOf encB l = byt l := by
  induction l with
  | nil => rfl
  | cons a l ih => rw [rowOf_cons, ih]; simp [byt, encB]
theorem made_byt (k : Nat) : madeCells #[.int .u8 0] k = (byt (List.replicate k 0)).toArray := by
  have := made_row (enc := encB) (0 : UInt8) (z := #[.int .u8 0]) rfl (m := 1) (fun _ => rfl) (by omega) k
  rw [Nat.mul_one] at this
  rw [this, row_byt]

end Go.Proofs.Ytbljjmehjkmjaaa

/- What the document's pool.Make does. No condition. -/
namespace Go.Proofs.Ytbljjmehjkmjaaa
open Go.RowKit
set_option linter.unusedVariables false
set_option linter.unusedSimpArgs false
set_option maxRecDepth 100000

theorem infoBytesS : (Try.prog.info? 33).map (fun i => (i.zero, i.size, i.bytes)) = some (some (.slice none 0 0), 1, 24) := by kernel_rfl

theorem made_ints (n : Nat) : madeCells #[.int .i64 0] n = (ints (nums (List.replicate n 0))).toArray := by
  have := made_row (enc := fun x : Int => [Value.int .i64 x]) 0 (z := #[.int .i64 0]) rfl (m := 1) (fun _ => rfl) (by omega) n
  rw [Nat.mul_one] at this
  rw [this]
  have key : ∀ l : List Int, rowOf (fun x : Int => [Value.int .i64 x]) l = ints l := by
    intro l
    induction l with
    | nil => rfl
    | cons a l ih => rw [rowOf_cons, ih]; rfl
  rw [key]
  simp [nums, ints]
theorem made_slices (n : Nat) : madeCells #[.slice none 0 0] n = (List.replicate n (Value.slice none 0 0)).toArray := by
  have := made_row (enc := fun x : Value => [x]) (.slice none 0 0) (z := #[.slice none 0 0]) rfl (m := 1) (fun _ => rfl) (by omega) n
  rw [Nat.mul_one] at this
  rw [this]
  have key : ∀ l : List Value, rowOf (fun x : Value => [x]) l = l := by
    intro l
    induction l with
    | nil => rfl
    | cons a l ih => rw [rowOf_cons, ih]; rfl
  rw [key]

def zA (n : Nat) : Obj := .cells (ints (nums (List.replicate n 0))).toArray 3
def zB (n : Nat) : Obj := .cells (List.replicate n (Value.slice none 0 0)).toArray 33
def zO (n z i : Nat) : Obj := if i = z then zB n else zA n

end Go.Proofs.Ytbljjmehjkmjaaa
