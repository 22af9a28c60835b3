/- Small lemmas on worlds, blocks and rows of structs: which blocks a call may turn ('Turned'), what a block holds ('Blk'), and how a row of structs lies in a block ('rowOf'). No condition. -/
import Derived.WalkKit
import Derived.Deep.QuietTactic
import Derived.Lib.Hide
namespace Go.Proofs.Ytdlkdagmaeapdaa
open Go.RowKit
set_option linter.unusedVariables false

/-- Nothing that was there has turned, but blocks that S tells. -/
structure Turned (S : Nat → Prop) (w w' : World) : Prop where
  os : w'.os = w.os
  tape : w'.tape = w.tape
  output : w'.output = w.output
  size : w.heap.size ≤ w'.heap.size
  block : ∀ k, k < w.heap.size → ¬ S k → w'.heap[k]? = w.heap[k]?

theorem Turned.refl (S : Nat → Prop) (w : World) : Turned S w w := ⟨rfl, rfl, rfl, Nat.le_refl _, fun _ _ _ => rfl⟩

theorem Turned.trans {S : Nat → Prop} {a b c : World} (h : Turned S a b) (k : Turned S b c) : Turned S a c :=
  ⟨k.os.trans h.os, k.tape.trans h.tape, k.output.trans h.output, Nat.le_trans h.size k.size,
    fun i hi hs => (k.block i (Nat.lt_of_lt_of_le hi h.size) hs).trans (h.block i hi hs)⟩

theorem Turned.mono {S T : Nat → Prop} {a b : World} (h : Turned S a b) (hST : ∀ k, k < a.heap.size → S k → T k) : Turned T a b :=
  ⟨h.os, h.tape, h.output, h.size, fun i hi hs => h.block i hi (fun hk => hs (hST i hi hk))⟩

theorem Turned.drew {S : Nat → Prop} {a w : World} (h : Turned S a w) : Turned S a w.drew := ⟨h.os, h.tape, h.output, h.size, h.block⟩
theorem Turned.drewN {S : Nat → Prop} {a w : World} (h : Turned S a w) (n : Nat) : Turned S a (w.drewN n) := ⟨h.os, h.tape, h.output, h.size, h.block⟩

theorem Turned.alloc {S : Nat → Prop} {a w : World} (h : Turned S a w) (o : Obj) : Turned S a (w.alloc o) :=
  h.trans ⟨rfl, rfl, rfl, by simp, fun k hk _ => Below.heap_alloc _ _ _ hk⟩

theorem Turned.setCell {S : Nat → Prop} {a w : World} (h : Turned S a w) {p : Addr} (hp : S p.block ∨ a.heap.size ≤ p.block) (u : Value) : Turned S a (w.setCell p u) :=
  ⟨h.os, h.tape, h.output, by rw [show (w.setCell p u).heap.size = w.heap.size from by simp [World.setCell]]; exact h.size,
    fun k hk hs => (Below.heap_setCell _ _ _ _ (fun e => by
      rcases hp with hp | hp
      · exact hs (e ▸ hp)
      · omega)).trans (h.block k hk hs)⟩

theorem turned_set {b : Nat} {a w : World} (h : Turned (· = b) a w) (o : Nat) (u : Value) : Turned (· = b) a (w.setCell ⟨b, o, none⟩ u) := h.setCell (p := ⟨b, o, none⟩) (.inl rfl) u

theorem Turned.grown {S : Nat → Prop} {a w w' : World} {row : Option Nat} (h : Turned S a w) (hg : w.grownBy w' row) (hr : ∀ k, row = some k → S k ∨ a.heap.size ≤ k) : Turned S a w' :=
  ⟨hg.os.trans h.os, hg.tape.trans h.tape, hg.output.trans h.output, Nat.le_trans h.size hg.size,
    fun k hk hs => (hg.block k (Nat.lt_of_lt_of_le hk h.size) (fun e => by
      rcases hr k e.symm with h1 | h1
      · exact hs h1
      · omega)).trans (h.block k hk hs)⟩

theorem Turned.below {S : Nat → Prop} {B : Nat} {w w' : World} (h : Turned S w w') (hB : B ≤ w.heap.size) (hS : ∀ k, S k → B ≤ k) : Below B w w' :=
  ⟨h.os, h.tape, h.output, h.size, fun k hk => h.block k (by omega) (fun hs => by have := hS k hs; omega)⟩

theorem Turned.cell {S : Nat → Prop} {w w' : World} (h : Turned S w w') {p : Addr} (hp : p.block < w.heap.size) (hs : ¬ S p.block) : w'.cell? p = w.cell? p :=
  World.cell?_of_block (w := w) (h.block p.block hp hs)

theorem below_turned {B : Nat} {w w' : World} (h : Below B w w') (hB : w.heap.size ≤ B) : Turned (fun _ => False) w w' :=
  ⟨h.os, h.tape, h.output, h.size, fun k hk _ => h.block k (by omega)⟩

/-- Nothing that was there has turned. -/
abbrev Still (w w' : World) : Prop := Turned (fun _ => False) w w'

/-- What turned lies behind all that was there. -/
theorem Turned.past {R S : Nat → Prop} {w a b : World} (h : Turned R w a) (k : Turned S a b) (hS : ∀ i, S i → R i ∨ w.heap.size ≤ i) : Turned R w b :=
  ⟨k.os.trans h.os, k.tape.trans h.tape, k.output.trans h.output, Nat.le_trans h.size k.size,
    fun i hi hs => (k.block i (Nat.lt_of_lt_of_le hi h.size) (fun hk => by rcases hS i hk with h1 | h1
                                                                           · exact hs h1
                                                                           · omega)).trans (h.block i hi hs)⟩
theorem Turned.pastOne {R : Nat → Prop} {w a b : World} {m : Nat} (h : Turned R w a) (k : Turned (· = m) a b) (hm : w.heap.size ≤ m) : Turned R w b := h.past k (fun i e => .inr (e ▸ hm))

/-- Block b holds just these cells; none of them is frozen. -/
def Blk (w : World) (b : Nat) (xs : List Value) (e : TypeId) : Prop := w.heap[b]? = some (.cells xs.toArray e (0, 0))

theorem Blk.lt {w : World} {b : Nat} {xs : List Value} {e : TypeId} (h : Blk w b xs e) : b < w.heap.size := by
  unfold Blk at h
  exact (Array.getElem?_eq_some_iff.1 h).1

theorem Blk.cell {w : World} {b : Nat} {xs : List Value} {e : TypeId} (h : Blk w b xs e) {o : Nat} {v : Value} (hv : xs[o]? = some v) : w.cell? ⟨b, o, none⟩ = some v := by
  unfold Blk at h
  simp [World.cell?, h, hv]

theorem Blk.free {w : World} {b : Nat} {xs : List Value} {e : TypeId} (h : Blk w b xs e) (o : Nat) : w.frozen? ⟨b, o, none⟩ = false := by
  unfold Blk at h
  simp [World.frozen?, h]

theorem Blk.of_eq {w w' : World} {b : Nat} {xs : List Value} {e : TypeId} (h : Blk w b xs e) (hw : w'.heap[b]? = w.heap[b]?) : Blk w' b xs e := hw.trans h

theorem Blk.turned {S : Nat → Prop} {w w' : World} {b : Nat} {xs : List Value} {e : TypeId} (h : Blk w b xs e) (ht : Turned S w w') (hs : ¬ S b) : Blk w' b xs e :=
  h.of_eq (ht.block b h.lt hs)

theorem Blk.alloc {w : World} {b : Nat} {xs : List Value} {e : TypeId} (h : Blk w b xs e) (o : Obj) : Blk (w.alloc o) b xs e := h.of_eq (Below.heap_alloc _ _ _ h.lt)
theorem Blk.drew {w : World} {b : Nat} {xs : List Value} {e : TypeId} (h : Blk w b xs e) : Blk w.drew b xs e := h
theorem Blk.drewN {w : World} {b : Nat} {xs : List Value} {e : TypeId} (h : Blk w b xs e) (n : Nat) : Blk (w.drewN n) b xs e := h

theorem Blk.new (w : World) (xs : List Value) (e : TypeId) : Blk (w.alloc (.cells xs.toArray e)) w.heap.size xs e := by
  show (w.heap.push _)[w.heap.size]? = _
  simp

theorem Blk.newAt (w : World) (xs : List Value) (e : TypeId) {b : Nat} (hb : b = w.heap.size) {c : Array Value} (hc : c = xs.toArray) : Blk (w.alloc (.cells c e)) b xs e := by
  subst hb; subst hc; exact Blk.new w xs e

theorem Blk.set {w : World} {b : Nat} {xs : List Value} {e : TypeId} (h : Blk w b xs e) (o : Nat) (v : Value) : Blk (w.setCell ⟨b, o, none⟩ v) b (xs.set o v) e := by
  unfold Blk at h ⊢
  simp only [World.setCell]
  rw [Array.getElem?_modify]
  simp [h]

theorem Blk.other {w : World} {b : Nat} {xs : List Value} {e : TypeId} (h : Blk w b xs e) {p : Addr} (hp : p.block ≠ b) (v : Value) : Blk (w.setCell p v) b xs e :=
  h.of_eq (Below.heap_setCell _ _ _ _ (fun e => hp e.symm))

/-- Structs, one behind the other. -/
def rowOf {α : Type} (enc : α → List Value) (l : List α) : List Value := l.flatMap enc

theorem rowOf_nil {α : Type} (enc : α → List Value) : rowOf enc [] = [] := rfl
theorem rowOf_cons {α : Type} (enc : α → List Value) (a : α) (l : List α) : rowOf enc (a :: l) = enc a ++ rowOf enc l := by simp [rowOf]
theorem rowOf_append {α : Type} (enc : α → List Value) (l r : List α) : rowOf enc (l ++ r) = rowOf enc l ++ rowOf enc r := by simp [rowOf]
theorem rowOf_length {α : Type} {enc : α → List Value} {m : Nat} (hm : ∀ a, (enc a).length = m) (l : List α) : (rowOf enc l).length = l.length * m := by
  induction l with
  | nil => simp [rowOf]
  | cons a r ih => rw [rowOf_cons, List.length_append, hm, ih, List.length_cons, Nat.add_mul, Nat.one_mul, Nat.add_comm]

theorem rowOf_get {α : Type} {enc : α → List Value} {m : Nat} (hm : ∀ a, (enc a).length = m) {l : List α} {i : Nat} {a : α} (hi : l[i]? = some a) {j : Nat} {v : Value} (hv : (enc a)[j]? = some v) :
    (rowOf enc l)[i * m + j]? = some v := by
  induction l generalizing i with
  | nil => simp at hi
  | cons b r ih =>
    rw [rowOf_cons]
    cases i with
    | zero =>
      simp only [List.getElem?_cons_zero, Option.some.injEq] at hi
      subst hi
      have hj : j < (enc b).length := (List.getElem?_eq_some_iff.1 hv).1
      rw [Nat.zero_mul, Nat.zero_add, List.getElem?_append_left hj]
      exact hv
    | succ i =>
      simp only [List.getElem?_cons_succ] at hi
      rw [List.getElem?_append_right (by rw [hm, Nat.add_mul]; omega), hm]
      have : (i + 1) * m + j - m = i * m + j := by rw [Nat.add_mul]; omega
      rw [this]
      exact ih hi

theorem rowOf_set {α : Type} {enc : α → List Value} {m : Nat} (hm : ∀ a, (enc a).length = m) {l : List α} {i : Nat} {a b : α} (hi : l[i]? = some a) {j : Nat} {v : Value} (hj : j < m) (hb : (enc a).set j v = enc b) :
    (rowOf enc l).set (i * m + j) v = rowOf enc (l.set i b) := by
  induction l generalizing i with
  | nil => simp at hi
  | cons c r ih =>
    rw [rowOf_cons]
    cases i with
    | zero =>
      simp only [List.getElem?_cons_zero, Option.some.injEq] at hi
      subst hi
      rw [Nat.zero_mul, Nat.zero_add, List.set_append, if_pos (by rw [hm]; exact hj), hb, List.set_cons_zero, rowOf_cons]
    | succ i =>
      simp only [List.getElem?_cons_succ] at hi
      rw [List.set_append, if_neg (by rw [hm, Nat.add_mul]; omega), hm, List.set_cons_succ, rowOf_cons]
      have : (i + 1) * m + j - m = i * m + j := by rw [Nat.add_mul]; omega
      rw [this, ih hi]

theorem drewN2 (w : World) (a b : Nat) : ∃ n, (w.drewN a).drewN b = w.drewN n := ⟨a + b, World.drewN_drewN ..⟩

theorem quietEq {P : Program} {f : FuncId} {args : Array Value} {w : World} {n : Nat} {v : Value}
    (h : Calls P f args (w.drewN n) fun e w' => e = .returned v ∧ w.drewN n = w') : Calls P f args (w.drewN n) fun e w'' => e = .returned v ∧ ∃ m, w'' = w.drewN m :=
  h.mono fun _ _ ⟨he, hm⟩ => ⟨he, n, hm.symm⟩

theorem quietDrew {P : Program} {f : FuncId} {args : Array Value} {w : World} {n : Nat} {v : Value}
    (h : Calls P f args (w.drewN n) fun e w' => e = .returned v ∧ ∃ m, w' = (w.drewN n).drewN m) : Calls P f args (w.drewN n) fun e w'' => e = .returned v ∧ ∃ m, w'' = w.drewN m :=
  Calls.quiet_of h

theorem stillEq {P : Program} {f : FuncId} {args : Array Value} {w : World} {v : Value}
    (h : Calls P f args w fun e w' => e = .returned v ∧ w = w') : Calls P f args w fun e w'' => e = .returned v ∧ w'' = w :=
  h.mono fun _ _ ⟨he, hm⟩ => ⟨he, hm.symm⟩

theorem cell_lt {w : World} {a : Addr} {v : Value} (h : w.cell? a = some v) : a.block < w.heap.size := by
  by_cases hb : a.block < w.heap.size
  · exact hb
  · have e : w.heap[a.block]? = none := Array.getElem?_eq_none (by omega)
    simp [World.cell?, e] at h

/-- Numbers, one behind the other. -/
def ints (l : List Int) : List Value := l.map (Value.int .i64)
theorem ints_get {l : List Int} {i : Nat} {a : Int} (hi : l[i]? = some a) : (ints l)[i]? = some (.int .i64 a) := by simp [ints, hi]
theorem ints_set (l : List Int) (i : Nat) (a : Int) : (ints l).set i (.int .i64 a) = ints (l.set i a) := by simp [ints, List.map_set]
theorem ints_length (l : List Int) : (ints l).length = l.length := by simp [ints]

theorem made_row {α : Type} {enc : α → List Value} (a0 : α) {z : Array Value} (hz : z.toList = enc a0) {m : Nat} (hm : ∀ a, (enc a).length = m) (h0 : 0 < m) (k : Nat) :
    madeCells z (k * m) = (rowOf enc (List.replicate k a0)).toArray := by
  have hs : z.size = m := by rw [← Array.length_toList, hz, hm]
  apply Array.ext
  · rw [size_madeCells, List.size_toArray, rowOf_length hm, List.length_replicate]
  · intro t h1 h2
    rw [size_madeCells] at h1
    have hlt : t % m < m := Nat.mod_lt _ h0
    have hd : t / m < k := Nat.div_lt_of_lt_mul (by rw [Nat.mul_comm]; exact h1)
    have e1 : (madeCells z (k * m))[t]? = z.toList[t % m]? := by
      simp [madeCells, h1, hs, hlt]
    have e2 : (rowOf enc (List.replicate k a0)).toArray[t]? = z.toList[t % m]? := by
      have hv : (enc a0)[t % m]? = some ((enc a0)[t % m]'(by rw [hm]; exact hlt)) := List.getElem?_eq_getElem _
      have := rowOf_get (enc := enc) hm (l := List.replicate k a0) (i := t / m) (a := a0) (by simp [hd]) hv
      rw [Nat.mul_comm, Nat.div_add_mod] at this
      rw [List.getElem?_toArray, this, hz, hv]
    have e3 : (madeCells z (k * m))[t]? = (rowOf enc (List.replicate k a0)).toArray[t]? := e1.trans e2.symm
    rw [Array.getElem?_eq_getElem (by rw [size_madeCells]; exact h1), Array.getElem?_eq_getElem h2] at e3
    exact Option.some.inj e3

theorem get_some {α : Type} {l : List α} {i : Nat} (h : i < l.length) : ∃ a, l[i]? = some a := ⟨_, List.getElem?_eq_getElem h⟩
theorem get_lt {α : Type} {l : List α} {i : Nat} {a : α} (h : l[i]? = some a) : i < l.length := (List.getElem?_eq_some_iff.1 h).1

theorem ret_int {k : IntKind} {a b : Int} (h : a = b) : Ending.returned (.int k a) = .returned (.int k b) := by rw [h]
theorem ret_bool {a b : Bool} (h : a = b) : Ending.returned (.bool a) = .returned (.bool b) := by rw [h]

end Go.Proofs.Ytdlkdagmaeapdaa
