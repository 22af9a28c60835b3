import Derived.Test.YtbljjmehjkmjaaaRing
import Derived.Test.YtbljjmehjkmjaaaRowM
import Derived.Test.YtbljjmehjkmjaaaThing
import Derived.Test.YtbljjmehjkmjaaaRead
import Derived.BigQuiet
import Derived.Deep.RegionHeld3
import Derived.Deep.DeepCutAuto
import Derived.Maps.AppendAt

/- The document's ring, as it lies in memory. No condition. -/
namespace Go.Proofs.Ytbljjmehjkmjaaa
open Go.RowKit
set_option linter.unusedVariables false
set_option maxRecDepth 100000

def encP (p : Plc) : List Value := [.int .i64 p.r, .bool p.d]
theorem encP_len (p : Plc) : (encP p).length = 2 := rfl
theorem encP_one (p : Plc) : ∀ u ∈ encP p, u.oneCell' = true := by intro u hu; simp [encP] at hu; rcases hu with rfl | rfl <;> rfl
theorem encP_ones (l : List Plc) : ∀ u ∈ rowOf encP l, u.oneCell' = true := by
  intro u hu
  unfold rowOf at hu
  obtain ⟨p, _, hp⟩ := List.mem_flatMap.1 hu
  exact encP_one p u hp
def polB (b : Bool) : Int := if b then 1 else 0

end Go.Proofs.Ytbljjmehjkmjaaa

/- What the calls of the document's ring do: Tail, find, Publish, Get. No condition but that the ring is one. -/
namespace Go.Proofs.Ytbljjmehjkmjaaa
open Go.RowKit
set_option linter.unusedVariables false
set_option linter.unusedSimpArgs false
set_option maxRecDepth 100000

end Go.Proofs.Ytbljjmehjkmjaaa

/- What Refs, Ready and Make of the document's ring do. No condition but that the ring is one. -/
namespace Go.Proofs.Ytbljjmehjkmjaaa
open Go.RowKit
set_option linter.unusedVariables false
set_option linter.unusedSimpArgs false
set_option maxRecDepth 100000

/-- Numbers that are handed out: a slice of one's own. -/
def OutNums (w : World) (l : List Int) (n : Nat) (e : Ending) (w' : World) : Prop := ∃ a c, e = .returned (.slice a n c) ∧ w'.ownsRow w.heap.size 3 1 (.slice a n c) n (ints l) ∧ Still w w'

/-- What append of one number leaves of a row of one's own. -/
theorem ow_appended {w wr w6 : World} {ao : Option Addr} {k cc : Nat} {xs ys : List Value} {o : Obj} {v6 : Value} (hs : Still w wr) (h : wr.ownsRow w.heap.size 3 1 (.slice ao k cc) k xs) (hg : (wr.alloc o).grownBy w6 (Value.slice ao k cc).ownBlock) : Still w w6 := by
  refine (hs.alloc o).past ((Turned.refl (fun i => (Value.slice ao k cc).ownBlock = some i) _).grown hg (fun i e => .inl e)) (fun i hi => ?_)
  cases ao with
  | none => cases hi
  | some x => have := (ow_lt h x rfl).1
              have e : x.block = i := by simpa [Value.ownBlock] using hi
              exact .inr (by omega)

theorem RM.refs_get {M : RM} {k : Nat} {p : Plc} (h : M.l[k]? = some p) : M.refs.take (k + 1) = M.refs.take k ++ [p.r] := by
  unfold RM.refs
  rw [List.take_add_one, List.getElem?_map, h]
  rfl

end Go.Proofs.Ytbljjmehjkmjaaa

/- What Ready and Make of the document's ring do. No condition but that the ring is one. -/
namespace Go.Proofs.Ytbljjmehjkmjaaa
open Go.RowKit
set_option linter.unusedVariables false
set_option linter.unusedSimpArgs false
set_option maxRecDepth 100000

theorem tw_done {α : Type} (f : α → Bool) : ∀ (l : List α) (j : Nat) (x : α), j ≤ (l.takeWhile f).length → l[j]? = some x → f x = true → j < (l.takeWhile f).length
  | [], j, x, h, hx, _ => by simp at hx
  | a :: r, 0, x, h, hx, hf => by
    simp at hx; subst hx
    rw [List.takeWhile_cons_of_pos hf]; simp
  | a :: r, j + 1, x, h, hx, hf => by
    by_cases ha : f a = true
    · rw [List.takeWhile_cons_of_pos ha] at h ⊢
      simp only [List.length_cons] at h ⊢
      have := tw_done f r j x (by omega) (by simpa using hx) hf
      omega
    · rw [List.takeWhile_cons_of_neg ha] at h; simp at h
theorem tw_stop {α : Type} (f : α → Bool) : ∀ (l : List α) (j : Nat) (x : α), j ≤ (l.takeWhile f).length → l[j]? = some x → f x = false → j = (l.takeWhile f).length
  | [], j, x, h, hx, _ => by simp at hx
  | a :: r, 0, x, h, hx, hf => by
    simp at hx; subst hx
    rw [List.takeWhile_cons_of_neg (by simp [hf])]; simp
  | a :: r, j + 1, x, h, hx, hf => by
    by_cases ha : f a = true
    · rw [List.takeWhile_cons_of_pos ha] at h ⊢
      simp only [List.length_cons] at h ⊢
      have := tw_stop f r j x (by omega) (by simpa using hx) hf
      omega
    · rw [List.takeWhile_cons_of_neg ha] at h; simp at h
theorem tw_le {α : Type} (f : α → Bool) (l : List α) : (l.takeWhile f).length ≤ l.length := (List.takeWhile_sublist f).length_le

/-- A new ring. -/
def RNew (RT : Nat → RM → Thing) (w : World) (n : Nat) (ov : Bool) (e : Ending) (w' : World) : Prop :=
  ∃ q, e = .returned (.tuple #[.pointer (some ⟨q, 0, none⟩), .int .i64 0]) ∧ ∃ W, (RT q (RM.new n ov)).at_ w' W ∧ Still w w' ∧ ∀ k, W k → w.heap.size ≤ k

end Go.Proofs.Ytbljjmehjkmjaaa

/- What Claim of the document's ring does. No condition but that the ring is one. -/
namespace Go.Proofs.Ytbljjmehjkmjaaa
open Go.RowKit
set_option linter.unusedVariables false
set_option linter.unusedSimpArgs false
set_option maxRecDepth 100000

end Go.Proofs.Ytbljjmehjkmjaaa

/- What Trim of the document's ring does. No condition but that the ring is one. -/
namespace Go.Proofs.Ytbljjmehjkmjaaa
open Go.RowKit
set_option linter.unusedVariables false
set_option linter.unusedSimpArgs false
set_option maxRecDepth 100000

/-- What Trim hands out, and what it leaves: the ring and the references that went, apart. -/
def TrimSep (RT : Nat → RM → Thing) (w : World) (W : Nat → Prop) (q : Nat) (M : RM) (tt : Int) (e : Ending) (w' : World) : Prop :=
  ∃ a c, e = .returned (.tuple #[.slice a (M.trimL tt).length c, .int .i64 (M.trimE tt)]) ∧ Goes ((RT q (M.trimM tt)).sep (ownT 3 1 a (M.trimL tt).length c (ints (M.trimL tt)))) W w w'

theorem all_take_step {l : List Plc} {k : Nat} {p : Plc} (h : l[k]? = some p) (ha : (l.take k).all (·.d) = true) (hd : p.d = true) : (l.take (k + 1)).all (·.d) = true := by
  rw [List.take_add_one, h]
  simp [List.all_append, ha, hd]
theorem all_take_no {l : List Plc} {k c : Nat} {p : Plc} (h : l[k]? = some p) (hk : k < c) (hd : p.d = false) : ¬ (l.take c).all (·.d) = true := by
  intro ha
  rw [List.all_eq_true] at ha
  have hm : p ∈ l.take c := List.mem_of_getElem? (i := k) (by rw [List.getElem?_take, if_pos hk]; exact h)
  have := ha p hm
  rw [hd] at this
  cases this

/-- What Trim hands out, and what it leaves: the ring, and the references that went, which can be read as long as the ring stays. -/
def TrimPost (RT : Nat → RM → Thing) (w : World) (W : Nat → Prop) (q : Nat) (M : RM) (tt : Int) (e : Ending) (w' : World) : Prop :=
  ∃ a c, e = .returned (.tuple #[.slice a (M.trimL tt).length c, .int .i64 (M.trimE tt)]) ∧ Goes (numsT (RT q (M.trimM tt)) a (M.trimL tt)) W w w'

end Go.Proofs.Ytbljjmehjkmjaaa
