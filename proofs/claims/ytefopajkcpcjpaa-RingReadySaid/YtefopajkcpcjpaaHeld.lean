/- Things that are held: calls that change one of them, or only read; slices of one's own beside them. No condition. -/
import Derived.Test.YtefopajkcpcjpaaThing
import Derived.Test.YtefopajkcpcjpaaBase
namespace Go.Proofs.Ytefopajkcpcjpaa
open Go.RowKit
set_option linter.unusedVariables false

/-- A call that changes the first of two things that are held. -/
theorem Held.call {w0 w : World} {A R A' : Thing} (H : Held w0 w (A.sep R)) {f : FuncId} {args : Array Value} {v : Value}
    (hc : ∀ W, A.at_ w W → Calls Try.prog f args w fun e w' => e = .returned v ∧ Goes A' W w w') : Calls Try.prog f args w fun e w' => e = .returned v ∧ Held w0 w' (A'.sep R) := by
  obtain ⟨W, h1, h2⟩ := H.fst
  exact (hc W h1).mono fun e w' ⟨he, hg⟩ => ⟨he, h2 _ _ hg⟩
/-- A call that only reads the first. -/
theorem Held.read {w0 w : World} {A R : Thing} (H : Held w0 w (A.sep R)) {f : FuncId} {args : Array Value} {v : Value}
    (hc : ∀ W, A.at_ w W → Calls Try.prog f args w fun e w' => e = .returned v ∧ Still w w') : Calls Try.prog f args w fun e w' => e = .returned v ∧ Held w0 w' (A.sep R) := by
  obtain ⟨W, h1, h2⟩ := H.fst
  exact (hc W h1).mono fun e w' ⟨he, hg⟩ => ⟨he, H.still hg⟩

/-- Bytes of one's own: told of by a base. -/
theorem ownT_ints {w : World} {W : Nat → Prop} {ao : Option Addr} {n cc : Nat} {l : List Int} (h : (ownT 3 1 ao n cc (ints l)).at_ w W) (hn : n = l.length) : NumsAt w ao l := NumsAt.of_own h.1 hn
theorem Held.ints {w0 w : World} {A : Thing} {ao : Option Addr} {n cc : Nat} {l : List Int} (H : Held w0 w (A.sep (ownT 3 1 ao n cc (ints l)))) (hn : n = l.length) : NumsAt w ao l := by
  obtain ⟨W, ⟨W1, W2, _, h2, _, _⟩, _, _⟩ := H
  exact ownT_ints h2 hn
theorem Held.own {w0 w : World} {A : Thing} {e : TypeId} {m : Nat} {ao : Option Addr} {n cc : Nat} {xs : List Value} (H : Held w0 w (A.sep (ownT e m ao n cc xs))) : w.ownsRow 0 e m (.slice ao n cc) n xs := by
  obtain ⟨W, ⟨W1, W2, _, h2, _, _⟩, _, _⟩ := H
  exact h2.1
/-- append to one's own, the second of what is held. -/
theorem Held.grown {w0 w w' : World} {A : Thing} {e : TypeId} {m : Nat} {ao a' : Option Addr} {n cc n' c' : Nat} {xs ys : List Value} {o : Obj} (H : Held w0 w (A.sep (ownT e m ao n cc xs)))
    (hown : w'.ownsRow 0 e m (.slice a' n' c') n' ys) (hg : (w.alloc o).grownBy w' (Value.slice ao n cc).ownBlock)
    (hat : (Value.slice a' n' c').ownBlock = (Value.slice ao n cc).ownBlock ∨ (Value.slice a' n' c').ownBlock = some (w.alloc o).heap.size) : Held w0 w' (A.sep (ownT e m a' n' c' ys)) := by
  obtain ⟨W, h1, h2⟩ := H.swap.fst
  exact (h2 _ _ (ownT_grown h1 hown hg hat)).swap
theorem Held.new2 {w0 w : World} {A : Thing} (H : Held w0 w A) (e : TypeId) (m : Nat) : Held w0 (w.alloc (.cells #[] e)) (A.sep (ownT e m (some ⟨w.heap.size, 0, none⟩) 0 0 [])) := (H.new (ownT_new w e m)).swap

/-- A slice of one's own that a call handed out. -/
theorem Held.got {w0 w w' : World} {A : Thing} (H : Held w0 w A) {e : TypeId} {m : Nat} {a : Option Addr} {n c : Nat} {xs : List Value} (hown : w'.ownsRow w.heap.size e m (.slice a n c) n xs) (hT : Still w w') : Held w0 w' (A.sep (ownT e m a n c xs)) := by
  refine (H.new (B := ownT e m a n c xs) ⟨fun k => (Value.slice a n c).ownBlock = some k, ⟨ow_base hown (Nat.zero_le _), fun k => Iff.rfl⟩, hT, fun k hk => ?_⟩).swap
  cases a with
  | none => cases hk
  | some x => have := (ow_lt hown x rfl).1
              have e : x.block = k := by simpa [Value.ownBlock] using hk
              omega
end Go.Proofs.Ytefopajkcpcjpaa
