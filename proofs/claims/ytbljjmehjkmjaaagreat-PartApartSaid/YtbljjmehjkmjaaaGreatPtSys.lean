/- Two partitions over a pool, the document's beside the program's: things that lie apart, in several orders. No condition. -/
import Derived.Test.YtbljjmehjkmjaaaGreatSit
namespace Go.Proofs.YtbljjmehjkmjaaaGreat
open Go.RowKit
set_option linter.unusedVariables false

theorem sep_mono {A A' B B' : Thing} (f : ∀ {w : World} {W : Nat → Prop}, A.at_ w W → A'.at_ w W) (g : ∀ {w : World} {W : Nat → Prop}, B.at_ w W → B'.at_ w W) {w : World} {W : Nat → Prop} (h : (A.sep B).at_ w W) : (A'.sep B').at_ w W := by
  obtain ⟨W1, W2, h1, h2, hd, hW⟩ := h
  exact ⟨W1, W2, f h1, g h2, hd, hW⟩
theorem Held.imp {w0 w : World} {A B : Thing} (h : Held w0 w A) (f : ∀ {w : World} {W : Nat → Prop}, A.at_ w W → B.at_ w W) : Held w0 w B := by
  obtain ⟨W, h1, h2, h3⟩ := h; exact ⟨W, f h1, h2, h3⟩

/-- The program's pool and one partition, the document's, the other partitions, and what else lies there. -/
def sysT (A X Z Y X' Y' R : Thing) : Thing := (A.sep X).sep ((Z.sep Y).sep (X'.sep (Y'.sep R)))
/-- The same with what else lies there ahead. -/
def sysU (A X Z Y X' Y' : Thing) : Thing := (A.sep X).sep ((Z.sep Y).sep (X'.sep Y'))
theorem sys_ur {A X Z Y X' Y' R : Thing} {w : World} {W : Nat → Prop} (h : (sysT A X Z Y X' Y' R).at_ w W) : (R.sep (sysU A X Z Y X' Y')).at_ w W := by
  refine sep_swap (sep_assoc' ?_)
  exact sep_mono id (fun h => sep_assoc' (sep_mono id sep_assoc' h)) h
theorem sys_ru {A X Z Y X' Y' R : Thing} {w : World} {W : Nat → Prop} (h : (R.sep (sysU A X Z Y X' Y')).at_ w W) : (sysT A X Z Y X' Y' R).at_ w W := by
  exact sep_mono id (fun h => sep_mono id sep_assoc (sep_assoc h)) (sep_assoc (sep_swap h))
/-- The other partitions. -/
theorem sys_swap {A X Z Y X' Y' R : Thing} {w : World} {W : Nat → Prop} (h : (sysT A X Z Y X' Y' R).at_ w W) : (sysT A X' Z Y' X Y R).at_ w W := by
  obtain ⟨U1, U2, ⟨a, x, ha, hx, dax, iax⟩, ⟨V1, V2, ⟨z, y, hz, hy, dzy, izy⟩, ⟨x', T2, hx', ⟨y', r, hy', hr, dyr, iyr⟩, dxt, ixt⟩, dv, iv⟩, du, iu⟩ := h
  have e1 : ∀ k, U1 k ↔ a k ∨ x k := iax
  have e2 : ∀ k, U2 k ↔ (z k ∨ y k) ∨ (x' k ∨ (y' k ∨ r k)) := fun k => by rw [iv, izy, ixt, iyr]
  have d1 : ∀ k, (a k ∨ x k) → ¬ ((z k ∨ y k) ∨ (x' k ∨ (y' k ∨ r k))) := fun k h1 h2 => du k ((e1 k).2 h1) ((e2 k).2 h2)
  have d2 : ∀ k, (z k ∨ y k) → ¬ (x' k ∨ (y' k ∨ r k)) := fun k h1 h2 => dv k ((izy k).2 h1) ((ixt k).2 (h2.imp id (fun h => (iyr k).2 h)))
  have d3 : ∀ k, x' k → ¬ (y' k ∨ r k) := fun k h1 h2 => dxt k h1 ((iyr k).2 h2)
  refine ⟨fun k => a k ∨ x' k, fun k => (z k ∨ y' k) ∨ (x k ∨ (y k ∨ r k)), ⟨a, x', ha, hx', fun k h1 h2 => d1 k (.inl h1) (.inr (.inl h2)), fun _ => Iff.rfl⟩,
    ⟨fun k => z k ∨ y' k, fun k => x k ∨ (y k ∨ r k), ⟨z, y', hz, hy', fun k h1 h2 => d2 k (.inl h1) (.inr (.inl h2)), fun _ => Iff.rfl⟩,
      ⟨x, fun k => y k ∨ r k, hx, ⟨y, r, hy, hr, fun k h1 h2 => d2 k (.inr h1) (.inr (.inr h2)), fun _ => Iff.rfl⟩, fun k h1 h2 => d1 k (.inr h1) (h2.elim (fun h => .inl (.inr h)) (fun h => .inr (.inr (.inr h)))), fun _ => Iff.rfl⟩, fun k h1 h2 => ?_, fun _ => Iff.rfl⟩, fun k h1 h2 => ?_, fun k => ?_⟩
  · rcases h1 with h1 | h1
    · rcases h2 with h2 | h2 | h2
      · exact d1 k (.inr h2) (.inl (.inl h1))
      · exact dzy k h1 h2
      · exact d2 k (.inl h1) (.inr (.inr h2))
    · rcases h2 with h2 | h2 | h2
      · exact d1 k (.inr h2) (.inr (.inr (.inl h1)))
      · exact d2 k (.inr h2) (.inr (.inl h1))
      · exact dyr k h1 h2
  · rcases h1 with h1 | h1
    · rcases h2 with (h2 | h2) | h2 | h2 | h2
      · exact d1 k (.inl h1) (.inl (.inl h2))
      · exact d1 k (.inl h1) (.inr (.inr (.inl h2)))
      · exact dax k h1 h2
      · exact d1 k (.inl h1) (.inl (.inr h2))
      · exact d1 k (.inl h1) (.inr (.inr (.inr h2)))
    · rcases h2 with (h2 | h2) | h2 | h2 | h2
      · exact d2 k (.inl h2) (.inl h1)
      · exact d3 k h1 (.inl h2)
      · exact d1 k (.inr h2) (.inr (.inl h1))
      · exact d2 k (.inr h2) (.inl h1)
      · exact d3 k h1 (.inr h2)
  · rw [iu, e1, e2]
    constructor
    · rintro ((h | h) | (h | h) | h | h | h) <;> simp [h]
    · rintro ((h | h) | (h | h) | h | h | h) <;> simp [h]

section
variable {w0 w w' : World} {A X Z Y X' Y' R A2 X2 : Thing}
theorem Held.sysSwap (h : Held w0 w (sysT A X Z Y X' Y' R)) : Held w0 w (sysT A X' Z Y' X Y R) := h.imp sys_swap
theorem Held.sysR (h : Held w0 w (sysT A X Z Y X' Y' R)) : Held w0 w (R.sep (sysU A X Z Y X' Y')) := h.imp sys_ur
theorem Held.sysOf (h : Held w0 w (R.sep (sysU A X Z Y X' Y'))) : Held w0 w (sysT A X Z Y X' Y' R) := h.imp sys_ru
theorem Held.rest (h : Held w0 w (sysT A X Z Y X' Y' R)) : Held w0 w R := h.sysR.drop
/-- A call on the program's side. -/
theorem Held.sysCall (H : Held w0 w (sysT A X Z Y X' Y' R)) {f : FuncId} {args : Array Value} {v : Value}
    (hc : ∀ W, (A.sep X).at_ w W → Calls Tryz.prog f args w fun e w' => e = .returned v ∧ Goes (A2.sep X2) W w w') : Calls Tryz.prog f args w fun e w' => e = .returned v ∧ Held w0 w' (sysT A2 X2 Z Y X' Y' R) :=
  Held.call H hc
theorem Held.sysRead (H : Held w0 w (sysT A X Z Y X' Y' R)) {f : FuncId} {args : Array Value} {v : Value}
    (hc : ∀ W, (A.sep X).at_ w W → Calls Tryz.prog f args w fun e w' => e = .returned v ∧ Still w w') : Calls Tryz.prog f args w fun e w' => e = .returned v ∧ Held w0 w' (sysT A X Z Y X' Y' R) :=
  Held.read H hc
/-- A call on the document's side. -/
theorem Held.sysCallZ (H : Held w0 w (sysT A X Z Y X' Y' R)) {f : FuncId} {args : Array Value} {v : Value}
    (hc : ∀ W, (Z.sep Y).at_ w W → Calls Tryz.prog f args w fun e w' => e = .returned v ∧ Goes (A2.sep X2) W w w') : Calls Tryz.prog f args w fun e w' => e = .returned v ∧ Held w0 w' (sysT A X A2 X2 X' Y' R) :=
  (Held.call (Held.turn H) hc).mono fun e w' ⟨he, h⟩ => ⟨he, Held.turn h⟩
theorem Held.sysReadZ (H : Held w0 w (sysT A X Z Y X' Y' R)) {f : FuncId} {args : Array Value} {v : Value}
    (hc : ∀ W, (Z.sep Y).at_ w W → Calls Tryz.prog f args w fun e w' => e = .returned v ∧ Still w w') : Calls Tryz.prog f args w fun e w' => e = .returned v ∧ Held w0 w' (sysT A X Z Y X' Y' R) :=
  (Held.read (Held.turn H) hc).mono fun e w' ⟨he, h⟩ => ⟨he, Held.turn h⟩
/-- What the first two things are. -/
theorem Held.prog (h : Held w0 w (sysT A X Z Y X' Y' R)) : ∃ W, (A.sep X).at_ w W := by
  obtain ⟨W, ⟨W1, W2, h1, _⟩, _⟩ := h; exact ⟨W1, h1⟩
theorem Held.docu (h : Held w0 w (sysT A X Z Y X' Y' R)) : ∃ W, (Z.sep Y).at_ w W := Held.prog (Held.turn h)
end

/-- A new thing between one and nothing. -/
theorem Held.turn_none {w0 w w' : World} {A B : Thing} (h : Held w0 w (A.sep Thing.none)) (hB : ∃ W, B.at_ w' W ∧ Still w w' ∧ ∀ k, W k → w.heap.size ≤ k) : Held w0 w' ((A.sep B).sep Thing.none) := (Held.turn (h.new hB)).assoc'

/-- A thing more among what else lies there. -/
theorem sys_push {A X Z Y X' Y' R B : Thing} {w : World} {W : Nat → Prop} (h : ((sysT A X Z Y X' Y' R).sep B).at_ w W) : (sysT A X Z Y X' Y' (R.sep B)).at_ w W :=
  sys_ru (sep_assoc' (sep_mono id sep_swap (sep_assoc (sep_mono sys_ur id h))))
theorem Held.sysBox {w0 w : World} {A X Z Y X' Y' R : Thing} (h : Held w0 w (sysT A X Z Y X' Y' R)) (xs : List Value) (e : TypeId) : Held w0 (w.alloc (.cells xs.toArray e)) (sysT A X Z Y X' Y' (R.sep (blkT w.heap.size xs e))) := (h.box xs e).imp sys_push
theorem Held.sysNew {w0 w w' : World} {A X Z Y X' Y' R B : Thing} (h : Held w0 w (sysT A X Z Y X' Y' R)) (hB : ∃ W, B.at_ w' W ∧ Still w w' ∧ ∀ k, W k → w.heap.size ≤ k) : Held w0 w' (sysT A X Z Y X' Y' (R.sep B)) := (h.new hB).swap.imp sys_push
theorem Held.sysPop {w0 w : World} {A X Z Y X' Y' R B : Thing} (h : Held w0 w (sysT A X Z Y X' Y' (R.sep B))) : Held w0 w (sysT A X Z Y X' Y' R) := (Held.turn (Held.assoc h.sysR)).snd.sysOf
end Go.Proofs.YtbljjmehjkmjaaaGreat
