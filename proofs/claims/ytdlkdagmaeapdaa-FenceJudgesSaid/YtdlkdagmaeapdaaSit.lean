/- What has come of things since a call began: the call's own walk over several of them. No condition. -/
import Derived.Test.YtdlkdagmaeapdaaHeld
import Derived.Test.YtdlkdagmaeapdaaIter
namespace Go.Proofs.Ytdlkdagmaeapdaa
open Go.RowKit
set_option linter.unusedVariables false

/-- A thing that lies in memory, with blocks that were there when a call began, or new ones; nothing else has turned. -/
def Sit (Q0 : Nat → Prop) (w0 w : World) (A : Thing) : Prop := ∃ Q, A.at_ w Q ∧ Since Q0 w0 Q w

section
variable {Q0 : Nat → Prop} {w0 w w' : World} {A B C D R A' : Thing}
theorem Sit.start {Q : Nat → Prop} (h : A.at_ w Q) : Sit Q w w A := ⟨Q, h, Since.refl _ _⟩
theorem Sit.goes (h : Sit Q0 w0 w A) : Goes A Q0 w0 w := by obtain ⟨Q, h1, h2⟩ := h; exact h2.goes h1
theorem Sit.size (h : Sit Q0 w0 w A) : w0.heap.size ≤ w.heap.size := by obtain ⟨Q, h1, h2⟩ := h; exact h2.turn.size
theorem Sit.turned (h : Sit Q0 w0 w A) : Turned Q0 w0 w := by obtain ⟨Q, h1, h2⟩ := h; exact h2.turn
theorem Sit.still (h : Sit Q0 w0 w A) (ht : Still w w') : Sit Q0 w0 w' A := by
  obtain ⟨Q, h1, h2⟩ := h
  exact ⟨Q, A.keep h1 ht (fun _ _ h => h), h2.trans ⟨ht.mono (fun _ _ h => h.elim), fun _ h => .inl h⟩⟩
theorem Sit.use (h : Sit Q0 w0 w A) : ∃ W, A.at_ w W ∧ ∀ (A' : Thing) (w' : World), Goes A' W w w' → Sit Q0 w0 w' A' := by
  obtain ⟨Q, h1, h2⟩ := h
  exact ⟨Q, h1, fun A' w' hg => by obtain ⟨Q', g1, g2⟩ := hg.since; exact ⟨Q', g1, h2.trans g2⟩⟩
/-- A call on one of two things, as a call on both. -/
theorem goes_fst {W : Nat → Prop} (h : (A.sep B).at_ w W) : ∃ W1, A.at_ w W1 ∧ (∀ k, W1 k → W k) ∧ ∀ (A' : Thing) (w' : World), Goes A' W1 w w' → Goes (A'.sep B) W w w' := by
  obtain ⟨W1, W2, h1, h2, hd, hW⟩ := h
  refine ⟨W1, h1, fun k hk => (hW k).2 (.inl hk), fun A' w' ⟨W', g1, g2, g3⟩ => ?_⟩
  refine ⟨fun k => W' k ∨ W2 k, ⟨W', W2, g1, B.keep h2 g2 (fun k hk hk1 => hd k hk1 hk), fun k hk hk2 => ?_, fun k => Iff.rfl⟩, g2.mono (fun k _ hk => (hW k).2 (.inl hk)), fun k hk => ?_⟩
  · rcases g3 k hk with h | h
    · exact hd k h hk2
    · have := B.lt h2 k hk2; omega
  · rcases hk with hk | hk
    · exact (g3 k hk).imp (fun h => (hW k).2 (.inl h)) id
    · exact .inl ((hW k).2 (.inr hk))
theorem sep_swap {W : Nat → Prop} (h : (A.sep B).at_ w W) : (B.sep A).at_ w W := by
  obtain ⟨W1, W2, h1, h2, hd, hW⟩ := h
  exact ⟨W2, W1, h2, h1, fun k hk hk' => hd k hk' hk, fun k => (hW k).trans or_comm⟩
theorem sep_assoc' {W : Nat → Prop} (h : (A.sep (B.sep C)).at_ w W) : ((A.sep B).sep C).at_ w W := sep_swap (sep_assoc (sep_swap (sep_assoc (sep_swap h))))
theorem sep_turn {W : Nat → Prop} (h : (A.sep (B.sep C)).at_ w W) : (B.sep (A.sep C)).at_ w W := by
  obtain ⟨W1, W2, h1, ⟨V1, V2, v1, v2, vd, vW⟩, hd, hW⟩ := h
  refine ⟨V1, fun k => W1 k ∨ V2 k, v1, ⟨W1, V2, h1, v2, fun k hk hk' => hd k hk ((vW k).2 (.inr hk')), fun k => Iff.rfl⟩, fun k hk hk' => ?_, fun k => ?_⟩
  · rcases hk' with h | h
    · exact hd k h ((vW k).2 (.inl hk))
    · exact vd k hk h
  · rw [hW, vW]
    constructor
    · rintro (h | h | h)
      · exact .inr (.inl h)
      · exact .inl h
      · exact .inr (.inr h)
    · rintro (h | h | h)
      · exact .inr (.inl h)
      · exact .inl h
      · exact .inr (.inr h)
theorem Goes.turn {W : Nat → Prop} (h : Goes A W w w') (f : ∀ {w : World} {W : Nat → Prop}, A.at_ w W → B.at_ w W) : Goes B W w w' := by
  obtain ⟨W', h1, h2, h3⟩ := h; exact ⟨W', f h1, h2, h3⟩
theorem Sit.imp (h : Sit Q0 w0 w A) (f : ∀ {w : World} {W : Nat → Prop}, A.at_ w W → B.at_ w W) : Sit Q0 w0 w B := by
  obtain ⟨Q, h1, h2⟩ := h; exact ⟨Q, f h1, h2⟩
theorem Sit.fst (h : Sit Q0 w0 w (A.sep B)) : ∃ W, A.at_ w W ∧ ∀ (A' : Thing) (w' : World), Goes A' W w w' → Sit Q0 w0 w' (A'.sep B) := by
  obtain ⟨W, h1, h2⟩ := h.use
  obtain ⟨W1, g1, _, g2⟩ := goes_fst h1
  exact ⟨W1, g1, fun A' w' hg => h2 _ _ (g2 A' w' hg)⟩
theorem Sit.swap (h : Sit Q0 w0 w (A.sep B)) : Sit Q0 w0 w (B.sep A) := h.imp sep_swap
theorem Sit.assoc (h : Sit Q0 w0 w ((A.sep B).sep C)) : Sit Q0 w0 w (A.sep (B.sep C)) := h.imp sep_assoc
theorem Sit.assoc' (h : Sit Q0 w0 w (A.sep (B.sep C))) : Sit Q0 w0 w ((A.sep B).sep C) := h.imp sep_assoc'
theorem Sit.turn (h : Sit Q0 w0 w (A.sep (B.sep C))) : Sit Q0 w0 w (B.sep (A.sep C)) := h.imp sep_turn
theorem Sit.drop (h : Sit Q0 w0 w (A.sep B)) : Sit Q0 w0 w A := by
  obtain ⟨Q, ⟨W1, W2, h1, h2, hd, hW⟩, hs⟩ := h
  exact ⟨W1, h1, hs.turn, fun k hk => hs.grow k ((hW k).2 (.inl hk))⟩
theorem Sit.snd (h : Sit Q0 w0 w (A.sep B)) : Sit Q0 w0 w B := h.swap.drop
theorem Sit.call (H : Sit Q0 w0 w (A.sep R)) {f : FuncId} {args : Array Value} {v : Value}
    (hc : ∀ W, A.at_ w W → Calls Try.prog f args w fun e w' => e = .returned v ∧ Goes A' W w w') : Calls Try.prog f args w fun e w' => e = .returned v ∧ Sit Q0 w0 w' (A'.sep R) := by
  obtain ⟨W, h1, h2⟩ := H.fst
  exact (hc W h1).mono fun e w' ⟨he, hg⟩ => ⟨he, h2 _ _ hg⟩
theorem Sit.read (H : Sit Q0 w0 w (A.sep R)) {f : FuncId} {args : Array Value} {v : Value}
    (hc : ∀ W, A.at_ w W → Calls Try.prog f args w fun e w' => e = .returned v ∧ Still w w') : Calls Try.prog f args w fun e w' => e = .returned v ∧ Sit Q0 w0 w' (A.sep R) := by
  obtain ⟨W, h1, h2⟩ := H.fst
  exact (hc W h1).mono fun e w' ⟨he, hg⟩ => ⟨he, H.still hg⟩
/-- A new thing beside. -/
theorem Sit.new (h : Sit Q0 w0 w A) (hB : ∃ W, B.at_ w' W ∧ Still w w' ∧ ∀ k, W k → w.heap.size ≤ k) : Sit Q0 w0 w' (A.sep B) := by
  obtain ⟨W, h1, h2⟩ := h
  obtain ⟨V, b1, b2, b3⟩ := hB
  refine ⟨fun k => W k ∨ V k, ⟨W, V, A.keep h1 b2 (fun _ _ h => h), b1, fun k hk hk' => ?_, fun k => Iff.rfl⟩, h2.turn.past b2 (fun _ h => h.elim), fun k hk => ?_⟩
  · have := b3 k hk'
    have := A.lt h1 k hk
    omega
  · rcases hk with hk | hk
    · exact h2.grow k hk
    · exact .inr (Nat.le_trans h2.turn.size (b3 k hk))
/-- A new block beside. -/
theorem Sit.box (h : Sit Q0 w0 w A) (xs : List Value) (e : TypeId) : Sit Q0 w0 (w.alloc (.cells xs.toArray e)) (A.sep (blkT w.heap.size xs e)) :=
  h.new (B := blkT w.heap.size xs e) ⟨fun k => k = w.heap.size, ⟨Blk.new w xs e, fun k => Iff.rfl⟩, (Turned.refl _ _).alloc _, fun k hk => by omega⟩
end
end Go.Proofs.Ytdlkdagmaeapdaa
