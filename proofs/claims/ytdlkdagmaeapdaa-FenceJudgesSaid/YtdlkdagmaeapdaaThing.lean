/- Things that lie in memory, each with the blocks that are its own; several of them, apart from one another; and what a call that changes one of them leaves of the others. No condition. -/
import Derived.Test.YtdlkdagmaeapdaaOwn
namespace Go.Proofs.Ytdlkdagmaeapdaa
open Go.RowKit
set_option linter.unusedVariables false

/-- Something that lies in memory: in which worlds, with which blocks of its own. -/
structure Thing where
  at_ : World → (Nat → Prop) → Prop
  lt : ∀ {w : World} {W : Nat → Prop}, at_ w W → ∀ k, W k → k < w.heap.size
  keep : ∀ {w w' : World} {W S : Nat → Prop}, at_ w W → Turned S w w' → (∀ k, W k → ¬ S k) → at_ w' W

/-- What a call that changes one thing leaves: the thing as it is then, and nothing else that was there has turned. -/
def Goes (Q : Thing) (W : Nat → Prop) (w w' : World) : Prop := ∃ W', Q.at_ w' W' ∧ Turned W w w' ∧ ∀ k, W' k → W k ∨ w.heap.size ≤ k

theorem Goes.still {Q : Thing} {W : Nat → Prop} {w w' : World} (h : Q.at_ w W) (ht : Still w w') : Goes Q W w w' :=
  ⟨W, Q.keep h ht (fun _ _ h => h), ht.mono (fun _ _ h => h.elim), fun k hk => .inl hk⟩

theorem Goes.then {Q : Thing} {W : Nat → Prop} {w w' w2 : World} (h : Goes Q W w w') (ht : Still w' w2) : Goes Q W w w2 := by
  obtain ⟨W', h1, h2, h3⟩ := h
  exact ⟨W', Q.keep h1 ht (fun _ _ h => h), h2.past ht (fun _ h => h.elim), h3⟩
theorem Goes.drew {Q : Thing} {W : Nat → Prop} {w w' : World} (h : Goes Q W w w') : Goes Q W w w'.drew := h.then (Turned.refl _ _).drew

/-- Two things, apart. -/
def Thing.sep (A B : Thing) : Thing where
  at_ w W := ∃ W1 W2, A.at_ w W1 ∧ B.at_ w W2 ∧ (∀ k, W1 k → ¬ W2 k) ∧ ∀ k, W k ↔ W1 k ∨ W2 k
  lt := by
    rintro w W ⟨W1, W2, h1, h2, _, hW⟩ k hk
    rcases (hW k).1 hk with h | h
    · exact A.lt h1 k h
    · exact B.lt h2 k h
  keep := by
    rintro w w' W S ⟨W1, W2, h1, h2, hd, hW⟩ ht hs
    exact ⟨W1, W2, A.keep h1 ht (fun k hk => hs k ((hW k).2 (.inl hk))), B.keep h2 ht (fun k hk => hs k ((hW k).2 (.inr hk))), hd, hW⟩

/-- Nothing. -/
def Thing.none : Thing where
  at_ w W := ∀ k, ¬ W k
  lt := fun h k hk => (h k hk).elim
  keep := fun h _ _ => h

/-- A thing that was made since a world, and nothing that was there then has turned. -/
def Held (w0 w : World) (Q : Thing) : Prop := ∃ W, Q.at_ w W ∧ (∀ k, W k → w0.heap.size ≤ k) ∧ Still w0 w

theorem Held.ground {w0 w : World} {Q : Thing} (h : Held w0 w Q) : Still w0 w := by obtain ⟨W, _, _, h⟩ := h; exact h

theorem Held.still {w0 w w' : World} {Q : Thing} (h : Held w0 w Q) (ht : Still w w') : Held w0 w' Q := by
  obtain ⟨W, h1, h2, h3⟩ := h
  exact ⟨W, Q.keep h1 ht (fun _ _ h => h), h2, h3.trans ht⟩

theorem Held.start {w0 w : World} (ht : Still w0 w) : Held w0 w Thing.none := ⟨fun _ => False, fun _ h => h, fun _ h => h.elim, ht⟩

/-- The one thing that is held, and how to go on from what a call leaves of it. -/
theorem Held.use {w0 w : World} {A : Thing} (h : Held w0 w A) : ∃ W, A.at_ w W ∧ ∀ (A' : Thing) (w' : World), Goes A' W w w' → Held w0 w' A' := by
  obtain ⟨W, h1, h2, h3⟩ := h
  refine ⟨W, h1, fun A' w' ⟨W', g1, g2, g3⟩ => ⟨W', g1, fun k hk => ?_, h3.past g2 (fun i hi => .inr (h2 i hi))⟩⟩
  rcases g3 k hk with h | h
  · exact h2 k h
  · exact Nat.le_trans h3.size h

/-- The first of two things that are held, and how to go on. -/
theorem Held.fst {w0 w : World} {A B : Thing} (h : Held w0 w (A.sep B)) : ∃ W, A.at_ w W ∧ ∀ (A' : Thing) (w' : World), Goes A' W w w' → Held w0 w' (A'.sep B) := by
  obtain ⟨W, ⟨W1, W2, h1, h2, hd, hW⟩, hlo, h3⟩ := h
  refine ⟨W1, h1, fun A' w' ⟨W', g1, g2, g3⟩ => ?_⟩
  have hlo1 : ∀ k, W1 k → w0.heap.size ≤ k := fun k hk => hlo k ((hW k).2 (.inl hk))
  have hlo2 : ∀ k, W2 k → w0.heap.size ≤ k := fun k hk => hlo k ((hW k).2 (.inr hk))
  refine ⟨fun k => W' k ∨ W2 k, ⟨W', W2, g1, B.keep h2 g2 (fun k hk hk1 => hd k hk1 hk), fun k hk hk2 => ?_, fun k => Iff.rfl⟩, fun k hk => ?_, h3.past g2 (fun i hi => .inr (hlo1 i hi))⟩
  · rcases g3 k hk with h | h
    · exact hd k h hk2
    · have := B.lt h2 k hk2; omega
  · rcases hk with hk | hk
    · rcases g3 k hk with h | h
      · exact hlo1 k h
      · exact Nat.le_trans h3.size h
    · exact hlo2 k hk

theorem Held.swap {w0 w : World} {A B : Thing} (h : Held w0 w (A.sep B)) : Held w0 w (B.sep A) := by
  obtain ⟨W, ⟨W1, W2, h1, h2, hd, hW⟩, hlo, h3⟩ := h
  exact ⟨W, ⟨W2, W1, h2, h1, fun k hk hk' => hd k hk' hk, fun k => (hW k).trans or_comm⟩, hlo, h3⟩

theorem Held.assoc {w0 w : World} {A B C : Thing} (h : Held w0 w ((A.sep B).sep C)) : Held w0 w (A.sep (B.sep C)) := by
  obtain ⟨W, ⟨W12, W3, ⟨W1, W2, h1, h2, hd, hW⟩, h3, hd2, hW2⟩, hlo, ht⟩ := h
  refine ⟨W, ⟨W1, fun k => W2 k ∨ W3 k, h1, ⟨W2, W3, h2, h3, fun k hk => hd2 k ((hW k).2 (.inr hk)), fun k => Iff.rfl⟩, fun k hk hk' => ?_, fun k => ?_⟩, hlo, ht⟩
  · rcases hk' with h | h
    · exact hd k hk h
    · exact hd2 k ((hW k).2 (.inl hk)) h
  · rw [hW2, hW, or_assoc]

theorem Held.assoc' {w0 w : World} {A B C : Thing} (h : Held w0 w (A.sep (B.sep C))) : Held w0 w ((A.sep B).sep C) := (((h.swap).assoc.swap).assoc).swap

/-- The second goes first. -/
theorem Held.turn {w0 w : World} {A B C : Thing} (h : Held w0 w (A.sep (B.sep C))) : Held w0 w (B.sep (A.sep C)) := by
  obtain ⟨W, ⟨W1, W2, ⟨V1, V2, a1, a2, ad, aW⟩, h2, hd, hW⟩, hlo, ht⟩ := h.assoc'
  exact Held.assoc ⟨W, ⟨W1, W2, ⟨V2, V1, a2, a1, fun k hk hk' => ad k hk' hk, fun k => (aW k).trans or_comm⟩, h2, hd, hW⟩, hlo, ht⟩

/-- A new thing beside those that are held. -/
theorem Held.new {w0 w w' : World} {A B : Thing} (h : Held w0 w A) (hB : ∃ W, B.at_ w' W ∧ Still w w' ∧ ∀ k, W k → w.heap.size ≤ k) : Held w0 w' (B.sep A) := by
  obtain ⟨W, h1, h2, h3⟩ := h
  obtain ⟨V, b1, b2, b3⟩ := hB
  refine ⟨fun k => V k ∨ W k, ⟨V, W, b1, A.keep h1 b2 (fun _ _ h => h), fun k hk hk' => ?_, fun k => Iff.rfl⟩, fun k hk => ?_, h3.trans b2⟩
  · have := b3 k hk
    have := A.lt h1 k hk'
    omega
  · rcases hk with hk | hk
    · exact Nat.le_trans h3.size (b3 k hk)
    · exact h2 k hk

theorem Held.only {w0 w : World} {A : Thing} (h : Held w0 w (A.sep Thing.none)) : Held w0 w A := by
  obtain ⟨W, ⟨W1, W2, h1, h2, hd, hW⟩, hlo, ht⟩ := h
  exact ⟨W1, h1, fun k hk => hlo k ((hW k).2 (.inl hk)), ht⟩

theorem Held.drop {w0 w : World} {A B : Thing} (h : Held w0 w (A.sep B)) : Held w0 w A := by
  obtain ⟨W, ⟨W1, W2, h1, h2, hd, hW⟩, hlo, ht⟩ := h
  exact ⟨W1, h1, fun k hk => hlo k ((hW k).2 (.inl hk)), ht⟩

/-- A slice of one's own: elements of a type, one behind the other. -/
def ownT (e : TypeId) (m : Nat) (ao : Option Addr) (n cc : Nat) (xs : List Value) : Thing where
  at_ w W := w.ownsRow 0 e m (.slice ao n cc) n xs ∧ ∀ k, W k ↔ (Value.slice ao n cc).ownBlock = some k
  lt := by
    rintro w W ⟨h, hW⟩ k hk
    cases ao with
    | none => have := (hW k).1 hk; cases this
    | some a =>
      have e := (hW k).1 hk
      obtain rfl : a.block = k := by simpa [Value.ownBlock] using e
      exact (ow_lt h a rfl).2
  keep := by
    rintro w w' W S ⟨h, hW⟩ ht hs
    exact ⟨ow_turned h ht (fun b hb => hs b ((hW b).2 hb)), hW⟩

/-- What append leaves of it. -/
theorem ownT_grown {e : TypeId} {m : Nat} {ao a' : Option Addr} {n cc n' c' : Nat} {xs ys : List Value} {W : Nat → Prop} {w w' : World} {o : Obj} (h : (ownT e m ao n cc xs).at_ w W)
    (hown : w'.ownsRow 0 e m (.slice a' n' c') n' ys) (hg : (w.alloc o).grownBy w' (Value.slice ao n cc).ownBlock)
    (hat : (Value.slice a' n' c').ownBlock = (Value.slice ao n cc).ownBlock ∨ (Value.slice a' n' c').ownBlock = some (w.alloc o).heap.size) : Goes (ownT e m a' n' c' ys) W w w' := by
  obtain ⟨h1, hW⟩ := h
  refine ⟨fun k => (Value.slice a' n' c').ownBlock = some k, ⟨hown, fun k => Iff.rfl⟩, ((Turned.refl W w).alloc o).grown hg (fun k hk => .inl ((hW k).2 hk)), fun k hk => ?_⟩
  rcases hat with h | h
  · exact .inl ((hW k).2 (h ▸ hk))
  · rw [h] at hk
    have : (w.alloc o).heap.size = k := by simpa using hk
    exact .inr (by rw [← this]; simp)

/-- A new, empty one. -/
theorem ownT_new (w : World) (e : TypeId) (m : Nat) : ∃ W, (ownT e m (some ⟨w.heap.size, 0, none⟩) 0 0 []).at_ (w.alloc (.cells #[] e)) W ∧ Still w (w.alloc (.cells #[] e)) ∧ ∀ k, W k → w.heap.size ≤ k :=
  ⟨fun k => w.heap.size = k, ⟨World.ownsRow_made w #[] 0 (Nat.zero_le _) (by simp) (by simp), fun k => by simp [Value.ownBlock]⟩, (Turned.refl _ _).alloc _, fun k hk => Nat.le_of_eq hk⟩

/-- A block, known whole, of one's own. -/
def blkT (b : Nat) (xs : List Value) (e : TypeId) : Thing where
  at_ w W := Blk w b xs e ∧ ∀ k, W k ↔ k = b
  lt := by rintro w W ⟨h, hW⟩ k hk; rw [(hW k).1 hk]; exact h.lt
  keep := by rintro w w' W S ⟨h, hW⟩ ht hs; exact ⟨h.turned ht (hs b ((hW b).2 rfl)), hW⟩

/-- A thing, and numbers that can be read as long as it stays: they lie in its memory, or beside it. -/
def numsT (A : Thing) (ao : Option Addr) (l : List Int) : Thing where
  at_ w W := (∃ W1, A.at_ w W1 ∧ ∀ k, W1 k → W k) ∧ (∀ k, W k → k < w.heap.size) ∧ NumsAt w ao l ∧ ∀ x, ao = some x → l ≠ [] → W x.block
  lt := fun h => h.2.1
  keep := by
    rintro w w' W S ⟨⟨W1, h1, h2⟩, h3, h4, h5⟩ ht hs
    refine ⟨⟨W1, A.keep h1 ht (fun k hk => hs k (h2 k hk)), h2⟩, fun k hk => Nat.lt_of_lt_of_le (h3 k hk) ht.size, ?_, h5⟩
    by_cases hl : l = []
    · subst hl; exact NumsAt.nil _ _
    · exact h4.turned ht (fun a ha => hs _ (h5 a ha hl))
theorem goes_nums {A : Thing} {a : Option Addr} {n c : Nat} {l : List Int} {W : Nat → Prop} {w w' : World} (h : Goes (A.sep (ownT 3 1 a n c (ints l))) W w w') : Goes (numsT A a l) W w w' := by
  obtain ⟨W', ⟨W1, W2, h1, ⟨h2, h2'⟩, hd, hW⟩, ht, hg⟩ := h
  have hn : n = l.length := by have := h2.1; rw [ints_length, Nat.mul_one] at this; exact this.symm
  have hlt : ∀ k, W' k → k < w'.heap.size := fun k hk => by
    rcases (hW k).1 hk with h | h
    · exact A.lt h1 k h
    · exact (ownT 3 1 a n c (ints l)).lt ⟨h2, h2'⟩ k h
  refine ⟨W', ⟨⟨W1, h1, fun k hk => (hW k).2 (.inl hk)⟩, hlt, NumsAt.of_own h2 hn, fun x hx _ => (hW _).2 (.inr ((h2' _).2 (by rw [hx]; rfl)))⟩, ht, hg⟩
theorem Held.nums {w0 w : World} {A R : Thing} {a : Option Addr} {l : List Int} (h : Held w0 w ((numsT A a l).sep R)) : NumsAt w a l := by
  obtain ⟨W, ⟨W1, W2, h1, _⟩, _⟩ := h
  exact h1.2.2.1
theorem Held.unnum {w0 w : World} {A R : Thing} {a : Option Addr} {l : List Int} (h : Held w0 w ((numsT A a l).sep R)) : Held w0 w (A.sep R) := by
  obtain ⟨W, ⟨W1, W2, ⟨⟨V, h1, h2⟩, _⟩, h3, hd, hW⟩, hlo, ht⟩ := h
  refine ⟨fun k => V k ∨ W2 k, ⟨V, W2, h1, h3, fun k hk => hd k (h2 k hk), fun k => Iff.rfl⟩, fun k hk => ?_, ht⟩
  rcases hk with hk | hk
  · exact hlo k ((hW k).2 (.inl (h2 k hk)))
  · exact hlo k ((hW k).2 (.inr hk))
end Go.Proofs.Ytdlkdagmaeapdaa
