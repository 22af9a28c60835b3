/- Things that are held: calls that change one of them, or only read; slices of one's own beside them. No condition. -/
import Derived.Test.YtdlkdagmaeapdaaThing
import Derived.Test.YtdlkdagmaeapdaaBase
namespace Go.Proofs.Ytdlkdagmaeapdaa
open Go.RowKit
set_option linter.unusedVariables false

/-- A call that changes the first of two things that are held. -/
theorem Held.call {w0 w : World} {A R A' : Thing} (H : Held w0 w (A.sep R)) {f : FuncId} {args : Array Value} {v : Value}
    (hc : ∀ W, A.at_ w W → Calls Try.prog f args w fun e w' => e = .returned v ∧ Goes A' W w w') : Calls Try.prog f args w fun e w' => e = .returned v ∧ Held w0 w' (A'.sep R) := by
  obtain ⟨W, h1, h2⟩ := H.fst
  exact (hc W h1).mono fun e w' ⟨he, hg⟩ => ⟨he, h2 _ _ hg⟩
/-- A call that only reads the first. -/
theorem Held.read {w0 w : World} {A R : Thing} (H : Held w0 w (A.sep R)) {f : FuncId} {args : Array Value} {v : Value}
    (hc : ∀ W, A.at_ w W → Calls Try.prog f args w fun e w' => e = .returned v ∧ Still w w') : Calls Try.prog f args w fun e w' => e = .returned v ∧ Held w0 w' (A.sep R) := by
  obtain ⟨W, h1, h2⟩ := H.fst
  exact (hc W h1).mono fun e w' ⟨he, hg⟩ => ⟨he, H.still hg⟩

/-- Bytes of one's own: told of by a base. -/
theorem ownT_ints {w : World} {W : Nat → Prop} {ao : Option Addr} {n cc : Nat} {l : List Int} (h : (ownT 3 1 ao n cc (ints l)).at_ w W) (hn : n = l.length) : NumsAt w ao l := NumsAt.of_own h.1 hn
theorem Held.ints {w0 w : World} {A : Thing} {ao : Option Addr} {n cc : Nat} {l : List Int} (H : Held w0 w (A.sep (ownT 3 1 ao n cc (ints l)))) (hn : n = l.length) : NumsAt w ao l := by
  obtain ⟨W, ⟨W1, W2, _, h2, _, _⟩, _, _⟩ := H
  exact ownT_ints h2 hn
theorem Held.own {w0 w : World} {A : Thing} {e : TypeId} {m : Nat} {ao : Option Addr} {n cc : Nat} {xs : List Value} (H : Held w0 w (A.sep (ownT e m ao n cc xs))) : w.ownsRow 0 e m (.slice ao n cc) n xs := by
  obtain ⟨W, ⟨W1, W2, _, h2, _, _⟩, _, _⟩ := H
  exact h2.1
/-- append to one's own, the second of what is held. -/
theorem Held.grown {w0 w w' : World} {A : Thing} {e : TypeId} {m : Nat} {ao a' : Option Addr} {n cc n' c' : Nat} {xs ys : List Value} {o : Obj} (H : Held w0 w (A.sep (ownT e m ao n cc xs)))
    (hown : w'.ownsRow 0 e m (.slice a' n' c') n' ys) (hg : (w.alloc o).grownBy w' (Value.slice ao n cc).ownBlock)
    (hat : (Value.slice a' n' c').ownBlock = (Value.slice ao n cc).ownBlock ∨ (Value.slice a' n' c').ownBlock = some (w.alloc o).heap.size) : Held w0 w' (A.sep (ownT e m a' n' c' ys)) := by
  obtain ⟨W, h1, h2⟩ := H.swap.fst
  exact (h2 _ _ (ownT_grown h1 hown hg hat)).swap
theorem Held.new2 {w0 w : World} {A : Thing} (H : Held w0 w A) (e : TypeId) (m : Nat) : Held w0 (w.alloc (.cells #[] e)) (A.sep (ownT e m (some ⟨w.heap.size, 0, none⟩) 0 0 [])) := (H.new (ownT_new w e m)).swap

/-- A slice of one's own that a call handed out. -/
theorem Held.got {w0 w w' : World} {A : Thing} (H : Held w0 w A) {e : TypeId} {m : Nat} {a : Option Addr} {n c : Nat} {xs : List Value} (hown : w'.ownsRow w.heap.size e m (.slice a n c) n xs) (hT : Still w w') : Held w0 w' (A.sep (ownT e m a n c xs)) := by
  refine (H.new (B := ownT e m a n c xs) ⟨fun k => (Value.slice a n c).ownBlock = some k, ⟨ow_base hown (Nat.zero_le _), fun k => Iff.rfl⟩, hT, fun k hk => ?_⟩).swap
  cases a with
  | none => cases hk
  | some x => have := (ow_lt hown x rfl).1
              have e : x.block = k := by simpa [Value.ownBlock] using hk
              omega

theorem Held.snd {w0 w : World} {A B : Thing} (h : Held w0 w (A.sep B)) : Held w0 w B := h.swap.drop
/-- What stands of the second stands of it beside the first. -/
theorem Held.under {w0 w : World} {A B B' : Thing} (h : Held w0 w (A.sep B)) (hB : Held w0 w B → ∀ W, B.at_ w W → ∃ W', B'.at_ w W' ∧ ∀ k, W' k → W k) : Held w0 w (A.sep B') := by
  have hb := h.snd
  obtain ⟨W, ⟨W1, W2, h1, h2, hd, hW⟩, hlo, ht⟩ := h
  obtain ⟨W', g1, g2⟩ := hB hb W2 h2
  exact ⟨fun k => W1 k ∨ W' k, ⟨W1, W', h1, g1, fun k hk hk' => hd k hk (g2 k hk'), fun k => Iff.rfl⟩, fun k hk => hlo k ((hW k).2 (hk.imp id (g2 k))), ht⟩
theorem sep_assoc {w : World} {W : Nat → Prop} {A B C : Thing} (h : ((A.sep B).sep C).at_ w W) : (A.sep (B.sep C)).at_ w W := by
  obtain ⟨W12, W3, ⟨W1, W2, h1, h2, hd, hW⟩, h3, hd2, hW2⟩ := h
  refine ⟨W1, fun k => W2 k ∨ W3 k, h1, ⟨W2, W3, h2, h3, fun k hk => hd2 k ((hW k).2 (.inr hk)), fun k => Iff.rfl⟩, fun k hk hk' => ?_, fun k => ?_⟩
  · rcases hk' with h | h
    · exact hd k hk h
    · exact hd2 k ((hW k).2 (.inl hk)) h
  · rw [hW2, hW, or_assoc]
/-- A new one goes to the end of three. -/
theorem Held.push {w0 w : World} {A B C D : Thing} (h : Held w0 w ((A.sep (B.sep C)).sep D)) : Held w0 w (A.sep (B.sep (C.sep D))) :=
  h.assoc.under (fun _ W hW => ⟨W, sep_assoc hW, fun _ h => h⟩)
/-- The last of four is let go. -/
theorem Held.pop {w0 w : World} {A B C D : Thing} (h : Held w0 w (A.sep (B.sep (C.sep D)))) : Held w0 w (A.sep (B.sep C)) :=
  h.under (fun _ W hW => by
    obtain ⟨W1, W2, h1, ⟨V1, V2, v1, v2, vd, vW⟩, hd, hW⟩ := hW
    exact ⟨fun k => W1 k ∨ V1 k, ⟨W1, V1, h1, v1, fun k hk hk' => hd k hk ((vW k).2 (.inl hk')), fun k => Iff.rfl⟩, fun k hk => (hW k).2 (hk.imp id (fun h => (vW k).2 (.inl h)))⟩)
/-- The last of four. -/
theorem Held.last {w0 w : World} {A B C D : Thing} (h : Held w0 w (A.sep (B.sep (C.sep D)))) : Held w0 w D := h.snd.snd.snd
/-- The third of four, as the second of two. -/
theorem Held.third {w0 w : World} {A B C : Thing} (h : Held w0 w (A.sep (B.sep C))) : Held w0 w ((A.sep B).sep C) := h.assoc'

theorem Held.blk {w0 w : World} {b : Nat} {xs : List Value} {e : TypeId} (h : Held w0 w (blkT b xs e)) : Blk w b xs e := by obtain ⟨W, h, _⟩ := h; exact h.1
theorem Held.box {w0 w : World} {A : Thing} (h : Held w0 w A) (xs : List Value) (e : TypeId) : Held w0 (w.alloc (.cells xs.toArray e)) (A.sep (blkT w.heap.size xs e)) :=
  (h.new (B := blkT w.heap.size xs e) ⟨fun k => k = w.heap.size, ⟨Blk.new w xs e, fun k => Iff.rfl⟩, (Turned.refl _ _).alloc _, fun k hk => by omega⟩).swap

/-- A store into one's own. -/
theorem ownT_set {e : TypeId} {g n c : Nat} {xs : List Value} {W : Nat → Prop} {w : World} (h : (ownT e 1 (some ⟨g, 0, none⟩) n c xs).at_ w W) (k : Nat) (hk : k < n) (v : Value) :
    Goes (ownT e 1 (some ⟨g, 0, none⟩) n c (xs.set k v)) W w (w.setCell ⟨g, k, none⟩ v) := by
  obtain ⟨ho, hW⟩ := h
  have hWg : W g := (hW g).2 rfl
  refine ⟨W, ⟨?_, hW⟩, (Turned.refl W w).setCell (p := ⟨g, k, none⟩) (.inl hWg) v, fun i hi => .inl hi⟩
  obtain ⟨h1, h2⟩ := ho
  refine ⟨by simpa using h1, ?_⟩
  rcases h2 with ⟨h2, _⟩ | ⟨g', cap, cur, e0, hb, hg, h3, h4, h5, h6⟩
  · cases h2
  · cases e0
    refine .inr ⟨g, c, cur.setIfInBounds k v, rfl, hb, ?_, h3, h4, by simpa using h5, ?_⟩
    · simp only [World.setCell]
      rw [Array.getElem?_modify]
      simp [hg]
    · rw [Nat.mul_one] at h6 ⊢
      rw [Array.toList_setIfInBounds, List.take_set, h6]
theorem ownT_cell {w0 w : World} {e : TypeId} {ao : Option Addr} {n c : Nat} {xs : List Value} (h : Held w0 w (ownT e 1 ao n c xs)) {k : Nat} (hk : k < n) : ∃ g, ao = some ⟨g, 0, none⟩ ∧ (∃ u, w.cell? ⟨g, k, none⟩ = some u) ∧ w.frozen? ⟨g, k, none⟩ = false := by
  obtain ⟨W, ⟨ho, _⟩, _, _⟩ := h
  obtain ⟨g, r, rfl, _, hb⟩ := ow_blk ho (by omega)
  have hl := ho.1
  rw [Nat.mul_one] at hl
  obtain ⟨u, hu⟩ := get_some (l := xs) (i := k) (by omega)
  exact ⟨g, rfl, ⟨u, hb.cell (by rw [List.getElem?_append_left (by omega)]; exact hu)⟩, hb.free k⟩
end Go.Proofs.Ytdlkdagmaeapdaa
