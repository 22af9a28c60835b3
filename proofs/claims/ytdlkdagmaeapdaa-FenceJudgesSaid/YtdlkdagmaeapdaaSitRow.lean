/- A box whose field holds a row of one's own: append into it, a store into the row, another row in its place. No condition. -/
import Derived.Test.YtdlkdagmaeapdaaSit
import Derived.Test.YtdlkdagmaeapdaaAllT
import Derived.Test.YtdlkdagmaeapdaaRowM
namespace Go.Proofs.Ytdlkdagmaeapdaa
open Go.RowKit
set_option linter.unusedVariables false

section
variable {Q0 : Nat → Prop} {w0 V w6 : World} {b i : Nat} {bx : List Value} {eb e : TypeId} {m : Nat} {a a' : Option Addr} {n c n' c' : Nat} {xs ys : List Value} {R : Thing}
theorem blkS_set {W : Nat → Prop} {w : World} {o : Nat} (h : (blkT b bx eb).at_ w W) (v : Value) : Goes (blkT b (bx.set o v) eb) W w (w.setCell ⟨b, o, none⟩ v) := by
  obtain ⟨hb, hW⟩ := h
  exact ⟨W, ⟨by have := hb.set o v; simpa using this, hW⟩, (Turned.refl W w).setCell (p := ⟨b, o, none⟩) (.inl ((hW b).2 rfl)) _, fun _ h => .inl h⟩
theorem ownM_set {W : Nat → Prop} {w : World} {g j : Nat} (h : (ownT e m (some ⟨g, 0, none⟩) n c xs).at_ w W) (hj : j < xs.length) (v : Value) : Goes (ownT e m (some ⟨g, 0, none⟩) n c (xs.set j v)) W w (w.setCell ⟨g, j, none⟩ v) := by
  obtain ⟨ho, hW⟩ := h
  exact ⟨W, ⟨owm_set ho hj v, hW⟩, (Turned.refl W w).setCell (p := ⟨g, j, none⟩) (.inl ((hW g).2 rfl)) _, fun _ h => .inl h⟩
/-- What append leaves, stored into the field. -/
theorem sit_app {o : Obj} (H : Sit Q0 w0 V ((blkT b bx eb).sep ((ownT e m a n c xs).sep R))) (hi : bx[i]? = some (.slice a n c)) (hown : w6.ownsRow 0 e m (.slice a' n' c') n' ys)
    (hg : (V.alloc o).grownBy w6 (Value.slice a n c).ownBlock) (hat : (Value.slice a' n' c').ownBlock = (Value.slice a n c).ownBlock ∨ (Value.slice a' n' c').ownBlock = some (V.alloc o).heap.size) :
    w6.cell? ⟨b, i, none⟩ = some (.slice a n c) ∧ w6.frozen? ⟨b, i, none⟩ = false ∧ Hid (Sit Q0 w0 (w6.setCell ⟨b, i, none⟩ (.slice a' n' c')) ((blkT b (bx.set i (.slice a' n' c')) eb).sep ((ownT e m a' n' c' ys).sep R))) := by
  obtain ⟨U, h1, h2⟩ := H.turn.fst
  have H3 := (h2 _ _ (ownT_grown h1 hown hg hat)).turn
  obtain ⟨U2, h4, h3⟩ := H3.fst
  exact ⟨h4.1.cell hi, h4.1.free _, Lib.hid (h3 _ _ (blkS_set h4 _))⟩
/-- A store into the row. -/
theorem sit_put {g j : Nat} {u : Value} (H : Sit Q0 w0 V ((blkT b bx eb).sep ((ownT e m (some ⟨g, 0, none⟩) n c xs).sep R))) (hj : xs[j]? = some u) (v : Value) :
    V.cell? ⟨g, j, none⟩ = some u ∧ V.frozen? ⟨g, j, none⟩ = false ∧ Hid (Sit Q0 w0 (V.setCell ⟨g, j, none⟩ v) ((blkT b bx eb).sep ((ownT e m (some ⟨g, 0, none⟩) n c (xs.set j v)).sep R))) := by
  obtain ⟨U, h1, h2⟩ := H.turn.fst
  exact ⟨(owm_cell h1.1 hj).1, (owm_cell h1.1 hj).2, Lib.hid (h2 _ _ (ownM_set h1 (List.getElem?_eq_some_iff.1 hj).1 v)).turn⟩
/-- Another row of one's own, that lies beside, comes into the field. -/
theorem sit_row {o : Nat} {v : Value} (H : Sit Q0 w0 V ((blkT b bx eb).sep R)) (ho : bx[o]? = some v) (u : Value) :
    V.cell? ⟨b, o, none⟩ = some v ∧ V.frozen? ⟨b, o, none⟩ = false ∧ Hid (Sit Q0 w0 (V.setCell ⟨b, o, none⟩ u) ((blkT b (bx.set o u) eb).sep R)) := by
  obtain ⟨U, h1, h2⟩ := H.fst
  exact ⟨h1.1.cell ho, h1.1.free _, Lib.hid (h2 _ _ (blkS_set h1 _))⟩
end
end Go.Proofs.Ytdlkdagmaeapdaa
