/- Things one behind the other, as many as a list tells, apart from one another: one of them picked out, and laid back. No condition. -/
import Derived.Test.YtdlkdagmaeapdaaSit
namespace Go.Proofs.Ytdlkdagmaeapdaa
open Go.RowKit
set_option linter.unusedVariables false

def allT {α : Type} (F : α → Thing) : List α → Thing
  | [] => Thing.none
  | a :: l => (F a).sep (allT F l)

section
variable {α β : Type} {F : α → Thing} {w w' w0 : World} {W Q0 : Nat → Prop} {A B C R : Thing}
theorem sep_imp2 {A A' B B' : Thing} (f : ∀ {w : World} {W : Nat → Prop}, A.at_ w W → A'.at_ w W) (g : ∀ {w : World} {W : Nat → Prop}, B.at_ w W → B'.at_ w W) (h : (A.sep B).at_ w W) : (A'.sep B').at_ w W := by
  obtain ⟨W1, W2, h1, h2, hd, hW⟩ := h
  exact ⟨W1, W2, f h1, g h2, hd, hW⟩
theorem all_pick : ∀ {l : List α} {i : Nat} {a : α} {w : World} {W : Nat → Prop}, l[i]? = some a → (allT F l).at_ w W → ((F a).sep (allT F (l.eraseIdx i))).at_ w W
  | [], i, a, w, W, h, _ => by simp at h
  | b :: l, 0, a, w, W, h, k => by
    obtain rfl : b = a := by simpa using h
    exact k
  | b :: l, i + 1, a, w, W, h, k =>
    sep_turn (sep_imp2 (fun h => h) (fun k => all_pick (l := l) (i := i) (a := a) (by simpa using h) k) k)
theorem all_put : ∀ {l : List α} {i : Nat} {a : α} {w : World} {W : Nat → Prop}, i < l.length → ((F a).sep (allT F (l.eraseIdx i))).at_ w W → (allT F (l.set i a)).at_ w W
  | [], i, a, w, W, h, _ => by simp at h
  | b :: l, 0, a, w, W, h, k => k
  | b :: l, i + 1, a, w, W, h, k =>
    sep_imp2 (fun h => h) (fun k => all_put (l := l) (i := i) (a := a) (by simpa using h) k) (sep_turn k)
theorem all_app : ∀ {l l' : List α} {w : World} {W : Nat → Prop}, ((allT F l').sep (allT F l)).at_ w W → (allT F (l ++ l')).at_ w W
  | [], l', w, W, h => by
    obtain ⟨W1, W2, h1, h2, _, hW⟩ := h
    have e : W = W1 := funext fun k => propext ((hW k).trans ⟨fun h => h.elim id (fun h => absurd h (h2 k)), .inl⟩)
    rw [e]; exact h1
  | b :: l, l', w, W, h => sep_imp2 (fun h => h) (fun k => all_app k) (sep_turn h)
theorem all_snoc {l : List α} {a : α} (h : ((F a).sep (allT F l)).at_ w W) : (allT F (l ++ [a])).at_ w W :=
  all_app (sep_imp2 (fun h => by
    rename_i V U
    exact ⟨U, fun _ => False, h, fun _ h => h, fun _ _ h => h, fun k => ⟨.inl, fun h => h.elim id (fun h => h.elim)⟩⟩) (fun h => h) h)
/-- What each of them is turned into. -/
theorem all_imp {G : β → Thing} (g : α → β) (f : ∀ a {w : World} {W : Nat → Prop}, (F a).at_ w W → (G (g a)).at_ w W) : ∀ {l : List α} {w : World} {W : Nat → Prop}, (allT F l).at_ w W → (allT G (l.map g)).at_ w W
  | [], w, W, h => h
  | a :: l, w, W, h => sep_imp2 (fun h => f a h) (fun h => all_imp g f h) h
end
end Go.Proofs.Ytdlkdagmaeapdaa
