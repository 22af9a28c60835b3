/- Texts that lie next to one another, laid into one: each says what it holds. No condition but what each states. -/
import Derived.Test.YtmmkcfiecgpkpaaGreatBdAct
import Derived.Deep.RegionHeld3
import Derived.Deep.DeepCutAuto
import Derived.BigQuiet

/- What the statements' own 'made' makes. No condition but that the program's partitions and pool keep their words. -/
namespace Go.Proofs.YtmmkcfiecgpkpaaGreat
open Go.RowKit
set_option linter.unusedVariables false
set_option linter.unusedSimpArgs false
set_option maxRecDepth 100000

theorem sys_of {A X Z Y X' Y' T : Thing} {w : World} {W : Nat → Prop} (h : (T.sep (Y'.sep (X'.sep (Y.sep (X.sep (A.sep Z)))))).at_ w W) : (sysT A X Z Y X' Y' T).at_ w W := by
  have h1 : (T.sep (Y'.sep (X'.sep ((A.sep X).sep (Z.sep Y))))).at_ w W :=
    sep_mono id (sep_mono id (sep_mono id (fun h => sep_mono id sep_swap (sep_turn (sep_mono id (fun h => sep_assoc' (sep_turn h)) h))))) h
  have h2 : (T.sep ((A.sep X).sep ((Z.sep Y).sep (X'.sep Y')))).at_ w W :=
    sep_mono id (fun h => sep_mono id (fun h => sep_mono id sep_swap (sep_turn h)) (sep_turn (sep_mono id (fun h => sep_mono id sep_swap (sep_turn h)) h))) h1
  exact sep_mono id (fun h => sep_mono id (fun h => sep_assoc (sep_swap h)) (sep_turn h)) (sep_turn h2)
theorem Held.add {w0 w w' : World} {T R B : Thing} (h : Held w0 w (T.sep R)) (hB : ∃ W, B.at_ w' W ∧ Still w w' ∧ ∀ k, W k → w.heap.size ≤ k) : Held w0 w' (T.sep (B.sep R)) := Held.turn (h.new hB)
theorem Held.setT {w0 w : World} {R : Thing} {t : Nat} {xs : List Value} {e : TypeId} (h : Held w0 w ((blkT t xs e).sep R)) (o : Nat) (v : Value) : Held w0 (w.setCell ⟨t, o, none⟩ v) ((blkT t (xs.set o v) e).sep R) := by
  obtain ⟨Q, h1, h2⟩ := h.fst
  exact h2 _ _ (blkT_set h1 o v)

theorem sep_none {A : Thing} {w : World} {W : Nat → Prop} (h : (A.sep Thing.none).at_ w W) : A.at_ w W := by
  obtain ⟨W1, W2, h1, h2, _, hW⟩ := h
  have e : W = W1 := funext fun k => propext ((hW k).trans ⟨fun h => h.elim id (fun h => absurd h (h2 k)), .inl⟩)
  rw [e]; exact h1

abbrev ptr (b : Nat) : Value := .pointer (some ⟨b, 0, none⟩)

end Go.Proofs.YtmmkcfiecgpkpaaGreat
