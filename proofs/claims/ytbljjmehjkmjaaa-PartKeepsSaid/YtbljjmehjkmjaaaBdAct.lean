import Derived.Test.YtbljjmehjkmjaaaPtWorks
import Derived.Test.YtbljjmehjkmjaaaReadInts
import Derived.Test.YtbljjmehjkmjaaaBdPool
import Derived.Deep.RegionHeld3
import Derived.Deep.DeepCutAuto
import Derived.BigQuiet

/- The acts of the statements of layer 12; the pair of partitions beside the document's. No condition. -/
namespace Go.Proofs.Ytbljjmehjkmjaaa
open Go.RowKit
set_option linter.unusedVariables false
set_option linter.unusedSimpArgs false
set_option maxRecDepth 100000

/-- What the statement's own struct holds, seen from one of its two partitions. -/
def twoV (q zq i xi xj yi yj : Nat) (ao : Option Addr) (n cc : Nat) : List Value :=
  [.pointer (some ⟨q, 0, none⟩), .pointer (some ⟨zq, 0, none⟩), .pointer (some ⟨if i = 0 then xi else xj, 0, none⟩), .pointer (some ⟨if i = 0 then xj else xi, 0, none⟩), .pointer (some ⟨if i = 0 then yi else yj, 0, none⟩), .pointer (some ⟨if i = 0 then yj else yi, 0, none⟩), .slice ao n cc, .bool true]
theorem twoV_x {q zq i xi xj yi yj : Nat} {ao : Option Addr} {n cc : Nat} (hi : i < 2) : (twoV q zq i xi xj yi yj ao n cc)[2 + i]? = some (.pointer (some ⟨xi, 0, none⟩)) ∧ (twoV q zq i xi xj yi yj ao n cc)[4 + i]? = some (.pointer (some ⟨yi, 0, none⟩)) := by
  rcases (show i = 0 ∨ i = 1 by omega) with rfl | rfl <;> exact ⟨rfl, rfl⟩
theorem twoV_swap (q zq i xi xj yi yj : Nat) (ao : Option Addr) (n cc : Nat) (hi : i < 2) : twoV q zq (1 - i) xj xi yj yi ao n cc = twoV q zq i xi xj yi yj ao n cc := by
  rcases (show i = 0 ∨ i = 1 by omega) with rfl | rfl <;> rfl

end Go.Proofs.Ytbljjmehjkmjaaa

/- What the statements' own 'made' makes. No condition but that the program's partitions and pool keep their words. -/
namespace Go.Proofs.Ytbljjmehjkmjaaa
open Go.RowKit
set_option linter.unusedVariables false
set_option linter.unusedSimpArgs false
set_option maxRecDepth 100000

theorem sep_none {A : Thing} {w : World} {W : Nat → Prop} (h : (A.sep Thing.none).at_ w W) : A.at_ w W := by
  obtain ⟨W1, W2, h1, h2, _, hW⟩ := h
  have e : W = W1 := funext fun k => propext ((hW k).trans ⟨fun h => h.elim id (fun h => absurd h (h2 k)), .inl⟩)
  rw [e]; exact h1

abbrev ptr (b : Nat) : Value := .pointer (some ⟨b, 0, none⟩)

end Go.Proofs.Ytbljjmehjkmjaaa
