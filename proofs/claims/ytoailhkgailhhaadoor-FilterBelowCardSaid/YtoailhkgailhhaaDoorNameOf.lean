/- What Of, Above and Compare of the document's name do. No condition but that the texts are no longer than the statements make them. -/
import Derived.Test.YtoailhkgailhhaaDoorNameRef
namespace Go.Proofs.YtoailhkgailhhaaDoor
open Go.RowKit
set_option linter.unusedVariables false
set_option linter.unusedSimpArgs false
set_option maxRecDepth 100000

theorem tx_append (a b : Txt) : Value.string (ByteArray.mk a.toArray ++ ByteArray.mk b.toArray) = tx (a ++ b) := by rw [ByteArray.mk_append_mk]; rfl

theorem spl_small {l : Txt} {m : Nat} (h : l.length ≤ m) : ∀ x ∈ spl l, x.length ≤ m := by
  intro x hx
  obtain ⟨i, hi⟩ := List.getElem?_of_mem hx
  have h1 := jn_len_le (spl l) (i + 1)
  rw [jn_spl, jn_take hi] at h1
  split at h1
  · omega
  · rw [List.length_append, List.length_cons] at h1; omega

end Go.Proofs.YtoailhkgailhhaaDoor