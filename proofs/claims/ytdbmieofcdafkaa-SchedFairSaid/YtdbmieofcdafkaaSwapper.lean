/- The programs of sessions that add by swapping, as the statement makes them. No condition but that the numbers read as a list. -/
import Derived.Test.YtdbmieofcdafkaaMakeSched
import Derived.Test.YtdbmieofcdafkaaSwapMath
namespace Go.Proofs.Ytdbmieofcdafkaa
open Go.RowKit
set_option linter.unusedVariables false
set_option linter.unusedSimpArgs false
set_option maxRecDepth 100000

theorem new_cells (w : World) (l : List Value) (t : TypeId) : ∀ (j : Nat) (u : Value), l[j]? = some u → (w.alloc (.cells l.toArray t)).cell? ((⟨w.heap.size, 0, none⟩ : Addr).add j) = some u := by
  intro j u h
  rw [Addr.add_lit, Nat.zero_add]
  exact (Blk.new w l t).cell h

def isIntV : Value → Bool
  | .int _ _ => true
  | _ => false
theorem ints_all {l : List Value} (h : l.all isIntV = true) : ∀ u ∈ l, u.oneCell' = true := fun u hu => by
  rw [List.all_eq_true] at h
  have := h u hu
  cases u <;> first | rfl | cases this

def SwPost (w : World) (k : Nat) (l : List Int) (e : Ending) (w' : World) : Prop :=
  ∃ a c, e = .returned (.slice a (swapFrom k 0 l).length c) ∧ w'.ownsRow w.heap.size 70 4 (.slice a (swapFrom k 0 l).length c) (swapFrom k 0 l).length (rowOf insEnc (swapFrom k 0 l)) ∧ Still w w'

end Go.Proofs.Ytdbmieofcdafkaa