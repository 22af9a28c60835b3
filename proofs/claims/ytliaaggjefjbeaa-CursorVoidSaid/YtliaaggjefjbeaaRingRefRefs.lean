/- What Refs, Ready and Make of the document's ring do. No condition but that the ring is one. -/
import Derived.Test.YtliaaggjefjbeaaRingRefDo
import Derived.Maps.AppendAt
namespace Go.Proofs.Ytliaaggjefjbeaa
open Go.RowKit
set_option linter.unusedVariables false
set_option linter.unusedSimpArgs false
set_option maxRecDepth 100000

/-- Numbers that are handed out: a slice of one's own. -/
def OutNums (w : World) (l : List Int) (n : Nat) (e : Ending) (w' : World) : Prop := ∃ a c, e = .returned (.slice a n c) ∧ w'.ownsRow w.heap.size 3 1 (.slice a n c) n (ints l) ∧ Still w w'

/-- What append of one number leaves of a row of one's own. -/
theorem ow_appended {w wr w6 : World} {ao : Option Addr} {k cc : Nat} {xs ys : List Value} {o : Obj} {v6 : Value} (hs : Still w wr) (h : wr.ownsRow w.heap.size 3 1 (.slice ao k cc) k xs) (hg : (wr.alloc o).grownBy w6 (Value.slice ao k cc).ownBlock) : Still w w6 := by
  refine (hs.alloc o).past ((Turned.refl (fun i => (Value.slice ao k cc).ownBlock = some i) _).grown hg (fun i e => .inl e)) (fun i hi => ?_)
  cases ao with
  | none => cases hi
  | some x => have := (ow_lt h x rfl).1
              have e : x.block = i := by simpa [Value.ownBlock] using hi
              exact .inr (by omega)

theorem RM.refs_get {M : RM} {k : Nat} {p : Plc} (h : M.l[k]? = some p) : M.refs.take (k + 1) = M.refs.take k ++ [p.r] := by
  unfold RM.refs
  rw [List.take_add_one, List.getElem?_map, h]
  rfl

end Go.Proofs.Ytliaaggjefjbeaa