/- Numbers that are handed out. No condition. -/
import Derived.Test.YtdlkdagmaeapdaaOwn
namespace Go.Proofs.Ytdlkdagmaeapdaa
open Go.RowKit
set_option linter.unusedVariables false

/-- Numbers that are handed out: a slice of one's own. -/
def OutNums (w : World) (l : List Int) (n : Nat) (e : Ending) (w' : World) : Prop := ∃ a c, e = .returned (.slice a n c) ∧ w'.ownsRow w.heap.size 3 1 (.slice a n c) n (ints l) ∧ Still w w'

/-- What append of one number leaves of a row of one's own. -/
theorem ow_appended {w wr w6 : World} {ao : Option Addr} {k cc : Nat} {xs ys : List Value} {o : Obj} {v6 : Value} (hs : Still w wr) (h : wr.ownsRow w.heap.size 3 1 (.slice ao k cc) k xs) (hg : (wr.alloc o).grownBy w6 (Value.slice ao k cc).ownBlock) : Still w w6 := by
  refine (hs.alloc o).past ((Turned.refl (fun i => (Value.slice ao k cc).ownBlock = some i) _).grown hg (fun i e => .inl e)) (fun i hi => ?_)
  cases ao with
  | none => cases hi
  | some x => have := (ow_lt h x rfl).1
              have e : x.block = i := by simpa [Value.ownBlock] using hi
              exact .inr (by omega)
end Go.Proofs.Ytdlkdagmaeapdaa
