/-
  No cell of these rows narrows 'for every input' (looked for: loops, veiled, ifaces, maps, wideKeys, modest, calm, conditions, laid).
  DERIVED. THE GIVEN ROWS OF THIS SEAT. 6 by the template 'for every input the law returns true; each argument reads behind the call as it read before'; 0 by the template 'total and deterministic' (their statements: YtliaaggjefjbeaaTotals.lean).
  GIVEN WITH THE SEED: the statements are not yours to turn. If you find one false, say at which input.
  Laid BY PROGRAM, IN A SANDBOX (cutbox-rows.mjs): the forced cells as the released guide's own fill.sh prints them over the translation 0e86a3bf676f14aa… (all of the seat's roots in one cut). By AI agents, Wed Nov 11 2026. No macro, syntax, notation, axiom, sorry.
-/
import Derived.Test.YtliaaggjefjbeaaChecked
import GoSem.Claim
import GoSem.ClaimJoined
import GoSem.ClaimMapViews
import Derived.JoinedTies
import Derived.KernelRfl
namespace Go.Proofs.Ytliaaggjefjbeaa
/- THE CELL 'sum', in the pinned program and in every row, IS THE sha256 OF THE DUMP (.gsa) THAT YtliaaggjefjbeaaProg.lean LOADS. Nothing in Lean hashes anything: it is a label: what it is worth is what the hold of that sum in a sandbox is worth. -/
noncomputable def Try.pinned : Pinned := { name := "ytliaaggjefjbeaa", sum := "0e86a3bf676f14aae7a5644b1200e73892997853e2b6a64a15a1a40cb5f8c204", checked := Try.checked }
namespace Rows
def none {H : Type} : Left H := { results := [], args := [] }

/-- 'postriderlaw07.CursorMoves': WHATEVER THE INPUT: true; the input reads as it did. -/
def cursorMovesSpec : ChangeSpec := { name := "cursorMoves", fn := fun _ => fun
  | [d1, d2, d3, d4] => { results := [.lit (.bool true)], args := [d1, d2, d3, d4] }
  | _ => none }
def cursorMovesRow : OpenClaim := { program := "ytliaaggjefjbeaa", sum := "0e86a3bf676f14aae7a5644b1200e73892997853e2b6a64a15a1a40cb5f8c204", func := "postrider/postriderlaw07.CursorMoves", spec := "cursorMoves", apart := false }
def CursorMovesSaid : Prop := cursorMovesRow.holds Try.pinned (OpenSpec.ofChange cursorMovesSpec)

/-- ITS FALSE NEIGHBOUR: 'it returns false'. Refute it at one input. -/
def cursorMovesWrong : ChangeSpec := { name := "cursorMoves", fn := fun _ => fun
  | [d1, d2, d3, d4] => { results := [.lit (.bool false)], args := [d1, d2, d3, d4] }
  | _ => none }
def CursorMovesWrongFalsely : Prop := cursorMovesRow.holds Try.pinned (OpenSpec.ofChange cursorMovesWrong)

/-- 'postriderlaw07.CursorNexts': WHATEVER THE INPUT: true; the input reads as it did. -/
def cursorNextsSpec : ChangeSpec := { name := "cursorNexts", fn := fun _ => fun
  | [d1, d2, d3] => { results := [.lit (.bool true)], args := [d1, d2, d3] }
  | _ => none }
def cursorNextsRow : OpenClaim := { program := "ytliaaggjefjbeaa", sum := "0e86a3bf676f14aae7a5644b1200e73892997853e2b6a64a15a1a40cb5f8c204", func := "postrider/postriderlaw07.CursorNexts", spec := "cursorNexts", unfollowed := true, recurses := true, apart := false }
def CursorNextsSaid : Prop := cursorNextsRow.holds Try.pinned (OpenSpec.ofChange cursorNextsSpec)

/-- ITS FALSE NEIGHBOUR: 'it returns false'. Refute it at one input. -/
def cursorNextsWrong : ChangeSpec := { name := "cursorNexts", fn := fun _ => fun
  | [d1, d2, d3] => { results := [.lit (.bool false)], args := [d1, d2, d3] }
  | _ => none }
def CursorNextsWrongFalsely : Prop := cursorNextsRow.holds Try.pinned (OpenSpec.ofChange cursorNextsWrong)

/-- 'postriderlaw07.CursorStays': WHATEVER THE INPUT: true; the input reads as it did. -/
def cursorStaysSpec : ChangeSpec := { name := "cursorStays", fn := fun _ => fun
  | [d1, d2, d3] => { results := [.lit (.bool true)], args := [d1, d2, d3] }
  | _ => none }
def cursorStaysRow : OpenClaim := { program := "ytliaaggjefjbeaa", sum := "0e86a3bf676f14aae7a5644b1200e73892997853e2b6a64a15a1a40cb5f8c204", func := "postrider/postriderlaw07.CursorStays", spec := "cursorStays", apart := false }
def CursorStaysSaid : Prop := cursorStaysRow.holds Try.pinned (OpenSpec.ofChange cursorStaysSpec)

/-- ITS FALSE NEIGHBOUR: 'it returns false'. Refute it at one input. -/
def cursorStaysWrong : ChangeSpec := { name := "cursorStays", fn := fun _ => fun
  | [d1, d2, d3] => { results := [.lit (.bool false)], args := [d1, d2, d3] }
  | _ => none }
def CursorStaysWrongFalsely : Prop := cursorStaysRow.holds Try.pinned (OpenSpec.ofChange cursorStaysWrong)

/-- 'postriderlaw07.CursorReads': WHATEVER THE INPUT: true; the input reads as it did. -/
def cursorReadsSpec : ChangeSpec := { name := "cursorReads", fn := fun _ => fun
  | [d1, d2] => { results := [.lit (.bool true)], args := [d1, d2] }
  | _ => none }
def cursorReadsRow : OpenClaim := { program := "ytliaaggjefjbeaa", sum := "0e86a3bf676f14aae7a5644b1200e73892997853e2b6a64a15a1a40cb5f8c204", func := "postrider/postriderlaw07.CursorReads", spec := "cursorReads", unfollowed := true, recurses := true, apart := false }
def CursorReadsSaid : Prop := cursorReadsRow.holds Try.pinned (OpenSpec.ofChange cursorReadsSpec)

/-- ITS FALSE NEIGHBOUR: 'it returns false'. Refute it at one input. -/
def cursorReadsWrong : ChangeSpec := { name := "cursorReads", fn := fun _ => fun
  | [d1, d2] => { results := [.lit (.bool false)], args := [d1, d2] }
  | _ => none }
def CursorReadsWrongFalsely : Prop := cursorReadsRow.holds Try.pinned (OpenSpec.ofChange cursorReadsWrong)

/-- 'postriderlaw07.CursorFar': WHATEVER THE INPUT: true; the input reads as it did. -/
def cursorFarSpec : ChangeSpec := { name := "cursorFar", fn := fun _ => fun
  | [d1, d2, d3, d4] => { results := [.lit (.bool true)], args := [d1, d2, d3, d4] }
  | _ => none }
def cursorFarRow : OpenClaim := { program := "ytliaaggjefjbeaa", sum := "0e86a3bf676f14aae7a5644b1200e73892997853e2b6a64a15a1a40cb5f8c204", func := "postrider/postriderlaw07.CursorFar", spec := "cursorFar", apart := false }
def CursorFarSaid : Prop := cursorFarRow.holds Try.pinned (OpenSpec.ofChange cursorFarSpec)

/-- ITS FALSE NEIGHBOUR: 'it returns false'. Refute it at one input. -/
def cursorFarWrong : ChangeSpec := { name := "cursorFar", fn := fun _ => fun
  | [d1, d2, d3, d4] => { results := [.lit (.bool false)], args := [d1, d2, d3, d4] }
  | _ => none }
def CursorFarWrongFalsely : Prop := cursorFarRow.holds Try.pinned (OpenSpec.ofChange cursorFarWrong)

/-- 'postriderlaw07.CursorVoid': WHATEVER THE INPUT: true; the input reads as it did. -/
def cursorVoidSpec : ChangeSpec := { name := "cursorVoid", fn := fun _ => fun
  | [d] => { results := [.lit (.bool true)], args := [d] }
  | _ => none }
def cursorVoidRow : OpenClaim := { program := "ytliaaggjefjbeaa", sum := "0e86a3bf676f14aae7a5644b1200e73892997853e2b6a64a15a1a40cb5f8c204", func := "postrider/postriderlaw07.CursorVoid", spec := "cursorVoid", unfollowed := true, recurses := true, apart := false }
def CursorVoidSaid : Prop := cursorVoidRow.holds Try.pinned (OpenSpec.ofChange cursorVoidSpec)

/-- ITS FALSE NEIGHBOUR: 'it returns false'. Refute it at one input. -/
def cursorVoidWrong : ChangeSpec := { name := "cursorVoid", fn := fun _ => fun
  | [d] => { results := [.lit (.bool false)], args := [d] }
  | _ => none }
def CursorVoidWrongFalsely : Prop := cursorVoidRow.holds Try.pinned (OpenSpec.ofChange cursorVoidWrong)

/- THE SECOND FORM. 'bulk': how many values and letters a reading holds, each counted each time it is reached (what is shared counts as often as it is met; a slice's spare places count too). A statement '..UptoSaid' is the law's where the arguments, and the package variables that the reading takes, are together of bulk at most 1048576: NARROWER than '..Said'. Prove '..Said' where nothing that the law and all that it calls make is longer than what came in: it says more and counts as full. Else prove '..UptoSaid'. A law counts once. -/
mutual
def uptoBulk {H : Type} : DataW H → Nat
  | .lit (.string bytes) => bytes.length + 1
  | .lit _ => 1
  | .nil => 1
  | .ptr d => uptoBulk d + 1
  | .slice elems spare => uptoBulkAll elems + uptoBulkAll spare + 1
  | .agg parts => uptoBulkAll parts + 1
  | .iface _ d => uptoBulk d + 1
  | .map entries => uptoBulkEntries entries + 1
  | .held _ => 1
def uptoBulkAll {H : Type} : List (DataW H) → Nat
  | [] => 0
  | d :: r => uptoBulk d + uptoBulkAll r
def uptoBulkEntries {H : Type} : List (Lit × DataW H) → Nat
  | [] => 0
  | x :: r => uptoBulkEntry x + uptoBulkEntries r
def uptoBulkEntry {H : Type} : Lit × DataW H → Nat
  | (.string bytes, d) => bytes.length + uptoBulk d + 1
  | (_, d) => uptoBulk d + 1
 end
def uptoSmall : (H : Type) → List (DataW H) → Bool := fun _ ds => decide (uptoBulkAll ds ≤ 1048576)
def OpenSpec.upto (s : _root_.Go.ChangeSpec) : _root_.Go.OpenSpec := { _root_.Go.OpenSpec.ofChange s with cond := some uptoSmall }

/-- 'postriderlaw07.CursorMoves', WHERE WHAT IT READS IS OF BULK AT MOST 1048576: true; the input reads as it did. -/
def cursorMovesUptoRow : OpenClaim := { program := "ytliaaggjefjbeaa", sum := "0e86a3bf676f14aae7a5644b1200e73892997853e2b6a64a15a1a40cb5f8c204", func := "postrider/postriderlaw07.CursorMoves", spec := "cursorMoves", apart := false, narrowed := true }
def CursorMovesUptoSaid : Prop := cursorMovesUptoRow.holds Try.pinned (OpenSpec.upto cursorMovesSpec)

/-- 'postriderlaw07.CursorNexts', WHERE WHAT IT READS IS OF BULK AT MOST 1048576: true; the input reads as it did. -/
def cursorNextsUptoRow : OpenClaim := { program := "ytliaaggjefjbeaa", sum := "0e86a3bf676f14aae7a5644b1200e73892997853e2b6a64a15a1a40cb5f8c204", func := "postrider/postriderlaw07.CursorNexts", spec := "cursorNexts", unfollowed := true, recurses := true, apart := false, narrowed := true }
def CursorNextsUptoSaid : Prop := cursorNextsUptoRow.holds Try.pinned (OpenSpec.upto cursorNextsSpec)

/-- 'postriderlaw07.CursorStays', WHERE WHAT IT READS IS OF BULK AT MOST 1048576: true; the input reads as it did. -/
def cursorStaysUptoRow : OpenClaim := { program := "ytliaaggjefjbeaa", sum := "0e86a3bf676f14aae7a5644b1200e73892997853e2b6a64a15a1a40cb5f8c204", func := "postrider/postriderlaw07.CursorStays", spec := "cursorStays", apart := false, narrowed := true }
def CursorStaysUptoSaid : Prop := cursorStaysUptoRow.holds Try.pinned (OpenSpec.upto cursorStaysSpec)

/-- 'postriderlaw07.CursorReads', WHERE WHAT IT READS IS OF BULK AT MOST 1048576: true; the input reads as it did. -/
def cursorReadsUptoRow : OpenClaim := { program := "ytliaaggjefjbeaa", sum := "0e86a3bf676f14aae7a5644b1200e73892997853e2b6a64a15a1a40cb5f8c204", func := "postrider/postriderlaw07.CursorReads", spec := "cursorReads", unfollowed := true, recurses := true, apart := false, narrowed := true }
def CursorReadsUptoSaid : Prop := cursorReadsUptoRow.holds Try.pinned (OpenSpec.upto cursorReadsSpec)

/-- 'postriderlaw07.CursorFar', WHERE WHAT IT READS IS OF BULK AT MOST 1048576: true; the input reads as it did. -/
def cursorFarUptoRow : OpenClaim := { program := "ytliaaggjefjbeaa", sum := "0e86a3bf676f14aae7a5644b1200e73892997853e2b6a64a15a1a40cb5f8c204", func := "postrider/postriderlaw07.CursorFar", spec := "cursorFar", apart := false, narrowed := true }
def CursorFarUptoSaid : Prop := cursorFarUptoRow.holds Try.pinned (OpenSpec.upto cursorFarSpec)

/-- 'postriderlaw07.CursorVoid', WHERE WHAT IT READS IS OF BULK AT MOST 1048576: true; the input reads as it did. -/
def cursorVoidUptoRow : OpenClaim := { program := "ytliaaggjefjbeaa", sum := "0e86a3bf676f14aae7a5644b1200e73892997853e2b6a64a15a1a40cb5f8c204", func := "postrider/postriderlaw07.CursorVoid", spec := "cursorVoid", unfollowed := true, recurses := true, apart := false, narrowed := true }
def CursorVoidUptoSaid : Prop := cursorVoidUptoRow.holds Try.pinned (OpenSpec.upto cursorVoidSpec)

end Rows
end Go.Proofs.Ytliaaggjefjbeaa
