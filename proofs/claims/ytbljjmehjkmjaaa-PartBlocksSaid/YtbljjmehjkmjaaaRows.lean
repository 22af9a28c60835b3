/-
  No cell of these rows narrows 'for every input' (looked for: loops, veiled, ifaces, maps, wideKeys, modest, calm, conditions, laid).
  DERIVED. THE GIVEN ROWS OF THIS SEAT. 3 by the template 'for every input the law returns true; each argument reads behind the call as it read before'; 0 by the template 'total and deterministic' (their statements: YtbljjmehjkmjaaaTotals.lean).
  GIVEN WITH THE SEED: the statements are not yours to turn. If you find one false, say at which input.
  Laid BY PROGRAM, IN A SANDBOX (cutbox-rows.mjs): the forced cells as the released guide's own fill.sh prints them over the translation 0b5b2d19d052dc68… (all of the seat's roots in one cut). By AI agents, Wed Nov 11 2026. No macro, syntax, notation, axiom, sorry.
-/
import Derived.Test.YtbljjmehjkmjaaaChecked
import GoSem.Claim
import GoSem.ClaimJoined
import GoSem.ClaimMapViews
import Derived.JoinedTies
import Derived.KernelRfl
namespace Go.Proofs.Ytbljjmehjkmjaaa
/- THE CELL 'sum', in the pinned program and in every row, IS THE sha256 OF THE DUMP (.gsa) THAT YtbljjmehjkmjaaaProg.lean LOADS. Nothing in Lean hashes anything: it is a label: what it is worth is what the hold of that sum in a sandbox is worth. -/
noncomputable def Try.pinned : Pinned := { name := "ytbljjmehjkmjaaa", sum := "0b5b2d19d052dc68d8fd0d95beca8fffe4f97638ea3fd56ff9653d75b37aa03c", checked := Try.checked }
namespace Rows
def none {H : Type} : Left H := { results := [], args := [] }

/-- 'postriderlaw12.PartKeeps': WHATEVER THE INPUT: true; the input reads as it did. -/
def partKeepsSpec : ChangeSpec := { name := "partKeeps", fn := fun _ => fun
  | [d1, d2, d3, d4] => { results := [.lit (.bool true)], args := [d1, d2, d3, d4] }
  | _ => none }
def partKeepsRow : OpenClaim := { program := "ytbljjmehjkmjaaa", sum := "0b5b2d19d052dc68d8fd0d95beca8fffe4f97638ea3fd56ff9653d75b37aa03c", func := "postrider/postriderlaw12.PartKeeps", spec := "partKeeps", unfollowed := true, recurses := true, apart := false }
def PartKeepsSaid : Prop := partKeepsRow.holds Try.pinned (OpenSpec.ofChange partKeepsSpec)

/-- ITS FALSE NEIGHBOUR: 'it returns false'. Refute it at one input. -/
def partKeepsWrong : ChangeSpec := { name := "partKeeps", fn := fun _ => fun
  | [d1, d2, d3, d4] => { results := [.lit (.bool false)], args := [d1, d2, d3, d4] }
  | _ => none }
def PartKeepsWrongFalsely : Prop := partKeepsRow.holds Try.pinned (OpenSpec.ofChange partKeepsWrong)

/-- 'postriderlaw12.PartBlocks': WHATEVER THE INPUT: true; the input reads as it did. -/
def partBlocksSpec : ChangeSpec := { name := "partBlocks", fn := fun _ => fun
  | [d1, d2, d3] => { results := [.lit (.bool true)], args := [d1, d2, d3] }
  | _ => none }
def partBlocksRow : OpenClaim := { program := "ytbljjmehjkmjaaa", sum := "0b5b2d19d052dc68d8fd0d95beca8fffe4f97638ea3fd56ff9653d75b37aa03c", func := "postrider/postriderlaw12.PartBlocks", spec := "partBlocks", unfollowed := true, recurses := true, apart := false }
def PartBlocksSaid : Prop := partBlocksRow.holds Try.pinned (OpenSpec.ofChange partBlocksSpec)

/-- ITS FALSE NEIGHBOUR: 'it returns false'. Refute it at one input. -/
def partBlocksWrong : ChangeSpec := { name := "partBlocks", fn := fun _ => fun
  | [d1, d2, d3] => { results := [.lit (.bool false)], args := [d1, d2, d3] }
  | _ => none }
def PartBlocksWrongFalsely : Prop := partBlocksRow.holds Try.pinned (OpenSpec.ofChange partBlocksWrong)

/-- 'postriderlaw12.PartVoid': WHATEVER THE INPUT: true; the input reads as it did. -/
def partVoidSpec : ChangeSpec := { name := "partVoid", fn := fun _ => fun
  | [d] => { results := [.lit (.bool true)], args := [d] }
  | _ => none }
def partVoidRow : OpenClaim := { program := "ytbljjmehjkmjaaa", sum := "0b5b2d19d052dc68d8fd0d95beca8fffe4f97638ea3fd56ff9653d75b37aa03c", func := "postrider/postriderlaw12.PartVoid", spec := "partVoid", unfollowed := true, recurses := true, apart := false }
def PartVoidSaid : Prop := partVoidRow.holds Try.pinned (OpenSpec.ofChange partVoidSpec)

/-- ITS FALSE NEIGHBOUR: 'it returns false'. Refute it at one input. -/
def partVoidWrong : ChangeSpec := { name := "partVoid", fn := fun _ => fun
  | [d] => { results := [.lit (.bool false)], args := [d] }
  | _ => none }
def PartVoidWrongFalsely : Prop := partVoidRow.holds Try.pinned (OpenSpec.ofChange partVoidWrong)

/- THE SECOND FORM. 'bulk': how many values and letters a reading holds, each counted each time it is reached (what is shared counts as often as it is met; a slice's spare places count too). A statement '..UptoSaid' is the law's where the arguments, and the package variables that the reading takes, are together of bulk at most 1048576: NARROWER than '..Said'. Prove '..Said' where nothing that the law and all that it calls make is longer than what came in: it says more and counts as full. Else prove '..UptoSaid'. A law counts once. -/
mutual
def uptoBulk {H : Type} : DataW H → Nat
  | .lit (.string bytes) => bytes.length + 1
  | .lit _ => 1
  | .nil => 1
  | .ptr d => uptoBulk d + 1
  | .slice elems spare => uptoBulkAll elems + uptoBulkAll spare + 1
  | .agg parts => uptoBulkAll parts + 1
  | .iface _ d => uptoBulk d + 1
  | .map entries => uptoBulkEntries entries + 1
  | .held _ => 1
def uptoBulkAll {H : Type} : List (DataW H) → Nat
  | [] => 0
  | d :: r => uptoBulk d + uptoBulkAll r
def uptoBulkEntries {H : Type} : List (Lit × DataW H) → Nat
  | [] => 0
  | x :: r => uptoBulkEntry x + uptoBulkEntries r
def uptoBulkEntry {H : Type} : Lit × DataW H → Nat
  | (.string bytes, d) => bytes.length + uptoBulk d + 1
  | (_, d) => uptoBulk d + 1
 end
def uptoSmall : (H : Type) → List (DataW H) → Bool := fun _ ds => decide (uptoBulkAll ds ≤ 1048576)
def OpenSpec.upto (s : _root_.Go.ChangeSpec) : _root_.Go.OpenSpec := { _root_.Go.OpenSpec.ofChange s with cond := some uptoSmall }

/-- 'postriderlaw12.PartKeeps', WHERE WHAT IT READS IS OF BULK AT MOST 1048576: true; the input reads as it did. -/
def partKeepsUptoRow : OpenClaim := { program := "ytbljjmehjkmjaaa", sum := "0b5b2d19d052dc68d8fd0d95beca8fffe4f97638ea3fd56ff9653d75b37aa03c", func := "postrider/postriderlaw12.PartKeeps", spec := "partKeeps", unfollowed := true, recurses := true, apart := false, narrowed := true }
def PartKeepsUptoSaid : Prop := partKeepsUptoRow.holds Try.pinned (OpenSpec.upto partKeepsSpec)

/-- 'postriderlaw12.PartBlocks', WHERE WHAT IT READS IS OF BULK AT MOST 1048576: true; the input reads as it did. -/
def partBlocksUptoRow : OpenClaim := { program := "ytbljjmehjkmjaaa", sum := "0b5b2d19d052dc68d8fd0d95beca8fffe4f97638ea3fd56ff9653d75b37aa03c", func := "postrider/postriderlaw12.PartBlocks", spec := "partBlocks", unfollowed := true, recurses := true, apart := false, narrowed := true }
def PartBlocksUptoSaid : Prop := partBlocksUptoRow.holds Try.pinned (OpenSpec.upto partBlocksSpec)

/-- 'postriderlaw12.PartVoid', WHERE WHAT IT READS IS OF BULK AT MOST 1048576: true; the input reads as it did. -/
def partVoidUptoRow : OpenClaim := { program := "ytbljjmehjkmjaaa", sum := "0b5b2d19d052dc68d8fd0d95beca8fffe4f97638ea3fd56ff9653d75b37aa03c", func := "postrider/postriderlaw12.PartVoid", spec := "partVoid", unfollowed := true, recurses := true, apart := false, narrowed := true }
def PartVoidUptoSaid : Prop := partVoidUptoRow.holds Try.pinned (OpenSpec.upto partVoidSpec)

end Rows
end Go.Proofs.Ytbljjmehjkmjaaa
