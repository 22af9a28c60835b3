/-
  No cell of these rows narrows 'for every input' (looked for: loops, veiled, ifaces, maps, wideKeys, modest, calm, conditions, laid).
  DERIVED. THE GIVEN ROWS OF THIS SEAT. 3 by the template 'for every input the law returns true; each argument reads behind the call as it read before'; 0 by the template 'total and deterministic' (their statements: YtbljjmehjkmjaaaGreatTotals.lean).
  GIVEN WITH THE SEED: the statements are not yours to turn. If you find one false, say at which input.
  Laid BY PROGRAM, IN A SANDBOX (cutbox-rows.mjs): the forced cells as the released guide's own fill.sh prints them over the translation 26ea41e5817ed04f… (all of the seat's roots in one cut). By AI agents, Wed Nov 11 2026. No macro, syntax, notation, axiom, sorry.
-/
import Derived.Test.YtbljjmehjkmjaaaGreatChecked
import GoSem.Claim
import GoSem.ClaimJoined
import GoSem.ClaimMapViews
import Derived.JoinedTies
import Derived.KernelRfl
namespace Go.Proofs.YtbljjmehjkmjaaaGreat
/- THE CELL 'sum', in the pinned program and in every row, IS THE sha256 OF THE DUMP (.gsa) THAT YtbljjmehjkmjaaaGreatProg.lean LOADS. Nothing in Lean hashes anything: it is a label: what it is worth is what the hold of that sum in a sandbox is worth. -/
noncomputable def Tryz.pinned : Pinned := { name := "ytbljjmehjkmjaaagreat", sum := "26ea41e5817ed04f2fc6601278c761138627f535592fad7247da4957a68e4793", checked := Tryz.checked }
namespace Rows
def none {H : Type} : Left H := { results := [], args := [] }

/-- 'postriderlaw12.PartPlays': WHATEVER THE INPUT: true; the input reads as it did. -/
def partPlaysSpec : ChangeSpec := { name := "partPlays", fn := fun _ => fun
  | [d1, d2, d3, d4] => { results := [.lit (.bool true)], args := [d1, d2, d3, d4] }
  | _ => none }
def partPlaysRow : OpenClaim := { program := "ytbljjmehjkmjaaagreat", sum := "26ea41e5817ed04f2fc6601278c761138627f535592fad7247da4957a68e4793", func := "postrider/postriderlaw12.PartPlays", spec := "partPlays", unfollowed := true, recurses := true, apart := false }
def PartPlaysSaid : Prop := partPlaysRow.holds Tryz.pinned (OpenSpec.ofChange partPlaysSpec)

/-- ITS FALSE NEIGHBOUR: 'it returns false'. Refute it at one input. -/
def partPlaysWrong : ChangeSpec := { name := "partPlays", fn := fun _ => fun
  | [d1, d2, d3, d4] => { results := [.lit (.bool false)], args := [d1, d2, d3, d4] }
  | _ => none }
def PartPlaysWrongFalsely : Prop := partPlaysRow.holds Tryz.pinned (OpenSpec.ofChange partPlaysWrong)

/-- 'postriderlaw12.PartCounts': WHATEVER THE INPUT: true; the input reads as it did. -/
def partCountsSpec : ChangeSpec := { name := "partCounts", fn := fun _ => fun
  | [d1, d2, d3, d4] => { results := [.lit (.bool true)], args := [d1, d2, d3, d4] }
  | _ => none }
def partCountsRow : OpenClaim := { program := "ytbljjmehjkmjaaagreat", sum := "26ea41e5817ed04f2fc6601278c761138627f535592fad7247da4957a68e4793", func := "postrider/postriderlaw12.PartCounts", spec := "partCounts", unfollowed := true, recurses := true, apart := false }
def PartCountsSaid : Prop := partCountsRow.holds Tryz.pinned (OpenSpec.ofChange partCountsSpec)

/-- ITS FALSE NEIGHBOUR: 'it returns false'. Refute it at one input. -/
def partCountsWrong : ChangeSpec := { name := "partCounts", fn := fun _ => fun
  | [d1, d2, d3, d4] => { results := [.lit (.bool false)], args := [d1, d2, d3, d4] }
  | _ => none }
def PartCountsWrongFalsely : Prop := partCountsRow.holds Tryz.pinned (OpenSpec.ofChange partCountsWrong)

/-- 'postriderlaw12.PartApart': WHATEVER THE INPUT: true; the input reads as it did. -/
def partApartSpec : ChangeSpec := { name := "partApart", fn := fun _ => fun
  | [d1, d2, d3, d4] => { results := [.lit (.bool true)], args := [d1, d2, d3, d4] }
  | _ => none }
def partApartRow : OpenClaim := { program := "ytbljjmehjkmjaaagreat", sum := "26ea41e5817ed04f2fc6601278c761138627f535592fad7247da4957a68e4793", func := "postrider/postriderlaw12.PartApart", spec := "partApart", unfollowed := true, recurses := true, apart := false }
def PartApartSaid : Prop := partApartRow.holds Tryz.pinned (OpenSpec.ofChange partApartSpec)

/-- ITS FALSE NEIGHBOUR: 'it returns false'. Refute it at one input. -/
def partApartWrong : ChangeSpec := { name := "partApart", fn := fun _ => fun
  | [d1, d2, d3, d4] => { results := [.lit (.bool false)], args := [d1, d2, d3, d4] }
  | _ => none }
def PartApartWrongFalsely : Prop := partApartRow.holds Tryz.pinned (OpenSpec.ofChange partApartWrong)

/- THE SECOND FORM. 'bulk': how many values and letters a reading holds, each counted each time it is reached (what is shared counts as often as it is met; a slice's spare places count too). A statement '..UptoSaid' is the law's where the arguments, and the package variables that the reading takes, are together of bulk at most 1048576: NARROWER than '..Said'. Prove '..Said' where nothing that the law and all that it calls make is longer than what came in: it says more and counts as full. Else prove '..UptoSaid'. A law counts once. -/
mutual
def uptoBulk {H : Type} : DataW H → Nat
  | .lit (.string bytes) => bytes.length + 1
  | .lit _ => 1
  | .nil => 1
  | .ptr d => uptoBulk d + 1
  | .slice elems spare => uptoBulkAll elems + uptoBulkAll spare + 1
  | .agg parts => uptoBulkAll parts + 1
  | .iface _ d => uptoBulk d + 1
  | .map entries => uptoBulkEntries entries + 1
  | .held _ => 1
def uptoBulkAll {H : Type} : List (DataW H) → Nat
  | [] => 0
  | d :: r => uptoBulk d + uptoBulkAll r
def uptoBulkEntries {H : Type} : List (Lit × DataW H) → Nat
  | [] => 0
  | x :: r => uptoBulkEntry x + uptoBulkEntries r
def uptoBulkEntry {H : Type} : Lit × DataW H → Nat
  | (.string bytes, d) => bytes.length + uptoBulk d + 1
  | (_, d) => uptoBulk d + 1
 end
def uptoSmall : (H : Type) → List (DataW H) → Bool := fun _ ds => decide (uptoBulkAll ds ≤ 1048576)
def OpenSpec.upto (s : _root_.Go.ChangeSpec) : _root_.Go.OpenSpec := { _root_.Go.OpenSpec.ofChange s with cond := some uptoSmall }

/-- 'postriderlaw12.PartPlays', WHERE WHAT IT READS IS OF BULK AT MOST 1048576: true; the input reads as it did. -/
def partPlaysUptoRow : OpenClaim := { program := "ytbljjmehjkmjaaagreat", sum := "26ea41e5817ed04f2fc6601278c761138627f535592fad7247da4957a68e4793", func := "postrider/postriderlaw12.PartPlays", spec := "partPlays", unfollowed := true, recurses := true, apart := false, narrowed := true }
def PartPlaysUptoSaid : Prop := partPlaysUptoRow.holds Tryz.pinned (OpenSpec.upto partPlaysSpec)

/-- 'postriderlaw12.PartCounts', WHERE WHAT IT READS IS OF BULK AT MOST 1048576: true; the input reads as it did. -/
def partCountsUptoRow : OpenClaim := { program := "ytbljjmehjkmjaaagreat", sum := "26ea41e5817ed04f2fc6601278c761138627f535592fad7247da4957a68e4793", func := "postrider/postriderlaw12.PartCounts", spec := "partCounts", unfollowed := true, recurses := true, apart := false, narrowed := true }
def PartCountsUptoSaid : Prop := partCountsUptoRow.holds Tryz.pinned (OpenSpec.upto partCountsSpec)

/-- 'postriderlaw12.PartApart', WHERE WHAT IT READS IS OF BULK AT MOST 1048576: true; the input reads as it did. -/
def partApartUptoRow : OpenClaim := { program := "ytbljjmehjkmjaaagreat", sum := "26ea41e5817ed04f2fc6601278c761138627f535592fad7247da4957a68e4793", func := "postrider/postriderlaw12.PartApart", spec := "partApart", unfollowed := true, recurses := true, apart := false, narrowed := true }
def PartApartUptoSaid : Prop := partApartUptoRow.holds Tryz.pinned (OpenSpec.upto partApartSpec)

end Rows
end Go.Proofs.YtbljjmehjkmjaaaGreat
