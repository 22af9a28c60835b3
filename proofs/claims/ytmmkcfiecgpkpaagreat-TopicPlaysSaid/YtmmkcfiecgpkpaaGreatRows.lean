/-
  No cell of these rows narrows 'for every input' (looked for: loops, veiled, ifaces, maps, wideKeys, modest, calm, conditions, laid).
  DERIVED. THE GIVEN ROWS OF THIS SEAT. 5 by the template 'for every input the law returns true; each argument reads behind the call as it read before'; 0 by the template 'total and deterministic' (their statements: YtmmkcfiecgpkpaaGreatTotals.lean).
  GIVEN WITH THE SEED: the statements are not yours to turn. If you find one false, say at which input.
  Laid BY PROGRAM, IN A SANDBOX (cutbox-rows.mjs): the forced cells as the released guide's own fill.sh prints them over the translation 3aab7dbce23a9803… (all of the seat's roots in one cut). By AI agents, Wed Nov 11 2026. No macro, syntax, notation, axiom, sorry.
-/
import Derived.Test.YtmmkcfiecgpkpaaGreatChecked
import GoSem.Claim
import GoSem.ClaimJoined
import GoSem.ClaimMapViews
import Derived.JoinedTies
import Derived.KernelRfl
namespace Go.Proofs.YtmmkcfiecgpkpaaGreat
/- THE CELL 'sum', in the pinned program and in every row, IS THE sha256 OF THE DUMP (.gsa) THAT YtmmkcfiecgpkpaaGreatProg.lean LOADS. Nothing in Lean hashes anything: it is a label: what it is worth is what the hold of that sum in a sandbox is worth. -/
noncomputable def Tryz.pinned : Pinned := { name := "ytmmkcfiecgpkpaagreat", sum := "3aab7dbce23a98033345a5e560869e07191acaa14e5b364318d54fb70746128e", checked := Tryz.checked }
namespace Rows
def none {H : Type} : Left H := { results := [], args := [] }

/-- 'postriderlaw13.TopicPlays': WHATEVER THE INPUT: true; the input reads as it did. -/
def topicPlaysSpec : ChangeSpec := { name := "topicPlays", fn := fun _ => fun
  | [d1, d2, d3, d4, d5] => { results := [.lit (.bool true)], args := [d1, d2, d3, d4, d5] }
  | _ => none }
def topicPlaysRow : OpenClaim := { program := "ytmmkcfiecgpkpaagreat", sum := "3aab7dbce23a98033345a5e560869e07191acaa14e5b364318d54fb70746128e", func := "postrider/postriderlaw13.TopicPlays", spec := "topicPlays", inPlace := ["internal/bytealg.IndexByteString", "internal/bytealg.IndexString"], unfollowed := true, recurses := true, named := ["internal/bytealg.MaxLen"], apart := false }
def TopicPlaysSaid : Prop := topicPlaysRow.holds Tryz.pinned (OpenSpec.ofChange topicPlaysSpec)

/-- ITS FALSE NEIGHBOUR: 'it returns false'. Refute it at one input. -/
def topicPlaysWrong : ChangeSpec := { name := "topicPlays", fn := fun _ => fun
  | [d1, d2, d3, d4, d5] => { results := [.lit (.bool false)], args := [d1, d2, d3, d4, d5] }
  | _ => none }
def TopicPlaysWrongFalsely : Prop := topicPlaysRow.holds Tryz.pinned (OpenSpec.ofChange topicPlaysWrong)

/-- 'postriderlaw13.TopicOrder': WHATEVER THE INPUT: true; the input reads as it did. -/
def topicOrderSpec : ChangeSpec := { name := "topicOrder", fn := fun _ => fun
  | [d1, d2, d3] => { results := [.lit (.bool true)], args := [d1, d2, d3] }
  | _ => none }
def topicOrderRow : OpenClaim := { program := "ytmmkcfiecgpkpaagreat", sum := "3aab7dbce23a98033345a5e560869e07191acaa14e5b364318d54fb70746128e", func := "postrider/postriderlaw13.TopicOrder", spec := "topicOrder", inPlace := ["internal/bytealg.IndexByteString", "internal/bytealg.IndexString"], unfollowed := true, recurses := true, named := ["internal/bytealg.MaxLen"], apart := false }
def TopicOrderSaid : Prop := topicOrderRow.holds Tryz.pinned (OpenSpec.ofChange topicOrderSpec)

/-- ITS FALSE NEIGHBOUR: 'it returns false'. Refute it at one input. -/
def topicOrderWrong : ChangeSpec := { name := "topicOrder", fn := fun _ => fun
  | [d1, d2, d3] => { results := [.lit (.bool false)], args := [d1, d2, d3] }
  | _ => none }
def TopicOrderWrongFalsely : Prop := topicOrderRow.holds Tryz.pinned (OpenSpec.ofChange topicOrderWrong)

/-- 'postriderlaw13.TopicFinds': WHATEVER THE INPUT: true; the input reads as it did. -/
def topicFindsSpec : ChangeSpec := { name := "topicFinds", fn := fun _ => fun
  | [d] => { results := [.lit (.bool true)], args := [d] }
  | _ => none }
def topicFindsRow : OpenClaim := { program := "ytmmkcfiecgpkpaagreat", sum := "3aab7dbce23a98033345a5e560869e07191acaa14e5b364318d54fb70746128e", func := "postrider/postriderlaw13.TopicFinds", spec := "topicFinds", inPlace := ["internal/bytealg.IndexByteString", "internal/bytealg.IndexString"], unfollowed := true, recurses := true, named := ["internal/bytealg.MaxLen"], apart := false }
def TopicFindsSaid : Prop := topicFindsRow.holds Tryz.pinned (OpenSpec.ofChange topicFindsSpec)

/-- ITS FALSE NEIGHBOUR: 'it returns false'. Refute it at one input. -/
def topicFindsWrong : ChangeSpec := { name := "topicFinds", fn := fun _ => fun
  | [d] => { results := [.lit (.bool false)], args := [d] }
  | _ => none }
def TopicFindsWrongFalsely : Prop := topicFindsRow.holds Tryz.pinned (OpenSpec.ofChange topicFindsWrong)

/-- 'postriderlaw13.TopicFull': WHATEVER THE INPUT: true; the input reads as it did. -/
def topicFullSpec : ChangeSpec := { name := "topicFull", fn := fun _ => fun
  | [d] => { results := [.lit (.bool true)], args := [d] }
  | _ => none }
def topicFullRow : OpenClaim := { program := "ytmmkcfiecgpkpaagreat", sum := "3aab7dbce23a98033345a5e560869e07191acaa14e5b364318d54fb70746128e", func := "postrider/postriderlaw13.TopicFull", spec := "topicFull", inPlace := ["internal/bytealg.IndexByteString", "internal/bytealg.IndexString"], unfollowed := true, recurses := true, named := ["internal/bytealg.MaxLen"], apart := false }
def TopicFullSaid : Prop := topicFullRow.holds Tryz.pinned (OpenSpec.ofChange topicFullSpec)

/-- ITS FALSE NEIGHBOUR: 'it returns false'. Refute it at one input. -/
def topicFullWrong : ChangeSpec := { name := "topicFull", fn := fun _ => fun
  | [d] => { results := [.lit (.bool false)], args := [d] }
  | _ => none }
def TopicFullWrongFalsely : Prop := topicFullRow.holds Tryz.pinned (OpenSpec.ofChange topicFullWrong)

/-- 'postriderlaw13.TopicVoid': WHATEVER THE INPUT: true; the input reads as it did. -/
def topicVoidSpec : ChangeSpec := { name := "topicVoid", fn := fun _ => fun
  | [d] => { results := [.lit (.bool true)], args := [d] }
  | _ => none }
def topicVoidRow : OpenClaim := { program := "ytmmkcfiecgpkpaagreat", sum := "3aab7dbce23a98033345a5e560869e07191acaa14e5b364318d54fb70746128e", func := "postrider/postriderlaw13.TopicVoid", spec := "topicVoid", inPlace := ["internal/bytealg.IndexByteString", "internal/bytealg.IndexString"], unfollowed := true, recurses := true, named := ["internal/bytealg.MaxLen"], apart := false }
def TopicVoidSaid : Prop := topicVoidRow.holds Tryz.pinned (OpenSpec.ofChange topicVoidSpec)

/-- ITS FALSE NEIGHBOUR: 'it returns false'. Refute it at one input. -/
def topicVoidWrong : ChangeSpec := { name := "topicVoid", fn := fun _ => fun
  | [d] => { results := [.lit (.bool false)], args := [d] }
  | _ => none }
def TopicVoidWrongFalsely : Prop := topicVoidRow.holds Tryz.pinned (OpenSpec.ofChange topicVoidWrong)

/- THE SECOND FORM. 'bulk': how many values and letters a reading holds, each counted each time it is reached (what is shared counts as often as it is met; a slice's spare places count too). A statement '..UptoSaid' is the law's where the arguments, and the package variables that the reading takes, are together of bulk at most 1048576: NARROWER than '..Said'. Prove '..Said' where nothing that the law and all that it calls make is longer than what came in: it says more and counts as full. Else prove '..UptoSaid'. A law counts once. -/
mutual
def uptoBulk {H : Type} : DataW H → Nat
  | .lit (.string bytes) => bytes.length + 1
  | .lit _ => 1
  | .nil => 1
  | .ptr d => uptoBulk d + 1
  | .slice elems spare => uptoBulkAll elems + uptoBulkAll spare + 1
  | .agg parts => uptoBulkAll parts + 1
  | .iface _ d => uptoBulk d + 1
  | .map entries => uptoBulkEntries entries + 1
  | .held _ => 1
def uptoBulkAll {H : Type} : List (DataW H) → Nat
  | [] => 0
  | d :: r => uptoBulk d + uptoBulkAll r
def uptoBulkEntries {H : Type} : List (Lit × DataW H) → Nat
  | [] => 0
  | x :: r => uptoBulkEntry x + uptoBulkEntries r
def uptoBulkEntry {H : Type} : Lit × DataW H → Nat
  | (.string bytes, d) => bytes.length + uptoBulk d + 1
  | (_, d) => uptoBulk d + 1
 end
def uptoSmall : (H : Type) → List (DataW H) → Bool := fun _ ds => decide (uptoBulkAll ds ≤ 1048576)
def OpenSpec.upto (s : _root_.Go.ChangeSpec) : _root_.Go.OpenSpec := { _root_.Go.OpenSpec.ofChange s with cond := some uptoSmall }

/-- 'postriderlaw13.TopicPlays', WHERE WHAT IT READS IS OF BULK AT MOST 1048576: true; the input reads as it did. -/
def topicPlaysUptoRow : OpenClaim := { program := "ytmmkcfiecgpkpaagreat", sum := "3aab7dbce23a98033345a5e560869e07191acaa14e5b364318d54fb70746128e", func := "postrider/postriderlaw13.TopicPlays", spec := "topicPlays", inPlace := ["internal/bytealg.IndexByteString", "internal/bytealg.IndexString"], unfollowed := true, recurses := true, named := ["internal/bytealg.MaxLen"], apart := false, narrowed := true }
def TopicPlaysUptoSaid : Prop := topicPlaysUptoRow.holds Tryz.pinned (OpenSpec.upto topicPlaysSpec)

/-- 'postriderlaw13.TopicOrder', WHERE WHAT IT READS IS OF BULK AT MOST 1048576: true; the input reads as it did. -/
def topicOrderUptoRow : OpenClaim := { program := "ytmmkcfiecgpkpaagreat", sum := "3aab7dbce23a98033345a5e560869e07191acaa14e5b364318d54fb70746128e", func := "postrider/postriderlaw13.TopicOrder", spec := "topicOrder", inPlace := ["internal/bytealg.IndexByteString", "internal/bytealg.IndexString"], unfollowed := true, recurses := true, named := ["internal/bytealg.MaxLen"], apart := false, narrowed := true }
def TopicOrderUptoSaid : Prop := topicOrderUptoRow.holds Tryz.pinned (OpenSpec.upto topicOrderSpec)

/-- 'postriderlaw13.TopicFinds', WHERE WHAT IT READS IS OF BULK AT MOST 1048576: true; the input reads as it did. -/
def topicFindsUptoRow : OpenClaim := { program := "ytmmkcfiecgpkpaagreat", sum := "3aab7dbce23a98033345a5e560869e07191acaa14e5b364318d54fb70746128e", func := "postrider/postriderlaw13.TopicFinds", spec := "topicFinds", inPlace := ["internal/bytealg.IndexByteString", "internal/bytealg.IndexString"], unfollowed := true, recurses := true, named := ["internal/bytealg.MaxLen"], apart := false, narrowed := true }
def TopicFindsUptoSaid : Prop := topicFindsUptoRow.holds Tryz.pinned (OpenSpec.upto topicFindsSpec)

/-- 'postriderlaw13.TopicFull', WHERE WHAT IT READS IS OF BULK AT MOST 1048576: true; the input reads as it did. -/
def topicFullUptoRow : OpenClaim := { program := "ytmmkcfiecgpkpaagreat", sum := "3aab7dbce23a98033345a5e560869e07191acaa14e5b364318d54fb70746128e", func := "postrider/postriderlaw13.TopicFull", spec := "topicFull", inPlace := ["internal/bytealg.IndexByteString", "internal/bytealg.IndexString"], unfollowed := true, recurses := true, named := ["internal/bytealg.MaxLen"], apart := false, narrowed := true }
def TopicFullUptoSaid : Prop := topicFullUptoRow.holds Tryz.pinned (OpenSpec.upto topicFullSpec)

/-- 'postriderlaw13.TopicVoid', WHERE WHAT IT READS IS OF BULK AT MOST 1048576: true; the input reads as it did. -/
def topicVoidUptoRow : OpenClaim := { program := "ytmmkcfiecgpkpaagreat", sum := "3aab7dbce23a98033345a5e560869e07191acaa14e5b364318d54fb70746128e", func := "postrider/postriderlaw13.TopicVoid", spec := "topicVoid", inPlace := ["internal/bytealg.IndexByteString", "internal/bytealg.IndexString"], unfollowed := true, recurses := true, named := ["internal/bytealg.MaxLen"], apart := false, narrowed := true }
def TopicVoidUptoSaid : Prop := topicVoidUptoRow.holds Tryz.pinned (OpenSpec.upto topicVoidSpec)

end Rows
end Go.Proofs.YtmmkcfiecgpkpaaGreat
