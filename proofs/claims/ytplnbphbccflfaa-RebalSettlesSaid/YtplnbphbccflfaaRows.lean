/-
  No cell of these rows narrows 'for every input' (looked for: loops, veiled, ifaces, maps, wideKeys, modest, calm, conditions, laid).
  DERIVED. THE GIVEN ROWS OF THIS SEAT. 5 by the template 'for every input the law returns true; each argument reads behind the call as it read before'; 0 by the template 'total and deterministic' (their statements: YtplnbphbccflfaaTotals.lean).
  GIVEN WITH THE SEED: the statements are not yours to turn. If you find one false, say at which input.
  Laid BY PROGRAM, IN A SANDBOX (cutbox-rows.mjs): the forced cells as the released guide's own fill.sh prints them over the translation 1c6d74859451946d… (all of the seat's roots in one cut). By AI agents, Wed Nov 11 2026. No macro, syntax, notation, axiom, sorry.
-/
import Derived.Test.YtplnbphbccflfaaChecked
import GoSem.Claim
import GoSem.ClaimJoined
import GoSem.ClaimMapViews
import Derived.JoinedTies
import Derived.KernelRfl
namespace Go.Proofs.Ytplnbphbccflfaa
/- THE CELL 'sum', in the pinned program and in every row, IS THE sha256 OF THE DUMP (.gsa) THAT YtplnbphbccflfaaProg.lean LOADS. Nothing in Lean hashes anything: it is a label: what it is worth is what the hold of that sum in a sandbox is worth. -/
noncomputable def Try.pinned : Pinned := { name := "ytplnbphbccflfaa", sum := "1c6d74859451946d98171ce08261fe43b68a25f36385f2bd91e2e19da9995808", checked := Try.checked }
namespace Rows
def none {H : Type} : Left H := { results := [], args := [] }

/-- 'postriderlaw17.RebalPlays': WHATEVER THE INPUT: true; the input reads as it did. -/
def rebalPlaysSpec : ChangeSpec := { name := "rebalPlays", fn := fun _ => fun
  | [d1, d2] => { results := [.lit (.bool true)], args := [d1, d2] }
  | _ => none }
def rebalPlaysRow : OpenClaim := { program := "ytplnbphbccflfaa", sum := "1c6d74859451946d98171ce08261fe43b68a25f36385f2bd91e2e19da9995808", func := "postrider/postriderlaw17.RebalPlays", spec := "rebalPlays", unfollowed := true, recurses := true, plainKeys := false, apart := false }
def RebalPlaysSaid : Prop := rebalPlaysRow.holds Try.pinned (OpenSpec.ofChange rebalPlaysSpec)

/-- ITS FALSE NEIGHBOUR: 'it returns false'. Refute it at one input. -/
def rebalPlaysWrong : ChangeSpec := { name := "rebalPlays", fn := fun _ => fun
  | [d1, d2] => { results := [.lit (.bool false)], args := [d1, d2] }
  | _ => none }
def RebalPlaysWrongFalsely : Prop := rebalPlaysRow.holds Try.pinned (OpenSpec.ofChange rebalPlaysWrong)

/-- 'postriderlaw17.RebalHands': WHATEVER THE INPUT: true; the input reads as it did. -/
def rebalHandsSpec : ChangeSpec := { name := "rebalHands", fn := fun _ => fun
  | [d] => { results := [.lit (.bool true)], args := [d] }
  | _ => none }
def rebalHandsRow : OpenClaim := { program := "ytplnbphbccflfaa", sum := "1c6d74859451946d98171ce08261fe43b68a25f36385f2bd91e2e19da9995808", func := "postrider/postriderlaw17.RebalHands", spec := "rebalHands", unfollowed := true, recurses := true, plainKeys := false, apart := false }
def RebalHandsSaid : Prop := rebalHandsRow.holds Try.pinned (OpenSpec.ofChange rebalHandsSpec)

/-- ITS FALSE NEIGHBOUR: 'it returns false'. Refute it at one input. -/
def rebalHandsWrong : ChangeSpec := { name := "rebalHands", fn := fun _ => fun
  | [d] => { results := [.lit (.bool false)], args := [d] }
  | _ => none }
def RebalHandsWrongFalsely : Prop := rebalHandsRow.holds Try.pinned (OpenSpec.ofChange rebalHandsWrong)

/-- 'postriderlaw17.RebalSettles': WHATEVER THE INPUT: true; the input reads as it did. -/
def rebalSettlesSpec : ChangeSpec := { name := "rebalSettles", fn := fun _ => fun
  | [d1, d2, d3] => { results := [.lit (.bool true)], args := [d1, d2, d3] }
  | _ => none }
def rebalSettlesRow : OpenClaim := { program := "ytplnbphbccflfaa", sum := "1c6d74859451946d98171ce08261fe43b68a25f36385f2bd91e2e19da9995808", func := "postrider/postriderlaw17.RebalSettles", spec := "rebalSettles", unfollowed := true, recurses := true, plainKeys := false, apart := false }
def RebalSettlesSaid : Prop := rebalSettlesRow.holds Try.pinned (OpenSpec.ofChange rebalSettlesSpec)

/-- ITS FALSE NEIGHBOUR: 'it returns false'. Refute it at one input. -/
def rebalSettlesWrong : ChangeSpec := { name := "rebalSettles", fn := fun _ => fun
  | [d1, d2, d3] => { results := [.lit (.bool false)], args := [d1, d2, d3] }
  | _ => none }
def RebalSettlesWrongFalsely : Prop := rebalSettlesRow.holds Try.pinned (OpenSpec.ofChange rebalSettlesWrong)

/-- 'postriderlaw17.RebalVoid': WHATEVER THE INPUT: true; the input reads as it did. -/
def rebalVoidSpec : ChangeSpec := { name := "rebalVoid", fn := fun _ => fun
  | [d] => { results := [.lit (.bool true)], args := [d] }
  | _ => none }
def rebalVoidRow : OpenClaim := { program := "ytplnbphbccflfaa", sum := "1c6d74859451946d98171ce08261fe43b68a25f36385f2bd91e2e19da9995808", func := "postrider/postriderlaw17.RebalVoid", spec := "rebalVoid", unfollowed := true, recurses := true, plainKeys := false, apart := false }
def RebalVoidSaid : Prop := rebalVoidRow.holds Try.pinned (OpenSpec.ofChange rebalVoidSpec)

/-- ITS FALSE NEIGHBOUR: 'it returns false'. Refute it at one input. -/
def rebalVoidWrong : ChangeSpec := { name := "rebalVoid", fn := fun _ => fun
  | [d] => { results := [.lit (.bool false)], args := [d] }
  | _ => none }
def RebalVoidWrongFalsely : Prop := rebalVoidRow.holds Try.pinned (OpenSpec.ofChange rebalVoidWrong)

/-- 'postriderlaw17.RebalOrder': WHATEVER THE INPUT: true; the input reads as it did. -/
def rebalOrderSpec : ChangeSpec := { name := "rebalOrder", fn := fun _ => fun
  | [d1, d2, d3] => { results := [.lit (.bool true)], args := [d1, d2, d3] }
  | _ => none }
def rebalOrderRow : OpenClaim := { program := "ytplnbphbccflfaa", sum := "1c6d74859451946d98171ce08261fe43b68a25f36385f2bd91e2e19da9995808", func := "postrider/postriderlaw17.RebalOrder", spec := "rebalOrder", unfollowed := true, recurses := true, plainKeys := false, apart := false }
def RebalOrderSaid : Prop := rebalOrderRow.holds Try.pinned (OpenSpec.ofChange rebalOrderSpec)

/-- ITS FALSE NEIGHBOUR: 'it returns false'. Refute it at one input. -/
def rebalOrderWrong : ChangeSpec := { name := "rebalOrder", fn := fun _ => fun
  | [d1, d2, d3] => { results := [.lit (.bool false)], args := [d1, d2, d3] }
  | _ => none }
def RebalOrderWrongFalsely : Prop := rebalOrderRow.holds Try.pinned (OpenSpec.ofChange rebalOrderWrong)

/- THE SECOND FORM. 'bulk': how many values and letters a reading holds, each counted each time it is reached (what is shared counts as often as it is met; a slice's spare places count too). A statement '..UptoSaid' is the law's where the arguments, and the package variables that the reading takes, are together of bulk at most 1048576: NARROWER than '..Said'. Prove '..Said' where nothing that the law and all that it calls make is longer than what came in: it says more and counts as full. Else prove '..UptoSaid'. A law counts once. -/
mutual
def uptoBulk {H : Type} : DataW H → Nat
  | .lit (.string bytes) => bytes.length + 1
  | .lit _ => 1
  | .nil => 1
  | .ptr d => uptoBulk d + 1
  | .slice elems spare => uptoBulkAll elems + uptoBulkAll spare + 1
  | .agg parts => uptoBulkAll parts + 1
  | .iface _ d => uptoBulk d + 1
  | .map entries => uptoBulkEntries entries + 1
  | .held _ => 1
def uptoBulkAll {H : Type} : List (DataW H) → Nat
  | [] => 0
  | d :: r => uptoBulk d + uptoBulkAll r
def uptoBulkEntries {H : Type} : List (Lit × DataW H) → Nat
  | [] => 0
  | x :: r => uptoBulkEntry x + uptoBulkEntries r
def uptoBulkEntry {H : Type} : Lit × DataW H → Nat
  | (.string bytes, d) => bytes.length + uptoBulk d + 1
  | (_, d) => uptoBulk d + 1
 end
def uptoSmall : (H : Type) → List (DataW H) → Bool := fun _ ds => decide (uptoBulkAll ds ≤ 1048576)
def OpenSpec.upto (s : _root_.Go.ChangeSpec) : _root_.Go.OpenSpec := { _root_.Go.OpenSpec.ofChange s with cond := some uptoSmall }

/-- 'postriderlaw17.RebalPlays', WHERE WHAT IT READS IS OF BULK AT MOST 1048576: true; the input reads as it did. -/
def rebalPlaysUptoRow : OpenClaim := { program := "ytplnbphbccflfaa", sum := "1c6d74859451946d98171ce08261fe43b68a25f36385f2bd91e2e19da9995808", func := "postrider/postriderlaw17.RebalPlays", spec := "rebalPlays", unfollowed := true, recurses := true, plainKeys := false, apart := false, narrowed := true }
def RebalPlaysUptoSaid : Prop := rebalPlaysUptoRow.holds Try.pinned (OpenSpec.upto rebalPlaysSpec)

/-- 'postriderlaw17.RebalHands', WHERE WHAT IT READS IS OF BULK AT MOST 1048576: true; the input reads as it did. -/
def rebalHandsUptoRow : OpenClaim := { program := "ytplnbphbccflfaa", sum := "1c6d74859451946d98171ce08261fe43b68a25f36385f2bd91e2e19da9995808", func := "postrider/postriderlaw17.RebalHands", spec := "rebalHands", unfollowed := true, recurses := true, plainKeys := false, apart := false, narrowed := true }
def RebalHandsUptoSaid : Prop := rebalHandsUptoRow.holds Try.pinned (OpenSpec.upto rebalHandsSpec)

/-- 'postriderlaw17.RebalSettles', WHERE WHAT IT READS IS OF BULK AT MOST 1048576: true; the input reads as it did. -/
def rebalSettlesUptoRow : OpenClaim := { program := "ytplnbphbccflfaa", sum := "1c6d74859451946d98171ce08261fe43b68a25f36385f2bd91e2e19da9995808", func := "postrider/postriderlaw17.RebalSettles", spec := "rebalSettles", unfollowed := true, recurses := true, plainKeys := false, apart := false, narrowed := true }
def RebalSettlesUptoSaid : Prop := rebalSettlesUptoRow.holds Try.pinned (OpenSpec.upto rebalSettlesSpec)

/-- 'postriderlaw17.RebalVoid', WHERE WHAT IT READS IS OF BULK AT MOST 1048576: true; the input reads as it did. -/
def rebalVoidUptoRow : OpenClaim := { program := "ytplnbphbccflfaa", sum := "1c6d74859451946d98171ce08261fe43b68a25f36385f2bd91e2e19da9995808", func := "postrider/postriderlaw17.RebalVoid", spec := "rebalVoid", unfollowed := true, recurses := true, plainKeys := false, apart := false, narrowed := true }
def RebalVoidUptoSaid : Prop := rebalVoidUptoRow.holds Try.pinned (OpenSpec.upto rebalVoidSpec)

/-- 'postriderlaw17.RebalOrder', WHERE WHAT IT READS IS OF BULK AT MOST 1048576: true; the input reads as it did. -/
def rebalOrderUptoRow : OpenClaim := { program := "ytplnbphbccflfaa", sum := "1c6d74859451946d98171ce08261fe43b68a25f36385f2bd91e2e19da9995808", func := "postrider/postriderlaw17.RebalOrder", spec := "rebalOrder", unfollowed := true, recurses := true, plainKeys := false, apart := false, narrowed := true }
def RebalOrderUptoSaid : Prop := rebalOrderUptoRow.holds Try.pinned (OpenSpec.upto rebalOrderSpec)

end Rows
end Go.Proofs.Ytplnbphbccflfaa
