/-
  No cell of these rows narrows 'for every input' (looked for: loops, veiled, ifaces, maps, wideKeys, modest, calm, conditions, laid).
  DERIVED. THE GIVEN ROWS OF THIS SEAT. 6 by the template 'for every input the law returns true; each argument reads behind the call as it read before'; 0 by the template 'total and deterministic' (their statements: YtefopajkcpcjpaaTotals.lean).
  GIVEN WITH THE SEED: the statements are not yours to turn. If you find one false, say at which input.
  Laid BY PROGRAM, IN A SANDBOX (cutbox-rows.mjs): the forced cells as the released guide's own fill.sh prints them over the translation bd8cfffe44a6d86c… (all of the seat's roots in one cut). By AI agents, Wed Nov 11 2026. No macro, syntax, notation, axiom, sorry.
-/
import Derived.Test.YtefopajkcpcjpaaChecked
import GoSem.Claim
import GoSem.ClaimJoined
import GoSem.ClaimMapViews
import Derived.JoinedTies
import Derived.KernelRfl
namespace Go.Proofs.Ytefopajkcpcjpaa
/- THE CELL 'sum', in the pinned program and in every row, IS THE sha256 OF THE DUMP (.gsa) THAT YtefopajkcpcjpaaProg.lean LOADS. Nothing in Lean hashes anything: it is a label: what it is worth is what the hold of that sum in a sandbox is worth. -/
noncomputable def Try.pinned : Pinned := { name := "ytefopajkcpcjpaa", sum := "bd8cfffe44a6d86c5875d7843af15b0d1d091cd16fc770ca50396ec4ad01b67a", checked := Try.checked }
namespace Rows
def none {H : Type} : Left H := { results := [], args := [] }

/-- 'postriderlaw06.RingPlays': WHATEVER THE INPUT: true; the input reads as it did. -/
def ringPlaysSpec : ChangeSpec := { name := "ringPlays", fn := fun _ => fun
  | [d1, d2, d3] => { results := [.lit (.bool true)], args := [d1, d2, d3] }
  | _ => none }
def ringPlaysRow : OpenClaim := { program := "ytefopajkcpcjpaa", sum := "bd8cfffe44a6d86c5875d7843af15b0d1d091cd16fc770ca50396ec4ad01b67a", func := "postrider/postriderlaw06.RingPlays", spec := "ringPlays", unfollowed := true, recurses := true, apart := false }
def RingPlaysSaid : Prop := ringPlaysRow.holds Try.pinned (OpenSpec.ofChange ringPlaysSpec)

/-- ITS FALSE NEIGHBOUR: 'it returns false'. Refute it at one input. -/
def ringPlaysWrong : ChangeSpec := { name := "ringPlays", fn := fun _ => fun
  | [d1, d2, d3] => { results := [.lit (.bool false)], args := [d1, d2, d3] }
  | _ => none }
def RingPlaysWrongFalsely : Prop := ringPlaysRow.holds Try.pinned (OpenSpec.ofChange ringPlaysWrong)

/-- 'postriderlaw06.RingOrder': WHATEVER THE INPUT: true; the input reads as it did. -/
def ringOrderSpec : ChangeSpec := { name := "ringOrder", fn := fun _ => fun
  | [d1, d2, d3] => { results := [.lit (.bool true)], args := [d1, d2, d3] }
  | _ => none }
def ringOrderRow : OpenClaim := { program := "ytefopajkcpcjpaa", sum := "bd8cfffe44a6d86c5875d7843af15b0d1d091cd16fc770ca50396ec4ad01b67a", func := "postrider/postriderlaw06.RingOrder", spec := "ringOrder", unfollowed := true, recurses := true, apart := false }
def RingOrderSaid : Prop := ringOrderRow.holds Try.pinned (OpenSpec.ofChange ringOrderSpec)

/-- ITS FALSE NEIGHBOUR: 'it returns false'. Refute it at one input. -/
def ringOrderWrong : ChangeSpec := { name := "ringOrder", fn := fun _ => fun
  | [d1, d2, d3] => { results := [.lit (.bool false)], args := [d1, d2, d3] }
  | _ => none }
def RingOrderWrongFalsely : Prop := ringOrderRow.holds Try.pinned (OpenSpec.ofChange ringOrderWrong)

/-- 'postriderlaw06.RingOnce': WHATEVER THE INPUT: true; the input reads as it did. -/
def ringOnceSpec : ChangeSpec := { name := "ringOnce", fn := fun _ => fun
  | [d1, d2, d3] => { results := [.lit (.bool true)], args := [d1, d2, d3] }
  | _ => none }
def ringOnceRow : OpenClaim := { program := "ytefopajkcpcjpaa", sum := "bd8cfffe44a6d86c5875d7843af15b0d1d091cd16fc770ca50396ec4ad01b67a", func := "postrider/postriderlaw06.RingOnce", spec := "ringOnce", unfollowed := true, recurses := true, apart := false }
def RingOnceSaid : Prop := ringOnceRow.holds Try.pinned (OpenSpec.ofChange ringOnceSpec)

/-- ITS FALSE NEIGHBOUR: 'it returns false'. Refute it at one input. -/
def ringOnceWrong : ChangeSpec := { name := "ringOnce", fn := fun _ => fun
  | [d1, d2, d3] => { results := [.lit (.bool false)], args := [d1, d2, d3] }
  | _ => none }
def RingOnceWrongFalsely : Prop := ringOnceRow.holds Try.pinned (OpenSpec.ofChange ringOnceWrong)

/-- 'postriderlaw06.RingReady': WHATEVER THE INPUT: true; the input reads as it did. -/
def ringReadySpec : ChangeSpec := { name := "ringReady", fn := fun _ => fun
  | [d1, d2, d3] => { results := [.lit (.bool true)], args := [d1, d2, d3] }
  | _ => none }
def ringReadyRow : OpenClaim := { program := "ytefopajkcpcjpaa", sum := "bd8cfffe44a6d86c5875d7843af15b0d1d091cd16fc770ca50396ec4ad01b67a", func := "postrider/postriderlaw06.RingReady", spec := "ringReady", unfollowed := true, recurses := true, apart := false }
def RingReadySaid : Prop := ringReadyRow.holds Try.pinned (OpenSpec.ofChange ringReadySpec)

/-- ITS FALSE NEIGHBOUR: 'it returns false'. Refute it at one input. -/
def ringReadyWrong : ChangeSpec := { name := "ringReady", fn := fun _ => fun
  | [d1, d2, d3] => { results := [.lit (.bool false)], args := [d1, d2, d3] }
  | _ => none }
def RingReadyWrongFalsely : Prop := ringReadyRow.holds Try.pinned (OpenSpec.ofChange ringReadyWrong)

/-- 'postriderlaw06.RingTrims': WHATEVER THE INPUT: true; the input reads as it did. -/
def ringTrimsSpec : ChangeSpec := { name := "ringTrims", fn := fun _ => fun
  | [d1, d2, d3, d4] => { results := [.lit (.bool true)], args := [d1, d2, d3, d4] }
  | _ => none }
def ringTrimsRow : OpenClaim := { program := "ytefopajkcpcjpaa", sum := "bd8cfffe44a6d86c5875d7843af15b0d1d091cd16fc770ca50396ec4ad01b67a", func := "postrider/postriderlaw06.RingTrims", spec := "ringTrims", unfollowed := true, recurses := true, apart := false }
def RingTrimsSaid : Prop := ringTrimsRow.holds Try.pinned (OpenSpec.ofChange ringTrimsSpec)

/-- ITS FALSE NEIGHBOUR: 'it returns false'. Refute it at one input. -/
def ringTrimsWrong : ChangeSpec := { name := "ringTrims", fn := fun _ => fun
  | [d1, d2, d3, d4] => { results := [.lit (.bool false)], args := [d1, d2, d3, d4] }
  | _ => none }
def RingTrimsWrongFalsely : Prop := ringTrimsRow.holds Try.pinned (OpenSpec.ofChange ringTrimsWrong)

/-- 'postriderlaw06.RingVoid': WHATEVER THE INPUT: true; the input reads as it did. -/
def ringVoidSpec : ChangeSpec := { name := "ringVoid", fn := fun _ => fun
  | [d] => { results := [.lit (.bool true)], args := [d] }
  | _ => none }
def ringVoidRow : OpenClaim := { program := "ytefopajkcpcjpaa", sum := "bd8cfffe44a6d86c5875d7843af15b0d1d091cd16fc770ca50396ec4ad01b67a", func := "postrider/postriderlaw06.RingVoid", spec := "ringVoid", unfollowed := true, recurses := true, apart := false }
def RingVoidSaid : Prop := ringVoidRow.holds Try.pinned (OpenSpec.ofChange ringVoidSpec)

/-- ITS FALSE NEIGHBOUR: 'it returns false'. Refute it at one input. -/
def ringVoidWrong : ChangeSpec := { name := "ringVoid", fn := fun _ => fun
  | [d] => { results := [.lit (.bool false)], args := [d] }
  | _ => none }
def RingVoidWrongFalsely : Prop := ringVoidRow.holds Try.pinned (OpenSpec.ofChange ringVoidWrong)

/- THE SECOND FORM. 'bulk': how many values and letters a reading holds, each counted each time it is reached (what is shared counts as often as it is met; a slice's spare places count too). A statement '..UptoSaid' is the law's where the arguments, and the package variables that the reading takes, are together of bulk at most 1048576: NARROWER than '..Said'. Prove '..Said' where nothing that the law and all that it calls make is longer than what came in: it says more and counts as full. Else prove '..UptoSaid'. A law counts once. -/
mutual
def uptoBulk {H : Type} : DataW H → Nat
  | .lit (.string bytes) => bytes.length + 1
  | .lit _ => 1
  | .nil => 1
  | .ptr d => uptoBulk d + 1
  | .slice elems spare => uptoBulkAll elems + uptoBulkAll spare + 1
  | .agg parts => uptoBulkAll parts + 1
  | .iface _ d => uptoBulk d + 1
  | .map entries => uptoBulkEntries entries + 1
  | .held _ => 1
def uptoBulkAll {H : Type} : List (DataW H) → Nat
  | [] => 0
  | d :: r => uptoBulk d + uptoBulkAll r
def uptoBulkEntries {H : Type} : List (Lit × DataW H) → Nat
  | [] => 0
  | x :: r => uptoBulkEntry x + uptoBulkEntries r
def uptoBulkEntry {H : Type} : Lit × DataW H → Nat
  | (.string bytes, d) => bytes.length + uptoBulk d + 1
  | (_, d) => uptoBulk d + 1
 end
def uptoSmall : (H : Type) → List (DataW H) → Bool := fun _ ds => decide (uptoBulkAll ds ≤ 1048576)
def OpenSpec.upto (s : _root_.Go.ChangeSpec) : _root_.Go.OpenSpec := { _root_.Go.OpenSpec.ofChange s with cond := some uptoSmall }

/-- 'postriderlaw06.RingPlays', WHERE WHAT IT READS IS OF BULK AT MOST 1048576: true; the input reads as it did. -/
def ringPlaysUptoRow : OpenClaim := { program := "ytefopajkcpcjpaa", sum := "bd8cfffe44a6d86c5875d7843af15b0d1d091cd16fc770ca50396ec4ad01b67a", func := "postrider/postriderlaw06.RingPlays", spec := "ringPlays", unfollowed := true, recurses := true, apart := false, narrowed := true }
def RingPlaysUptoSaid : Prop := ringPlaysUptoRow.holds Try.pinned (OpenSpec.upto ringPlaysSpec)

/-- 'postriderlaw06.RingOrder', WHERE WHAT IT READS IS OF BULK AT MOST 1048576: true; the input reads as it did. -/
def ringOrderUptoRow : OpenClaim := { program := "ytefopajkcpcjpaa", sum := "bd8cfffe44a6d86c5875d7843af15b0d1d091cd16fc770ca50396ec4ad01b67a", func := "postrider/postriderlaw06.RingOrder", spec := "ringOrder", unfollowed := true, recurses := true, apart := false, narrowed := true }
def RingOrderUptoSaid : Prop := ringOrderUptoRow.holds Try.pinned (OpenSpec.upto ringOrderSpec)

/-- 'postriderlaw06.RingOnce', WHERE WHAT IT READS IS OF BULK AT MOST 1048576: true; the input reads as it did. -/
def ringOnceUptoRow : OpenClaim := { program := "ytefopajkcpcjpaa", sum := "bd8cfffe44a6d86c5875d7843af15b0d1d091cd16fc770ca50396ec4ad01b67a", func := "postrider/postriderlaw06.RingOnce", spec := "ringOnce", unfollowed := true, recurses := true, apart := false, narrowed := true }
def RingOnceUptoSaid : Prop := ringOnceUptoRow.holds Try.pinned (OpenSpec.upto ringOnceSpec)

/-- 'postriderlaw06.RingReady', WHERE WHAT IT READS IS OF BULK AT MOST 1048576: true; the input reads as it did. -/
def ringReadyUptoRow : OpenClaim := { program := "ytefopajkcpcjpaa", sum := "bd8cfffe44a6d86c5875d7843af15b0d1d091cd16fc770ca50396ec4ad01b67a", func := "postrider/postriderlaw06.RingReady", spec := "ringReady", unfollowed := true, recurses := true, apart := false, narrowed := true }
def RingReadyUptoSaid : Prop := ringReadyUptoRow.holds Try.pinned (OpenSpec.upto ringReadySpec)

/-- 'postriderlaw06.RingTrims', WHERE WHAT IT READS IS OF BULK AT MOST 1048576: true; the input reads as it did. -/
def ringTrimsUptoRow : OpenClaim := { program := "ytefopajkcpcjpaa", sum := "bd8cfffe44a6d86c5875d7843af15b0d1d091cd16fc770ca50396ec4ad01b67a", func := "postrider/postriderlaw06.RingTrims", spec := "ringTrims", unfollowed := true, recurses := true, apart := false, narrowed := true }
def RingTrimsUptoSaid : Prop := ringTrimsUptoRow.holds Try.pinned (OpenSpec.upto ringTrimsSpec)

/-- 'postriderlaw06.RingVoid', WHERE WHAT IT READS IS OF BULK AT MOST 1048576: true; the input reads as it did. -/
def ringVoidUptoRow : OpenClaim := { program := "ytefopajkcpcjpaa", sum := "bd8cfffe44a6d86c5875d7843af15b0d1d091cd16fc770ca50396ec4ad01b67a", func := "postrider/postriderlaw06.RingVoid", spec := "ringVoid", unfollowed := true, recurses := true, apart := false, narrowed := true }
def RingVoidUptoSaid : Prop := ringVoidUptoRow.holds Try.pinned (OpenSpec.upto ringVoidSpec)

end Rows
end Go.Proofs.Ytefopajkcpcjpaa
