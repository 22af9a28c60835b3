/-
  No cell of these rows narrows 'for every input' (looked for: loops, veiled, ifaces, maps, wideKeys, modest, calm, conditions, laid).
  DERIVED. THE GIVEN ROWS OF THIS SEAT. 5 by the template 'for every input the law returns true; each argument reads behind the call as it read before'; 0 by the template 'total and deterministic' (their statements: YtepdnclojjeepaaTotals.lean).
  GIVEN WITH THE SEED: the statements are not yours to turn. If you find one false, say at which input.
  Laid BY PROGRAM, IN A SANDBOX (cutbox-rows.mjs): the forced cells as the released guide's own fill.sh prints them over the translation b9f8aca3a7129c30… (all of the seat's roots in one cut). By AI agents, Wed Nov 11 2026. No macro, syntax, notation, axiom, sorry.
-/
import Derived.Test.YtepdnclojjeepaaChecked
import GoSem.Claim
import GoSem.ClaimJoined
import GoSem.ClaimMapViews
import Derived.JoinedTies
import Derived.KernelRfl
namespace Go.Proofs.Ytepdnclojjeepaa
/- THE CELL 'sum', in the pinned program and in every row, IS THE sha256 OF THE DUMP (.gsa) THAT YtepdnclojjeepaaProg.lean LOADS. Nothing in Lean hashes anything: it is a label: what it is worth is what the hold of that sum in a sandbox is worth. -/
noncomputable def Try.pinned : Pinned := { name := "ytepdnclojjeepaa", sum := "b9f8aca3a7129c30e0ad397f5f1cd261dd92fa4e170a7da63a34771c624764c6", checked := Try.checked }
namespace Rows
def none {H : Type} : Left H := { results := [], args := [] }

/-- 'postriderlaw15.MemberPlays': WHATEVER THE INPUT: true; the input reads as it did. -/
def memberPlaysSpec : ChangeSpec := { name := "memberPlays", fn := fun _ => fun
  | [d] => { results := [.lit (.bool true)], args := [d] }
  | _ => none }
def memberPlaysRow : OpenClaim := { program := "ytepdnclojjeepaa", sum := "b9f8aca3a7129c30e0ad397f5f1cd261dd92fa4e170a7da63a34771c624764c6", func := "postrider/postriderlaw15.MemberPlays", spec := "memberPlays", unfollowed := true, recurses := true, apart := false }
def MemberPlaysSaid : Prop := memberPlaysRow.holds Try.pinned (OpenSpec.ofChange memberPlaysSpec)

/-- ITS FALSE NEIGHBOUR: 'it returns false'. Refute it at one input. -/
def memberPlaysWrong : ChangeSpec := { name := "memberPlays", fn := fun _ => fun
  | [d] => { results := [.lit (.bool false)], args := [d] }
  | _ => none }
def MemberPlaysWrongFalsely : Prop := memberPlaysRow.holds Try.pinned (OpenSpec.ofChange memberPlaysWrong)

/-- 'postriderlaw15.MemberJust': WHATEVER THE INPUT: true; the input reads as it did. -/
def memberJustSpec : ChangeSpec := { name := "memberJust", fn := fun _ => fun
  | [d] => { results := [.lit (.bool true)], args := [d] }
  | _ => none }
def memberJustRow : OpenClaim := { program := "ytepdnclojjeepaa", sum := "b9f8aca3a7129c30e0ad397f5f1cd261dd92fa4e170a7da63a34771c624764c6", func := "postrider/postriderlaw15.MemberJust", spec := "memberJust", unfollowed := true, recurses := true, apart := false }
def MemberJustSaid : Prop := memberJustRow.holds Try.pinned (OpenSpec.ofChange memberJustSpec)

/-- ITS FALSE NEIGHBOUR: 'it returns false'. Refute it at one input. -/
def memberJustWrong : ChangeSpec := { name := "memberJust", fn := fun _ => fun
  | [d] => { results := [.lit (.bool false)], args := [d] }
  | _ => none }
def MemberJustWrongFalsely : Prop := memberJustRow.holds Try.pinned (OpenSpec.ofChange memberJustWrong)

/-- 'postriderlaw15.MemberLater': WHATEVER THE INPUT: true; the input reads as it did. -/
def memberLaterSpec : ChangeSpec := { name := "memberLater", fn := fun _ => fun
  | [d1, d2] => { results := [.lit (.bool true)], args := [d1, d2] }
  | _ => none }
def memberLaterRow : OpenClaim := { program := "ytepdnclojjeepaa", sum := "b9f8aca3a7129c30e0ad397f5f1cd261dd92fa4e170a7da63a34771c624764c6", func := "postrider/postriderlaw15.MemberLater", spec := "memberLater", unfollowed := true, recurses := true, apart := false }
def MemberLaterSaid : Prop := memberLaterRow.holds Try.pinned (OpenSpec.ofChange memberLaterSpec)

/-- ITS FALSE NEIGHBOUR: 'it returns false'. Refute it at one input. -/
def memberLaterWrong : ChangeSpec := { name := "memberLater", fn := fun _ => fun
  | [d1, d2] => { results := [.lit (.bool false)], args := [d1, d2] }
  | _ => none }
def MemberLaterWrongFalsely : Prop := memberLaterRow.holds Try.pinned (OpenSpec.ofChange memberLaterWrong)

/-- 'postriderlaw15.MemberVoid': WHATEVER THE INPUT: true; the input reads as it did. -/
def memberVoidSpec : ChangeSpec := { name := "memberVoid", fn := fun _ => fun
  | [d] => { results := [.lit (.bool true)], args := [d] }
  | _ => none }
def memberVoidRow : OpenClaim := { program := "ytepdnclojjeepaa", sum := "b9f8aca3a7129c30e0ad397f5f1cd261dd92fa4e170a7da63a34771c624764c6", func := "postrider/postriderlaw15.MemberVoid", spec := "memberVoid", unfollowed := true, recurses := true, apart := false }
def MemberVoidSaid : Prop := memberVoidRow.holds Try.pinned (OpenSpec.ofChange memberVoidSpec)

/-- ITS FALSE NEIGHBOUR: 'it returns false'. Refute it at one input. -/
def memberVoidWrong : ChangeSpec := { name := "memberVoid", fn := fun _ => fun
  | [d] => { results := [.lit (.bool false)], args := [d] }
  | _ => none }
def MemberVoidWrongFalsely : Prop := memberVoidRow.holds Try.pinned (OpenSpec.ofChange memberVoidWrong)

/-- 'postriderlaw15.MemberFull': WHATEVER THE INPUT: true; the input reads as it did. -/
def memberFullSpec : ChangeSpec := { name := "memberFull", fn := fun _ => fun
  | [d1, d2] => { results := [.lit (.bool true)], args := [d1, d2] }
  | _ => none }
def memberFullRow : OpenClaim := { program := "ytepdnclojjeepaa", sum := "b9f8aca3a7129c30e0ad397f5f1cd261dd92fa4e170a7da63a34771c624764c6", func := "postrider/postriderlaw15.MemberFull", spec := "memberFull", unfollowed := true, recurses := true, apart := false }
def MemberFullSaid : Prop := memberFullRow.holds Try.pinned (OpenSpec.ofChange memberFullSpec)

/-- ITS FALSE NEIGHBOUR: 'it returns false'. Refute it at one input. -/
def memberFullWrong : ChangeSpec := { name := "memberFull", fn := fun _ => fun
  | [d1, d2] => { results := [.lit (.bool false)], args := [d1, d2] }
  | _ => none }
def MemberFullWrongFalsely : Prop := memberFullRow.holds Try.pinned (OpenSpec.ofChange memberFullWrong)

/- THE SECOND FORM. 'bulk': how many values and letters a reading holds, each counted each time it is reached (what is shared counts as often as it is met; a slice's spare places count too). A statement '..UptoSaid' is the law's where the arguments, and the package variables that the reading takes, are together of bulk at most 1048576: NARROWER than '..Said'. Prove '..Said' where nothing that the law and all that it calls make is longer than what came in: it says more and counts as full. Else prove '..UptoSaid'. A law counts once. -/
mutual
def uptoBulk {H : Type} : DataW H → Nat
  | .lit (.string bytes) => bytes.length + 1
  | .lit _ => 1
  | .nil => 1
  | .ptr d => uptoBulk d + 1
  | .slice elems spare => uptoBulkAll elems + uptoBulkAll spare + 1
  | .agg parts => uptoBulkAll parts + 1
  | .iface _ d => uptoBulk d + 1
  | .map entries => uptoBulkEntries entries + 1
  | .held _ => 1
def uptoBulkAll {H : Type} : List (DataW H) → Nat
  | [] => 0
  | d :: r => uptoBulk d + uptoBulkAll r
def uptoBulkEntries {H : Type} : List (Lit × DataW H) → Nat
  | [] => 0
  | x :: r => uptoBulkEntry x + uptoBulkEntries r
def uptoBulkEntry {H : Type} : Lit × DataW H → Nat
  | (.string bytes, d) => bytes.length + uptoBulk d + 1
  | (_, d) => uptoBulk d + 1
 end
def uptoSmall : (H : Type) → List (DataW H) → Bool := fun _ ds => decide (uptoBulkAll ds ≤ 1048576)
def OpenSpec.upto (s : _root_.Go.ChangeSpec) : _root_.Go.OpenSpec := { _root_.Go.OpenSpec.ofChange s with cond := some uptoSmall }

/-- 'postriderlaw15.MemberPlays', WHERE WHAT IT READS IS OF BULK AT MOST 1048576: true; the input reads as it did. -/
def memberPlaysUptoRow : OpenClaim := { program := "ytepdnclojjeepaa", sum := "b9f8aca3a7129c30e0ad397f5f1cd261dd92fa4e170a7da63a34771c624764c6", func := "postrider/postriderlaw15.MemberPlays", spec := "memberPlays", unfollowed := true, recurses := true, apart := false, narrowed := true }
def MemberPlaysUptoSaid : Prop := memberPlaysUptoRow.holds Try.pinned (OpenSpec.upto memberPlaysSpec)

/-- 'postriderlaw15.MemberJust', WHERE WHAT IT READS IS OF BULK AT MOST 1048576: true; the input reads as it did. -/
def memberJustUptoRow : OpenClaim := { program := "ytepdnclojjeepaa", sum := "b9f8aca3a7129c30e0ad397f5f1cd261dd92fa4e170a7da63a34771c624764c6", func := "postrider/postriderlaw15.MemberJust", spec := "memberJust", unfollowed := true, recurses := true, apart := false, narrowed := true }
def MemberJustUptoSaid : Prop := memberJustUptoRow.holds Try.pinned (OpenSpec.upto memberJustSpec)

/-- 'postriderlaw15.MemberLater', WHERE WHAT IT READS IS OF BULK AT MOST 1048576: true; the input reads as it did. -/
def memberLaterUptoRow : OpenClaim := { program := "ytepdnclojjeepaa", sum := "b9f8aca3a7129c30e0ad397f5f1cd261dd92fa4e170a7da63a34771c624764c6", func := "postrider/postriderlaw15.MemberLater", spec := "memberLater", unfollowed := true, recurses := true, apart := false, narrowed := true }
def MemberLaterUptoSaid : Prop := memberLaterUptoRow.holds Try.pinned (OpenSpec.upto memberLaterSpec)

/-- 'postriderlaw15.MemberVoid', WHERE WHAT IT READS IS OF BULK AT MOST 1048576: true; the input reads as it did. -/
def memberVoidUptoRow : OpenClaim := { program := "ytepdnclojjeepaa", sum := "b9f8aca3a7129c30e0ad397f5f1cd261dd92fa4e170a7da63a34771c624764c6", func := "postrider/postriderlaw15.MemberVoid", spec := "memberVoid", unfollowed := true, recurses := true, apart := false, narrowed := true }
def MemberVoidUptoSaid : Prop := memberVoidUptoRow.holds Try.pinned (OpenSpec.upto memberVoidSpec)

/-- 'postriderlaw15.MemberFull', WHERE WHAT IT READS IS OF BULK AT MOST 1048576: true; the input reads as it did. -/
def memberFullUptoRow : OpenClaim := { program := "ytepdnclojjeepaa", sum := "b9f8aca3a7129c30e0ad397f5f1cd261dd92fa4e170a7da63a34771c624764c6", func := "postrider/postriderlaw15.MemberFull", spec := "memberFull", unfollowed := true, recurses := true, apart := false, narrowed := true }
def MemberFullUptoSaid : Prop := memberFullUptoRow.holds Try.pinned (OpenSpec.upto memberFullSpec)

end Rows
end Go.Proofs.Ytepdnclojjeepaa
