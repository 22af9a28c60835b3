/-
  No cell of these rows narrows 'for every input' (looked for: loops, veiled, ifaces, maps, wideKeys, modest, calm, conditions, laid).
  DERIVED. THE GIVEN ROWS OF THIS SEAT. 5 by the template 'for every input the law returns true; each argument reads behind the call as it read before'; 0 by the template 'total and deterministic' (their statements: YtdlkdagmaeapdaaTotals.lean).
  GIVEN WITH THE SEED: the statements are not yours to turn. If you find one false, say at which input.
  Laid BY PROGRAM, IN A SANDBOX (cutbox-rows.mjs): the forced cells as the released guide's own fill.sh prints them over the translation 27e4c950718bd1f8… (all of the seat's roots in one cut). By AI agents, Wed Nov 11 2026. No macro, syntax, notation, axiom, sorry.
-/
import Derived.Test.YtdlkdagmaeapdaaChecked
import GoSem.Claim
import GoSem.ClaimJoined
import GoSem.ClaimMapViews
import Derived.JoinedTies
import Derived.KernelRfl
namespace Go.Proofs.Ytdlkdagmaeapdaa
/- THE CELL 'sum', in the pinned program and in every row, IS THE sha256 OF THE DUMP (.gsa) THAT YtdlkdagmaeapdaaProg.lean LOADS. Nothing in Lean hashes anything: it is a label: what it is worth is what the hold of that sum in a sandbox is worth. -/
noncomputable def Try.pinned : Pinned := { name := "ytdlkdagmaeapdaa", sum := "27e4c950718bd1f8c491476098ccfaad74915397285156330113e47511d9136b", checked := Try.checked }
namespace Rows
def none {H : Type} : Left H := { results := [], args := [] }

/-- 'postriderlaw18.FencePlays': WHATEVER THE INPUT: true; the input reads as it did. -/
def fencePlaysSpec : ChangeSpec := { name := "fencePlays", fn := fun _ => fun
  | [d1, d2] => { results := [.lit (.bool true)], args := [d1, d2] }
  | _ => none }
def fencePlaysRow : OpenClaim := { program := "ytdlkdagmaeapdaa", sum := "27e4c950718bd1f8c491476098ccfaad74915397285156330113e47511d9136b", func := "postrider/postriderlaw18.FencePlays", spec := "fencePlays", unfollowed := true, recurses := true, plainKeys := false, apart := false }
def FencePlaysSaid : Prop := fencePlaysRow.holds Try.pinned (OpenSpec.ofChange fencePlaysSpec)

/-- ITS FALSE NEIGHBOUR: 'it returns false'. Refute it at one input. -/
def fencePlaysWrong : ChangeSpec := { name := "fencePlays", fn := fun _ => fun
  | [d1, d2] => { results := [.lit (.bool false)], args := [d1, d2] }
  | _ => none }
def FencePlaysWrongFalsely : Prop := fencePlaysRow.holds Try.pinned (OpenSpec.ofChange fencePlaysWrong)

/-- 'postriderlaw18.FenceAscends': WHATEVER THE INPUT: true; the input reads as it did. -/
def fenceAscendsSpec : ChangeSpec := { name := "fenceAscends", fn := fun _ => fun
  | [d1, d2] => { results := [.lit (.bool true)], args := [d1, d2] }
  | _ => none }
def fenceAscendsRow : OpenClaim := { program := "ytdlkdagmaeapdaa", sum := "27e4c950718bd1f8c491476098ccfaad74915397285156330113e47511d9136b", func := "postrider/postriderlaw18.FenceAscends", spec := "fenceAscends", plainKeys := false, apart := false }
def FenceAscendsSaid : Prop := fenceAscendsRow.holds Try.pinned (OpenSpec.ofChange fenceAscendsSpec)

/-- ITS FALSE NEIGHBOUR: 'it returns false'. Refute it at one input. -/
def fenceAscendsWrong : ChangeSpec := { name := "fenceAscends", fn := fun _ => fun
  | [d1, d2] => { results := [.lit (.bool false)], args := [d1, d2] }
  | _ => none }
def FenceAscendsWrongFalsely : Prop := fenceAscendsRow.holds Try.pinned (OpenSpec.ofChange fenceAscendsWrong)

/-- 'postriderlaw18.FenceOnce': WHATEVER THE INPUT: true; the input reads as it did. -/
def fenceOnceSpec : ChangeSpec := { name := "fenceOnce", fn := fun _ => fun
  | [d1, d2] => { results := [.lit (.bool true)], args := [d1, d2] }
  | _ => none }
def fenceOnceRow : OpenClaim := { program := "ytdlkdagmaeapdaa", sum := "27e4c950718bd1f8c491476098ccfaad74915397285156330113e47511d9136b", func := "postrider/postriderlaw18.FenceOnce", spec := "fenceOnce", unfollowed := true, recurses := true, plainKeys := false, apart := false }
def FenceOnceSaid : Prop := fenceOnceRow.holds Try.pinned (OpenSpec.ofChange fenceOnceSpec)

/-- ITS FALSE NEIGHBOUR: 'it returns false'. Refute it at one input. -/
def fenceOnceWrong : ChangeSpec := { name := "fenceOnce", fn := fun _ => fun
  | [d1, d2] => { results := [.lit (.bool false)], args := [d1, d2] }
  | _ => none }
def FenceOnceWrongFalsely : Prop := fenceOnceRow.holds Try.pinned (OpenSpec.ofChange fenceOnceWrong)

/-- 'postriderlaw18.FenceJudges': WHATEVER THE INPUT: true; the input reads as it did. -/
def fenceJudgesSpec : ChangeSpec := { name := "fenceJudges", fn := fun _ => fun
  | [d1, d2, d3, d4, d5] => { results := [.lit (.bool true)], args := [d1, d2, d3, d4, d5] }
  | _ => none }
def fenceJudgesRow : OpenClaim := { program := "ytdlkdagmaeapdaa", sum := "27e4c950718bd1f8c491476098ccfaad74915397285156330113e47511d9136b", func := "postrider/postriderlaw18.FenceJudges", spec := "fenceJudges", unfollowed := true, recurses := true, plainKeys := false, apart := false }
def FenceJudgesSaid : Prop := fenceJudgesRow.holds Try.pinned (OpenSpec.ofChange fenceJudgesSpec)

/-- ITS FALSE NEIGHBOUR: 'it returns false'. Refute it at one input. -/
def fenceJudgesWrong : ChangeSpec := { name := "fenceJudges", fn := fun _ => fun
  | [d1, d2, d3, d4, d5] => { results := [.lit (.bool false)], args := [d1, d2, d3, d4, d5] }
  | _ => none }
def FenceJudgesWrongFalsely : Prop := fenceJudgesRow.holds Try.pinned (OpenSpec.ofChange fenceJudgesWrong)

/-- 'postriderlaw18.FenceVoid': WHATEVER THE INPUT: true; the input reads as it did. -/
def fenceVoidSpec : ChangeSpec := { name := "fenceVoid", fn := fun _ => fun
  | [d] => { results := [.lit (.bool true)], args := [d] }
  | _ => none }
def fenceVoidRow : OpenClaim := { program := "ytdlkdagmaeapdaa", sum := "27e4c950718bd1f8c491476098ccfaad74915397285156330113e47511d9136b", func := "postrider/postriderlaw18.FenceVoid", spec := "fenceVoid", plainKeys := false, apart := false }
def FenceVoidSaid : Prop := fenceVoidRow.holds Try.pinned (OpenSpec.ofChange fenceVoidSpec)

/-- ITS FALSE NEIGHBOUR: 'it returns false'. Refute it at one input. -/
def fenceVoidWrong : ChangeSpec := { name := "fenceVoid", fn := fun _ => fun
  | [d] => { results := [.lit (.bool false)], args := [d] }
  | _ => none }
def FenceVoidWrongFalsely : Prop := fenceVoidRow.holds Try.pinned (OpenSpec.ofChange fenceVoidWrong)

/- THE SECOND FORM. 'bulk': how many values and letters a reading holds, each counted each time it is reached (what is shared counts as often as it is met; a slice's spare places count too). A statement '..UptoSaid' is the law's where the arguments, and the package variables that the reading takes, are together of bulk at most 1048576: NARROWER than '..Said'. Prove '..Said' where nothing that the law and all that it calls make is longer than what came in: it says more and counts as full. Else prove '..UptoSaid'. A law counts once. -/
mutual
def uptoBulk {H : Type} : DataW H → Nat
  | .lit (.string bytes) => bytes.length + 1
  | .lit _ => 1
  | .nil => 1
  | .ptr d => uptoBulk d + 1
  | .slice elems spare => uptoBulkAll elems + uptoBulkAll spare + 1
  | .agg parts => uptoBulkAll parts + 1
  | .iface _ d => uptoBulk d + 1
  | .map entries => uptoBulkEntries entries + 1
  | .held _ => 1
def uptoBulkAll {H : Type} : List (DataW H) → Nat
  | [] => 0
  | d :: r => uptoBulk d + uptoBulkAll r
def uptoBulkEntries {H : Type} : List (Lit × DataW H) → Nat
  | [] => 0
  | x :: r => uptoBulkEntry x + uptoBulkEntries r
def uptoBulkEntry {H : Type} : Lit × DataW H → Nat
  | (.string bytes, d) => bytes.length + uptoBulk d + 1
  | (_, d) => uptoBulk d + 1
 end
def uptoSmall : (H : Type) → List (DataW H) → Bool := fun _ ds => decide (uptoBulkAll ds ≤ 1048576)
def OpenSpec.upto (s : _root_.Go.ChangeSpec) : _root_.Go.OpenSpec := { _root_.Go.OpenSpec.ofChange s with cond := some uptoSmall }

/-- 'postriderlaw18.FencePlays', WHERE WHAT IT READS IS OF BULK AT MOST 1048576: true; the input reads as it did. -/
def fencePlaysUptoRow : OpenClaim := { program := "ytdlkdagmaeapdaa", sum := "27e4c950718bd1f8c491476098ccfaad74915397285156330113e47511d9136b", func := "postrider/postriderlaw18.FencePlays", spec := "fencePlays", unfollowed := true, recurses := true, plainKeys := false, apart := false, narrowed := true }
def FencePlaysUptoSaid : Prop := fencePlaysUptoRow.holds Try.pinned (OpenSpec.upto fencePlaysSpec)

/-- 'postriderlaw18.FenceAscends', WHERE WHAT IT READS IS OF BULK AT MOST 1048576: true; the input reads as it did. -/
def fenceAscendsUptoRow : OpenClaim := { program := "ytdlkdagmaeapdaa", sum := "27e4c950718bd1f8c491476098ccfaad74915397285156330113e47511d9136b", func := "postrider/postriderlaw18.FenceAscends", spec := "fenceAscends", plainKeys := false, apart := false, narrowed := true }
def FenceAscendsUptoSaid : Prop := fenceAscendsUptoRow.holds Try.pinned (OpenSpec.upto fenceAscendsSpec)

/-- 'postriderlaw18.FenceOnce', WHERE WHAT IT READS IS OF BULK AT MOST 1048576: true; the input reads as it did. -/
def fenceOnceUptoRow : OpenClaim := { program := "ytdlkdagmaeapdaa", sum := "27e4c950718bd1f8c491476098ccfaad74915397285156330113e47511d9136b", func := "postrider/postriderlaw18.FenceOnce", spec := "fenceOnce", unfollowed := true, recurses := true, plainKeys := false, apart := false, narrowed := true }
def FenceOnceUptoSaid : Prop := fenceOnceUptoRow.holds Try.pinned (OpenSpec.upto fenceOnceSpec)

/-- 'postriderlaw18.FenceJudges', WHERE WHAT IT READS IS OF BULK AT MOST 1048576: true; the input reads as it did. -/
def fenceJudgesUptoRow : OpenClaim := { program := "ytdlkdagmaeapdaa", sum := "27e4c950718bd1f8c491476098ccfaad74915397285156330113e47511d9136b", func := "postrider/postriderlaw18.FenceJudges", spec := "fenceJudges", unfollowed := true, recurses := true, plainKeys := false, apart := false, narrowed := true }
def FenceJudgesUptoSaid : Prop := fenceJudgesUptoRow.holds Try.pinned (OpenSpec.upto fenceJudgesSpec)

/-- 'postriderlaw18.FenceVoid', WHERE WHAT IT READS IS OF BULK AT MOST 1048576: true; the input reads as it did. -/
def fenceVoidUptoRow : OpenClaim := { program := "ytdlkdagmaeapdaa", sum := "27e4c950718bd1f8c491476098ccfaad74915397285156330113e47511d9136b", func := "postrider/postriderlaw18.FenceVoid", spec := "fenceVoid", plainKeys := false, apart := false, narrowed := true }
def FenceVoidUptoSaid : Prop := fenceVoidUptoRow.holds Try.pinned (OpenSpec.upto fenceVoidSpec)

end Rows
end Go.Proofs.Ytdlkdagmaeapdaa
