import Derived.Test.YtbljjmehjkmjaaaPtModel
import Derived.Test.YtbljjmehjkmjaaaSit
import Derived.Test.YtbljjmehjkmjaaaBdPoolZ
import Derived.Test.YtbljjmehjkmjaaaBdRingZ
import Derived.StillTailTactics

/- The document's partition, as it lies in memory: a pool, a ring, and what holds both. What Fill, Read and Peek do. No condition but that it is one. -/
namespace Go.Proofs.Ytbljjmehjkmjaaa
open Go.RowKit
set_option linter.unusedVariables false
set_option linter.unusedSimpArgs false
set_option maxRecDepth 100000

theorem Sit.last {Q0 : Nat → Prop} {w0 w : World} {A B C : Thing} (h : Sit Q0 w0 w (A.sep (B.sep C))) : Sit Q0 w0 w (C.sep (A.sep B)) := h.assoc'.swap
theorem Sit.unlast {Q0 : Nat → Prop} {w0 w : World} {A B C : Thing} (h : Sit Q0 w0 w (C.sep (A.sep B))) : Sit Q0 w0 w (A.sep (B.sep C)) := h.swap.assoc
theorem Sit.callLast {Q0 : Nat → Prop} {w0 w : World} {A B C C' : Thing} (H : Sit Q0 w0 w (A.sep (B.sep C))) {f : FuncId} {args : Array Value} {v : Value}
    (hc : ∀ W, C.at_ w W → Calls Try.prog f args w fun e w' => e = .returned v ∧ Goes C' W w w') : Calls Try.prog f args w fun e w' => e = .returned v ∧ Sit Q0 w0 w' (A.sep (B.sep C')) :=
  (H.last.call hc).mono fun e w' ⟨he, h⟩ => ⟨he, h.unlast⟩
theorem Sit.readLast {Q0 : Nat → Prop} {w0 w : World} {A B C : Thing} (H : Sit Q0 w0 w (A.sep (B.sep C))) {f : FuncId} {args : Array Value} {v : Value}
    (hc : ∀ W, C.at_ w W → Calls Try.prog f args w fun e w' => e = .returned v ∧ Still w w') : Calls Try.prog f args w fun e w' => e = .returned v ∧ Sit Q0 w0 w' (A.sep (B.sep C)) :=
  (H.last.read hc).mono fun e w' ⟨he, h⟩ => ⟨he, h.unlast⟩

theorem getE_vals (M : RM) (a : Int) : M.getE a = 0 ∨ M.getE a = 2 ∨ M.getE a = 61 ∨ M.getE a = 5 ∨ M.getE a = 8 := by
  unfold RM.getE
  split
  · rcases RM.find_vals M a with h | h | h | h <;> rw [h] <;> simp
  · split <;> simp

end Go.Proofs.Ytbljjmehjkmjaaa

/- What Trim of the document's partition does. No condition but that it is one. -/
namespace Go.Proofs.Ytbljjmehjkmjaaa
open Go.RowKit
set_option linter.unusedVariables false
set_option linter.unusedSimpArgs false
set_option maxRecDepth 100000

theorem ptDrops_ok : ∀ {l : List Int} {P : PM} {N : Nat}, P.Ok N → (ptDrops P l).Ok (N + l.length)
  | [], P, N, h => h
  | x :: l, P, N, h => (ptDrops_ok (l := l) (h.drop x)).mono (by simp; omega)
theorem ptDrops_step {P : PM} {l : List Int} {k : Nat} {y : Int} (h : l[k]? = some y) : ptDrops P (l.take (k + 1)) = (ptDrops P (l.take k)).dropM y := by
  unfold ptDrops; rw [List.take_add_one, h, List.foldl_append]; rfl
theorem Sit.numsLast {Q0 : Nat → Prop} {w0 w : World} {A B T : Thing} {a : Option Addr} {l : List Int} (h : Sit Q0 w0 w (A.sep (B.sep (numsT T a l)))) : NumsAt w a l := by
  obtain ⟨Q, ⟨W1, W2, _, ⟨V1, V2, _, v2, _, _⟩, _, _⟩, _⟩ := h
  exact v2.2.2.1
theorem Sit.unnumLast {Q0 : Nat → Prop} {w0 w : World} {A B T : Thing} {a : Option Addr} {l : List Int} (h : Sit Q0 w0 w (A.sep (B.sep (numsT T a l)))) : Sit Q0 w0 w (A.sep (B.sep T)) := by
  obtain ⟨Q, ⟨W1, W2, h1, ⟨V1, V2, v1, ⟨⟨V3, v3, v4⟩, _⟩, vd, vW⟩, hd, hW⟩, hs⟩ := h
  refine ⟨fun k => W1 k ∨ V1 k ∨ V3 k, ⟨W1, fun k => V1 k ∨ V3 k, h1, ⟨V1, V3, v1, v3, fun k hk hk' => vd k hk (v4 k hk'), fun k => Iff.rfl⟩, fun k hk hk' => hd k hk ((vW k).2 (hk'.imp id (v4 k))), fun k => Iff.rfl⟩, hs.turn, fun k hk => hs.grow k ((hW k).2 ?_)⟩
  exact hk.imp id (fun h => (vW k).2 (h.imp id (v4 k)))

end Go.Proofs.Ytbljjmehjkmjaaa

/- What Claim of the document's partition does. No condition but that it is one, and that its handles are counted. -/
namespace Go.Proofs.Ytbljjmehjkmjaaa
open Go.RowKit
set_option linter.unusedVariables false
set_option linter.unusedSimpArgs false
set_option maxRecDepth 100000

theorem trim_one {M : RM} {K : Nat} (hM : M.Ok K) (hf : M.l.length = M.n) (hd : M.hdp.d = true) : M.trimE ((M.h + 1 : Nat) : Int) = 0 ∧ M.trimL ((M.h + 1 : Nat) : Int) = [M.hdp.r] ∧ M.trimM ((M.h + 1 : Nat) : Int) = { M with h := M.h + 1, l := M.l.drop 1 } := by
  have hp := hM.pos
  have hc : M.cut ((M.h + 1 : Nat) : Int) = 1 := by unfold RM.cut; omega
  have h1 : M.l.take 1 = [M.hdp] := by
    unfold RM.hdp
    cases hl : M.l with
    | nil => rw [hl] at hf; simp at hf; omega
    | cons p l => rfl
  have he : M.trimE ((M.h + 1 : Nat) : Int) = 0 := by
    unfold RM.trimE
    rw [if_neg (by unfold RM.tail; omega), hc, h1, if_pos (by simp [hd])]
  refine ⟨he, ?_, ?_⟩
  · unfold RM.trimL; rw [if_neg (fun hn => hn he), hc, h1]; rfl
  · unfold RM.trimM; rw [if_neg (fun hn => hn he), hc]
theorem claim_room {M : RM} {h : Int} (h1 : 1 ≤ h) (ht : M.tail < 1099511627776) (hr : M.l.length ≠ M.n) : M.claimE h = 0 ∧ M.claimA h = M.tail ∧ M.claimW h = 0 ∧ M.claimM h = { M with l := M.l ++ [⟨h, false⟩] } := by
  have he : M.claimE h = 0 := by unfold RM.claimE; rw [if_neg (by omega), if_neg (by omega), if_neg (fun hh => hr hh.1)]
  refine ⟨he, ?_, ?_, ?_⟩
  · unfold RM.claimA; rw [if_neg (fun hn => hn he)]
  · unfold RM.claimW; rw [if_neg (fun hn => hn he), if_neg hr]
  · unfold RM.claimM; rw [if_neg (fun hn => hn he), if_neg hr]

/- Claim. -/

end Go.Proofs.Ytbljjmehjkmjaaa
