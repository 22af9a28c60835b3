/- All that must acknowledge do so, in whatever order. No condition. -/
import Derived.Test.YtplnbphbccflfaaRbModel
namespace Go.Proofs.Ytplnbphbccflfaa
open Go.RowKit
set_option linter.unusedVariables false

/-- A table of which L must acknowledge still. -/
structure Ran (M N : TbM) (L : List Int) : Prop where
  t : N.T = M.T
  w : N.W = L
  g : N.G = M.G + (if L = [] ∧ M.W ≠ [] then 1 else 0)
  o : L = [] → N.O = M.T
  s : L ≠ [] → M.W ≠ []
theorem Ran.start {M : TbM} {K : Nat} (h : M.Ok K) : Ran M M M.W :=
  ⟨rfl, rfl, by rw [if_neg (fun e => e.2 e.1)]; rfl, fun e => h.fin e, id⟩
theorem Ran.step {M N : TbM} {L : List Int} {id : Int} (h : Ran M N L) (hi : id ∈ L) : Ran M (N.ack id) (L.filter (fun m => decide (m ≠ id))) ∧ N.ackE id = 0 ∧ (N.ackV id = true ↔ L.filter (fun m => decide (m ≠ id)) = []) := by
  have hw : id ∈ N.W := by rw [h.w]; exact hi
  have hL : L ≠ [] := List.ne_nil_of_mem hi
  obtain ⟨e1, e2⟩ := ack_is hw
  obtain ⟨g1, g2⟩ := ack_grows hw
  rw [h.w] at e2
  refine ⟨⟨e1.trans h.t, e2, ?_, fun e => ?_, fun e => h.s hL⟩, by unfold TbM.ackE; rw [if_pos hw], by rw [g2, e2]⟩
  · rw [g1, h.g, if_neg (fun e => hL e.1)]
    by_cases hf : L.filter (fun m => decide (m ≠ id)) = []
    · rw [if_pos (g2.2 (by rw [e2]; exact hf)), if_pos ⟨hf, h.s hL⟩]
    · rw [if_neg (fun e => hf (by rw [← e2]; exact g2.1 e)), if_neg (fun e => hf e.1)]
  · have hb : (N.acked id).W = [] := by show N.W.filter _ = []; rw [h.w]; exact e
    unfold TbM.ack TbM.settle
    rw [if_pos hw, if_pos hb]
    exact h.t
theorem flt_drop {W : List Int} (hn : W.Nodup) {i : Nat} {x : Int} (h : W[i]? = some x) : (W.drop i).filter (fun m => decide (m ≠ x)) = W.drop (i + 1) := by
  obtain ⟨hi, e⟩ := List.getElem?_eq_some_iff.1 h
  have hd := List.drop_eq_getElem_cons hi
  rw [e] at hd
  have hn' : (x :: W.drop (i + 1)).Nodup := by rw [← hd]; exact hn.sublist (List.drop_sublist i W)
  rw [hd, List.filter_cons, if_neg (by simp)]
  rw [List.filter_eq_self.2]
  intro a ha
  have := (List.nodup_cons.1 hn').1
  exact decide_eq_true (fun e => this (e ▸ ha))
theorem flt_take {W : List Int} (hn : W.Nodup) {i : Nat} {x : Int} (h : W[i]? = some x) : (W.take (i + 1)).filter (fun m => decide (m ≠ x)) = W.take i := by
  have ht : W.take (i + 1) = W.take i ++ [x] := by rw [List.take_add_one, h]; rfl
  have hn' : (W.take i ++ [x]).Nodup := by rw [← ht]; exact hn.sublist (List.take_sublist _ _)
  rw [ht, List.filter_append, List.filter_cons, if_neg (by simp), List.filter_nil, List.append_nil]
  rw [List.filter_eq_self.2]
  intro a ha
  have := (List.nodup_append.1 hn').2.2 a ha x (by simp)
  exact decide_eq_true this
end Go.Proofs.Ytplnbphbccflfaa
