/- What each member has of owners, counted from the front; what a settled table has. No condition. -/
import Derived.Test.YtplnbphbccflfaaRbRan
namespace Go.Proofs.Ytplnbphbccflfaa
open Go.RowKit
set_option linter.unusedVariables false

def cntI (L : List Own) (k c : Nat) : Nat := ((L.take k).filter (fun o => decide (o.2 = ((c : Nat) : Int)))).length
def clI (L : List Own) (k : Nat) : List Int := (List.range 8).map fun c => ((cntI L k c : Nat) : Int)
theorem clI_len (L : List Own) (k : Nat) : (clI L k).length = 8 := by simp [clI]
theorem clI_zero (L : List Own) : clI L 0 = List.replicate 8 0 := rfl
theorem clI_get (L : List Own) (k : Nat) {c : Nat} (hc : c < 8) : (clI L k)[c]? = some ((cntI L k c : Nat) : Int) := by
  unfold clI
  rw [List.getElem?_map, List.getElem?_range hc]; rfl
theorem cntI_step {L : List Own} {k : Nat} {o : Own} (h : L[k]? = some o) (c : Nat) : cntI L (k + 1) c = cntI L k c + if o.2 = ((c : Nat) : Int) then 1 else 0 := by
  unfold cntI
  rw [List.take_add_one, h, List.filter_append, List.length_append]
  show _ + ((List.filter _ [o])).length = _
  rw [List.filter_cons, List.filter_nil]
  by_cases hc : o.2 = ((c : Nat) : Int)
  · rw [if_pos (by simpa using hc), if_pos hc]; rfl
  · rw [if_neg (by simpa using hc), if_neg hc]; rfl
theorem cntI_le (L : List Own) (k c : Nat) : cntI L k c ≤ k := by
  unfold cntI
  refine Nat.le_trans (List.length_filter_le _ _) ?_
  rw [List.length_take]; omega
theorem clI_step {L : List Own} {k : Nat} {o : Own} (h : L[k]? = some o) {c : Nat} (hc : c < 8) (ho : o.2 = ((c : Nat) : Int)) : (clI L k).set c (((cntI L k c : Nat) : Int) + 1) = clI L (k + 1) := by
  apply List.ext_getElem?
  intro i
  by_cases hi : i < 8
  · rw [clI_get L (k + 1) hi, cntI_step h]
    by_cases hic : i = c
    · subst hic
      rw [List.getElem?_set_self (by rw [clI_len]; exact hi), if_pos ho]; rfl
    · rw [List.getElem?_set_ne (fun e => hic e.symm), clI_get L k hi, if_neg (by rw [ho]; omega)]; rfl
  · rw [List.getElem?_eq_none (by rw [List.length_set, clI_len]; omega), List.getElem?_eq_none (by rw [clI_len]; omega)]
theorem clI_same {L : List Own} {k : Nat} {o : Own} (h : L[k]? = some o) (ho : o.2 < 0) : clI L (k + 1) = clI L k := by
  unfold clI
  refine List.map_congr_left (fun c _ => ?_)
  rw [cntI_step h, if_neg (by omega)]; rfl
theorem cntI_all (L : List Own) (c : Nat) : cntI L L.length c = (ofI L ((c : Nat) : Int)).length := by
  unfold cntI ofI; rw [List.take_length, List.length_map]
theorem begin_T {M : TbM} {ps : List Plc} {ms : List Int} (hb : begE ps ms = 0) : (M.begin_ ps ms).T = asgI ms ps (nowI ms ps M.O) := by
  unfold TbM.begin_ TbM.settle
  rw [if_pos hb]
  by_cases hw : (M.begun ps ms).W = []
  · rw [if_pos hw]; rfl
  · rw [if_neg hw]; rfl
end Go.Proofs.Ytplnbphbccflfaa
