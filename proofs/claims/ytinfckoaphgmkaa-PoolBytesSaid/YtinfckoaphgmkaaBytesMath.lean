/- The plain pool's first slot, while others are taken, filled and given back. No condition. -/
import Derived.Test.YtinfckoaphgmkaaPoolMath
namespace Go.Proofs.Ytinfckoaphgmkaa
open Go.RowKit
set_option linter.unusedVariables false

def PM.Fst (M : PM) (c : Nat) (b : List UInt8) : Prop := M.sl[0]? = some ⟨0, c, b⟩
theorem one_slot : hSlot 1 = 0 ∧ hGen 1 = 0 ∧ haIs 1 := by decide +kernel

theorem PM.Fst.err {M : PM} {c : Nat} {b : List UInt8} (h : M.Fst c b) (hc : c ≠ 0) : M.err 1 = 0 ∧ M.slt 1 = ⟨0, c, b⟩ := by
  have hs : M.slt 1 = ⟨0, c, b⟩ := by unfold PM.slt; rw [one_slot.1, show M.sl[0]? = _ from h]; rfl
  refine ⟨?_, hs⟩
  unfold PM.err
  rw [if_neg (by simpa using one_slot.2.2), one_slot.1, show M.sl[0]? = _ from h]
  simp only
  rw [if_pos ⟨by rw [one_slot.2.1]; rfl, hc⟩]

theorem PM.Fst.keep {M : PM} {c : Nat} {b : List UInt8} (h : M.Fst c b) (hc : c ≠ 0) : (M.keepM 1).Fst (c + 1) b := by
  obtain ⟨he, hs⟩ := h.err hc
  unfold PM.keepM PM.Fst
  rw [if_neg (by simp [he]), hs, one_slot.1]
  exact List.getElem?_set_self (get_lt h)

theorem PM.Fst.bytes {M : PM} {c : Nat} {b : List UInt8} (h : M.Fst c b) (hc : c ≠ 0) : M.bytes 1 = b := by
  obtain ⟨he, hs⟩ := h.err hc
  unfold PM.bytes
  rw [if_neg (by simp [he]), hs]

theorem PM.Fst.drop {M : PM} {c : Nat} {b : List UInt8} (h : M.Fst (c + 1) b) : M.dropN 1 = c ∧ (0 < c → (M.dropM 1).Fst c b) ∧ (c = 0 → (M.dropM 1).err 1 = 40) := by
  obtain ⟨he, hs⟩ := h.err (Nat.succ_ne_zero c)
  refine ⟨?_, fun hc => ?_, fun hc => ?_⟩
  · unfold PM.dropN; rw [if_neg (by simp [he]), hs]; simp
  · unfold PM.dropM PM.Fst
    rw [if_neg (by simp [he]), hs, if_neg (by simp only; omega), one_slot.1]
    exact List.getElem?_set_self (get_lt h)
  · subst hc
    have hd : (M.dropM 1).sl[0]? = some ⟨1, 0, []⟩ := by
      unfold PM.dropM
      rw [if_neg (by simp [he]), hs, if_pos rfl, one_slot.1]
      exact List.getElem?_set_self (get_lt h)
    unfold PM.err
    rw [if_neg (by simpa using one_slot.2.2), one_slot.1, hd]
    simp

/-- A call at another slot. -/
theorem PM.Fst.set {M : PM} {c : Nat} {b : List UInt8} (h : M.Fst c b) {k : Nat} (hk : k ≠ 0) (t : Slt) (fr : List Nat) (size : Nat) : (PM.mk (M.sl.set k t) fr size).Fst c b := by
  unfold PM.Fst
  rw [List.getElem?_set_ne hk]
  exact h
theorem PM.Fst.fill {M : PM} {c : Nat} {b : List UInt8} (h : M.Fst c b) {x : Int} (hx : hSlot x ≠ 0) (d : List UInt8) : (M.fillM x d).Fst c b := by
  unfold PM.fillM
  split
  · exact h
  · exact h.set hx _ _ _
theorem PM.Fst.drop_other {M : PM} {c : Nat} {b : List UInt8} (h : M.Fst c b) {x : Int} (hx : hSlot x ≠ 0) : (M.dropM x).Fst c b := by
  unfold PM.dropM
  split
  · exact h
  · split
    · exact h.set hx _ _ _
    · exact h.set hx _ _ _
theorem PM.Fst.take {M : PM} {N c : Nat} {b : List UInt8} (h : M.Fst c b) (hc : c ≠ 0) (hM : M.Ok N) (hN : N < 1000) (n : Int) :
    (M.takeM n).Fst c b ∧ (M.takeE n = 0 → hSlot (M.takeH n) ≠ 0 ∧ 0 ≤ M.takeH n ∧ M.takeH n ≤ 1000000) := by
  have hno : 0 ∉ M.fr := fun hm => hc ((hM.free 0 _ h).2 hm)
  cases hf : M.fr with
  | nil =>
    refine ⟨?_, fun he => ?_⟩
    · unfold PM.takeM
      split
      · exact h
      · rw [hf]; exact h
    · exfalso
      unfold PM.takeE at he
      rw [if_pos hf] at he
      split at he
      · cases he
      · split at he
        · cases he
        · cases he
  | cons k r =>
    have hkm : k ∈ M.fr := by rw [hf]; exact List.mem_cons_self
    have hk0 : k ≠ 0 := fun e => hno (e ▸ hkm)
    have hkl := hM.lt k hkm
    have hl := hM.len
    obtain ⟨s, hs⟩ := get_some hkl
    have hlow := (hM.low k s hs).1
    refine ⟨?_, fun he => ?_⟩
    · unfold PM.takeM
      split
      · exact h
      · rw [hf]; exact h.set hk0 _ _ _
    · have e1 : M.takeH n = (s.g : Int) * 128 + (k : Nat) + 1 := by
        unfold PM.takeE at he
        split at he
        · cases he
        · rename_i q1
          split at he
          · cases he
          · rename_i q2
            unfold PM.takeH
            rw [if_neg (by omega), hf]; simp [hs]
      rw [e1, hSlot_of s.g (by omega)]
      exact ⟨hk0, by omega, by omega⟩

/-- The first that is taken, and filled. -/
theorem first_take {n m : Nat} (hn : 1 ≤ n) (hm : m ≤ 8) : (PM.new n 8).takeH m = 1 ∧ (PM.new n 8).takeE m = 0 ∧ ((PM.new n 8).takeM m).Fst 1 (List.replicate m 0) := by
  have hfr : (PM.new n 8).fr = 0 :: (List.range n).drop 1 := by
    obtain ⟨k, rfl⟩ : ∃ k, n = k + 1 := ⟨n - 1, by omega⟩
    simp [PM.new, List.range_succ_eq_map]
  have hg : (PM.new n 8).sl[0]? = some ⟨0, 0, []⟩ := by unfold PM.new; simp only; rw [List.getElem?_replicate, if_pos (by omega)]
  have hsz : (PM.new n 8).size = 8 := rfl
  refine ⟨?_, ?_, ?_⟩
  · unfold PM.takeH
    rw [hsz, if_neg (by omega), hfr]
    simp [hg]
  · unfold PM.takeE
    rw [hsz, if_neg (by omega), if_neg (by omega), hfr]
    simp
  · unfold PM.takeM PM.Fst
    rw [hsz, if_neg (by omega), hfr]
    simp only [hg, Option.getD_some, Int.toNat_natCast]
    exact List.getElem?_set_self (get_lt hg)
theorem PM.Fst.filled {M : PM} {c : Nat} {d b : List UInt8} (h : M.Fst c d) (hc : c ≠ 0) (hl : b.length = d.length) : M.fillE 1 b = 0 ∧ (M.fillM 1 b).Fst c b := by
  obtain ⟨he, hs⟩ := h.err hc
  have hE : M.fillE 1 b = 0 := by unfold PM.fillE; rw [if_neg (by simp [he]), hs, if_neg (by simpa using hl)]
  refine ⟨hE, ?_⟩
  unfold PM.fillM PM.Fst
  rw [if_neg (by simp [hE]), hs, one_slot.1]
  exact List.getElem?_set_self (get_lt h)
end Go.Proofs.Ytinfckoaphgmkaa
