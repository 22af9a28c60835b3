/- The plain list of members: of each session its since (0: no member), and the time; what its calls answer. No condition. -/
import Derived.Test.YtepdnclojjeepaaBase
namespace Go.Proofs.Ytepdnclojjeepaa
open Go.RowKit
set_option linter.unusedVariables false

structure MbM where
  S : List Nat
  T : Nat
def MbM.at (M : MbM) (i : Nat) : Nat := (M.S[i]?).getD 0
def MbM.memb (M : MbM) : List Nat := (List.range 16).filter (fun i => decide (0 < M.at i))
structure MbM.Ok (M : MbM) (K : Nat) : Prop where
  len : M.S.length = 16
  le : ∀ i, M.at i ≤ M.T
  inj : ∀ i j, M.at i = M.at j → 0 < M.at i → i = j
  full : M.memb.length ≤ 8
  low : M.T ≤ K
def MbM.findE (M : MbM) (id : Int) : Int := if 0 ≤ id ∧ id < 16 then (if M.at id.toNat = 0 then 150 else 0) else 2
def MbM.joinE (M : MbM) (id : Int) : Int := if 0 ≤ id ∧ id < 16 then (if M.at id.toNat = 0 then (if 8 ≤ M.memb.length then 4 else 0) else 6) else 2
def MbM.put (M : MbM) (id : Int) (v : Nat) : MbM := ⟨M.S.set id.toNat v, M.T + 1⟩
def MbM.join (M : MbM) (id : Int) : MbM := if M.joinE id = 0 then M.put id (M.T + 1) else M
def MbM.leave (M : MbM) (id : Int) : MbM := if M.findE id = 0 then M.put id 0 else M
def MbM.joinV (M : MbM) (id : Int) : Nat := if M.joinE id = 0 then M.T + 1 else 0
def MbM.leaveV (M : MbM) (id : Int) : Nat := if M.findE id = 0 then M.T + 1 else 0
def MbM.sinceV (M : MbM) (id : Int) : Nat := if M.findE id = 0 then M.at id.toNat else 0
def MbM.below (M : MbM) (n : Nat) : Nat := ((List.range n).filter (fun i => decide (0 < M.at i))).length
def MbM.rankV (M : MbM) (id : Int) : Nat := if M.findE id = 0 then M.below id.toNat else 0
def MbM.eldB (M : MbM) (i : Nat) : Bool := M.memb.all (fun j => decide (M.at i ≤ M.at j))
def MbM.eldV (M : MbM) : Nat := (M.memb.find? M.eldB).getD 0
def MbM.eldE (M : MbM) : Int := if M.memb = [] then 150 else 0
def MbM.new : MbM := ⟨List.replicate 16 0, 0⟩

theorem at_lt {M : MbM} {K : Nat} (h : M.Ok K) {i : Nat} (hi : 0 < M.at i) : i < 16 := by
  rw [← h.len]
  unfold MbM.at at hi
  cases hs : M.S[i]? with
  | none => rw [hs] at hi; simp at hi
  | some s => exact (List.getElem?_eq_some_iff.1 hs).1
theorem mem_memb {M : MbM} {i : Nat} : i ∈ M.memb ↔ i < 16 ∧ 0 < M.at i := by unfold MbM.memb; rw [List.mem_filter, List.mem_range]; simp
theorem memb_of {M : MbM} {K : Nat} (h : M.Ok K) {i : Nat} (hi : 0 < M.at i) : i ∈ M.memb := mem_memb.2 ⟨at_lt h hi, hi⟩
theorem memb_nodup (M : MbM) : M.memb.Nodup := List.Pairwise.filter _ List.nodup_range
theorem at_put {M : MbM} {K : Nat} (h : M.Ok K) {id : Int} (h1 : 0 ≤ id ∧ id < 16) (v j : Nat) : (M.put id v).at j = if j = id.toNat then v else M.at j := by
  unfold MbM.at MbM.put
  dsimp only
  by_cases hj : j = id.toNat
  · subst hj
    rw [List.getElem?_set_self (by rw [h.len]; omega), if_pos rfl]; rfl
  · rw [List.getElem?_set_ne (fun e => hj e.symm), if_neg hj]
/-- Two conditions that differ at one number. -/
theorem cnt_one {a : Nat} {p q : Nat → Bool} : ∀ {l : List Nat}, l.Nodup → (∀ i, i ≠ a → p i = q i) → (l.filter p).length ≤ (l.filter q).length + 1
  | [], _, _ => by simp
  | x :: l, hn, h => by
    obtain ⟨hx, hl⟩ := List.nodup_cons.1 hn
    by_cases hxa : x = a
    · have e : l.filter p = l.filter q := List.filter_congr (fun i hi => h i (fun e => hx (by rw [hxa, ← e]; exact hi)))
      rw [List.filter_cons, List.filter_cons, e]
      split <;> split <;> (simp; try omega)
    · have ih := cnt_one hl h
      rw [List.filter_cons, List.filter_cons, h x hxa]
      split
      · simp; omega
      · exact ih
theorem cnt_le {p q : Nat → Bool} {l : List Nat} (h : ∀ i, p i = true → q i = true) : (l.filter p).length ≤ (l.filter q).length := by
  induction l with
  | nil => simp
  | cons x l ih =>
    rw [List.filter_cons, List.filter_cons]
    by_cases hp : p x = true
    · rw [if_pos hp, if_pos (h x hp)]; simp; exact ih
    · rw [if_neg hp]
      split
      · simp; omega
      · exact ih
theorem findE_ok {M : MbM} {id : Int} (h : M.findE id = 0) : (0 ≤ id ∧ id < 16) ∧ 0 < M.at id.toNat := by
  unfold MbM.findE at h
  split at h
  · split at h
    · omega
    · exact ⟨by assumption, by omega⟩
  · omega
theorem joinE_ok {M : MbM} {id : Int} (h : M.joinE id = 0) : (0 ≤ id ∧ id < 16) ∧ M.at id.toNat = 0 ∧ M.memb.length < 8 := by
  unfold MbM.joinE at h
  split at h
  · split at h
    · split at h
      · omega
      · exact ⟨by assumption, by assumption, by omega⟩
    · omega
  · omega
theorem MbM.Ok.mono {M : MbM} {K K' : Nat} (h : M.Ok K) (hk : K ≤ K') : M.Ok K' := ⟨h.len, h.le, h.inj, h.full, Nat.le_trans h.low hk⟩
theorem MbM.Ok.join {M : MbM} {K : Nat} (h : M.Ok K) (id : Int) : (M.join id).Ok (K + 1) := by
  unfold MbM.join
  by_cases he : M.joinE id = 0
  · rw [if_pos he]
    obtain ⟨h1, h2, h3⟩ := joinE_ok he
    have hT : (M.put id (M.T + 1)).T = M.T + 1 := rfl
    refine ⟨by unfold MbM.put; simp [h.len], fun i => ?_, fun i j => ?_, ?_, by have := h.low; rw [hT]; omega⟩
    · rw [at_put h h1, hT]
      have := h.le i
      split <;> omega
    · rw [at_put h h1, at_put h h1]
      have a1 := h.le i
      have a2 := h.le j
      by_cases hi : i = id.toNat <;> by_cases hj : j = id.toNat
      · intro _ _; omega
      · rw [if_pos hi, if_neg hj]; intro e; omega
      · rw [if_neg hi, if_pos hj]; intro e; omega
      · rw [if_neg hi, if_neg hj]; exact h.inj i j
    · have := cnt_one (a := id.toNat) (p := fun i => decide (0 < (M.put id (M.T + 1)).at i)) (q := fun i => decide (0 < M.at i)) (List.nodup_range (n := 16)) (fun i hi => by rw [at_put h h1, if_neg hi])
      unfold MbM.memb at h3 ⊢
      omega
  · rw [if_neg he]; exact h.mono (Nat.le_succ _)
theorem MbM.Ok.leave {M : MbM} {K : Nat} (h : M.Ok K) (id : Int) : (M.leave id).Ok (K + 1) := by
  unfold MbM.leave
  by_cases he : M.findE id = 0
  · rw [if_pos he]
    obtain ⟨h1, h2⟩ := findE_ok he
    have hT : (M.put id 0).T = M.T + 1 := rfl
    refine ⟨by unfold MbM.put; simp [h.len], fun i => ?_, fun i j => ?_, ?_, by have := h.low; rw [hT]; omega⟩
    · rw [at_put h h1, hT]
      have := h.le i
      split <;> omega
    · rw [at_put h h1, at_put h h1]
      by_cases hi : i = id.toNat <;> by_cases hj : j = id.toNat
      · intro _ _; omega
      · rw [if_pos hi, if_neg hj]; intro e; omega
      · rw [if_neg hi, if_pos hj]; intro e; omega
      · rw [if_neg hi, if_neg hj]; exact h.inj i j
    · have := cnt_le (l := List.range 16) (p := fun i => decide (0 < (M.put id 0).at i)) (q := fun i => decide (0 < M.at i)) (fun i hi => by
        rw [at_put h h1] at hi
        split at hi
        · simp at hi
        · exact hi)
      have h3 := h.full
      unfold MbM.memb at h3 ⊢
      omega
  · rw [if_neg he]; exact h.mono (Nat.le_succ _)
theorem MbM.new_ok : MbM.new.Ok 0 := by
  have h0 : ∀ i, MbM.new.at i = 0 := fun i => by
    unfold MbM.at MbM.new
    dsimp only
    rw [List.getElem?_replicate]
    split <;> rfl
  refine ⟨by simp [MbM.new], fun i => by rw [h0]; omega, fun i j _ h => by rw [h0] at h; omega, by decide, Nat.le_refl _⟩

/-- The eldest one. -/
theorem eld_is {M : MbM} {K : Nat} (h : M.Ok K) {i : Nat} (hi : 0 < M.at i) (hl : ∀ j, 0 < M.at j → M.at i ≤ M.at j) : M.eldV = i ∧ M.eldE = 0 := by
  have hm := memb_of h hi
  refine ⟨?_, by unfold MbM.eldE; rw [if_neg (fun e => by rw [e] at hm; cases hm)]⟩
  unfold MbM.eldV
  cases hf : M.memb.find? M.eldB with
  | none =>
    exfalso
    have := List.find?_eq_none.1 hf i hm
    apply this
    unfold MbM.eldB
    rw [List.all_eq_true]
    intro j hj
    have := hl j (mem_memb.1 hj).2
    simpa using this
  | some k =>
    obtain ⟨hk1, hk2⟩ := List.find?_eq_some_iff_append.1 hf
    unfold MbM.eldB at hk1
    rw [List.all_eq_true] at hk1
    have hkm := (mem_memb.1 (List.mem_of_find?_eq_some hf)).2
    have a1 := hk1 i hm
    have a2 := hl k hkm
    have a1' : M.at k ≤ M.at i := by simpa using a1
    exact (h.inj k i (by omega) hkm)
theorem eld_no {M : MbM} (h : M.memb = []) : M.eldV = 0 ∧ M.eldE = 150 := by
  unfold MbM.eldV MbM.eldE
  rw [if_pos h, h]
  exact ⟨rfl, rfl⟩
end Go.Proofs.Ytepdnclojjeepaa
