import Derived.Test.YtdlkdagmaeapdaaBase
import Derived.Test.YtdlkdagmaeapdaaOutNums
import Derived.Test.YtdlkdagmaeapdaaSitRow
import Derived.Test.YtdlkdagmaeapdaaRead
import Derived.Deep.RegionHeld3
import Derived.Deep.DeepCutAuto
import Derived.Deep.CutBlock
import Derived.Deep.RegionLaw
import Derived.Maps.AppendAt
import Derived.BigQuiet
import Derived.BigRegion
import Derived.Test.YtdlkdagmaeapdaaHeld
import Derived.Test.YtdlkdagmaeapdaaOwn
import Derived.RangeFuncNested
import Derived.RangeFuncBound
import Derived.RangeFuncCalls
import Derived.RangeFuncLeaves
import Derived.RangeFuncBox
import Derived.Shelf.Abstract
import Derived.OwnWalkIn
import Derived.TacticsInMore
import Derived.LoopNIn
import Derived.LoopIn
import Derived.Test.YtdlkdagmaeapdaaBdIter
import Derived.Maps.OwnIn

/- The plain list of members: of each session its since (0: no member), and the time; what its calls answer. No condition. -/
namespace Go.Proofs.Ytdlkdagmaeapdaa
open Go.RowKit
set_option linter.unusedVariables false

structure MbM where
  S : List Nat
  T : Nat
def MbM.at (M : MbM) (i : Nat) : Nat := (M.S[i]?).getD 0
def MbM.memb (M : MbM) : List Nat := (List.range 16).filter (fun i => decide (0 < M.at i))
structure MbM.Ok (M : MbM) (K : Nat) : Prop where
  len : M.S.length = 16
  le : ∀ i, M.at i ≤ M.T
  inj : ∀ i j, M.at i = M.at j → 0 < M.at i → i = j
  full : M.memb.length ≤ 8
  low : M.T ≤ K
def MbM.findE (M : MbM) (id : Int) : Int := if 0 ≤ id ∧ id < 16 then (if M.at id.toNat = 0 then 150 else 0) else 2
def MbM.joinE (M : MbM) (id : Int) : Int := if 0 ≤ id ∧ id < 16 then (if M.at id.toNat = 0 then (if 8 ≤ M.memb.length then 4 else 0) else 6) else 2
def MbM.put (M : MbM) (id : Int) (v : Nat) : MbM := ⟨M.S.set id.toNat v, M.T + 1⟩
def MbM.join (M : MbM) (id : Int) : MbM := if M.joinE id = 0 then M.put id (M.T + 1) else M
def MbM.leave (M : MbM) (id : Int) : MbM := if M.findE id = 0 then M.put id 0 else M
def MbM.joinV (M : MbM) (id : Int) : Nat := if M.joinE id = 0 then M.T + 1 else 0
def MbM.leaveV (M : MbM) (id : Int) : Nat := if M.findE id = 0 then M.T + 1 else 0
def MbM.sinceV (M : MbM) (id : Int) : Nat := if M.findE id = 0 then M.at id.toNat else 0
def MbM.below (M : MbM) (n : Nat) : Nat := ((List.range n).filter (fun i => decide (0 < M.at i))).length
def MbM.rankV (M : MbM) (id : Int) : Nat := if M.findE id = 0 then M.below id.toNat else 0
def MbM.eldB (M : MbM) (i : Nat) : Bool := M.memb.all (fun j => decide (M.at i ≤ M.at j))
def MbM.eldV (M : MbM) : Nat := (M.memb.find? M.eldB).getD 0
def MbM.eldE (M : MbM) : Int := if M.memb = [] then 150 else 0
def MbM.new : MbM := ⟨List.replicate 16 0, 0⟩

theorem at_lt {M : MbM} {K : Nat} (h : M.Ok K) {i : Nat} (hi : 0 < M.at i) : i < 16 := by
  rw [← h.len]
  unfold MbM.at at hi
  cases hs : M.S[i]? with
  | none => rw [hs] at hi; simp at hi
  | some s => exact (List.getElem?_eq_some_iff.1 hs).1
theorem mem_memb {M : MbM} {i : Nat} : i ∈ M.memb ↔ i < 16 ∧ 0 < M.at i := by unfold MbM.memb; rw [List.mem_filter, List.mem_range]; simp
theorem memb_of {M : MbM} {K : Nat} (h : M.Ok K) {i : Nat} (hi : 0 < M.at i) : i ∈ M.memb := mem_memb.2 ⟨at_lt h hi, hi⟩
theorem memb_nodup (M : MbM) : M.memb.Nodup := List.Pairwise.filter _ List.nodup_range
theorem at_put {M : MbM} {K : Nat} (h : M.Ok K) {id : Int} (h1 : 0 ≤ id ∧ id < 16) (v j : Nat) : (M.put id v).at j = if j = id.toNat then v else M.at j := by
  unfold MbM.at MbM.put
  dsimp only
  by_cases hj : j = id.toNat
  · subst hj
    rw [List.getElem?_set_self (by rw [h.len]; omega), if_pos rfl]; rfl
  · rw [List.getElem?_set_ne (fun e => hj e.symm), if_neg hj]
/-- Two conditions that differ at one number. -/
theorem cnt_one {a : Nat} {p q : Nat → Bool} : ∀ {l : List Nat}, l.Nodup → (∀ i, i ≠ a → p i = q i) → (l.filter p).length ≤ (l.filter q).length + 1
  | [], _, _ => by simp
  | x :: l, hn, h => by
    obtain ⟨hx, hl⟩ := List.nodup_cons.1 hn
    by_cases hxa : x = a
    · have e : l.filter p = l.filter q := List.filter_congr (fun i hi => h i (fun e => hx (by rw [hxa, ← e]; exact hi)))
      rw [List.filter_cons, List.filter_cons, e]
      split <;> split <;> (simp; try omega)
    · have ih := cnt_one hl h
      rw [List.filter_cons, List.filter_cons, h x hxa]
      split
      · simp; omega
      · exact ih
theorem cnt_le {p q : Nat → Bool} {l : List Nat} (h : ∀ i, p i = true → q i = true) : (l.filter p).length ≤ (l.filter q).length := by
  induction l with
  | nil => simp
  | cons x l ih =>
    rw [List.filter_cons, List.filter_cons]
    by_cases hp : p x = true
    · rw [if_pos hp, if_pos (h x hp)]; simp; exact ih
    · rw [if_neg hp]
      split
      · simp; omega
      · exact ih
theorem findE_ok {M : MbM} {id : Int} (h : M.findE id = 0) : (0 ≤ id ∧ id < 16) ∧ 0 < M.at id.toNat := by
  unfold MbM.findE at h
  split at h
  · split at h
    · omega
    · exact ⟨by assumption, by omega⟩
  · omega
theorem joinE_ok {M : MbM} {id : Int} (h : M.joinE id = 0) : (0 ≤ id ∧ id < 16) ∧ M.at id.toNat = 0 ∧ M.memb.length < 8 := by
  unfold MbM.joinE at h
  split at h
  · split at h
    · split at h
      · omega
      · exact ⟨by assumption, by assumption, by omega⟩
    · omega
  · omega
theorem MbM.Ok.mono {M : MbM} {K K' : Nat} (h : M.Ok K) (hk : K ≤ K') : M.Ok K' := ⟨h.len, h.le, h.inj, h.full, Nat.le_trans h.low hk⟩
theorem MbM.Ok.join {M : MbM} {K : Nat} (h : M.Ok K) (id : Int) : (M.join id).Ok (K + 1) := by
  unfold MbM.join
  by_cases he : M.joinE id = 0
  · rw [if_pos he]
    obtain ⟨h1, h2, h3⟩ := joinE_ok he
    have hT : (M.put id (M.T + 1)).T = M.T + 1 := rfl
    refine ⟨by unfold MbM.put; simp [h.len], fun i => ?_, fun i j => ?_, ?_, by have := h.low; rw [hT]; omega⟩
    · rw [at_put h h1, hT]
      have := h.le i
      split <;> omega
    · rw [at_put h h1, at_put h h1]
      have a1 := h.le i
      have a2 := h.le j
      by_cases hi : i = id.toNat <;> by_cases hj : j = id.toNat
      · intro _ _; omega
      · rw [if_pos hi, if_neg hj]; intro e; omega
      · rw [if_neg hi, if_pos hj]; intro e; omega
      · rw [if_neg hi, if_neg hj]; exact h.inj i j
    · have := cnt_one (a := id.toNat) (p := fun i => decide (0 < (M.put id (M.T + 1)).at i)) (q := fun i => decide (0 < M.at i)) (List.nodup_range (n := 16)) (fun i hi => by rw [at_put h h1, if_neg hi])
      unfold MbM.memb at h3 ⊢
      omega
  · rw [if_neg he]; exact h.mono (Nat.le_succ _)
theorem MbM.Ok.leave {M : MbM} {K : Nat} (h : M.Ok K) (id : Int) : (M.leave id).Ok (K + 1) := by
  unfold MbM.leave
  by_cases he : M.findE id = 0
  · rw [if_pos he]
    obtain ⟨h1, h2⟩ := findE_ok he
    have hT : (M.put id 0).T = M.T + 1 := rfl
    refine ⟨by unfold MbM.put; simp [h.len], fun i => ?_, fun i j => ?_, ?_, by have := h.low; rw [hT]; omega⟩
    · rw [at_put h h1, hT]
      have := h.le i
      split <;> omega
    · rw [at_put h h1, at_put h h1]
      by_cases hi : i = id.toNat <;> by_cases hj : j = id.toNat
      · intro _ _; omega
      · rw [if_pos hi, if_neg hj]; intro e; omega
      · rw [if_neg hi, if_pos hj]; intro e; omega
      · rw [if_neg hi, if_neg hj]; exact h.inj i j
    · have := cnt_le (l := List.range 16) (p := fun i => decide (0 < (M.put id 0).at i)) (q := fun i => decide (0 < M.at i)) (fun i hi => by
        rw [at_put h h1] at hi
        split at hi
        · simp at hi
        · exact hi)
      have h3 := h.full
      unfold MbM.memb at h3 ⊢
      omega
  · rw [if_neg he]; exact h.mono (Nat.le_succ _)
theorem MbM.new_ok : MbM.new.Ok 0 := by
  have h0 : ∀ i, MbM.new.at i = 0 := fun i => by
    unfold MbM.at MbM.new
    dsimp only
    rw [List.getElem?_replicate]
    split <;> rfl
  refine ⟨by simp [MbM.new], fun i => by rw [h0]; omega, fun i j _ h => by rw [h0] at h; omega, by decide, Nat.le_refl _⟩

/-- The eldest one. -/
theorem eld_is {M : MbM} {K : Nat} (h : M.Ok K) {i : Nat} (hi : 0 < M.at i) (hl : ∀ j, 0 < M.at j → M.at i ≤ M.at j) : M.eldV = i ∧ M.eldE = 0 := by
  have hm := memb_of h hi
  refine ⟨?_, by unfold MbM.eldE; rw [if_neg (fun e => by rw [e] at hm; cases hm)]⟩
  unfold MbM.eldV
  cases hf : M.memb.find? M.eldB with
  | none =>
    exfalso
    have := List.find?_eq_none.1 hf i hm
    apply this
    unfold MbM.eldB
    rw [List.all_eq_true]
    intro j hj
    have := hl j (mem_memb.1 hj).2
    simpa using this
  | some k =>
    obtain ⟨hk1, hk2⟩ := List.find?_eq_some_iff_append.1 hf
    unfold MbM.eldB at hk1
    rw [List.all_eq_true] at hk1
    have hkm := (mem_memb.1 (List.mem_of_find?_eq_some hf)).2
    have a1 := hk1 i hm
    have a2 := hl k hkm
    have a1' : M.at k ≤ M.at i := by simpa using a1
    exact (h.inj k i (by omega) hkm)
theorem eld_no {M : MbM} (h : M.memb = []) : M.eldV = 0 ∧ M.eldE = 150 := by
  unfold MbM.eldV MbM.eldE
  rw [if_pos h, h]
  exact ⟨rfl, rfl⟩
end Go.Proofs.Ytdlkdagmaeapdaa

/- The document's list of members, as it lies in memory; what its calls answer. No condition but that it is one. -/
namespace Go.Proofs.Ytdlkdagmaeapdaa
open Go.RowKit
set_option linter.unusedVariables false
set_option linter.unusedSimpArgs false
set_option maxRecDepth 100000

def sVm (M : MbM) : List Value := (M.S.map fun n => .int .i64 ((n : Nat) : Int)) ++ [.int .i64 ((M.T : Nat) : Int)]
/-- The first members' numbers. -/
def membN (M : MbM) (n : Nat) : List Nat := (List.range n).filter (fun i => decide (0 < M.at i))
theorem membN_all (M : MbM) : membN M 16 = M.memb := rfl
theorem membN_succ (M : MbM) (n : Nat) : membN M (n + 1) = if 0 < M.at n then membN M n ++ [n] else membN M n := by
  unfold membN
  rw [List.range_succ, List.filter_append, List.filter_cons, List.filter_nil]
  by_cases h : 0 < M.at n
  · rw [if_pos h, if_pos (by simpa using h)]
  · rw [if_neg h, if_neg (by simpa using h), List.append_nil]
theorem membN_len (M : MbM) (n : Nat) : (membN M n).length ≤ n := by
  have := List.length_filter_le (fun i => decide (0 < M.at i)) (List.range n)
  rw [List.length_range] at this
  exact this
theorem below_membN (M : MbM) (n : Nat) : M.below n = (membN M n).length := rfl
def intsN (l : List Nat) : List Int := l.map fun (n : Nat) => (n : Int)
theorem intsN_len (l : List Nat) : (intsN l).length = l.length := by simp [intsN]

/-- A new list. -/
def MNew (MT : Nat → MbM → Thing) (w : World) (M : MbM) (q : Nat) (w' : World) : Prop := ∃ W, (MT q M).at_ w' W ∧ Still w w' ∧ ∀ k, W k → w.heap.size ≤ k

section
variable {q K : Nat} {M : MbM} {w w' : World} {W : Nat → Prop}
theorem sVm_get (hM : M.Ok K) {i : Nat} (hi : i < 16) : (sVm M)[i]? = some (.int .i64 ((M.at i : Nat) : Int)) := by
  unfold sVm MbM.at
  rw [List.getElem?_append_left (by rw [List.length_map, hM.len]; exact hi), List.getElem?_map]
  obtain ⟨s, hs⟩ := get_some (l := M.S) (i := i) (by rw [hM.len]; exact hi)
  rw [hs]; rfl
theorem sVm_time (hM : M.Ok K) : (sVm M)[16]? = some (.int .i64 ((M.T : Nat) : Int)) := by
  unfold sVm
  rw [List.getElem?_append_right (by rw [List.length_map, hM.len]; omega), List.length_map, hM.len]; rfl
theorem sVm_put (hM : M.Ok K) (k v : Nat) (hk : k < 16) : ((sVm M).set 16 (.int .i64 ((M.T + 1 : Nat) : Int))).set k (.int .i64 ((v : Nat) : Int)) = sVm (M.put (k : Int) v) := by
  unfold sVm MbM.put
  dsimp only
  rw [List.set_append_right _ _ (by rw [List.length_map, hM.len]; omega), List.length_map, hM.len]
  rw [List.set_append_left _ _ (by rw [List.length_map, hM.len]; exact hk), Int.toNat_natCast, ← List.map_set]
  rfl
structure ZmRd (q : Nat) (M : MbM) (w : World) : Prop where
  cell : ∀ i, i < 16 → w.cell? ⟨q, i, none⟩ = some (.int .i64 ((M.at i : Nat) : Int))
  time : w.cell? ⟨q, 16, none⟩ = some (.int .i64 ((M.T : Nat) : Int))
theorem ZmRd.still (h : ZmRd q M w) (hs : Still w w') : ZmRd q M w' := ⟨fun i hi => still_cell hs (h.cell i hi) rfl, still_cell hs h.time rfl⟩

theorem findE_no {id : Int} (h : ¬ (0 ≤ id ∧ id < 16)) : M.findE id = 2 := by unfold MbM.findE; rw [if_neg h]
theorem findE_nat {k : Nat} (h : k < 16) : M.findE (k : Int) = if M.at k = 0 then 150 else 0 := by unfold MbM.findE; rw [if_pos (by omega), Int.toNat_natCast]
end
end Go.Proofs.Ytdlkdagmaeapdaa

/- Plain mathematics of lists of members. No condition. -/
namespace Go.Proofs.Ytdlkdagmaeapdaa
open Go.RowKit
set_option linter.unusedVariables false

theorem cnt_eq {a : Nat} {p q : Nat → Bool} (hp : p a = true) (hq : q a = false) : ∀ {l : List Nat}, l.Nodup → a ∈ l → (∀ i, i ≠ a → p i = q i) → (l.filter p).length = (l.filter q).length + 1
  | [], _, h, _ => by cases h
  | x :: l, hn, hm, h => by
    obtain ⟨hx, hl⟩ := List.nodup_cons.1 hn
    by_cases hxa : x = a
    · have e : l.filter p = l.filter q := List.filter_congr (fun i hi => h i (fun e => hx (by rw [hxa, ← e]; exact hi)))
      rw [List.filter_cons, List.filter_cons, e, hxa, if_pos hp, if_neg (by rw [hq]; simp)]
      simp
    · have hm' : a ∈ l := by
        rcases List.mem_cons.1 hm with e | e
        · exact absurd e.symm hxa
        · exact e
      have ih := cnt_eq hp hq hl hm' h
      rw [List.filter_cons, List.filter_cons, h x hxa]
      split
      · simp; omega
      · exact ih
theorem memb_join {M : MbM} {K : Nat} (h : M.Ok K) {id : Int} (he : M.joinE id = 0) : (M.join id).memb.length = M.memb.length + 1 ∧ (M.join id).T = M.T + 1 ∧ ∀ j, (M.join id).at j = if j = id.toNat then M.T + 1 else M.at j := by
  obtain ⟨h1, h2, h3⟩ := joinE_ok he
  have e : M.join id = M.put id (M.T + 1) := by unfold MbM.join; rw [if_pos he]
  rw [e]
  refine ⟨?_, rfl, fun j => at_put h h1 _ j⟩
  exact cnt_eq (a := id.toNat) (p := fun i => decide (0 < (M.put id (M.T + 1)).at i)) (q := fun i => decide (0 < M.at i)) (by rw [at_put h h1, if_pos rfl]; simp) (by simp [h2]) (List.nodup_range (n := 16)) (List.mem_range.2 (by omega)) (fun i hi => by rw [at_put h h1, if_neg hi])
theorem memb_leave {M : MbM} {K : Nat} (h : M.Ok K) {id : Int} (he : M.findE id = 0) : (M.leave id).memb.length + 1 = M.memb.length ∧ (M.leave id).T = M.T + 1 ∧ ∀ j, (M.leave id).at j = if j = id.toNat then 0 else M.at j := by
  obtain ⟨h1, h2⟩ := findE_ok he
  have e : M.leave id = M.put id 0 := by unfold MbM.leave; rw [if_pos he]
  rw [e]
  refine ⟨?_, rfl, fun j => at_put h h1 _ j⟩
  exact (cnt_eq (a := id.toNat) (p := fun i => decide (0 < M.at i)) (q := fun i => decide (0 < (M.put id 0).at i)) (by simpa using h2) (by rw [at_put h h1, if_pos rfl]; rfl) (List.nodup_range (n := 16)) (List.mem_range.2 (by omega)) (fun i hi => by rw [at_put h h1, if_neg hi])).symm
theorem joinE_0 {M : MbM} {k : Nat} (hk : k < 16) (h1 : M.at k = 0) (h2 : M.memb.length < 8) : M.joinE (k : Int) = 0 := by
  unfold MbM.joinE
  rw [if_pos (by omega), Int.toNat_natCast, if_pos h1, if_neg (by omega)]
theorem joinE_4 {M : MbM} {k : Nat} (hk : k < 16) (h1 : M.at k = 0) (h2 : 8 ≤ M.memb.length) : M.joinE (k : Int) = 4 := by
  unfold MbM.joinE
  rw [if_pos (by omega), Int.toNat_natCast, if_pos h1, if_pos h2]
theorem joinE_6 {M : MbM} {k : Nat} (hk : k < 16) (h1 : 0 < M.at k) : M.joinE (k : Int) = 6 := by
  unfold MbM.joinE
  rw [if_pos (by omega), Int.toNat_natCast, if_neg (by omega)]
theorem findE_0 {M : MbM} {k : Nat} (hk : k < 16) (h1 : 0 < M.at k) : M.findE (k : Int) = 0 := by
  unfold MbM.findE
  rw [if_pos (by omega), Int.toNat_natCast, if_neg (by omega)]
theorem findE_150 {M : MbM} {k : Nat} (hk : k < 16) (h1 : M.at k = 0) : M.findE (k : Int) = 150 := by
  unfold MbM.findE
  rw [if_pos (by omega), Int.toNat_natCast, if_pos h1]
theorem join_no {M : MbM} {id r : Int} (h : M.joinE id = r) (hr : r ≠ 0) : M.join id = M ∧ M.joinV id = 0 := by
  unfold MbM.join MbM.joinV
  rw [if_neg (by rw [h]; exact hr), if_neg (by rw [h]; exact hr)]
  exact ⟨rfl, rfl⟩
theorem leave_no {M : MbM} {id r : Int} (h : M.findE id = r) (hr : r ≠ 0) : M.leave id = M ∧ M.leaveV id = 0 := by
  unfold MbM.leave MbM.leaveV
  rw [if_neg (by rw [h]; exact hr), if_neg (by rw [h]; exact hr)]
  exact ⟨rfl, rfl⟩
/-- Lists of the same sinces have the same members. -/
theorem memb_congr {M M' : MbM} (h : ∀ i, i < 16 → (0 < M.at i ↔ 0 < M'.at i)) : M.memb = M'.memb := by
  unfold MbM.memb
  refine List.filter_congr (fun i hi => ?_)
  have := h i (List.mem_range.1 hi)
  rw [decide_eq_decide]; exact this

/-! ### A list that is full -/
structure FullM (f k : Nat) (M : MbM) : Prop where
  ok : M.Ok k
  T : M.T = k
  len : M.memb.length = k
  at_ : ∀ i, i < 16 → M.at i = if (i + 16 - f) % 16 < k then (i + 16 - f) % 16 + 1 else 0
theorem FullM.start {f : Nat} (hf : f < 16) : FullM f 0 MbM.new := ⟨MbM.new_ok, rfl, by decide, fun i hi => by
  rw [if_neg (by omega)]
  unfold MbM.at MbM.new
  dsimp only
  rw [List.getElem?_replicate]
  split <;> rfl⟩
theorem FullM.step {f k : Nat} {M : MbM} (h : FullM f k M) (hf : f < 16) (hk : k < 8) : M.joinE (((f + k) % 16 : Nat) : Int) = 0 ∧ M.joinV (((f + k) % 16 : Nat) : Int) = k + 1 ∧ FullM f (k + 1) (M.join (((f + k) % 16 : Nat) : Int)) := by
  have hlt : (f + k) % 16 < 16 := Nat.mod_lt _ (by omega)
  have h0 : M.at ((f + k) % 16) = 0 := by rw [h.at_ _ hlt, if_neg (by omega)]
  have he := joinE_0 hlt h0 (by rw [h.len]; exact hk)
  obtain ⟨a1, a2, a3⟩ := memb_join h.ok he
  refine ⟨he, by unfold MbM.joinV; rw [if_pos he, h.T], ⟨h.ok.join _, by rw [a2, h.T], by rw [a1, h.len], fun i hi => ?_⟩⟩
  rw [a3, Int.toNat_natCast, h.T]
  by_cases hi2 : i = (f + k) % 16
  · rw [if_pos hi2, if_pos (by omega)]; omega
  · rw [if_neg hi2, h.at_ i hi]
    by_cases h3 : (i + 16 - f) % 16 < k
    · rw [if_pos h3, if_pos (by omega)]
    · rw [if_neg h3, if_neg (by omega)]
theorem FullM.done {f g : Nat} {M : MbM} (h : FullM f 8 M) (hf : f < 16) (hg : g < 8) : M.joinE (((f + 8) % 16 : Nat) : Int) = 4 ∧ M.findE (((f + g) % 16 : Nat) : Int) = 0 ∧
    (M.leave (((f + g) % 16 : Nat) : Int)).joinE (((f + 8) % 16 : Nat) : Int) = 0 ∧ (M.leave (((f + g) % 16 : Nat) : Int)).joinV (((f + 8) % 16 : Nat) : Int) = 10 ∧ ((M.leave (((f + g) % 16 : Nat) : Int)).join (((f + 8) % 16 : Nat) : Int)).memb.length = 8 := by
  have hlt : (f + 8) % 16 < 16 := Nat.mod_lt _ (by omega)
  have hlg : (f + g) % 16 < 16 := Nat.mod_lt _ (by omega)
  have h0 : M.at ((f + 8) % 16) = 0 := by rw [h.at_ _ hlt, if_neg (by omega)]
  have h1 : 0 < M.at ((f + g) % 16) := by rw [h.at_ _ hlg, if_pos (by omega)]; omega
  have he := findE_0 hlg h1
  obtain ⟨a1, a2, a3⟩ := memb_leave h.ok he
  have h2 : (M.leave (((f + g) % 16 : Nat) : Int)).at ((f + 8) % 16) = 0 := by rw [a3, h0]; split <;> rfl
  have hj := joinE_0 hlt h2 (by rw [h.len] at a1; omega)
  obtain ⟨b1, b2, b3⟩ := memb_join (h.ok.leave _) hj
  exact ⟨joinE_4 hlt h0 (by rw [h.len]; omega), he, hj, by unfold MbM.joinV; rw [if_pos hj, a2, h.T], by rw [b1, a1, h.len]⟩

/-! ### Who joined and did not leave since -/
structure JustM (l : List Nat) (M : MbM) : Prop where
  mem : ∀ i, i ∈ l ↔ 0 < M.at i
  nod : l.Nodup
  rise : l.Pairwise (fun a b => M.at a < M.at b)
  len : l.length = M.memb.length
theorem JustM.start : JustM [] MbM.new := ⟨fun i => by
  have := MbM.new_ok.le i
  have e : MbM.new.T = 0 := rfl
  rw [e] at this
  simp; omega, List.nodup_nil, List.Pairwise.nil, by decide⟩
theorem JustM.join {l : List Nat} {M : MbM} {K k : Nat} (h : JustM l M) (hM : M.Ok K) (he : M.joinE (k : Int) = 0) : JustM (l ++ [k]) (M.join (k : Int)) := by
  obtain ⟨h1, h2, h3⟩ := joinE_ok he
  rw [Int.toNat_natCast] at h2
  obtain ⟨a1, a2, a3⟩ := memb_join hM he
  have hk : k ∉ l := fun hm => by have := (h.mem k).1 hm; omega
  have hne : ∀ i, i ∈ l → i ≠ k := fun i hi e => hk (e ▸ hi)
  have hat : ∀ i, (M.join (k : Int)).at i = if i = k then M.T + 1 else M.at i := fun i => by rw [a3, Int.toNat_natCast]
  refine ⟨fun i => ?_, ?_, ?_, by rw [List.length_append, h.len, a1]; rfl⟩
  · rw [List.mem_append, List.mem_singleton, hat, h.mem]
    by_cases hi : i = k
    · rw [if_pos hi]; exact ⟨fun _ => by omega, fun _ => .inr hi⟩
    · rw [if_neg hi]; exact ⟨fun h => h.elim id (fun e => absurd e hi), .inl⟩
  · rw [List.nodup_append]
    refine ⟨h.nod, by simp, fun a ha b hb => ?_⟩
    rw [List.mem_singleton] at hb
    rw [hb]; exact hne a ha
  · rw [List.pairwise_append]
    refine ⟨?_, List.pairwise_singleton _ _, fun a ha b hb => ?_⟩
    · refine List.Pairwise.imp_of_mem (fun {a b} ha hb hab => ?_) h.rise
      rw [hat, hat, if_neg (hne a ha), if_neg (hne b hb)]; exact hab
    · rw [List.mem_singleton] at hb
      rw [hat, hat, if_neg (hne a ha), if_pos hb]
      have := hM.le a; omega
theorem JustM.leave {l : List Nat} {M : MbM} {K k : Nat} (h : JustM l M) (hM : M.Ok K) (he : M.findE (k : Int) = 0) : JustM (l.filter (fun i => decide (i ≠ k))) (M.leave (k : Int)) := by
  obtain ⟨h1, h2⟩ := findE_ok he
  rw [Int.toNat_natCast] at h2
  obtain ⟨a1, a2, a3⟩ := memb_leave hM he
  have hat : ∀ i, (M.leave (k : Int)).at i = if i = k then 0 else M.at i := fun i => by rw [a3, Int.toNat_natCast]
  refine ⟨fun i => ?_, List.Pairwise.filter _ h.nod, ?_, ?_⟩
  · rw [List.mem_filter, hat, h.mem]
    by_cases hi : i = k
    · rw [if_pos hi]; simp [hi]
    · rw [if_neg hi]; simp [hi]
  · refine List.Pairwise.imp_of_mem (fun {a b} ha hb hab => ?_) (List.Pairwise.filter _ h.rise)
    have ha' : a ≠ k := by simpa using (List.mem_filter.1 ha).2
    have hb' : b ≠ k := by simpa using (List.mem_filter.1 hb).2
    rw [hat, hat, if_neg ha', if_neg hb']; exact hab
  · have e := cnt_eq (a := k) (p := fun _ => true) (q := fun i => decide (i ≠ k)) rfl (by simp) h.nod ((h.mem k).2 h2) (fun i hi => by simp [hi])
    rw [List.filter_eq_self.2 (fun _ _ => rfl)] at e
    have := h.len; omega
theorem JustM.eld {l : List Nat} {M : MbM} {K k : Nat} (h : JustM (k :: l) M) (hM : M.Ok K) : M.eldV = k ∧ M.eldE = 0 := by
  refine eld_is hM ((h.mem k).1 (List.mem_cons_self ..)) (fun j hj => ?_)
  rcases List.mem_cons.1 ((h.mem j).2 hj) with e | e
  · rw [e]; exact Nat.le_refl _
  · exact Nat.le_of_lt ((List.pairwise_cons.1 h.rise).1 j e)
theorem JustM.none {M : MbM} {K : Nat} (h : JustM [] M) : M.eldV = 0 ∧ M.eldE = 150 := by
  refine eld_no (List.eq_nil_of_length_eq_zero ?_)
  rw [← h.len]; rfl
theorem nodup_inj {α : Type} {l : List α} (h : l.Nodup) {i j : Nat} {x : α} (hi : l[i]? = some x) (hj : l[j]? = some x) : i = j := by
  obtain ⟨a1, a2⟩ := List.getElem?_eq_some_iff.1 hi
  obtain ⟨b1, b2⟩ := List.getElem?_eq_some_iff.1 hj
  have hp := List.pairwise_iff_getElem.1 h
  rcases Nat.lt_trichotomy i j with h1 | h1 | h1
  · exact absurd (a2.trans b2.symm) (hp i j a1 b1 h1)
  · exact h1
  · exact absurd (b2.trans a2.symm) (hp j i b1 a1 h1)
/-- Ranks are 0, 1, 2 .. by number. -/
theorem rank_at {M : MbM} {K k i : Nat} (hM : M.Ok K) (h : M.memb[k]? = some i) : M.rankV (i : Int) = k ∧ M.findE (i : Int) = 0 ∧ 0 < M.at i ∧ i < 16 := by
  have hm := mem_memb.1 (List.mem_of_getElem? h)
  have he := findE_0 hm.1 hm.2
  refine ⟨?_, he, hm.2, hm.1⟩
  unfold MbM.rankV
  rw [if_pos he, Int.toNat_natCast]
  unfold MbM.below
  have e1 : List.range 16 = List.range i ++ i :: (List.range' (i + 1) (15 - i)) := by
    have : List.range 16 = List.range i ++ List.range' i (16 - i) := by
      rw [List.range_eq_range', List.range_eq_range']
      have := List.range'_append (s := 0) (m := i) (n := 16 - i) (step := 1)
      simp at this
      rw [this]; congr 1; omega
    rw [this, show 16 - i = (15 - i) + 1 by omega, List.range'_succ]
  have e2 : M.memb = (List.range i).filter (fun i => decide (0 < M.at i)) ++ i :: (List.range' (i + 1) (15 - i)).filter (fun i => decide (0 < M.at i)) := by
    unfold MbM.memb
    rw [e1, List.filter_append, List.filter_cons, if_pos (by simpa using hm.2)]
  have hb : ((List.range i).filter (fun i => decide (0 < M.at i))).length < M.memb.length := by rw [e2]; simp
  have e3 : M.memb[((List.range i).filter (fun i => decide (0 < M.at i))).length]? = some i := by rw [e2]; simp
  exact nodup_inj (memb_nodup M) e3 h
end Go.Proofs.Ytdlkdagmaeapdaa

/- What the statements of layer 15 want of the program's list of members, told of the plain one: one word for each call; what works does. No condition but the words. -/
namespace Go.Proofs.Ytdlkdagmaeapdaa
open Go.RowKit
set_option linter.unusedVariables false
set_option linter.unusedSimpArgs false
set_option maxRecDepth 100000

structure MemberApi (MT : Nat → MbM → Thing) : Prop where
  make_ : ∀ w : World, Calls Try.prog 96 #[] w fun e w' => ∃ q, e = .returned (.pointer (some ⟨q, 0, none⟩)) ∧ MNew MT w MbM.new q w'
  join : ∀ {w : World} {W : Nat → Prop} {q K : Nat} {M : MbM}, (MT q M).at_ w W → M.Ok K → K < 1000000 → ∀ x : Int, -9223372036854775808 ≤ x → x ≤ 9223372036854775807 →
    Calls Try.prog 97 #[.pointer (some ⟨q, 0, none⟩), .int .i64 x] w fun e w' => e = .returned (.tuple #[.int .i64 ((M.joinV x : Nat) : Int), .int .i64 (M.joinE x)]) ∧ Goes (MT q (M.join x)) W w w'
  has : ∀ {w : World} {W : Nat → Prop} {q K : Nat} {M : MbM}, (MT q M).at_ w W → M.Ok K → K < 1000000 → ∀ x : Int, -9223372036854775808 ≤ x → x ≤ 9223372036854775807 →
    Calls Try.prog 105 #[.pointer (some ⟨q, 0, none⟩), .int .i64 x] w fun e w' => e = .returned (.bool (decide (M.findE x = 0))) ∧ Still w w'
  all_ : ∀ {w : World} {W : Nat → Prop} {q K : Nat} {M : MbM}, (MT q M).at_ w W → M.Ok K → K < 1000000 → ∀ n, n = M.memb.length → Calls Try.prog 98 #[.pointer (some ⟨q, 0, none⟩)] w (OutNums w (intsN M.memb) n)
section
variable {MT : Nat → MbM → Thing} {w0 w : World} {q K : Nat} {M : MbM} {R : Thing}
theorem Held.joinM (A : MemberApi MT) (H : Held w0 w ((MT q M).sep R)) (hM : M.Ok K) (hK : K < 1000000) {x : Int} {v : Nat} {r : Int} {M' : MbM} (h1 : -9223372036854775808 ≤ x) (h2 : x ≤ 9223372036854775807) (hv : M.joinV x = v) (hr : M.joinE x = r) (hm : M.join x = M') :
    Calls Try.prog 97 #[.pointer (some ⟨q, 0, none⟩), .int .i64 x] w fun e w' => e = .returned (.tuple #[.int .i64 ((v : Nat) : Int), .int .i64 r]) ∧ Held w0 w' ((MT q M').sep R) := by
  subst hv hr hm; exact H.call (fun _ h => A.join h hM hK x h1 h2)
theorem Held.hasM (A : MemberApi MT) (H : Held w0 w ((MT q M).sep R)) (hM : M.Ok K) (hK : K < 1000000) {x : Int} (h1 : -9223372036854775808 ≤ x) (h2 : x ≤ 9223372036854775807) {r : Bool} (hr : decide (M.findE x = 0) = r) :
    Calls Try.prog 105 #[.pointer (some ⟨q, 0, none⟩), .int .i64 x] w fun e w' => e = .returned (.bool r) ∧ Still w w' := by
  subst hr; obtain ⟨_, h, _⟩ := H.fst; exact A.has h hM hK x h1 h2
theorem OutNums.at {w w' : World} {l : List Int} {n : Nat} {e : Ending} (hn : n = l.length) (h : OutNums w l n e w') : ∃ a c, e = .returned (.slice a n c) ∧ NumsAt w' a l ∧ Still w w' := by
  obtain ⟨a, c, he, ho, hs⟩ := h
  exact ⟨a, c, he, NumsAt.of_own ho hn, hs⟩
theorem Held.allM (A : MemberApi MT) (H : Held w0 w ((MT q M).sep R)) (hM : M.Ok K) (hK : K < 1000000) {l : List Nat} {n : Nat} (hl : M.memb = l) (hn : n = l.length) :
    Calls Try.prog 98 #[.pointer (some ⟨q, 0, none⟩)] w fun e w' => ∃ a c, e = .returned (.slice a n c) ∧ NumsAt w' a (intsN l) ∧ Still w w' := by
  subst hl; obtain ⟨_, h, _⟩ := H.fst
  exact (A.all_ h hM hK n hn).mono fun e w' ho => ho.at (by rw [intsN_len]; exact hn)
end
end Go.Proofs.Ytdlkdagmaeapdaa

/- What Join, Leave and Eldest of the document's list do. No condition but that it is one. -/
namespace Go.Proofs.Ytdlkdagmaeapdaa
open Go.RowKit
set_option linter.unusedVariables false
set_option linter.unusedSimpArgs false
set_option maxRecDepth 100000

section
variable {q K : Nat} {M : MbM} {w w' V : World} {W : Nat → Prop}
theorem joinE_nat {k : Nat} (h : k < 16) : M.joinE (k : Int) = if M.at k = 0 then (if 8 ≤ M.memb.length then 4 else 0) else 6 := by unfold MbM.joinE; rw [if_pos (by omega), Int.toNat_natCast]
theorem joinE_no {id : Int} (h : ¬ (0 ≤ id ∧ id < 16)) : M.joinE id = 2 := by unfold MbM.joinE; rw [if_neg h]

/-- The eldest of the first so many. -/
def EldAt (M : MbM) (k : Nat) (v : Int) : Prop := (v = -1 ∧ ∀ i, i < k → M.at i = 0) ∨ ∃ i, i < k ∧ v = ((i : Nat) : Int) ∧ 0 < M.at i ∧ ∀ j, j < k → 0 < M.at j → M.at i ≤ M.at j
theorem eld_end {v : Int} (hM : M.Ok K) (h : EldAt M 16 v) : (v = -1 ∧ M.eldV = 0 ∧ M.eldE = 150) ∨ (0 ≤ v ∧ v = ((M.eldV : Nat) : Int) ∧ M.eldE = 0) := by
  rcases h with ⟨rfl, h⟩ | ⟨i, hi, rfl, h1, h2⟩
  · refine .inl ⟨rfl, eld_no ?_⟩
    rw [List.eq_nil_iff_forall_not_mem]
    intro i hi
    obtain ⟨a, b⟩ := mem_memb.1 hi
    have := h i a; omega
  · obtain ⟨e1, e2⟩ := eld_is hM h1 (fun j hj => h2 j (at_lt hM hj) hj)
    exact .inr ⟨by omega, by rw [e1], e2⟩
end
end Go.Proofs.Ytdlkdagmaeapdaa

/- The program's list of members, as it lies in memory: a row of sinces, and the time; what it says of itself. No condition but that it is one. -/
namespace Go.Proofs.Ytdlkdagmaeapdaa
open Go.RowKit
set_option linter.unusedVariables false
set_option linter.unusedSimpArgs false
set_option maxRecDepth 100000

def sVi (M : MbM) : List Value := M.S.map fun n => .int .i64 ((n : Nat) : Int)
abbrev mbX (q g : Nat) (M : MbM) : Thing := (blkT q [.slice (some ⟨g, 0, none⟩) 16 16, .int .i64 ((M.T : Nat) : Int)] 137).sep (blkT g (sVi M) 3)
/-- The program's list. -/
def mbT (q : Nat) (M : MbM) : Thing where
  at_ w W := ∃ g, (mbX q g M).at_ w W
  lt := by rintro w W ⟨g, h⟩; exact Thing.lt _ h
  keep := by rintro w w' W S ⟨g, h⟩ ht hs; exact ⟨g, Thing.keep _ h ht hs⟩

structure MbRd (q g : Nat) (M : MbM) (w : World) : Prop where
  c0 : w.cell? ⟨q, 0, none⟩ = some (.slice (some ⟨g, 0, none⟩) 16 16)
  c1 : w.cell? ⟨q, 1, none⟩ = some (.int .i64 ((M.T : Nat) : Int))
  cell : ∀ i, i < 16 → w.cell? ⟨g, i, none⟩ = some (.int .i64 ((M.at i : Nat) : Int))
section
variable {q g K : Nat} {M : MbM} {w V w' : World} {W : Nat → Prop}
theorem sVi_get (hM : M.Ok K) {i : Nat} (hi : i < 16) : (sVi M)[i]? = some (.int .i64 ((M.at i : Nat) : Int)) := by
  unfold sVi MbM.at
  rw [List.getElem?_map]
  obtain ⟨s, hs⟩ := get_some (l := M.S) (i := i) (by rw [hM.len]; exact hi)
  rw [hs]; rfl
theorem sVi_put (k v : Nat) : (sVi M).set k (.int .i64 ((v : Nat) : Int)) = sVi (M.put (k : Int) v) := by
  unfold sVi MbM.put
  dsimp only
  rw [Int.toNat_natCast, ← List.map_set]
theorem MbRd.still (h : MbRd q g M w) (ht : Still w w') : MbRd q g M w' := ⟨still_cell ht h.c0 rfl, still_cell ht h.c1 rfl, fun i hi => still_cell ht (h.cell i hi) rfl⟩
theorem mbX_rd (hM : M.Ok K) (h : (mbX q g M).at_ w W) : MbRd q g M w := by
  obtain ⟨W1, W2, ⟨h1, _⟩, ⟨h2, _⟩, _⟩ := h
  exact ⟨h1.cell rfl, h1.cell rfl, fun i hi => h2.cell (sVi_get hM hi)⟩
theorem mbT_rd (hM : M.Ok K) (h : (mbT q M).at_ w W) : ∃ g, MbRd q g M w := by
  obtain ⟨g, h⟩ := h
  exact ⟨g, mbX_rd hM h⟩

theorem mbmade_any (c0 : w.cell? ⟨q, 0, none⟩ = some (.slice (some ⟨g, 0, none⟩) 16 16)) : Calls Try.prog 103 #[.pointer (some ⟨q, 0, none⟩)] w fun e w' => e = .returned (.bool true) ∧ w = w' := by
  go_enter Try.func103, Try.ntmps103
  go_wp2_with fail
  go_ret
  exact ⟨by first | rfl | simp, rfl⟩
theorem mbses_no (id : Int) (w : World) (h : ¬ (0 ≤ id ∧ id < 16)) : Calls Try.prog 104 #[.int .i64 id] w fun e w' => e = .returned (.bool false) ∧ w = w' := by
  by_cases h0 : 0 ≤ id
  · have h1 : ¬ id < 16 := fun h1 => h ⟨h0, h1⟩
    clear h
    go_enter Try.func104, Try.ntmps104
    go_wp2_with fail
    go_ret
    exact ⟨rfl, rfl⟩
  · clear h
    go_enter Try.func104, Try.ntmps104
    go_wp2_with fail
    go_ret
    exact ⟨rfl, rfl⟩
theorem mbses_yes (k : Nat) (w : World) (h : k < 16) : Calls Try.prog 104 #[.int .i64 (k : Int)] w fun e w' => e = .returned (.bool true) ∧ w = w' := by
  have hk : (k : Int) < 16 := by omega
  clear h
  go_enter Try.func104, Try.ntmps104
  go_wp2_with fail
  go_ret
  exact ⟨rfl, rfl⟩
theorem mbref_any (h : MbRd q g M w) (id : Int) : Calls Try.prog 110 #[.pointer (some ⟨q, 0, none⟩), .int .i64 id] w fun e w' => e = .returned (.int .i64 (M.findE id)) ∧ w = w' := by
  have HMd := Lib.hid (mbmade_any h.c0)
  by_cases hs : 0 ≤ id ∧ id < 16
  · obtain ⟨k, rfl⟩ : ∃ k : Nat, id = k := ⟨id.toNat, by omega⟩
    have hk : k < 16 := by omega
    have HS := Lib.hid (mbses_yes k w hk)
    have c0 := h.c0
    have c1 := h.cell k hk
    rw [findE_nat hk]
    have hki : (k : Int) < 16 := by omega
    generalize M.at k = a at *
    clear h hs
    by_cases ha : a = 0
    · subst ha
      go_enter Try.func110, Try.ntmps110
      go_wp2_with (first
        | (go_at_call 103; ((with_reducible refine HMd.out.mono ?_)); rintro e w1 ⟨rfl, rfl⟩)
        | (go_at_call 104; ((with_reducible refine HS.out.mono ?_)); rintro e w1 ⟨rfl, rfl⟩))
      go_ret
      exact ⟨by first | rfl | simp, rfl⟩
    · have hai : ((a : Nat) : Int) ≠ 0 := by omega
      have hai2 : (((a : Nat) : Int) == 0) = false := by simpa using ha
      rw [if_neg ha]
      go_enter Try.func110, Try.ntmps110
      go_wp2_with (first
        | (go_at_call 103; ((with_reducible refine HMd.out.mono ?_)); rintro e w1 ⟨rfl, rfl⟩)
        | (go_at_call 104; ((with_reducible refine HS.out.mono ?_)); rintro e w1 ⟨rfl, rfl⟩))
      go_ret
      exact ⟨by first | rfl | simp, rfl⟩
  · have HS := Lib.hid (mbses_no id w hs)
    rw [findE_no hs]
    clear h hs
    go_enter Try.func110, Try.ntmps110
    go_wp2_with (first
      | (go_at_call 103; ((with_reducible refine HMd.out.mono ?_)); rintro e w1 ⟨rfl, rfl⟩)
      | (go_at_call 104; ((with_reducible refine HS.out.mono ?_)); rintro e w1 ⟨rfl, rfl⟩))
    go_ret
    exact ⟨rfl, rfl⟩
theorem mbhas_any (h : MbRd q g M w) (id : Int) : Calls Try.prog 105 #[.pointer (some ⟨q, 0, none⟩), .int .i64 id] w fun e w' => e = .returned (.bool (decide (M.findE id = 0))) ∧ w = w' := by
  have HF := Lib.hid (mbref_any h id)
  clear h
  generalize M.findE id = r at *
  go_enter Try.func105, Try.ntmps105
  go_wp2_with (go_at_call 110; ((with_reducible refine HF.out.mono ?_)); rintro e w1 ⟨rfl, rfl⟩)
  go_ret
  exact ⟨by first | rfl | simp | (congr 2; rw [Bool.eq_iff_iff]; simp), rfl⟩
theorem made16 : madeCells #[.int .i64 0] 16 = (sVi MbM.new).toArray := by kernel_rfl
theorem mbmake_any (w : World) : Calls Try.prog 96 #[] w fun e w' => ∃ q, e = .returned (.pointer (some ⟨q, 0, none⟩)) ∧ MNew mbT w MbM.new q w' := by
  obtain ⟨i0, hi, hz0, hz1, hz2⟩ := info_parts infoIntW
  have hmk := fun W : World => run_make (P := Try.prog) W 44 3 i0 _ Try.underlying44 hi hz0 .i64 .i64 (16 : Int) (16 : Int) (by omega) (Int.le_refl _) (by rw [hz2]; omega) (by omega)
  simp only [hz1, show (16 : Int).toNat = 16 from rfl, Nat.mul_one, show Value.cells (.int .i64 0) = #[.int .i64 0] from rfl, made16] at hmk
  have hs : (w.alloc (.cells (sVi MbM.new).toArray 3)).heap.size = w.heap.size + 1 := by simp
  have HN := Lib.hid (show MNew mbT w MbM.new (w.heap.size + 1) ((w.alloc (.cells (sVi MbM.new).toArray 3)).alloc (.cells #[.slice (some ⟨w.heap.size, 0, none⟩) 16 16, .int .i64 0] 137)) from by
    have hb := Blk.new (w.alloc (.cells (sVi MbM.new).toArray 3)) [.slice (some ⟨w.heap.size, 0, none⟩) 16 16, .int .i64 0] 137
    rw [hs] at hb
    exact ⟨fun k => k = w.heap.size + 1 ∨ k = w.heap.size, ⟨w.heap.size, (· = w.heap.size + 1), (· = w.heap.size), ⟨hb, fun _ => Iff.rfl⟩, ⟨(Blk.new w _ _).alloc _, fun _ => Iff.rfl⟩, fun k h1 h2 => by omega, fun _ => Iff.rfl⟩,
      ((Turned.refl _ _).alloc _).alloc _, fun k hk => by omega⟩)
  clear hs hi hz0 hz1 hz2
  go_enter Try.func96, Try.ntmps96
  go_wp2_with fail
  go_ret
  exact ⟨_, rfl, HN.out⟩
end
end Go.Proofs.Ytdlkdagmaeapdaa

/- The iterator of package member goes through the members, rising, each with its since. No condition but that the list is one. -/
namespace Go.Proofs.Ytdlkdagmaeapdaa
open Go.RowKit Go.Shelf
attribute [local go_sem] Oper.semAt_some
set_option linter.unusedVariables false
set_option linter.unusedSimpArgs false
set_option maxRecDepth 100000

/-- The members, rising, each with its since. -/
def evM (M : MbM) : List (Nat × Nat) := M.memb.map fun i => (i, M.at i)
theorem evM_length (M : MbM) : (evM M).length = M.memb.length := by simp [evM]
abbrev encM (x : Nat × Nat) : Array Value := #[.int .i64 ((x.1 : Nat) : Int), .int .i64 ((x.2 : Nat) : Int)]
theorem memb_split (M : MbM) : ∀ (k d : Nat), membN M (k + d) = membN M k ++ (List.range' k d).filter (fun i => decide (0 < M.at i))
  | k, 0 => by simp
  | k, d + 1 => by
    rw [show k + (d + 1) = (k + d) + 1 by omega, membN_succ, memb_split M k d, List.range'_concat, List.filter_append, Nat.one_mul]
    by_cases h : 0 < M.at (k + d)
    · rw [if_pos h, List.filter_cons, if_pos (by simpa using h), List.filter_nil, List.append_assoc]
    · rw [if_neg h, List.filter_cons, if_neg (by simpa using h), List.filter_nil, List.append_nil]
theorem evM_get (M : MbM) {k : Nat} (hk : k < 16) (ha : 0 < M.at k) : (evM M)[(membN M k).length]? = some (k, M.at k) := by
  unfold evM
  rw [List.getElem?_map]
  have h1 : M.memb = membN M (k + (16 - k)) := by rw [show k + (16 - k) = 16 by omega]; rfl
  rw [h1, memb_split, show 16 - k = (15 - k) + 1 by omega, List.range'_succ, List.filter_cons, if_pos (by simpa using ha), List.getElem?_append_right (Nat.le_refl _), Nat.sub_self]
  rfl
theorem evM_some {M : MbM} {j : Nat} {x : Nat × Nat} (h : (evM M)[j]? = some x) : M.memb[j]? = some x.1 ∧ x.2 = M.at x.1 ∧ x.1 < 16 ∧ 0 < x.2 := by
  unfold evM at h
  rw [List.getElem?_map] at h
  cases hm : M.memb[j]? with
  | none => rw [hm] at h; cases h
  | some i =>
    rw [hm] at h
    obtain rfl : (i, M.at i) = x := by simpa using h
    obtain ⟨h1, h2⟩ := mem_memb.1 (List.mem_of_getElem? hm)
    exact ⟨rfl, rfl, h1, h2⟩

theorem mbmembers_any (p : Option Addr) (w : World) : Calls Try.prog 107 #[.pointer p] w fun e w' => e = .returned (.func (.func 111) #[] #[.pointer (some ⟨w.heap.size, 0, none⟩)]) ∧
    w' = w.alloc (.cells #[.pointer p] 129) := by
  go_enter Try.func107, Try.ntmps107
  go_wp2
  go_ret
  exact ⟨rfl, rfl⟩

/-- What the iterator reads: the list, and the box that holds where it lies. -/
def evMb (B q g : Nat) (M : MbM) : Thing := (blkT B [.pointer (some ⟨q, 0, none⟩)] 129).sep (mbX q g M)
theorem evMb_new {q g : Nat} {M : MbM} {w : World} {W : Nat → Prop} (h : (mbX q g M).at_ w W) : (evMb w.heap.size q g M).at_ (w.alloc (.cells #[.pointer (some ⟨q, 0, none⟩)] 129)) (fun k => k = w.heap.size ∨ W k) :=
  ⟨(· = w.heap.size), W, ⟨Blk.new w [.pointer (some ⟨q, 0, none⟩)] 129, fun _ => Iff.rfl⟩, (mbX q g M).keep h ((Turned.refl _ _).alloc _) (fun _ _ h => h), fun k e hk => by have := (mbX q g M).lt h k hk; omega, fun _ => Iff.rfl⟩

set_option maxHeartbeats 2000000 in
theorem mbmembers_it {q g K : Nat} {M : MbM} (hM : M.Ok K) (B : Nat) :
    IterS 111 #[.pointer (some ⟨B, 0, none⟩)] encM (evM M) (evMb B q g M) := by
  intro l J Jx W Q S hR h0 hd hY
  have HX := Lib.hid (fun V (h : ∃ Q', Since Q W Q' V) => show V.cell? ⟨B, 0, none⟩ = some (.pointer (some ⟨q, 0, none⟩)) ∧ MbRd q g M V from by
    obtain ⟨Q', hs⟩ := h
    obtain ⟨U1, U2, ⟨u1, _⟩, u2, _⟩ := (hs.stays (A := evMb B q g M) hR hd).1
    exact ⟨u1.cell rfl, mbX_rd hM u2⟩)
  have HY := Lib.hid (fun k z W1 Q1 (hz : (evM M)[k]? = some z) (h1 : (J k).at_ W1 Q1) (h2 : Since Q W Q1 W1) => YieldAt.any 8 (hY k z W1 Q1 hz h1 h2))
  have HEv := Lib.hid (fun k (hk : k < 16) (ha : 0 < M.at k) => evM_get M hk ha)
  have HNx := Lib.hid (fun k => membN_succ M k)
  have HL := Lib.hid (show (evM M).length = (membN M 16).length from evM_length M)
  obtain ⟨e1, hx1⟩ := HX.out W ⟨Q, Since.refl _ _⟩
  have HMd := Lib.hid (mbmade_any hx1.c0)
  have e2 := hx1.c0
  have H0 := Lib.hid h0
  have hro : Fence.wide.round = none := rfl
  have hf1 : Fence.wide.fn 103 := trivial
  clear hR h0 hd hY hx1 hM
  refine (callsIn_wide (n := 9)).1 (callsIn_of_wp Try.func111 rfl trivial ?_ rfl)
  simp only [Try.ntmps111, List.size_toArray, List.length_cons, List.length_nil, Nat.reduceAdd, Nat.reduceSub, Array.replicate_succ, Array.replicate_zero, List.push_toArray, List.append_toArray, List.nil_append, List.cons_append]
  gi_wp2_with (gi_at_call 103; ((with_reducible refine (callsIn_wide.2 HMd.out).mono ?_)); rintro e w4 ⟨rfl, rfl⟩)
  gi_loopw [13] (fun i wr => ∃ (k : Nat) (Q' : Nat → Prop), k ≤ 16 ∧ i = .int .i64 k ∧ (J (membN M k).length).at_ wr Q' ∧ Since Q W Q' wr) (fun i _ => 16 - (intOf i).toNat)
  case atStart => exact ⟨0, Q, Nat.zero_le _, rfl, H0.out, Since.refl _ _⟩
  case round =>
    clear e1 e2
    obtain ⟨k, Q', hk, rfl, hJk, hsi⟩ := hrel
    by_cases hlt : k < 16
    · obtain ⟨e1, hrd⟩ := HX.out wr ⟨Q', hsi⟩
      have c1 := hrd.cell k hlt
      have hki : (k : Int) < 16 := by omega
      have hnx := HNx.out k
      by_cases ha : 0 < M.at k
      · have hg := HEv.out k hlt ha
        have HYk := Lib.hid (HY.out _ _ wr Q' hg hJk hsi)
        have HLt := Lib.hid (show (membN M k).length < (evM M).length from (List.getElem?_eq_some_iff.1 hg).1)
        have hai : (0 : Int) < ((M.at k : Nat) : Int) := by omega
        rw [if_pos ha] at hnx
        have HNk := Lib.hid (show (membN M (k + 1)).length = (membN M k).length + 1 from by rw [hnx, List.length_append]; rfl)
        have HSi := Lib.hid hsi
        clear hJk hsi hnx hg hrd
        dsimp only [encM] at HYk
        generalize M.at k = a at *
        obtain ⟨fn6, tm6, as6, bd6, hyy, hRo⟩ := HYk.out
        have HRo := Lib.hid hRo
        clear hRo
        gi_wp2
        refine (RoundIn.any _ HRo.out).mono ?_
        rintro e W3 (⟨rfl, Q3, hJ3, hT3, hG3⟩ | ⟨rfl, hg3⟩)
        · gi_wp2
          go_roundw
          case rel => exact ⟨k + 1, Q3, by omega, by go_num, by rw [HNk.out]; exact hJ3, HSi.out.trans ⟨hT3, hG3⟩⟩
          case measure => simp [intOf]; omega
        · have HEnd := Lib.hid (show ∃ k, k < (evM M).length ∧ Goes (Jx k) Q W W3 from by
            refine ⟨_, HLt.out, ?_⟩
            obtain ⟨Q3, h1, h2⟩ := hg3.since
            exact (HSi.out.trans h2).goes h1)
          clear hg3
          gi_wp2
          refine bodyPost_ret (results_none rfl _ _ _) rfl ?_
          exact ⟨⟨_, rfl⟩, .inr HEnd.out⟩
      · have hai : ¬ (0 : Int) < ((M.at k : Nat) : Int) := by omega
        rw [if_neg ha] at hnx
        have HNk := Lib.hid (show (membN M (k + 1)).length = (membN M k).length from by rw [hnx])
        have HJ := Lib.hid hJk
        have HSi := Lib.hid hsi
        clear hJk hsi hnx hrd
        generalize M.at k = a at *
        gi_wp2
        refine ⟨fun f h => (by cases h), ?_⟩
        gi_wp2
        go_roundw
        case rel => exact ⟨k + 1, Q', by omega, by go_num, by rw [HNk.out]; exact HJ.out, HSi.out⟩
        case measure => simp [intOf]; omega
    · obtain rfl : k = 16 := by omega
      have HEnd := Lib.hid (show Goes (J (evM M).length) Q W wr from by rw [HL.out]; exact hsi.goes hJk)
      clear hJk hsi
      gi_wp2
      go_end0
      exact ⟨⟨_, rfl⟩, .inl HEnd.out⟩
end Go.Proofs.Ytdlkdagmaeapdaa

/- What below and Rank of the program's list answer. No condition but that it is one. -/
namespace Go.Proofs.Ytdlkdagmaeapdaa
open Go.RowKit Go.Shelf
attribute [local go_sem] Oper.semAt_some
set_option linter.unusedVariables false
set_option linter.unusedSimpArgs false
set_option maxRecDepth 100000

theorem membN_lt {M : MbM} {n i : Nat} (h : i ∈ membN M n) : i < n := by
  unfold membN at h
  exact List.mem_range.1 (List.mem_filter.1 h).1
theorem below_is {M : MbM} {x k : Nat} (hx : x ≤ 16) (h1 : ∀ (j : Nat) (z : Nat × Nat), j < k → (evM M)[j]? = some z → z.1 < x) (h2 : k = (evM M).length ∨ ∃ z, (evM M)[k]? = some z ∧ x ≤ z.1) : M.below x = k := by
  have hm : M.memb = membN M x ++ (List.range' x (16 - x)).filter (fun i => decide (0 < M.at i)) := by
    have := memb_split M x (16 - x)
    rw [show x + (16 - x) = 16 by omega] at this
    exact this
  have hr : ∀ (j i : Nat), (membN M x).length ≤ j → M.memb[j]? = some i → x ≤ i := by
    intro j i hj hi
    rw [hm, List.getElem?_append_right hj] at hi
    have := List.mem_of_getElem? hi
    have := (List.mem_range'_1.1 (List.mem_filter.1 this).1).1
    exact this
  have hl : ∀ (j i : Nat), j < (membN M x).length → M.memb[j]? = some i → i < x := by
    intro j i hj hi
    rw [hm, List.getElem?_append_left hj] at hi
    exact membN_lt (List.mem_of_getElem? hi)
  have hle : (membN M x).length ≤ (evM M).length := by rw [evM_length, hm, List.length_append]; omega
  rw [below_membN]
  have hkl : k ≤ (evM M).length := by
    rcases h2 with h2 | ⟨z, hz, _⟩
    · omega
    · exact Nat.le_of_lt (List.getElem?_eq_some_iff.1 hz).1
  apply Nat.le_antisymm
  · rcases h2 with h2 | ⟨z, hz, hzx⟩
    · omega
    · apply Nat.le_of_not_lt
      intro hlt
      have := hl k z.1 hlt (evM_some hz).1
      omega
  · apply Nat.le_of_not_lt
    intro hlt
    obtain ⟨z, hz⟩ := get_some (l := evM M) (i := (membN M x).length) (by omega)
    have a1 := h1 _ z hlt hz
    have a2 := hr _ z.1 (Nat.le_refl _) (evM_some hz).1
    omega

/-- What holds between two rounds; and where one breaks. -/
def blI (B : Nat) (M : MbM) (x k : Nat) : Thing where
  at_ w W := (blkT B [.int .i64 ((k : Nat) : Int)] 3).at_ w W ∧ ∀ (j : Nat) (z : Nat × Nat), j < k → (evM M)[j]? = some z → z.1 < x
  lt := fun h => (blkT B [.int .i64 ((k : Nat) : Int)] 3).lt h.1
  keep := fun h ht hs => ⟨(blkT B [.int .i64 ((k : Nat) : Int)] 3).keep h.1 ht hs, h.2⟩
def blX (B : Nat) (M : MbM) (x k : Nat) : Thing where
  at_ w W := (blI B M x k).at_ w W ∧ ∃ z, (evM M)[k]? = some z ∧ x ≤ z.1
  lt := fun h => (blI B M x k).lt h.1
  keep := fun h ht hs => ⟨(blI B M x k).keep h.1 ht hs, h.2⟩

set_option maxHeartbeats 2000000 in
theorem mbbelow_any {q K : Nat} {M : MbM} {w : World} {W : Nat → Prop} (h : (mbT q M).at_ w W) (hM : M.Ok K) (x n : Nat) (hx : x ≤ 16) (hn : n = M.below x) :
    Calls Try.prog 106 #[.pointer (some ⟨q, 0, none⟩), .int .i64 (x : Int)] w fun e w' => e = .returned (.int .i64 (n : Int)) ∧ Still w w' := by
  obtain ⟨g, h⟩ := h
  obtain ⟨W1, hW1⟩ : ∃ W1, W1 = (w.alloc (.cells #[.int .i64 (x : Int)] 3)).alloc (.cells #[.int .i64 0] 3) := ⟨_, rfl⟩
  have hs1 : Still w W1 := by rw [hW1]; exact ((Turned.refl _ _).alloc _).alloc _
  have hz1 : W1.heap.size = w.heap.size + 2 := by rw [hW1]; simp
  have hb0 : Blk W1 w.heap.size [.int .i64 (x : Int)] 3 := by rw [hW1]; exact (Blk.new w [.int .i64 (x : Int)] 3).alloc _
  have hb1 : Blk W1 (w.heap.size + 1) [.int .i64 0] 3 := by
    rw [hW1]
    have := Blk.new (w.alloc (.cells #[.int .i64 (x : Int)] 3)) [.int .i64 0] 3
    rwa [World.size_alloc] at this
  have HIt := Lib.hid (mbmembers_it (q := q) (g := g) hM W1.heap.size)
  have HLen := Lib.hid (show (evM M).length ≤ 16 from by rw [evM_length]; exact membN_len M 16)
  have HIs := Lib.hid (fun k (h1 : ∀ (j : Nat) (z : Nat × Nat), j < k → (evM M)[j]? = some z → z.1 < x) (h2 : k = (evM M).length ∨ ∃ z, (evM M)[k]? = some z ∧ x ≤ z.1) => show k = n from by rw [hn]; exact (below_is hx h1 h2).symm)
  have hx1 : (mbX q g M).at_ W1 W := (mbX q g M).keep h hs1 (fun _ _ h => h)
  have hSl := (mbX q g M).lt h
  have HE := Lib.hid (mbmembers_any (some ⟨q, 0, none⟩) W1)
  have HR := Lib.hid (evMb_new hx1)
  have ht2 : Still W1 (W1.alloc (.cells #[.pointer (some ⟨q, 0, none⟩)] 129)) := (Turned.refl _ _).alloc _
  have HB := Lib.hid (show (blI (w.heap.size + 1) M x 0).at_ (W1.alloc (.cells #[.pointer (some ⟨q, 0, none⟩)] 129)) (fun k => k = w.heap.size + 1) from
    ⟨⟨hb1.turned ht2 (fun h => h), fun _ => Iff.rfl⟩, fun j _ hj => by omega⟩)
  have HD := Lib.hid (show ∀ k, k = w.heap.size + 1 → ¬ (k = W1.heap.size ∨ W k) from by
    rintro k rfl (hk | hk)
    · omega
    · have := hSl _ hk; omega)
  have HA := Lib.hid (fun V Q' (hS : Since (fun k => k = w.heap.size + 1) (W1.alloc (.cells #[.pointer (some ⟨q, 0, none⟩)] 129)) Q' V) => show V.cell? ⟨w.heap.size, 0, none⟩ = some (.int .i64 (x : Int)) from
    ((hb0.turned ht2 (fun h => h)).turned hS.turn (by omega)).cell rfl)
  have HSt := Lib.hid (hs1.trans ht2)
  have HZ := Lib.hid (show w.heap.size + 2 ≤ (W1.alloc (.cells #[.pointer (some ⟨q, 0, none⟩)] 129)).heap.size from by rw [World.size_alloc]; omega)
  have hxi : (x : Int) ≤ 16 := by omega
  clear h hM hSl ht2 hb0 hb1 hx1 hn hx
  refine (callsIn_wide (n := 9)).1 (callsIn_of_wp_marks Try.func106 rfl trivial ?_ rfl)
  simp only [Try.ntmps106, List.size_toArray, List.length_cons, List.length_nil, Nat.reduceAdd, Nat.reduceSub, Array.replicate_succ, Array.replicate_zero, List.push_toArray, List.append_toArray, List.nil_append, List.cons_append]
  have hf1 : Fence.wide.fn 107 := trivial
  gi_wp2_with (gi_at_call 107; rw [← hW1]; ((with_reducible refine (callsIn_wide.2 HE.out).mono ?_)); rintro e w2 ⟨rfl, rfl⟩)
  rw [← hW1, show w.heap.size + 1 + 1 = W1.heap.size by omega]
  clear hW1 hz1
  have HFin := Lib.hid (fun (D k : Nat) (V : World) (Q' : Nat → Prop) (hD : w.heap.size + 2 ≤ D) (hK : V.heap[D]? = some (.deferred (some []))) (hQD : ¬ Q' D) (hI : (blI (w.heap.size + 1) M x k).at_ V Q') (hsk : Since (fun k => k = w.heap.size + 1) (W1.alloc (.cells #[.pointer (some ⟨q, 0, none⟩)] 129)) Q' V)
      (h2 : k = (evM M).length ∨ ∃ z, (evM M)[k]? = some z ∧ x ≤ z.1) => show V.cell? ⟨w.heap.size + 1, 0, none⟩ = some (.int .i64 (n : Int)) ∧ Hid (Still w (V.putObj D (.deferred none))) from by
    obtain ⟨⟨hB, hQ⟩, hn⟩ := hI
    have hkn := HIs.out k hn h2
    rw [hkn] at hB
    have hp := putObj_since (.deferred none) (Array.getElem?_eq_some_iff.1 hK).1
    refine ⟨hB.cell rfl, Lib.hid ?_⟩
    have hT0 : Turned (fun k => w.heap.size ≤ k) w V := (HSt.out.mono (fun _ _ h => h.elim)).trans (hsk.turn.mono (fun k _ h => by omega))
    exact (hT0.trans (hp.mono (fun k _ e => by omega))).mono (fun k hk hh => by omega))
  refine loopX_outer (i0 := 0) rfl (enters_of Try.func111 (by kernel_rfl) rfl) HIt.out (by exact fun _ => rfl) (blI (w.heap.size + 1) M x) (blX (w.heap.size + 1) M x) HR.out HB.out HD.out ?_ ?_ ?_
  · rintro ⟨y, z⟩
    apply Exists.intro
    apply And.intro
    · intro l1 V K hK
      dsimp only [encM]
      gi_wp2
      exact hK
    · intro l1 k V Q' hr hl1 hx hI hQl hsk
      have cA := HA.out V Q' hsk
      have HI := Lib.hid hI
      obtain ⟨⟨hB, hQ⟩, hn⟩ := hI
      have cB := hB.cell (o := 0) rfl
      have cF := hB.free 0
      have hk16 : (k : Int) ≤ 16 := by have := HLen.out; have := (List.getElem?_eq_some_iff.1 hx).1; omega
      by_cases hya : x ≤ y
      · have HG := Lib.hid (show Goes (blX (w.heap.size + 1) M x k) Q' V V from ⟨Q', ⟨HI.out, (y, z), hx, hya⟩, Turned.refl _ _, fun _ h => .inl h⟩)
        have hyi : (x : Int) ≤ (y : Int) := by omega
        clear hr hl1 hx hQl hsk hB hQ hn HI hya
        gi_wp2
        exact ⟨rfl, HG.out⟩
      · have HG := Lib.hid (show Goes (blI (w.heap.size + 1) M x (k + 1)) Q' V (V.setCell ⟨w.heap.size + 1, 0, none⟩ (.int .i64 ((k : Int) + 1))) from
          ⟨Q', ⟨⟨by have := hB.set 0 (.int .i64 ((k : Int) + 1)); exact this, hQ⟩, fun j z' hj hz' => by
            rcases Nat.lt_succ_iff_lt_or_eq.1 hj with hj | rfl
            · exact hn j z' hj hz'
            · rw [hx] at hz'
              obtain rfl := Option.some.inj hz'
              exact Nat.lt_of_not_le hya⟩, (Turned.refl _ V).setCell (p := ⟨w.heap.size + 1, 0, none⟩) (.inl ((hQ _).2 rfl)) _, fun _ h => .inl h⟩)
        have hyi : ¬ (x : Int) ≤ (y : Int) := by omega
        clear hr hl1 hx hQl hsk hB hQ hn HI hya
        gi_wp2
        exact HG.out
  · intro D V Q' hD hK hQD hI hsk
    obtain ⟨cB, HS⟩ := HFin.out D _ V Q' (by have := HZ.out; omega) hK hQD hI hsk (.inl rfl)
    clear hQD hI hsk hD
    gi_wp2
    refine ⟨by simp, .inl ⟨_, _, rfl, run_takeDeferred hK, ?_⟩⟩
    refine ⟨_, results_tmp rfl _ _ _, ?_⟩
    exact ⟨rfl, HS.out⟩
  · intro D k V Q' hD hK hQD hk hI hsk
    obtain ⟨cB, HS⟩ := HFin.out D _ V Q' (by have := HZ.out; omega) hK hQD hI.1 hsk (.inr hI.2)
    clear hQD hI hsk hD
    gi_wp2
    refine ⟨by simp, .inl ⟨_, _, rfl, run_takeDeferred hK, ?_⟩⟩
    refine ⟨_, results_tmp rfl _ _ _, ?_⟩
    exact ⟨rfl, HS.out⟩

end Go.Proofs.Ytdlkdagmaeapdaa

/- What All of the program's list hands out. No condition but that it is one. -/
namespace Go.Proofs.Ytdlkdagmaeapdaa
open Go.RowKit Go.Shelf
attribute [local go_sem] Oper.semAt_some
set_option linter.unusedVariables false
set_option linter.unusedSimpArgs false
set_option maxRecDepth 100000

set_option maxHeartbeats 2000000 in
theorem mball_any {q K : Nat} {M : MbM} {w : World} {W : Nat → Prop} (h : (mbT q M).at_ w W) (hM : M.Ok K) (n : Nat) (hn : n = M.memb.length) :
    Calls Try.prog 98 #[.pointer (some ⟨q, 0, none⟩)] w (OutNums w (intsN M.memb) n) := by
  obtain ⟨g, h⟩ := h
  obtain ⟨i0, hi, hz0, hz1, hz2⟩ := info_parts infoIntW
  have HIt := Lib.hid (mbmembers_it (q := q) (g := g) hM w.heap.size.succ).all
  have hn64 : n ≤ 16 := by rw [hn]; exact membN_len M 16
  obtain ⟨R, hR⟩ : ∃ R, R = intsN M.memb := ⟨_, rfl⟩
  have hRn : R.length = n := by rw [hR, hn, intsN_len]
  have HEl := Lib.hid (fun (k : Nat) (z : Nat × Nat) (hz : (evM M)[k]? = some z) => show R[k]? = some ((z.1 : Nat) : Int) from by
    rw [hR]; unfold intsN; rw [List.getElem?_map, (evM_some hz).1]; rfl)
  obtain ⟨W1, hW1⟩ : ∃ W1, W1 = w.alloc (.cells #[.slice none 0 0] 44) := ⟨_, rfl⟩
  have hs1 : Still w W1 := by rw [hW1]; exact (Turned.refl _ _).alloc _
  have hb1 : Blk W1 w.heap.size [.slice none 0 0] 44 := by rw [hW1]; exact Blk.new w [.slice none 0 0] 44
  have hz1' : W1.heap.size = w.heap.size + 1 := by rw [hW1]; simp
  have hx1 : (mbX q g M).at_ W1 W := (mbX q g M).keep h hs1 (fun _ _ h => h)
  have hSl := (mbX q g M).lt h
  have HE := Lib.hid (mbmembers_any (some ⟨q, 0, none⟩) W1)
  have HR := Lib.hid (evMb_new hx1)
  have ht2 : Still W1 (W1.alloc (.cells #[.pointer (some ⟨q, 0, none⟩)] 129)) := (Turned.refl _ _).alloc _
  have HB := Lib.hid (show (handT w.heap.size w.heap.size (R.take 0)).at_ (W1.alloc (.cells #[.pointer (some ⟨q, 0, none⟩)] 129)) (fun k => k = w.heap.size ∨ (Value.slice none 0 0).ownBlock = some k) from
    ⟨none, 0, hb1.turned ht2 (fun h => h), World.ownsRow_nil _ _ _ _, by simp [Value.ownBlock], fun _ => Iff.rfl⟩)
  have hD' : ∀ k, k = w.heap.size ∨ (Value.slice none 0 0).ownBlock = some k → k = w.heap.size := fun k hk => hk.elim id (fun hk => by simp [Value.ownBlock] at hk)
  have HD := Lib.hid (show ∀ k, (k = w.heap.size ∨ (Value.slice none 0 0).ownBlock = some k) → ¬ (k = W1.heap.size ∨ W k) from by
    intro k hk0
    obtain rfl := hD' k hk0
    rintro (hk | hk)
    · omega
    · have := hSl _ hk; omega)
  have HSt := Lib.hid (hs1.trans ht2)
  have HD2 := Lib.hid hD'
  have HAll := Lib.hid (show R.take (evM M).length = R from by rw [evM_length, ← hn, ← hRn, List.take_length])
  have HZ1 := Lib.hid hz1'
  have HRn := Lib.hid hRn
  have HLk := Lib.hid (fun k => show (R.take k).length ≤ 16 from by rw [List.length_take]; omega)
  rw [show w.heap.size.succ = W1.heap.size from hz1'.symm] at HIt
  rw [← hR]
  clear h hM hSl ht2 hb1 hz1' hD' hx1 hR hRn hn
  refine (callsIn_wide (n := 9)).1 (callsIn_of_wp_marks Try.func98 rfl trivial ?_ rfl)
  simp only [Try.ntmps98, List.size_toArray, List.length_cons, List.length_nil, Nat.reduceAdd, Nat.reduceSub, Array.replicate_succ, Array.replicate_zero, List.push_toArray, List.append_toArray, List.nil_append, List.cons_append]
  have hf1 : Fence.wide.fn 107 := trivial
  gi_wp2_with (gi_at_call 107; rw [← hW1]; ((with_reducible refine (callsIn_wide.2 HE.out).mono ?_)); rintro e w2 ⟨rfl, rfl⟩)
  rw [← hW1, show w.heap.size + 1 = W1.heap.size from HZ1.out.symm]
  clear hW1
  refine loopT_outerE rfl (enters_of Try.func111 (by kernel_rfl) rfl) HIt.out (by exact fun _ => rfl) (fun k => handT w.heap.size w.heap.size (R.take k)) HR.out HB.out HD.out ?_ ?_
  · rintro ⟨y, z⟩
    apply Exists.intro
    apply And.intro
    · intro l1 V K hK
      dsimp only [encM]
      gi_wp2
      exact hK
    · intro l1 k V Q' hr hl1 hx hI hQl hsk
      have hyx := HEl.out _ _ hx
      obtain ⟨u, hu⟩ : ∃ u : Int, u = ((y : Nat) : Int) := ⟨_, rfl⟩
      dsimp only at hyx
      rw [← hu] at hyx
      rw [← hu]
      have HSm := Lib.hid (take_step hyx)
      have hln := HLk.out k
      obtain ⟨a, c, hB, hrow, hne, hQ⟩ := hI
      have cc := hB.cell (o := 0) rfl
      have HF := Lib.hid (fun V' (hg : Goes (handT w.heap.size w.heap.size (R.take k ++ [u])) Q' V V') => show Goes (handT w.heap.size w.heap.size (R.take (k + 1))) Q' V V' from by
        rw [HSm.out]; exact hg)
      have HAp := Lib.hid (fun w6 a' c' o hown hg hat => hand_app (b0 := w.heap.size) (w6 := w6) (a' := a') (c' := c') (o := o) (x := u) rfl hB hne hQ hown hg hat)
      have HRow := Lib.hid hrow
      have hsz : w.heap.size ≤ V.heap.size + 1 := by
        have := hsk.turn.size
        have := HSt.out.size
        omega
      obtain ⟨m, hm⟩ : ∃ m, m = (R.take k).length := ⟨_, rfl⟩
      rw [← hm] at HAp HRow cc hln
      clear hr hl1 hx hQl hsk hB hQ hyx hrow hne hm hu
      gi_wp2_with (gi_at_builtin; refine wpListIn_append_own_at _ rfl _ _ 44 rfl w.heap.size 3 i0 (.int .i64 0) 1 8 Try.underlying44 hi hz0 hz1 hz2 rfl (by decide) _ _ _ rfl (HRow.out.alloc _) ⟨V.heap.size, 0, none⟩ 1 1 [.int .i64 u] rfl rfl (cell_one_new _ _ _) (by simp [Value.oneCell']) (by unfold maxLen; omega) (by omega) (by simp; omega) ?_; intro v' w6 hown6 hg6 _ hat6; obtain ⟨a6, c6, rfl⟩ := ow_slice hown6; obtain ⟨hc6, hf6, HG6⟩ := HAp.out w6 a6 c6 _ hown6 hg6 hat6; clear hown6 hg6 hat6)
      exact HF.out _ HG6.out
  · intro D V Q' hD hK hQD hI hsk
    rw [HAll.out] at hI
    obtain ⟨a, c, hB, hrow, hne, hQ⟩ := hI
    have cc := hB.cell (o := 0) rfl
    rw [HRn.out] at cc
    have hD1 : w.heap.size ≤ D := Nat.le_trans HSt.out.size hD
    have hT0 : Turned (fun k => w.heap.size ≤ k) w V := (HSt.out.mono (fun _ _ h => h.elim)).trans (hsk.turn.mono (fun k _ h => by have := HD2.out k h; omega))
    have hp := putObj_since (.deferred none) (Array.getElem?_eq_some_iff.1 hK).1
    have HP := Lib.hid (show OutNums w R n (.returned (.slice a n c)) (V.putObj D (.deferred none)) from by
      rw [HRn.out] at hrow hQ
      refine ⟨a, c, rfl, ow_turned hrow hp (fun b hb e => ?_), ?_⟩
      · obtain rfl := e
        exact hQD ((hQ _).2 (.inr hb))
      · exact (hT0.trans (hp.mono (fun k _ e => by rw [e]; exact hD1))).mono (fun k hk hh => by omega))
    clear hB hrow hne hQ hT0 hsk hp
    gi_wp2
    refine ⟨by simp, .inl ⟨_, _, rfl, run_takeDeferred hK, ?_⟩⟩
    refine ⟨_, results_tmp rfl _ _ _, ?_⟩
    exact HP.out
end Go.Proofs.Ytdlkdagmaeapdaa

/- What Eldest of the program's list answers. No condition but that it is one. -/
namespace Go.Proofs.Ytdlkdagmaeapdaa
open Go.RowKit Go.Shelf
attribute [local go_sem] Oper.semAt_some
set_option linter.unusedVariables false
set_option linter.unusedSimpArgs false
set_option maxRecDepth 100000

/-- The eldest of the first k members: none yet, or the one with the least since. -/
def ElAt (M : MbM) (k e l : Nat) : Prop := (l = 0 ∧ e = 0 ∧ k = 0) ∨ (0 < l ∧ (∃ j : Nat, (evM M)[j]? = some (e, l)) ∧ ∀ (j : Nat) (z : Nat × Nat), j < k → (evM M)[j]? = some z → l ≤ z.2)
theorem el_new {M : MbM} {k e l : Nat} {z : Nat × Nat} (h : ElAt M k e l) (hz : (evM M)[k]? = some z) (hl : l = 0 ∨ z.2 < l) : ElAt M (k + 1) z.1 z.2 := by
  obtain ⟨_, _, _, h0⟩ := evM_some hz
  refine .inr ⟨h0, ⟨k, hz⟩, fun j y hj hy => ?_⟩
  rcases Nat.lt_succ_iff_lt_or_eq.1 hj with hj | rfl
  · rcases h with ⟨_, _, h⟩ | ⟨h1, _, h2⟩
    · omega
    · have := h2 j y hj hy; omega
  · rw [hz] at hy
    obtain rfl := Option.some.inj hy
    exact Nat.le_refl _
theorem el_stay {M : MbM} {k e l : Nat} {z : Nat × Nat} (h : ElAt M k e l) (hz : (evM M)[k]? = some z) (h0 : 0 < l) (hl : ¬ z.2 < l) : ElAt M (k + 1) e l := by
  rcases h with ⟨h, _⟩ | ⟨h1, h2, h3⟩
  · omega
  · refine .inr ⟨h1, h2, fun j y hj hy => ?_⟩
    rcases Nat.lt_succ_iff_lt_or_eq.1 hj with hj | rfl
    · exact h3 j y hj hy
    · rw [hz] at hy
      obtain rfl := Option.some.inj hy
      omega
theorem el_end {M : MbM} {K e l : Nat} (hM : M.Ok K) (h : ElAt M (evM M).length e l) : (l = 0 ∧ M.eldV = 0 ∧ M.eldE = 150) ∨ (0 < l ∧ M.eldV = e ∧ M.eldE = 0) := by
  rcases h with ⟨h1, _, h2⟩ | ⟨h1, ⟨j, hj⟩, h2⟩
  · refine .inl ⟨h1, eld_no ?_⟩
    rw [evM_length] at h2
    exact List.eq_nil_of_length_eq_zero h2
  · obtain ⟨_, e1, e2, e3⟩ := evM_some hj
    dsimp only at e1 e2 e3
    refine .inr ⟨h1, eld_is hM (by omega) (fun i hi => ?_)⟩
    have := evM_get M (at_lt hM hi) hi
    have := h2 _ _ (List.getElem?_eq_some_iff.1 this).1 this
    dsimp only at this
    omega

def elI (B1 B2 : Nat) (M : MbM) (k : Nat) : Thing where
  at_ w W := ∃ e l : Nat, ((blkT B1 [.int .i64 ((e : Nat) : Int)] 3).sep (blkT B2 [.int .i64 ((l : Nat) : Int)] 3)).at_ w W ∧ ElAt M k e l
  lt := by rintro w W ⟨e, l, h, _⟩; exact Thing.lt _ h
  keep := by rintro w w' W S ⟨e, l, h, h1⟩ ht hs; exact ⟨e, l, Thing.keep _ h ht hs, h1⟩

end Go.Proofs.Ytdlkdagmaeapdaa

/- What Join and Leave of the program's list do; it keeps its words. No condition but that it is one. -/
namespace Go.Proofs.Ytdlkdagmaeapdaa
open Go.RowKit
set_option linter.unusedVariables false
set_option linter.unusedSimpArgs false
set_option maxRecDepth 100000

section
variable {q g K : Nat} {M : MbM} {w w' V : World} {W : Nat → Prop}
/-- Both stores; between them the world may have drawn. -/
theorem mb_put {f : World → World} (hf : ∀ {S : Nat → Prop} {a x : World}, Turned S a x → Turned S a (f x)) (hfb : ∀ {x : World} {b : Nat} {xs : List Value} {e : TypeId}, Blk x b xs e → Blk (f x) b xs e)
    (h : (mbX q g M).at_ w W) (hs : Still w V) (hM : M.Ok K) (k v : Nat) (hk : k < 16) :
    (V.cell? ⟨q, 1, none⟩ = some (.int .i64 ((M.T : Nat) : Int)) ∧ V.frozen? ⟨q, 1, none⟩ = false ∧ (V.setCell ⟨q, 1, none⟩ (.int .i64 (((M.T : Nat) : Int) + 1))).cell? ⟨q, 1, none⟩ = some (.int .i64 (((M.T : Nat) : Int) + 1)) ∧
      (V.setCell ⟨q, 1, none⟩ (.int .i64 (((M.T : Nat) : Int) + 1))).cell? ⟨q, 0, none⟩ = some (.slice (some ⟨g, 0, none⟩) 16 16) ∧
      (∃ u, (V.setCell ⟨q, 1, none⟩ (.int .i64 (((M.T : Nat) : Int) + 1))).cell? ⟨g, k, none⟩ = some u) ∧ (V.setCell ⟨q, 1, none⟩ (.int .i64 (((M.T : Nat) : Int) + 1))).frozen? ⟨g, k, none⟩ = false) ∧
    ((f (V.setCell ⟨q, 1, none⟩ (.int .i64 (((M.T : Nat) : Int) + 1)))).setCell ⟨g, k, none⟩ (.int .i64 ((v : Nat) : Int))).cell? ⟨q, 1, none⟩ = some (.int .i64 (((M.T : Nat) : Int) + 1)) ∧
    ((f (V.setCell ⟨q, 1, none⟩ (.int .i64 (((M.T : Nat) : Int) + 1)))).setCell ⟨g, k, none⟩ (.int .i64 ((v : Nat) : Int))).cell? ⟨q, 0, none⟩ = some (.slice (some ⟨g, 0, none⟩) 16 16) ∧
    Hid (Goes (mbT q (M.put (k : Int) v)) W w ((f (V.setCell ⟨q, 1, none⟩ (.int .i64 (((M.T : Nat) : Int) + 1)))).setCell ⟨g, k, none⟩ (.int .i64 ((v : Nat) : Int)))) := by
  have h0 := (mbX q g M).keep h hs (fun _ _ h => h)
  obtain ⟨W1, W2, ⟨hb, hW1⟩, ⟨hc, hW2⟩, hd, hW⟩ := h0
  have hqg : g ≠ q := fun e => hd q ((hW1 q).2 rfl) ((hW2 q).2 e.symm)
  have h1 := hb.set 1 (.int .i64 (((M.T : Nat) : Int) + 1))
  have h1d := hfb h1
  have h2 := h1d.other (p := ⟨g, k, none⟩) hqg (.int .i64 ((v : Nat) : Int))
  have c1 := hc.other (p := ⟨q, 1, none⟩) (fun e => hqg e.symm) (.int .i64 (((M.T : Nat) : Int) + 1))
  have c1d := hfb c1
  have c2 := c1d.set k (.int .i64 ((v : Nat) : Int))
  rw [sVi_put] at c2
  refine ⟨⟨hb.cell rfl, hb.free _, h1.cell rfl, h1.cell rfl, ⟨_, c1.cell (sVi_get hM hk)⟩, c1.free _⟩, h2.cell rfl, h2.cell rfl, Lib.hid ?_⟩
  refine ⟨W, ⟨g, W1, W2, ⟨h2, hW1⟩, ⟨c2, hW2⟩, hd, hW⟩, ?_, fun _ h => .inl h⟩
  have t1 : Turned W w V := hs.mono (fun _ _ h => h.elim)
  exact ((hf (t1.setCell (p := ⟨q, 1, none⟩) (.inl ((hW q).2 (.inl ((hW1 q).2 rfl)))) _)).setCell (p := ⟨g, k, none⟩) (.inl ((hW g).2 (.inr ((hW2 g).2 rfl)))) _)

set_option maxHeartbeats 1000000 in
theorem mbjoin_any (h : (mbT q M).at_ w W) (hM : M.Ok K) (hK : K < 1000000) (id : Int) :
    Calls Try.prog 97 #[.pointer (some ⟨q, 0, none⟩), .int .i64 id] w fun e w' => e = .returned (.tuple #[.int .i64 ((M.joinV id : Nat) : Int), .int .i64 (M.joinE id)]) ∧ Goes (mbT q (M.join id)) W w w' := by
  have HS := Lib.hid (fun V (hs : Still w V) => Goes.still h hs)
  have hh := h
  obtain ⟨g, hg⟩ := hh
  have hrd := mbX_rd hM hg
  have HMd := Lib.hid (mbmade_any hrd.c0)
  have HHs := Lib.hid (mbhas_any hrd id)
  unfold MbM.joinV MbM.join
  by_cases hs : 0 ≤ id ∧ id < 16
  · obtain ⟨k, rfl⟩ : ∃ k : Nat, id = k := ⟨id.toNat, by omega⟩
    have hk : k < 16 := by omega
    have HSe := Lib.hid (mbses_yes k w hk)
    rw [joinE_nat hk]
    rw [findE_nat hk] at HHs
    have hki : (k : Int) < 16 := by omega
    obtain ⟨n, hn⟩ : ∃ n, n = M.memb.length := ⟨_, rfl⟩
    have HA := Lib.hid (mbbelow_any h hM 16 n (Nat.le_refl _) hn)
    rw [show ((16 : Nat) : Int) = 16 from rfl] at HA
    have hn8 : n ≤ 8 := by have := hM.full; omega
    by_cases ha : M.at k = 0
    · rw [if_pos ha]
      rw [if_pos ha, show decide ((150 : Int) = 0) = false from rfl] at HHs
      by_cases hf : 8 ≤ M.memb.length
      · rw [if_pos hf, if_neg (by omega), if_neg (by omega)]
        have hni : (8 : Int) ≤ (n : Int) := by omega
        clear hrd h hs hM hn ha hf hg
        go_enter Try.func97, Try.ntmps97
        go_wp2_with (first
          | (go_at_call 103; ((with_reducible refine HMd.out.mono ?_)); rintro e w1 ⟨rfl, rfl⟩)
          | (go_at_call 104; ((with_reducible refine HSe.out.mono ?_)); rintro e w1 ⟨rfl, rfl⟩)
          | (go_at_call 105; ((with_reducible refine HHs.out.mono ?_)); rintro e w1 ⟨rfl, rfl⟩)
          | (go_at_call 106; ((with_reducible refine HA.out.mono ?_)); rintro e w2 ⟨rfl, hs2⟩; have S2 := Lib.hid hs2; clear hs2))
        go_ret2
        exact ⟨rfl, HS.out _ S2.out⟩
      · rw [if_neg hf, if_pos rfl, if_pos rfl]
        have hni : ¬ (8 : Int) ≤ (n : Int) := by omega
        have hT : M.T < 1000000 := by have := hM.low; omega
        have HP := Lib.hid (fun V (hs : Still w V) => mb_put (f := World.drew) (fun h => h.drew) (fun h => h.drew) hg hs hM k (M.T + 1) hk)
        generalize M.T = T at *
        clear hrd h hs hM hn ha hf hK hg
        go_enter Try.func97, Try.ntmps97
        go_wp2_with (first
          | (go_at_call 103; ((with_reducible refine HMd.out.mono ?_)); rintro e w1 ⟨rfl, rfl⟩)
          | (go_at_call 104; ((with_reducible refine HSe.out.mono ?_)); rintro e w1 ⟨rfl, rfl⟩)
          | (go_at_call 105; ((with_reducible refine HHs.out.mono ?_)); rintro e w1 ⟨rfl, rfl⟩)
          | (go_at_call 106; ((with_reducible refine HA.out.mono ?_)); rintro e w2 ⟨rfl, hs2⟩; have S2 := Lib.hid hs2; obtain ⟨⟨p1, p2, p3, p3b, ⟨p40, p4⟩, p5⟩, p6, p6b, p7⟩ := HP.out w2 hs2; clear hs2))
        go_region_held3 (fun V => V.cell? ⟨q, 1, none⟩ = some (.int .i64 (((T : Nat) : Int) + 1)) ∧ V.cell? ⟨q, 0, none⟩ = some (.slice (some ⟨g, 0, none⟩) 16 16)) (first | assumption | exact ⟨by assumption, by assumption⟩ | go_keep) (fail)
        go_wp2_with fail
        go_ret2
        exact ⟨rfl, p7.out⟩
    · rw [if_neg ha, if_neg (by omega), if_neg (by omega)]
      rw [if_neg ha, show decide ((0 : Int) = 0) = true from rfl] at HHs
      clear hrd h hs hM hn hg
      go_enter Try.func97, Try.ntmps97
      go_wp2_with (first
        | (go_at_call 103; ((with_reducible refine HMd.out.mono ?_)); rintro e w1 ⟨rfl, rfl⟩)
        | (go_at_call 104; ((with_reducible refine HSe.out.mono ?_)); rintro e w1 ⟨rfl, rfl⟩)
        | (go_at_call 105; ((with_reducible refine HHs.out.mono ?_)); rintro e w1 ⟨rfl, rfl⟩))
      go_ret2
      exact ⟨rfl, HS.out _ (Turned.refl _ _)⟩
  · have HSe := Lib.hid (mbses_no id w hs)
    rw [joinE_no hs, if_neg (by omega), if_neg (by omega)]
    clear h hrd hM hs hg
    go_enter Try.func97, Try.ntmps97
    go_wp2_with (first
      | (go_at_call 103; ((with_reducible refine HMd.out.mono ?_)); rintro e w1 ⟨rfl, rfl⟩)
      | (go_at_call 104; ((with_reducible refine HSe.out.mono ?_)); rintro e w1 ⟨rfl, rfl⟩))
    go_ret2
    exact ⟨rfl, HS.out _ (Turned.refl _ _)⟩
theorem mb_still {e : Ending} {r : Value} (h : e = .returned r ∧ w = w') : e = .returned r ∧ Still w w' := ⟨h.1, by rw [h.2]; exact Turned.refl _ _⟩
end
theorem member_api : MemberApi mbT where
  make_ := mbmake_any
  join := fun h hM hK x _ _ => mbjoin_any h hM hK x
  has := fun h hM hK x _ _ => by obtain ⟨g, hr⟩ := mbT_rd hM h; exact (mbhas_any hr x).mono fun e w' h => mb_still h
  all_ := fun h hM hK n hn => mball_any h hM n hn
end Go.Proofs.Ytdlkdagmaeapdaa
