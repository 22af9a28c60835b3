/- Plain mathematics of lists of members. No condition. -/
import Derived.Test.YtepdnclojjeepaaMbModel
namespace Go.Proofs.Ytepdnclojjeepaa
open Go.RowKit
set_option linter.unusedVariables false

theorem cnt_eq {a : Nat} {p q : Nat → Bool} (hp : p a = true) (hq : q a = false) : ∀ {l : List Nat}, l.Nodup → a ∈ l → (∀ i, i ≠ a → p i = q i) → (l.filter p).length = (l.filter q).length + 1
  | [], _, h, _ => by cases h
  | x :: l, hn, hm, h => by
    obtain ⟨hx, hl⟩ := List.nodup_cons.1 hn
    by_cases hxa : x = a
    · have e : l.filter p = l.filter q := List.filter_congr (fun i hi => h i (fun e => hx (by rw [hxa, ← e]; exact hi)))
      rw [List.filter_cons, List.filter_cons, e, hxa, if_pos hp, if_neg (by rw [hq]; simp)]
      simp
    · have hm' : a ∈ l := by
        rcases List.mem_cons.1 hm with e | e
        · exact absurd e.symm hxa
        · exact e
      have ih := cnt_eq hp hq hl hm' h
      rw [List.filter_cons, List.filter_cons, h x hxa]
      split
      · simp; omega
      · exact ih
theorem memb_join {M : MbM} {K : Nat} (h : M.Ok K) {id : Int} (he : M.joinE id = 0) : (M.join id).memb.length = M.memb.length + 1 ∧ (M.join id).T = M.T + 1 ∧ ∀ j, (M.join id).at j = if j = id.toNat then M.T + 1 else M.at j := by
  obtain ⟨h1, h2, h3⟩ := joinE_ok he
  have e : M.join id = M.put id (M.T + 1) := by unfold MbM.join; rw [if_pos he]
  rw [e]
  refine ⟨?_, rfl, fun j => at_put h h1 _ j⟩
  exact cnt_eq (a := id.toNat) (p := fun i => decide (0 < (M.put id (M.T + 1)).at i)) (q := fun i => decide (0 < M.at i)) (by rw [at_put h h1, if_pos rfl]; simp) (by simp [h2]) (List.nodup_range (n := 16)) (List.mem_range.2 (by omega)) (fun i hi => by rw [at_put h h1, if_neg hi])
theorem memb_leave {M : MbM} {K : Nat} (h : M.Ok K) {id : Int} (he : M.findE id = 0) : (M.leave id).memb.length + 1 = M.memb.length ∧ (M.leave id).T = M.T + 1 ∧ ∀ j, (M.leave id).at j = if j = id.toNat then 0 else M.at j := by
  obtain ⟨h1, h2⟩ := findE_ok he
  have e : M.leave id = M.put id 0 := by unfold MbM.leave; rw [if_pos he]
  rw [e]
  refine ⟨?_, rfl, fun j => at_put h h1 _ j⟩
  exact (cnt_eq (a := id.toNat) (p := fun i => decide (0 < M.at i)) (q := fun i => decide (0 < (M.put id 0).at i)) (by simpa using h2) (by rw [at_put h h1, if_pos rfl]; rfl) (List.nodup_range (n := 16)) (List.mem_range.2 (by omega)) (fun i hi => by rw [at_put h h1, if_neg hi])).symm
theorem joinE_0 {M : MbM} {k : Nat} (hk : k < 16) (h1 : M.at k = 0) (h2 : M.memb.length < 8) : M.joinE (k : Int) = 0 := by
  unfold MbM.joinE
  rw [if_pos (by omega), Int.toNat_natCast, if_pos h1, if_neg (by omega)]
theorem joinE_4 {M : MbM} {k : Nat} (hk : k < 16) (h1 : M.at k = 0) (h2 : 8 ≤ M.memb.length) : M.joinE (k : Int) = 4 := by
  unfold MbM.joinE
  rw [if_pos (by omega), Int.toNat_natCast, if_pos h1, if_pos h2]
theorem joinE_6 {M : MbM} {k : Nat} (hk : k < 16) (h1 : 0 < M.at k) : M.joinE (k : Int) = 6 := by
  unfold MbM.joinE
  rw [if_pos (by omega), Int.toNat_natCast, if_neg (by omega)]
theorem findE_0 {M : MbM} {k : Nat} (hk : k < 16) (h1 : 0 < M.at k) : M.findE (k : Int) = 0 := by
  unfold MbM.findE
  rw [if_pos (by omega), Int.toNat_natCast, if_neg (by omega)]
theorem findE_150 {M : MbM} {k : Nat} (hk : k < 16) (h1 : M.at k = 0) : M.findE (k : Int) = 150 := by
  unfold MbM.findE
  rw [if_pos (by omega), Int.toNat_natCast, if_pos h1]
theorem join_no {M : MbM} {id r : Int} (h : M.joinE id = r) (hr : r ≠ 0) : M.join id = M ∧ M.joinV id = 0 := by
  unfold MbM.join MbM.joinV
  rw [if_neg (by rw [h]; exact hr), if_neg (by rw [h]; exact hr)]
  exact ⟨rfl, rfl⟩
theorem leave_no {M : MbM} {id r : Int} (h : M.findE id = r) (hr : r ≠ 0) : M.leave id = M ∧ M.leaveV id = 0 := by
  unfold MbM.leave MbM.leaveV
  rw [if_neg (by rw [h]; exact hr), if_neg (by rw [h]; exact hr)]
  exact ⟨rfl, rfl⟩
/-- Lists of the same sinces have the same members. -/
theorem memb_congr {M M' : MbM} (h : ∀ i, i < 16 → (0 < M.at i ↔ 0 < M'.at i)) : M.memb = M'.memb := by
  unfold MbM.memb
  refine List.filter_congr (fun i hi => ?_)
  have := h i (List.mem_range.1 hi)
  rw [decide_eq_decide]; exact this

/-! ### A list that is full -/
structure FullM (f k : Nat) (M : MbM) : Prop where
  ok : M.Ok k
  T : M.T = k
  len : M.memb.length = k
  at_ : ∀ i, i < 16 → M.at i = if (i + 16 - f) % 16 < k then (i + 16 - f) % 16 + 1 else 0
theorem FullM.start {f : Nat} (hf : f < 16) : FullM f 0 MbM.new := ⟨MbM.new_ok, rfl, by decide, fun i hi => by
  rw [if_neg (by omega)]
  unfold MbM.at MbM.new
  dsimp only
  rw [List.getElem?_replicate]
  split <;> rfl⟩
theorem FullM.step {f k : Nat} {M : MbM} (h : FullM f k M) (hf : f < 16) (hk : k < 8) : M.joinE (((f + k) % 16 : Nat) : Int) = 0 ∧ M.joinV (((f + k) % 16 : Nat) : Int) = k + 1 ∧ FullM f (k + 1) (M.join (((f + k) % 16 : Nat) : Int)) := by
  have hlt : (f + k) % 16 < 16 := Nat.mod_lt _ (by omega)
  have h0 : M.at ((f + k) % 16) = 0 := by rw [h.at_ _ hlt, if_neg (by omega)]
  have he := joinE_0 hlt h0 (by rw [h.len]; exact hk)
  obtain ⟨a1, a2, a3⟩ := memb_join h.ok he
  refine ⟨he, by unfold MbM.joinV; rw [if_pos he, h.T], ⟨h.ok.join _, by rw [a2, h.T], by rw [a1, h.len], fun i hi => ?_⟩⟩
  rw [a3, Int.toNat_natCast, h.T]
  by_cases hi2 : i = (f + k) % 16
  · rw [if_pos hi2, if_pos (by omega)]; omega
  · rw [if_neg hi2, h.at_ i hi]
    by_cases h3 : (i + 16 - f) % 16 < k
    · rw [if_pos h3, if_pos (by omega)]
    · rw [if_neg h3, if_neg (by omega)]
theorem FullM.done {f g : Nat} {M : MbM} (h : FullM f 8 M) (hf : f < 16) (hg : g < 8) : M.joinE (((f + 8) % 16 : Nat) : Int) = 4 ∧ M.findE (((f + g) % 16 : Nat) : Int) = 0 ∧
    (M.leave (((f + g) % 16 : Nat) : Int)).joinE (((f + 8) % 16 : Nat) : Int) = 0 ∧ (M.leave (((f + g) % 16 : Nat) : Int)).joinV (((f + 8) % 16 : Nat) : Int) = 10 ∧ ((M.leave (((f + g) % 16 : Nat) : Int)).join (((f + 8) % 16 : Nat) : Int)).memb.length = 8 := by
  have hlt : (f + 8) % 16 < 16 := Nat.mod_lt _ (by omega)
  have hlg : (f + g) % 16 < 16 := Nat.mod_lt _ (by omega)
  have h0 : M.at ((f + 8) % 16) = 0 := by rw [h.at_ _ hlt, if_neg (by omega)]
  have h1 : 0 < M.at ((f + g) % 16) := by rw [h.at_ _ hlg, if_pos (by omega)]; omega
  have he := findE_0 hlg h1
  obtain ⟨a1, a2, a3⟩ := memb_leave h.ok he
  have h2 : (M.leave (((f + g) % 16 : Nat) : Int)).at ((f + 8) % 16) = 0 := by rw [a3, h0]; split <;> rfl
  have hj := joinE_0 hlt h2 (by rw [h.len] at a1; omega)
  obtain ⟨b1, b2, b3⟩ := memb_join (h.ok.leave _) hj
  exact ⟨joinE_4 hlt h0 (by rw [h.len]; omega), he, hj, by unfold MbM.joinV; rw [if_pos hj, a2, h.T], by rw [b1, a1, h.len]⟩

/-! ### Who joined and did not leave since -/
structure JustM (l : List Nat) (M : MbM) : Prop where
  mem : ∀ i, i ∈ l ↔ 0 < M.at i
  nod : l.Nodup
  rise : l.Pairwise (fun a b => M.at a < M.at b)
  len : l.length = M.memb.length
theorem JustM.start : JustM [] MbM.new := ⟨fun i => by
  have := MbM.new_ok.le i
  have e : MbM.new.T = 0 := rfl
  rw [e] at this
  simp; omega, List.nodup_nil, List.Pairwise.nil, by decide⟩
theorem JustM.join {l : List Nat} {M : MbM} {K k : Nat} (h : JustM l M) (hM : M.Ok K) (he : M.joinE (k : Int) = 0) : JustM (l ++ [k]) (M.join (k : Int)) := by
  obtain ⟨h1, h2, h3⟩ := joinE_ok he
  rw [Int.toNat_natCast] at h2
  obtain ⟨a1, a2, a3⟩ := memb_join hM he
  have hk : k ∉ l := fun hm => by have := (h.mem k).1 hm; omega
  have hne : ∀ i, i ∈ l → i ≠ k := fun i hi e => hk (e ▸ hi)
  have hat : ∀ i, (M.join (k : Int)).at i = if i = k then M.T + 1 else M.at i := fun i => by rw [a3, Int.toNat_natCast]
  refine ⟨fun i => ?_, ?_, ?_, by rw [List.length_append, h.len, a1]; rfl⟩
  · rw [List.mem_append, List.mem_singleton, hat, h.mem]
    by_cases hi : i = k
    · rw [if_pos hi]; exact ⟨fun _ => by omega, fun _ => .inr hi⟩
    · rw [if_neg hi]; exact ⟨fun h => h.elim id (fun e => absurd e hi), .inl⟩
  · rw [List.nodup_append]
    refine ⟨h.nod, by simp, fun a ha b hb => ?_⟩
    rw [List.mem_singleton] at hb
    rw [hb]; exact hne a ha
  · rw [List.pairwise_append]
    refine ⟨?_, List.pairwise_singleton _ _, fun a ha b hb => ?_⟩
    · refine List.Pairwise.imp_of_mem (fun {a b} ha hb hab => ?_) h.rise
      rw [hat, hat, if_neg (hne a ha), if_neg (hne b hb)]; exact hab
    · rw [List.mem_singleton] at hb
      rw [hat, hat, if_neg (hne a ha), if_pos hb]
      have := hM.le a; omega
theorem JustM.leave {l : List Nat} {M : MbM} {K k : Nat} (h : JustM l M) (hM : M.Ok K) (he : M.findE (k : Int) = 0) : JustM (l.filter (fun i => decide (i ≠ k))) (M.leave (k : Int)) := by
  obtain ⟨h1, h2⟩ := findE_ok he
  rw [Int.toNat_natCast] at h2
  obtain ⟨a1, a2, a3⟩ := memb_leave hM he
  have hat : ∀ i, (M.leave (k : Int)).at i = if i = k then 0 else M.at i := fun i => by rw [a3, Int.toNat_natCast]
  refine ⟨fun i => ?_, List.Pairwise.filter _ h.nod, ?_, ?_⟩
  · rw [List.mem_filter, hat, h.mem]
    by_cases hi : i = k
    · rw [if_pos hi]; simp [hi]
    · rw [if_neg hi]; simp [hi]
  · refine List.Pairwise.imp_of_mem (fun {a b} ha hb hab => ?_) (List.Pairwise.filter _ h.rise)
    have ha' : a ≠ k := by simpa using (List.mem_filter.1 ha).2
    have hb' : b ≠ k := by simpa using (List.mem_filter.1 hb).2
    rw [hat, hat, if_neg ha', if_neg hb']; exact hab
  · have e := cnt_eq (a := k) (p := fun _ => true) (q := fun i => decide (i ≠ k)) rfl (by simp) h.nod ((h.mem k).2 h2) (fun i hi => by simp [hi])
    rw [List.filter_eq_self.2 (fun _ _ => rfl)] at e
    have := h.len; omega
theorem JustM.eld {l : List Nat} {M : MbM} {K k : Nat} (h : JustM (k :: l) M) (hM : M.Ok K) : M.eldV = k ∧ M.eldE = 0 := by
  refine eld_is hM ((h.mem k).1 (List.mem_cons_self ..)) (fun j hj => ?_)
  rcases List.mem_cons.1 ((h.mem j).2 hj) with e | e
  · rw [e]; exact Nat.le_refl _
  · exact Nat.le_of_lt ((List.pairwise_cons.1 h.rise).1 j e)
theorem JustM.none {M : MbM} {K : Nat} (h : JustM [] M) : M.eldV = 0 ∧ M.eldE = 150 := by
  refine eld_no (List.eq_nil_of_length_eq_zero ?_)
  rw [← h.len]; rfl
theorem nodup_inj {α : Type} {l : List α} (h : l.Nodup) {i j : Nat} {x : α} (hi : l[i]? = some x) (hj : l[j]? = some x) : i = j := by
  obtain ⟨a1, a2⟩ := List.getElem?_eq_some_iff.1 hi
  obtain ⟨b1, b2⟩ := List.getElem?_eq_some_iff.1 hj
  have hp := List.pairwise_iff_getElem.1 h
  rcases Nat.lt_trichotomy i j with h1 | h1 | h1
  · exact absurd (a2.trans b2.symm) (hp i j a1 b1 h1)
  · exact h1
  · exact absurd (b2.trans a2.symm) (hp j i b1 a1 h1)
/-- Ranks are 0, 1, 2 .. by number. -/
theorem rank_at {M : MbM} {K k i : Nat} (hM : M.Ok K) (h : M.memb[k]? = some i) : M.rankV (i : Int) = k ∧ M.findE (i : Int) = 0 ∧ 0 < M.at i ∧ i < 16 := by
  have hm := mem_memb.1 (List.mem_of_getElem? h)
  have he := findE_0 hm.1 hm.2
  refine ⟨?_, he, hm.2, hm.1⟩
  unfold MbM.rankV
  rw [if_pos he, Int.toNat_natCast]
  unfold MbM.below
  have e1 : List.range 16 = List.range i ++ i :: (List.range' (i + 1) (15 - i)) := by
    have : List.range 16 = List.range i ++ List.range' i (16 - i) := by
      rw [List.range_eq_range', List.range_eq_range']
      have := List.range'_append (s := 0) (m := i) (n := 16 - i) (step := 1)
      simp at this
      rw [this]; congr 1; omega
    rw [this, show 16 - i = (15 - i) + 1 by omega, List.range'_succ]
  have e2 : M.memb = (List.range i).filter (fun i => decide (0 < M.at i)) ++ i :: (List.range' (i + 1) (15 - i)).filter (fun i => decide (0 < M.at i)) := by
    unfold MbM.memb
    rw [e1, List.filter_append, List.filter_cons, if_pos (by simpa using hm.2)]
  have hb : ((List.range i).filter (fun i => decide (0 < M.at i))).length < M.memb.length := by rw [e2]; simp
  have e3 : M.memb[((List.range i).filter (fun i => decide (0 < M.at i))).length]? = some i := by rw [e2]; simp
  exact nodup_inj (memb_nodup M) e3 h
end Go.Proofs.Ytepdnclojjeepaa
