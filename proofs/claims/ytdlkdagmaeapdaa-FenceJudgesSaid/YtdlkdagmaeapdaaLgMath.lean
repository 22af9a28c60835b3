/- Plain mathematics of ledgers: rewinds, and the spans of both kinds. No condition. -/
import Derived.Test.YtdlkdagmaeapdaaLgModel
namespace Go.Proofs.Ytdlkdagmaeapdaa
open Go.RowKit
set_option linter.unusedVariables false

theorem backL_fin {l : List Pc} : ∀ {a : Int} {k : Option Bool} {t : Int}, chn a k l → endF a l ≤ t → backL l t = l := by
  induction l with
  | nil => intro a k t _ _; rfl
  | cons y l ih =>
    intro a k t hc ht
    have h0 := (endF_le hc).2 y (List.mem_cons_self ..)
    obtain ⟨h1, h2, h3, h4⟩ := hc
    have h5 : endF a (y :: l) = endF y.2.1 l := rfl
    have h6 := (endF_le h4).1
    rw [backL_cons, if_pos (by omega), ih h4 (by omega)]
    unfold cutPc
    rw [show min y.2.1 t = y.2.1 by omega]
theorem back_fin {M : LgM} (h : M.Ok) : backE M M.fin = 0 ∧ M.back M.fin = M := by
  have h1 : M.b ≤ M.fin := (endF_le h.ch).1
  have h0 := h.lo
  have he : backE M M.fin = 0 := by unfold backE; rw [if_neg (by omega), if_neg (by omega)]
  refine ⟨he, ?_⟩
  unfold LgM.back
  rw [if_neg (by simp [he]), show backL M.L M.fin = M.L from backL_fin h.ch (Int.le_refl _)]
theorem back_snoc {l : List Pc} {k : Nat} {x : Pc} (tt : Int) (h : l[k]? = some x) : backL (l.take (k + 1)) tt = if x.1 < tt then backL (l.take k) tt ++ [cutPc tt x] else backL (l.take k) tt := by
  unfold backL
  rw [List.take_add_one, h, List.filter_append]
  simp only [Option.toList_some, List.filter_cons, List.filter_nil]
  by_cases hk : x.1 < tt
  · rw [if_pos hk, if_pos (by simpa using hk)]; simp
  · rw [if_neg hk, if_neg (by simpa using hk)]; simp
theorem chn_take {l : List Pc} {a : Int} {k : Option Bool} (h : chn a k l) (n : Nat) : chn a k (l.take n) := by
  have h2 : chn a k (l.take n ++ l.drop n) := by rw [List.take_append_drop]; exact h
  exact ((chn_app _ _ _ _).1 h2).1
theorem chn_drop {l : List Pc} {a : Int} {k : Option Bool} (h : chn a k l) (n : Nat) : chn (endF a (l.take n)) (lastK k (l.take n)) (l.drop n) := by
  have h2 : chn a k (l.take n ++ l.drop n) := by rw [List.take_append_drop]; exact h
  exact ((chn_app _ _ _ _).1 h2).2
theorem chn_at {l : List Pc} {a : Int} {k : Option Bool} {j : Nat} {x : Pc} (h : chn a k l) (hx : l[j]? = some x) : x.1 = endF a (l.take j) ∧ x.1 < x.2.1 ∧ lastK k (l.take j) ≠ some x.2.2 ∧ endF a (l.take (j + 1)) = x.2.1 ∧ lastK k (l.take (j + 1)) = some x.2.2 := by
  have h1 := chn_drop h j
  obtain ⟨hj, e⟩ := List.getElem?_eq_some_iff.1 hx
  rw [List.drop_eq_getElem_cons hj, e] at h1
  obtain ⟨h2, h3, h4, _⟩ := h1
  have h5 : l.take (j + 1) = l.take j ++ [x] := by rw [List.take_add_one, hx]; rfl
  exact ⟨h2, by omega, h4, by rw [h5, endF_app]; rfl, by rw [h5, lastK_app]; rfl⟩
theorem LgM.Ok.take {M : LgM} (h : M.Ok) (n : Nat) : LgM.Ok ⟨M.b, M.L.take n⟩ := by
  refine ⟨h.lo, chn_take h.ch n, by have := h.len; show (M.L.take n).length ≤ 256; rw [List.length_take]; omega, ?_⟩
  have h1 := (endF_le (chn_drop h.ch n)).1
  have h2 : M.fin = endF (endF M.b (M.L.take n)) (M.L.drop n) := by rw [← endF_app, List.take_append_drop]; rfl
  have := h.hi
  show endF M.b (M.L.take n) ≤ _
  omega
def inP (n : Int) (p : Int × Int) : Bool := decide (p.1 ≤ n) && decide (n < p.2)
theorem lgiV_cons (y : Pc) (l : List Pc) (n : Int) : lgiV (y :: l) n = if inPc y n = true then y.2.2 else lgiV l n := by
  unfold lgiV
  rw [List.find?_cons]
  cases h : inPc y n <;> simp
theorem lgiE_cons (y : Pc) (l : List Pc) (n : Int) : lgiE (y :: l) n = if inPc y n = true then 0 else lgiE l n := by
  unfold lgiE
  rw [List.any_cons]
  cases h : inPc y n with
  | true => simp
  | false => rw [Bool.false_or]; exact (if_neg Bool.false_ne_true).symm
theorem spOf_cons (y : Pc) (l : List Pc) (kd : Bool) : spOf (y :: l) kd = if y.2.2 = kd then (y.1, y.2.1) :: spOf l kd else spOf l kd := by
  unfold spOf
  by_cases h : y.2.2 = kd
  · rw [if_pos h, List.filter_cons, if_pos (by simpa using h)]; rfl
  · rw [if_neg h, List.filter_cons, if_neg (by simpa using h)]
theorem spOf_mem {l : List Pc} {kd : Bool} {p : Int × Int} (h : p ∈ spOf l kd) : ∃ x ∈ l, x.2.2 = kd ∧ p = (x.1, x.2.1) := by
  unfold spOf at h
  obtain ⟨x, hx, rfl⟩ := List.mem_map.1 h
  obtain ⟨h1, h2⟩ := List.mem_filter.1 hx
  exact ⟨x, h1, by simpa using h2, rfl⟩
theorem sp_low {l : List Pc} {a n : Int} {k : Option Bool} (h : chn a k l) (hn : n < a) (kd : Bool) : (spOf l kd).any (inP n) = false := by
  rw [List.any_eq_false]
  intro p hp
  obtain ⟨x, hx, _, rfl⟩ := spOf_mem hp
  have := (endF_le h).2 x hx
  simp [inP]; omega
theorem lgiE_low {l : List Pc} {a n : Int} {k : Option Bool} (h : chn a k l) (hn : n < a) : lgiE l n = 5 := by
  unfold lgiE
  rw [if_neg]
  intro h2
  obtain ⟨x, hx, hi⟩ := List.any_eq_true.1 h2
  have := (endF_le h).2 x hx
  simp [inPc] at hi; omega
theorem sp_any (n : Int) (kd : Bool) : ∀ {l : List Pc} {a : Int} {k : Option Bool}, chn a k l → (spOf l kd).any (inP n) = (decide (lgiE l n = 0) && (lgiV l n == kd))
  | [], _, _, _ => by simp [spOf, lgiE]
  | y :: l, a, k, ⟨h1, h2, h3, h4⟩ => by
    rw [lgiV_cons, lgiE_cons, spOf_cons]
    by_cases hy : inPc y n = true
    · rw [if_pos hy, if_pos hy]
      by_cases hk : y.2.2 = kd
      · rw [if_pos hk, List.any_cons]
        have : inP n (y.1, y.2.1) = true := hy
        rw [this, hk]; simp
      · rw [if_neg hk]
        have hlt : n < y.2.1 := by simp [inPc] at hy; exact hy.2
        rw [sp_low h4 hlt]
        simp [hk]
    · rw [if_neg hy, if_neg hy, ← sp_any n kd h4]
      by_cases hk : y.2.2 = kd
      · rw [if_pos hk, List.any_cons]
        have : inP n (y.1, y.2.1) = false := by simpa [inP, inPc] using hy
        rw [this, Bool.false_or]
      · rw [if_neg hk]
theorem lgiE_or (l : List Pc) (n : Int) : lgiE l n = 0 ∨ (lgiE l n = 5 ∧ lgiV l n = false) := by
  by_cases h : l.any (fun x => inPc x n) = true
  · exact .inl (by unfold lgiE; rw [if_pos h])
  · refine .inr ⟨by unfold lgiE; rw [if_neg h], ?_⟩
    unfold lgiV
    rw [List.find?_eq_none.2 (fun x hx hi => h (List.any_eq_true.2 ⟨x, hx, hi⟩))]; rfl

theorem lgiE_in {n : Int} : ∀ {l : List Pc} {a : Int} {k : Option Bool}, chn a k l → a ≤ n → n < endF a l → lgiE l n = 0
  | [], a, _, _, h1, h2 => by have h2' : n < a := h2; omega
  | y :: l, a, k, ⟨h1, h2, h3, h4⟩, g1, g2 => by
    rw [lgiE_cons]
    by_cases hy : n < y.2.1
    · rw [if_pos (by simp [inPc]; omega)]
    · rw [if_neg (by simp [inPc]; omega)]
      exact lgiE_in h4 (by omega) g2
theorem lgiE_out {n : Int} {l : List Pc} {a : Int} {k : Option Bool} (h : chn a k l) (hn : endF a l ≤ n) : lgiE l n = 5 := by
  unfold lgiE
  rw [if_neg]
  intro h2
  obtain ⟨x, hx, hi⟩ := List.any_eq_true.1 h2
  have := (endF_le h).2 x hx
  simp [inPc] at hi; omega
theorem lgiV_no {l : List Pc} {n : Int} (h : lgiE l n = 5) : lgiV l n = false := by
  rcases lgiE_or l n with h1 | h1
  · omega
  · exact h1.2
theorem back_iv {n t : Int} (hn : n < t) : ∀ l : List Pc, lgiV (backL l t) n = lgiV l n ∧ lgiE (backL l t) n = lgiE l n
  | [] => ⟨rfl, rfl⟩
  | y :: l => by
    obtain ⟨h1, h2⟩ := back_iv hn l
    rw [backL_cons, lgiV_cons, lgiE_cons]
    by_cases hy : y.1 < t
    · have hc : inPc (cutPc t y) n = inPc y n := by
        unfold inPc cutPc
        have : decide (n < min y.2.1 t) = decide (n < y.2.1) := by rw [decide_eq_decide]; omega
        rw [this]
      rw [if_pos hy, lgiV_cons, lgiE_cons, hc, h1, h2]
      exact ⟨rfl, rfl⟩
    · have hf : inPc y n = false := by simp [inPc]; omega
      rw [if_neg hy, h1, h2, hf]
      exact ⟨by simp, by simp⟩
theorem LgM.Ok.bnd {M : LgM} (h : M.Ok) : 0 ≤ M.b ∧ M.b ≤ M.fin ∧ M.fin ≤ 1099511627776 := ⟨h.lo, (endF_le h.ch).1, h.hi⟩
theorem back_to {M : LgM} (h : M.Ok) {x : Int} (h1 : M.b ≤ x) (h2 : x ≤ M.fin) : backE M x = 0 ∧ M.back x = ⟨M.b, backL M.L x⟩ := by
  have := h.bnd
  have h0 : backE M x = 0 := by unfold backE; rw [if_neg (by omega), if_neg (by omega)]
  exact ⟨h0, by unfold LgM.back; rw [if_neg (by simp [h0])]⟩
theorem back_all {M : LgM} (h : M.Ok) : backE M M.b = 0 ∧ M.back M.b = ⟨M.b, []⟩ := by
  obtain ⟨h0, h1⟩ := back_to h (x := M.b) (Int.le_refl _) h.bnd.2.1
  exact ⟨h0, by rw [h1, backL_nil (fun x hx => ((endF_le h.ch).2 x hx).1)]⟩
theorem back_end {M : LgM} (h : M.Ok) {x : Int} (h1 : M.b ≤ x) (h2 : x ≤ M.fin) : LgM.Ok ⟨M.b, backL M.L x⟩ ∧ (⟨M.b, backL M.L x⟩ : LgM).fin = x := by
  obtain ⟨_, e⟩ := back_to h h1 h2
  refine ⟨by rw [← e]; exact h.back x, (backL_ch h.ch h1 h2).2⟩
theorem back_no {M : LgM} {x r : Int} (h : backE M x = r) (hr : r ≠ 0) : M.back x = M := by
  unfold LgM.back; rw [if_pos (by rw [h]; exact hr)]

theorem sp_both (l : List Pc) : (spOf l true).length + (spOf l false).length = l.length := by
  induction l with
  | nil => rfl
  | cons y l ih =>
    rw [spOf_cons, spOf_cons]
    obtain ⟨a, b, k⟩ := y
    cases k <;> simp <;> omega
theorem fin_add {M : LgM} {t : Int} {k : Bool} (h : addE M t k = 0) : (M.add t k).fin = t := by
  unfold LgM.add addL
  rw [if_neg (by simp [h])]
  by_cases hk : lastK none M.L = some k
  · rw [if_pos hk]
    obtain ⟨l', x, hl, hx⟩ := lastK_split hk
    show endF M.b (setTo M.L t) = t
    rw [hl, setTo_app, endF_app]; rfl
  · rw [if_neg hk]
    show endF M.b (M.L ++ [(M.fin, t, k)]) = t
    rw [endF_app]; rfl
theorem add_no {M : LgM} {t r : Int} {k : Bool} (h : addE M t k = r) (hr : r ≠ 0) : M.add t k = M := by
  unfold LgM.add addL; rw [if_pos (by rw [h]; exact hr)]

/-! ### A ledger that is full -/
def fullL (f : Int) : Nat → List Pc
  | 0 => []
  | i + 1 => fullL f i ++ [(f + i, f + i + 1, i % 2 == 0)]
theorem fullL_len (f : Int) : ∀ i, (fullL f i).length = i
  | 0 => rfl
  | i + 1 => by rw [fullL, List.length_append, fullL_len f i]; rfl
theorem fullL_end (f : Int) : ∀ i : Nat, endF f (fullL f i) = f + i
  | 0 => by simp [fullL, endF]
  | i + 1 => by rw [fullL, endF_app]; show f + i + 1 = _; omega
theorem fullL_last (f : Int) (i : Nat) : lastK none (fullL f (i + 1)) = some (i % 2 == 0) := by rw [fullL, lastK_app]; rfl
theorem full_step {f : Int} (h0 : 0 ≤ f) (h1 : f ≤ 1000) {i : Nat} (hi : i < 256) : addE ⟨f, fullL f i⟩ (f + i + 1) (i % 2 == 0) = 0 ∧ (LgM.mk f (fullL f i)).add (f + i + 1) (i % 2 == 0) = ⟨f, fullL f (i + 1)⟩ := by
  have hf : (LgM.mk f (fullL f i)).fin = f + i := fullL_end f i
  have hk : lastK none (fullL f i) ≠ some (i % 2 == 0) := by
    cases i with
    | zero => simp [fullL, lastK]
    | succ i =>
      rw [fullL_last]
      rcases Nat.mod_two_eq_zero_or_one i with h | h
      · have h2 : (i + 1) % 2 = 1 := by omega
        rw [h, h2]; decide
      · have h2 : (i + 1) % 2 = 0 := by omega
        rw [h, h2]; decide
  have he : addE ⟨f, fullL f i⟩ (f + i + 1) (i % 2 == 0) = 0 := by
    unfold addE
    rw [hf, if_neg (by omega), if_neg hk, if_neg (by show ¬ 256 ≤ (fullL f i).length; rw [fullL_len]; omega)]
  refine ⟨he, ?_⟩
  unfold LgM.add addL
  rw [if_neg (by simp [he]), if_neg hk, hf]
  rfl
theorem full_ok {f : Int} (h0 : 0 ≤ f) (h1 : f ≤ 1000) : ∀ {i : Nat}, i ≤ 256 → LgM.Ok ⟨f, fullL f i⟩
  | 0, _ => LgM.new_ok h0 (by omega)
  | i + 1, hi => by
    rw [← (full_step h0 h1 (i := i) (by omega)).2]
    exact (full_ok h0 h1 (by omega)).add _ _
end Go.Proofs.Ytdlkdagmaeapdaa
