import Derived.Test.YtdlkdagmaeapdaaBase

/- Plain mathematics of shares: quotas, who keeps what, who gets the others. No condition. -/
namespace Go.Proofs.Ytdlkdagmaeapdaa
open Go.RowKit
set_option linter.unusedVariables false

/-! ### Sums -/
def sumTo : Nat → (Nat → Nat) → Nat
  | 0, _ => 0
  | m + 1, f => sumTo m f + f m
theorem sumTo_congr {f g : Nat → Nat} : ∀ {m : Nat}, (∀ k, k < m → f k = g k) → sumTo m f = sumTo m g
  | 0, _ => rfl
  | m + 1, h => by rw [sumTo, sumTo, sumTo_congr (fun k hk => h k (by omega)), h m (by omega)]
theorem sumTo_add (f g : Nat → Nat) : ∀ m : Nat, sumTo m (fun k => f k + g k) = sumTo m f + sumTo m g
  | 0 => rfl
  | m + 1 => by rw [sumTo, sumTo, sumTo, sumTo_add f g m]; omega
theorem sumTo_const (c : Nat) : ∀ m : Nat, sumTo m (fun _ => c) = m * c
  | 0 => by simp [sumTo]
  | m + 1 => by rw [sumTo, sumTo_const c m, Nat.succ_mul]
theorem sumTo_le {f g : Nat → Nat} : ∀ {m : Nat}, (∀ k, k < m → f k ≤ g k) → sumTo m f ≤ sumTo m g
  | 0, _ => Nat.le_refl _
  | m + 1, h => by
    have h1 := sumTo_le (m := m) (fun k hk => h k (by omega))
    have h2 := h m (by omega)
    rw [sumTo, sumTo]; omega
theorem sumTo_if (p : Nat → Bool) : ∀ m : Nat, sumTo m (fun k => if p k = true then 1 else 0) = ((List.range m).filter p).length
  | 0 => rfl
  | m + 1 => by
    rw [sumTo, sumTo_if p m, List.range_succ, List.filter_append, List.length_append, List.filter_cons, List.filter_nil]
    split <;> rfl
/-- One more at one place. -/
theorem sumTo_upd {f g : Nat → Nat} {a : Nat} : ∀ {m : Nat}, a < m → (∀ k, k ≠ a → f k = g k) → f a = g a + 1 → sumTo m f = sumTo m g + 1
  | 0, h, _, _ => by omega
  | m + 1, h, he, ha => by
    rw [sumTo, sumTo]
    by_cases hm : a = m
    · subst hm
      rw [sumTo_congr (f := f) (g := g) (fun k hk => he k (by omega)), ha]; omega
    · rw [sumTo_upd (m := m) (by omega) he ha, he m (fun e => hm e.symm)]; omega
theorem sumTo_zero {f : Nat → Nat} : ∀ {m : Nat}, sumTo m f = 0 → ∀ k, k < m → f k = 0
  | 0, _, k, hk => by omega
  | m + 1, h, k, hk => by
    rw [sumTo] at h
    by_cases hm : k = m
    · subst hm; omega
    · exact sumTo_zero (m := m) (by omega) k (by omega)
theorem sumTo_pos {f : Nat → Nat} : ∀ {m : Nat}, 0 < sumTo m f → ∃ k, k < m ∧ 0 < f k
  | 0, h => by rw [sumTo] at h; omega
  | m + 1, h => by
    rw [sumTo] at h
    by_cases hm : 0 < f m
    · exact ⟨m, by omega, hm⟩
    · obtain ⟨k, hk, h2⟩ := sumTo_pos (m := m) (f := f) (by omega)
      exact ⟨k, by omega, h2⟩

/-! ### Counting -/
theorem flt_le {α : Type} {p q : α → Bool} {l : List α} (h : ∀ i, i ∈ l → p i = true → q i = true) : (l.filter p).length ≤ (l.filter q).length := by
  induction l with
  | nil => simp
  | cons x l ih =>
    have ih := ih (fun i hi => h i (List.mem_cons_of_mem _ hi))
    rw [List.filter_cons, List.filter_cons]
    by_cases hp : p x = true
    · rw [if_pos hp, if_pos (h x (List.mem_cons_self ..) hp)]; simp; exact ih
    · rw [if_neg hp]
      split
      · simp; omega
      · exact ih
theorem flt_lt {α : Type} {p q : α → Bool} {a : α} : ∀ {l : List α}, (∀ i, i ∈ l → p i = true → q i = true) → a ∈ l → q a = true → p a = false → (l.filter p).length < (l.filter q).length
  | [], _, h, _, _ => by cases h
  | x :: l, h, hm, hq, hp => by
    have hl := flt_le (p := p) (q := q) (l := l) (fun i hi => h i (List.mem_cons_of_mem _ hi))
    rw [List.filter_cons, List.filter_cons]
    rcases List.mem_cons.1 hm with rfl | hm'
    · rw [if_neg (by rw [hp]; simp), if_pos hq]; simp; omega
    · have ih := flt_lt (l := l) (fun i hi => h i (List.mem_cons_of_mem _ hi)) hm' hq hp
      by_cases hpx : p x = true
      · rw [if_pos hpx, if_pos (h x (List.mem_cons_self ..) hpx)]; simp; exact ih
      · rw [if_neg hpx]
        split
        · simp; omega
        · exact ih
/-- Different numbers below r are at most r. -/
theorem nodup_len : ∀ {r : Nat} {l : List Nat}, l.Nodup → (∀ x, x ∈ l → x < r) → l.length ≤ r
  | 0, [], _, _ => Nat.le_refl _
  | 0, x :: l, _, h => by have := h x (List.mem_cons_self ..); omega
  | r + 1, l, hn, h => by
    have h1 := nodup_len (r := r) (l := l.filter (fun x => decide (x ≠ r))) (List.Pairwise.filter _ hn) (fun x hx => by
      obtain ⟨a, b⟩ := List.mem_filter.1 hx
      have := h x a
      have : x ≠ r := by simpa using b
      omega)
    have h2 : ∀ {l : List Nat}, l.Nodup → l.length ≤ (l.filter (fun x => decide (x ≠ r))).length + 1 := by
      intro l hn
      induction l with
      | nil => simp
      | cons x l ih =>
        obtain ⟨hx, hl⟩ := List.nodup_cons.1 hn
        rw [List.filter_cons]
        by_cases hxr : x = r
        · have e : l.filter (fun x => decide (x ≠ r)) = l := List.filter_eq_self.2 (fun y hy => by
            have : y ≠ r := fun e => hx (by rw [hxr, ← e]; exact hy)
            simpa using this)
          rw [if_neg (by simpa using hxr), e]; simp
        · rw [if_pos (by simpa using hxr)]
          have := ih hl
          rw [List.length_cons, List.length_cons]; omega
    have := h2 hn
    omega
theorem flt_split {α : Type} (p : α → Bool) (l : List α) : (l.filter p).length + (l.filter (fun x => !p x)).length = l.length := by
  induction l with
  | nil => rfl
  | cons x l ih =>
    rw [List.filter_cons, List.filter_cons]
    cases h : p x <;> simp <;> omega
/-- Of so many different numbers below m just r are below r. -/
theorem below_len {m r : Nat} {l : List Nat} (hn : l.Nodup) (hl : l.length = m) (h : ∀ x, x ∈ l → x < m) (hr : r ≤ m) : (l.filter (fun x => decide (x < r))).length = r := by
  have h1 := nodup_len (r := r) (l := l.filter (fun x => decide (x < r))) (List.Pairwise.filter _ hn) (fun x hx => by simpa using (List.mem_filter.1 hx).2)
  have h2 := nodup_len (r := m - r) (l := (l.filter (fun x => !decide (x < r))).map (fun x => x - r)) (by
    have hp : ((l.filter (fun x => !decide (x < r)))).Nodup := List.Pairwise.filter _ hn
    refine List.pairwise_map.2 (List.Pairwise.imp_of_mem (fun {a b} ha hb hab => ?_) hp)
    have ha' : ¬ a < r := by simpa using (List.mem_filter.1 ha).2
    have hb' : ¬ b < r := by simpa using (List.mem_filter.1 hb).2
    omega) (fun x hx => by
    obtain ⟨y, hy, rfl⟩ := List.mem_map.1 hx
    obtain ⟨a, b⟩ := List.mem_filter.1 hy
    have : ¬ y < r := by simpa using b
    have := h y a
    omega)
  rw [List.length_map] at h2
  have h3 : (l.filter (fun x => decide (x < r))).length + (l.filter (fun x => !decide (x < r))).length = l.length := flt_split (fun x => decide (x < r)) l
  omega

/-! ### Quotas -/
/-- j comes ahead of k: it had more, or as many and has the lesser number. -/
def bef (h : Nat → Nat) (j k : Nat) : Bool := decide (h k < h j) || (decide (h j = h k) && decide (j < k))
def aheadN (m : Nat) (h : Nat → Nat) (k : Nat) : Nat := ((List.range m).filter (fun j => bef h j k)).length
def quotaN (n m : Nat) (h : Nat → Nat) (k : Nat) : Nat := n / m + if aheadN m h k < n % m then 1 else 0
theorem bef_iff {h : Nat → Nat} {j k : Nat} : bef h j k = true ↔ h k < h j ∨ (h j = h k ∧ j < k) := by unfold bef; simp
theorem ahead_lt {m : Nat} {h : Nat → Nat} {k : Nat} (hk : k < m) : aheadN m h k < m := by
  have := flt_lt (p := fun j => bef h j k) (q := fun _ => true) (a := k) (l := List.range m) (fun _ _ _ => rfl) (List.mem_range.2 hk) rfl (by
    cases hb : bef h k k with
    | false => rfl
    | true => have := bef_iff.1 hb; omega)
  rw [List.filter_eq_self.2 (fun _ _ => rfl), List.length_range] at this
  exact this
theorem ahead_mono {m : Nat} {h : Nat → Nat} {j k : Nat} (hj : j < m) (hb : bef h j k = true) : aheadN m h j < aheadN m h k := by
  refine flt_lt (a := j) (fun i _ hi => ?_) (List.mem_range.2 hj) hb ?_
  · have h1 := bef_iff.1 hi
    have h2 := bef_iff.1 hb
    exact bef_iff.2 (by omega)
  · cases hc : bef h j j with
    | false => rfl
    | true => have := bef_iff.1 hc; omega
theorem bef_or {h : Nat → Nat} {j k : Nat} (hjk : j ≠ k) : bef h j k = true ∨ bef h k j = true := by
  rw [bef_iff, bef_iff]; omega
theorem ahead_nodup (m : Nat) (h : Nat → Nat) : ((List.range m).map (aheadN m h)).Nodup := by
  refine List.pairwise_map.2 (List.Pairwise.imp_of_mem (fun {a b} ha hb hab => ?_) (List.nodup_range (n := m)))
  have ha := List.mem_range.1 ha
  have hb := List.mem_range.1 hb
  rcases bef_or (h := h) hab with h1 | h1
  · have := ahead_mono ha h1; omega
  · have := ahead_mono hb h1; omega
theorem ahead_count {m r : Nat} (h : Nat → Nat) (hr : r ≤ m) : ((List.range m).filter (fun k => decide (aheadN m h k < r))).length = r := by
  have := below_len (m := m) (r := r) (ahead_nodup m h) (by simp) (fun x hx => by
    obtain ⟨k, hk, rfl⟩ := List.mem_map.1 hx
    exact ahead_lt (List.mem_range.1 hk)) hr
  rw [List.filter_map, List.length_map] at this
  exact this
theorem quota_sum (n m : Nat) (h : Nat → Nat) (hm : 0 < m) : sumTo m (quotaN n m h) = n := by
  have e : sumTo m (quotaN n m h) = sumTo m (fun k => n / m + (if (decide (aheadN m h k < n % m)) = true then 1 else 0)) := sumTo_congr (fun k _ => by unfold quotaN; simp)
  rw [e, sumTo_add (fun _ => n / m) (fun k => if (decide (aheadN m h k < n % m)) = true then 1 else 0), sumTo_const, sumTo_if (fun k => decide (aheadN m h k < n % m)), ahead_count h (Nat.le_of_lt (Nat.mod_lt _ hm))]
  exact Nat.div_add_mod n m
theorem quota_ge (n m : Nat) (h : Nat → Nat) (k : Nat) : n / m ≤ quotaN n m h k ∧ quotaN n m h k ≤ n / m + 1 := by
  unfold quotaN; split <;> omega
end Go.Proofs.Ytdlkdagmaeapdaa

/- Plain mathematics of shares: who keeps what, who gets the others. A place's owner is told by the member's place in the list. No condition. -/
namespace Go.Proofs.Ytdlkdagmaeapdaa
open Go.RowKit
set_option linter.unusedVariables false

def upd (c : Nat → Nat) (k : Nat) : Nat → Nat := fun j => if j = k then c j + 1 else c j
def cntO (l : List (Option Nat)) (k : Nat) : Nat := (l.filter (fun o => decide (o = some k))).length
def nones (l : List (Option Nat)) : Nat := (l.filter (fun o => decide (o = none))).length
def keepL (q : Nat → Nat) : (Nat → Nat) → List (Option Nat) → List (Option Nat)
  | _, [] => []
  | c, none :: r => none :: keepL q c r
  | c, some k :: r => if c k < q k then some k :: keepL q (upd c k) r else none :: keepL q c r
def roomK (m : Nat) (q c : Nat → Nat) : Option Nat := (List.range m).find? (fun k => decide (c k < q k))
def fillL (m : Nat) (q : Nat → Nat) : (Nat → Nat) → List (Option Nat) → List (Option Nat)
  | _, [] => []
  | c, some k :: r => some k :: fillL m q c r
  | c, none :: r => match roomK m q c with
    | some k => some k :: fillL m q (upd c k) r
    | none => none :: fillL m q c r

theorem cntO_cons (o : Option Nat) (l : List (Option Nat)) (k : Nat) : cntO (o :: l) k = (if o = some k then 1 else 0) + cntO l k := by
  unfold cntO
  rw [List.filter_cons]
  by_cases h : o = some k
  · rw [if_pos (by simpa using h), if_pos h, List.length_cons]; omega
  · rw [if_neg (by simpa using h), if_neg h]; omega
theorem nones_cons (o : Option Nat) (l : List (Option Nat)) : nones (o :: l) = (if o = none then 1 else 0) + nones l := by
  unfold nones
  rw [List.filter_cons]
  by_cases h : o = none
  · rw [if_pos (by simpa using h), if_pos h, List.length_cons]; omega
  · rw [if_neg (by simpa using h), if_neg h]; omega
theorem cntO_nil (k : Nat) : cntO [] k = 0 := rfl
theorem cntO_le (l : List (Option Nat)) (k : Nat) : cntO l k ≤ l.length := List.length_filter_le _ _
/-- Each is nobody's, or a member's. -/
def okW (m : Nat) (l : List (Option Nat)) : Prop := ∀ o, o ∈ l → o = none ∨ ∃ k, k < m ∧ o = some k
theorem okW_tail {m : Nat} {o : Option Nat} {l : List (Option Nat)} (h : okW m (o :: l)) : okW m l := fun x hx => h x (List.mem_cons_of_mem _ hx)
theorem cnt_total {m : Nat} : ∀ {l : List (Option Nat)}, okW m l → sumTo m (cntO l) + nones l = l.length
  | [], _ => by
    have : sumTo m (cntO []) = m * 0 := by rw [← sumTo_const 0 m]; exact sumTo_congr (fun _ _ => rfl)
    rw [this]; rfl
  | o :: l, h => by
    have ih := cnt_total (okW_tail h)
    rw [nones_cons, List.length_cons]
    rcases h o (List.mem_cons_self ..) with rfl | ⟨k, hk, rfl⟩
    · rw [if_pos rfl, sumTo_congr (f := cntO (none :: l)) (g := cntO l) (fun j _ => by rw [cntO_cons, if_neg (by simp)]; omega)]; omega
    · rw [if_neg (by simp), sumTo_upd (f := cntO (some k :: l)) (g := cntO l) hk (fun j hj => by rw [cntO_cons, if_neg (by simpa using fun e => hj e.symm)]; omega) (by rw [cntO_cons, if_pos rfl]; omega)]; omega

/-! ### Each keeps -/
theorem keep_len (q : Nat → Nat) : ∀ (l : List (Option Nat)) (c : Nat → Nat), (keepL q c l).length = l.length
  | [], _ => rfl
  | none :: l, c => by rw [keepL, List.length_cons, List.length_cons, keep_len q l c]
  | some k :: l, c => by
    rw [keepL]
    split
    · rw [List.length_cons, List.length_cons, keep_len q l _]
    · rw [List.length_cons, List.length_cons, keep_len q l c]
theorem keep_cnt (q : Nat → Nat) (k : Nat) : ∀ (l : List (Option Nat)) (c : Nat → Nat), cntO (keepL q c l) k = min (cntO l k) (q k - c k)
  | [], c => by rw [keepL, cntO_nil]; omega
  | none :: l, c => by rw [keepL, cntO_cons, cntO_cons, if_neg (by simp), keep_cnt q k l c]; omega
  | some j :: l, c => by
    rw [keepL]
    by_cases hj : c j < q j
    · rw [if_pos hj, cntO_cons, cntO_cons, keep_cnt q k l (upd c j)]
      by_cases hjk : j = k
      · subst hjk
        rw [if_pos rfl]
        unfold upd; rw [if_pos rfl]; omega
      · rw [if_neg (by simpa using hjk)]
        unfold upd; rw [if_neg (fun e => hjk e.symm)]; omega
    · rw [if_neg hj, cntO_cons, cntO_cons, if_neg (by simp), keep_cnt q k l c]
      by_cases hjk : j = k
      · subst hjk; rw [if_pos rfl]; omega
      · rw [if_neg (by simpa using hjk)]; omega
theorem keep_sub (q : Nat → Nat) : ∀ (l : List (Option Nat)) (c : Nat → Nat) (i k : Nat), (keepL q c l)[i]? = some (some k) → l[i]? = some (some k)
  | [], _, _, _, h => h
  | none :: l, c, i, k, h => by
    rw [keepL] at h
    cases i with
    | zero => simp at h
    | succ i => exact keep_sub q l c i k (by simpa using h)
  | some j :: l, c, i, k, h => by
    rw [keepL] at h
    split at h
    · cases i with
      | zero => simpa using h
      | succ i => exact keep_sub q l _ i k (by simpa using h)
    · cases i with
      | zero => simp at h
      | succ i => exact keep_sub q l c i k (by simpa using h)
theorem keep_all (q : Nat → Nat) : ∀ (l : List (Option Nat)) (c : Nat → Nat) (i k : Nat), cntO l k ≤ q k - c k → l[i]? = some (some k) → (keepL q c l)[i]? = some (some k)
  | [], _, _, _, _, h => h
  | none :: l, c, i, k, hc, h => by
    rw [cntO_cons, if_neg (by simp)] at hc
    rw [keepL]
    cases i with
    | zero => simp at h
    | succ i => rw [List.getElem?_cons_succ]; exact keep_all q l c i k (by omega) (by simpa using h)
  | some j :: l, c, i, k, hc, h => by
    rw [cntO_cons] at hc
    rw [keepL]
    by_cases hjk : j = k
    · subst hjk
      rw [if_pos rfl] at hc
      rw [if_pos (by omega)]
      cases i with
      | zero => rfl
      | succ i => rw [List.getElem?_cons_succ]; exact keep_all q l _ i j (by unfold upd; rw [if_pos rfl]; omega) (by simpa using h)
    · rw [if_neg (by simpa using hjk)] at hc
      cases i with
      | zero => exact absurd (by simpa using h) hjk
      | succ i =>
        split
        · rw [List.getElem?_cons_succ]; exact keep_all q l _ i k (by unfold upd; rw [if_neg (fun e => hjk e.symm)]; omega) (by simpa using h)
        · rw [List.getElem?_cons_succ]; exact keep_all q l c i k (by omega) (by simpa using h)
theorem keep_ok {m : Nat} {q c : Nat → Nat} {l : List (Option Nat)} (h : okW m l) : okW m (keepL q c l) := fun o ho => by
  cases o with
  | none => exact .inl rfl
  | some k =>
    obtain ⟨i, hi, e⟩ := List.mem_iff_getElem.1 ho
    have h1 := keep_sub q l c i k (by rw [List.getElem?_eq_getElem hi, e])
    rcases h _ (List.mem_of_getElem? h1) with h2 | h2
    · cases h2
    · exact .inr h2

/-! ### The others go -/
theorem room_some {m : Nat} {q c : Nat → Nat} (h : 0 < sumTo m (fun k => q k - c k)) : ∃ k, roomK m q c = some k ∧ k < m ∧ c k < q k := by
  obtain ⟨k, hk, h2⟩ := sumTo_pos h
  cases hf : roomK m q c with
  | none =>
    have := List.find?_eq_none.1 hf k (List.mem_range.2 hk)
    simp at this; omega
  | some j =>
    have h3 := List.find?_some hf
    have h4 := List.mem_range.1 (List.mem_of_find?_eq_some hf)
    exact ⟨j, rfl, h4, by simpa using h3⟩
theorem fill_len (m : Nat) (q : Nat → Nat) : ∀ (l : List (Option Nat)) (c : Nat → Nat), (fillL m q c l).length = l.length
  | [], _ => rfl
  | some k :: l, c => by rw [fillL, List.length_cons, List.length_cons, fill_len m q l c]
  | none :: l, c => by
    rw [fillL]
    split
    · rw [List.length_cons, List.length_cons, fill_len m q l _]
    · rw [List.length_cons, List.length_cons, fill_len m q l c]
theorem fill_keep (m : Nat) (q : Nat → Nat) : ∀ (l : List (Option Nat)) (c : Nat → Nat) (i k : Nat), l[i]? = some (some k) → (fillL m q c l)[i]? = some (some k)
  | [], _, _, _, h => h
  | some j :: l, c, i, k, h => by
    rw [fillL]
    cases i with
    | zero => simpa using h
    | succ i => rw [List.getElem?_cons_succ]; exact fill_keep m q l c i k (by simpa using h)
  | none :: l, c, i, k, h => by
    rw [fillL]
    cases i with
    | zero => simp at h
    | succ i =>
      split
      · rw [List.getElem?_cons_succ]; exact fill_keep m q l _ i k (by simpa using h)
      · rw [List.getElem?_cons_succ]; exact fill_keep m q l c i k (by simpa using h)
theorem fill_all (m : Nat) (q : Nat → Nat) : ∀ (l : List (Option Nat)) (c : Nat → Nat), sumTo m (fun k => q k - c k) = nones l → okW m l →
    (∀ o, o ∈ fillL m q c l → ∃ k, k < m ∧ o = some k) ∧ ∀ k, k < m → cntO (fillL m q c l) k = cntO l k + (q k - c k)
  | [], c, hs, _ => ⟨fun o ho => by simp [fillL] at ho, fun k hk => by
    have := sumTo_zero (show sumTo m (fun k => q k - c k) = 0 from hs) k hk
    rw [fillL, cntO_nil]; omega⟩
  | some j :: l, c, hs, ho => by
    rw [nones_cons, if_neg (by simp), Nat.zero_add] at hs
    obtain ⟨h1, h2⟩ := fill_all m q l c hs (okW_tail ho)
    rw [fillL]
    refine ⟨fun o hm => ?_, fun k hk => by rw [cntO_cons, cntO_cons, h2 k hk]; omega⟩
    rcases List.mem_cons.1 hm with rfl | hm
    · rcases ho _ (List.mem_cons_self ..) with h3 | h3
      · cases h3
      · exact h3
    · exact h1 o hm
  | none :: l, c, hs, ho => by
    rw [nones_cons, if_pos rfl] at hs
    obtain ⟨j, e, hj, hlt⟩ := room_some (m := m) (q := q) (c := c) (by omega)
    have hu : sumTo m (fun k => q k - c k) = sumTo m (fun k => q k - upd c j k) + 1 := sumTo_upd hj (fun k hk => by unfold upd; rw [if_neg hk]) (by unfold upd; rw [if_pos rfl]; omega)
    obtain ⟨h1, h2⟩ := fill_all m q l (upd c j) (by omega) (okW_tail ho)
    rw [fillL, e]
    refine ⟨fun o hm => ?_, fun k hk => ?_⟩
    · rcases List.mem_cons.1 hm with rfl | hm
      · exact ⟨j, hj, rfl⟩
      · exact h1 o hm
    · show cntO (some j :: fillL m q (upd c j) l) k = _
      rw [cntO_cons, cntO_cons, h2 k hk, if_neg (show ¬ ((none : Option Nat) = some k) by simp)]
      by_cases hjk : j = k
      · subst hjk; rw [if_pos rfl]; unfold upd; rw [if_pos rfl]; omega
      · rw [if_neg (fun e => hjk (Option.some.inj e))]; unfold upd; rw [if_neg (fun e => hjk e.symm)]; omega

/-! ### Assigned -/
def quoO (m : Nat) (who : List (Option Nat)) : Nat → Nat := quotaN who.length m (cntO who)
def keptO (m : Nat) (who : List (Option Nat)) : List (Option Nat) := keepL (quoO m who) (fun _ => 0) who
def asgO (m : Nat) (who : List (Option Nat)) : List (Option Nat) := fillL m (quoO m who) (cntO (keptO m who)) (keptO m who)
structure AsgO (m : Nat) (who out : List (Option Nat)) : Prop where
  len : out.length = who.length
  all : ∀ o, o ∈ out → ∃ k, k < m ∧ o = some k
  cnt : ∀ k, k < m → cntO out k = quoO m who k
  stay : ∀ i k : Nat, (keptO m who)[i]? = some (some k) → who[i]? = some (some k) ∧ out[i]? = some (some k)
  kept : ∀ k : Nat, cntO (keptO m who) k = min (cntO who k) (quoO m who k)
  keep : ∀ i k : Nat, cntO who k ≤ quoO m who k → who[i]? = some (some k) → out[i]? = some (some k)
theorem asg_main {m : Nat} {who : List (Option Nat)} (hm : 0 < m) (hw : okW m who) : AsgO m who (asgO m who) := by
  have hk : ∀ k, cntO (keptO m who) k = min (cntO who k) (quoO m who k) := fun k => by unfold keptO; rw [keep_cnt]; omega
  have hs : sumTo m (fun k => quoO m who k - cntO (keptO m who) k) = nones (keptO m who) := by
    have h1 : sumTo m (fun k => (quoO m who k - cntO (keptO m who) k) + cntO (keptO m who) k) = sumTo m (quoO m who) := sumTo_congr (fun k _ => by rw [hk]; omega)
    rw [sumTo_add (fun k => quoO m who k - cntO (keptO m who) k) (cntO (keptO m who)), show sumTo m (quoO m who) = who.length from quota_sum _ m _ hm] at h1
    have h2 := cnt_total (m := m) (l := keptO m who) (keep_ok hw)
    have h3 : (keptO m who).length = who.length := keep_len _ _ _
    omega
  obtain ⟨h1, h2⟩ := fill_all m (quoO m who) (keptO m who) (cntO (keptO m who)) hs (keep_ok hw)
  refine ⟨?_, h1, fun k hkm => ?_, fun i k h => ⟨keep_sub _ _ _ _ _ h, fill_keep _ _ _ _ _ _ h⟩, hk, fun i k hc h => fill_keep _ _ _ _ _ _ (keep_all _ _ _ _ _ (by omega) h)⟩
  · unfold asgO; rw [fill_len]; exact keep_len _ _ _
  · show cntO (fillL m (quoO m who) (cntO (keptO m who)) (keptO m who)) k = _
    rw [h2 k hkm, hk]; omega
/-- Quotas that have been given are quotas again. -/
theorem quota_again (n m : Nat) (h : Nat → Nat) (hm : 0 < m) {k : Nat} (hk : k < m) : quotaN n m (quotaN n m h) k = quotaN n m h k := by
  have hr := Nat.mod_lt n hm
  have hc := ahead_count (m := m) (r := n % m) h (Nat.le_of_lt hr)
  by_cases hl : aheadN m h k < n % m
  · have e : quotaN n m h k = n / m + 1 := by unfold quotaN; rw [if_pos hl]
    have h2 : aheadN m (quotaN n m h) k < n % m := by
      rw [← hc]
      refine flt_lt (a := k) (fun j hj hb => ?_) (List.mem_range.2 hk) (by simpa using hl) ?_
      · have hb := bef_iff.1 hb
        have := quota_ge n m h j
        rw [e] at hb
        have hj2 : quotaN n m h j = n / m + 1 := by omega
        unfold quotaN at hj2
        split at hj2
        · simpa
        · omega
      · cases hb : bef (quotaN n m h) k k with
        | false => rfl
        | true => have := bef_iff.1 hb; omega
    rw [e]; unfold quotaN at h2 ⊢; rw [if_pos h2]
  · have e : quotaN n m h k = n / m := by unfold quotaN; rw [if_neg hl]; rfl
    have h2 : ¬ aheadN m (quotaN n m h) k < n % m := by
      have : n % m ≤ aheadN m (quotaN n m h) k := by
        rw [← hc]
        refine flt_le (fun j hj hp => bef_iff.2 (.inl ?_))
        have hp' : aheadN m h j < n % m := by simpa using hp
        rw [e]; unfold quotaN; rw [if_pos hp']; omega
      omega
    rw [e]; unfold quotaN at h2 ⊢; rw [if_neg h2]; rfl
theorem ahead_congr {m : Nat} {h g : Nat → Nat} (hg : ∀ j, j < m → h j = g j) {k : Nat} (hk : k < m) : aheadN m h k = aheadN m g k := by
  unfold aheadN
  rw [List.filter_congr (fun j hj => ?_)]
  unfold bef
  rw [hg j (List.mem_range.1 hj), hg k hk]
theorem quota_congr {n m : Nat} {h g : Nat → Nat} (hg : ∀ j, j < m → h j = g j) {k : Nat} (hk : k < m) : quotaN n m h k = quotaN n m g k := by
  unfold quotaN; rw [ahead_congr hg hk]
/-- Assigned again from its own answer nothing moves. -/
theorem asg_again {m : Nat} {who : List (Option Nat)} (hm : 0 < m) (hw : okW m who) : asgO m (asgO m who) = asgO m who := by
  have A := asg_main hm hw
  have hw2 : okW m (asgO m who) := fun o ho => .inr (A.all o ho)
  have B := asg_main hm hw2
  have hq : ∀ k, k < m → quoO m (asgO m who) k = quoO m who k := fun k hk => by
    show quotaN (asgO m who).length m (cntO (asgO m who)) k = quotaN who.length m (cntO who) k
    rw [A.len, quota_congr (g := quotaN who.length m (cntO who)) A.cnt hk, quota_again _ _ _ hm hk]
  refine List.ext_getElem? (fun i => ?_)
  by_cases hi : i < who.length
  · obtain ⟨o, ho⟩ := get_some (l := asgO m who) (i := i) (by rw [A.len]; exact hi)
    obtain ⟨k, hk, rfl⟩ := A.all o (List.mem_of_getElem? ho)
    rw [ho]
    exact B.keep i k (by rw [hq k hk, A.cnt k hk]; exact Nat.le_refl _) ho
  · rw [List.getElem?_eq_none (by rw [B.len, A.len]; omega), List.getElem?_eq_none (by rw [A.len]; omega)]
end Go.Proofs.Ytdlkdagmaeapdaa

/- Plain mathematics of shares: one member more, one member less. No condition. -/
namespace Go.Proofs.Ytdlkdagmaeapdaa
open Go.RowKit
set_option linter.unusedVariables false

/-! ### Places in a list that has one more at t -/
def emb (t k : Nat) : Nat := if k < t then k else k + 1
def del (t k : Nat) : Option Nat := if k = t then none else if k < t then some k else some (k - 1)
theorem emb_ne (t k : Nat) : emb t k ≠ t := by unfold emb; split <;> omega
theorem emb_lt {n t k : Nat} (ht : t ≤ n) (hk : k < n) : emb t k < n + 1 := by unfold emb; split <;> omega
theorem emb_inj {t a b : Nat} (h : emb t a = emb t b) : a = b := by unfold emb at h; split at h <;> split at h <;> omega
theorem del_emb (t k : Nat) : del t (emb t k) = some k := by
  unfold del
  rw [if_neg (emb_ne t k)]
  unfold emb
  by_cases h : k < t
  · rw [if_pos h, if_pos h]
  · rw [if_neg h, if_neg (by omega)]; simp
theorem del_self (t : Nat) : del t t = none := by unfold del; rw [if_pos rfl]
theorem emb_del {n t j : Nat} (ht : t ≤ n) (hj : j < n + 1) (h : j ≠ t) : ∃ k, k < n ∧ emb t k = j ∧ del t j = some k := by
  by_cases hl : j < t
  · have e : emb t j = j := by unfold emb; rw [if_pos hl]
    exact ⟨j, by omega, e, by have := del_emb t j; rwa [e] at this⟩
  · have e : emb t (j - 1) = j := by unfold emb; rw [if_neg (by omega)]; omega
    exact ⟨j - 1, by omega, e, by have := del_emb t (j - 1); rwa [e] at this⟩
theorem sumTo_emb (f : Nat → Nat) (t : Nat) : ∀ {n : Nat}, t ≤ n → sumTo (n + 1) f = sumTo n (fun k => f (emb t k)) + f t
  | 0, h => by
    have : t = 0 := by omega
    subst this; rfl
  | n + 1, h => by
    by_cases ht : t = n + 1
    · subst ht
      rw [sumTo, sumTo_congr (f := f) (g := fun k => f (emb (n + 1) k)) (fun k hk => by unfold emb; rw [if_pos hk])]
    · rw [sumTo, sumTo_emb f t (n := n) (by omega), sumTo, show emb t n = n + 1 from by unfold emb; rw [if_neg (by omega)]]; omega
def cntP (m : Nat) (p : Nat → Bool) : Nat := ((List.range m).filter p).length
theorem cntP_emb (p : Nat → Bool) {t n : Nat} (ht : t ≤ n) : cntP (n + 1) p = cntP n (fun k => p (emb t k)) + if p t = true then 1 else 0 := by
  unfold cntP
  rw [← sumTo_if, ← sumTo_if, sumTo_emb _ t ht]
theorem cntP_le {m : Nat} {p q : Nat → Bool} (h : ∀ k, k < m → p k = true → q k = true) : cntP m p ≤ cntP m q := flt_le (fun i hi => h i (List.mem_range.1 hi))
theorem cntP_lt {m a : Nat} {p q : Nat → Bool} (h : ∀ k, k < m → p k = true → q k = true) (ha : a < m) (hq : q a = true) (hp : p a = false) : cntP m p < cntP m q := flt_lt (fun i hi => h i (List.mem_range.1 hi)) (List.mem_range.2 ha) hq hp
/-- Of what was given just the rest have one more. -/
theorem more_count (n m : Nat) (h c : Nat → Nat) (hm : 0 < m) (hc : ∀ k, k < m → c k = quotaN n m h k) : cntP m (fun k => decide (c k = n / m + 1)) = n % m := by
  have h1 := ahead_count (m := m) (r := n % m) h (Nat.le_of_lt (Nat.mod_lt _ hm))
  rw [← h1]
  unfold cntP
  rw [List.filter_congr (fun k hk => ?_)]
  have e := hc k (List.mem_range.1 hk)
  unfold quotaN at e
  by_cases ha : aheadN m h k < n % m
  · rw [if_pos ha] at e; simp [e, ha]
  · rw [if_neg ha] at e; simp [e, ha]
theorem div_next (p n : Nat) (hn : 0 < n) : p / (n + 1) ≤ p / n := Nat.div_le_div_left (by omega) hn
theorem mod_next {p n : Nat} (hn : 0 < n) (h : p / (n + 1) = p / n) : p % (n + 1) ≤ p % n := by
  have h1 := Nat.div_add_mod p n
  have h2 := Nat.div_add_mod p (n + 1)
  rw [h, Nat.add_mul, Nat.one_mul] at h2
  generalize n * (p / n) = x at h1 h2
  generalize p / n = y at h2
  generalize p % n = u at h1 ⊢
  generalize p % (n + 1) = v at h2 ⊢
  omega
/-- One more: no quota is above what each has. -/
theorem join_le {p n t : Nat} {h a c : Nat → Nat} (hn : 0 < n) (ht : t ≤ n) (ha : ∀ k, k < n → a k = quotaN p n h k) (hc : ∀ k, k < n → c (emb t k) = a k) {k : Nat} (hk : k < n) :
    quotaN p (n + 1) c (emb t k) ≤ a k := by
  have h1 := quota_ge p n h k
  have h2 := quota_ge p (n + 1) c (emb t k)
  have h3 := div_next p n hn
  have e := ha k hk
  by_cases hq : p / (n + 1) = p / n
  · by_cases hb : a k = p / n + 1
    · omega
    · have hm := mod_next hn hq
      have h4 := more_count p n h a hn ha
      have h5 : cntP n (fun j => decide (a j = p / n + 1)) ≤ aheadN (n + 1) c (emb t k) := by
        show _ ≤ cntP (n + 1) (fun j => bef c j (emb t k))
        rw [cntP_emb _ ht]
        refine Nat.le_trans (cntP_le (fun j hj hp => ?_)) (Nat.le_add_right _ _)
        have hp : a j = p / n + 1 := by simpa using hp
        exact bef_iff.2 (.inl (by rw [hc k hk, hc j hj]; omega))
      have h6 : quotaN p (n + 1) c (emb t k) = p / (n + 1) := by unfold quotaN; rw [if_neg (by omega)]; rfl
      omega
  · omega
/-- One less: no quota is below what each has. -/
theorem leave_le {p n t : Nat} {h b c : Nat → Nat} (hn : 0 < n) (ht : t ≤ n) (hb : ∀ k, k < n + 1 → b k = quotaN p (n + 1) h k) (hc : ∀ k, k < n → c k = b (emb t k)) {k : Nat} (hk : k < n) :
    b (emb t k) ≤ quotaN p n c k := by
  have h1 := quota_ge p (n + 1) h (emb t k)
  have h2 := quota_ge p n c k
  have h3 := div_next p n hn
  have e := hb _ (emb_lt ht hk)
  by_cases hq : p / (n + 1) = p / n
  · by_cases hk1 : b (emb t k) = p / n + 1
    · have hm := mod_next hn hq
      have h4 := more_count p (n + 1) h b (by omega) hb
      have h5 : aheadN n c k < cntP n (fun j => decide (b (emb t j) = p / n + 1)) := by
        show cntP n (fun j => bef c j k) < _
        refine cntP_lt (a := k) (fun j hj hp => ?_) hk (by simpa using hk1) ?_
        · have hp := bef_iff.1 hp
          rw [hc j hj, hc k hk] at hp
          have := quota_ge p (n + 1) h (emb t j)
          have := hb _ (emb_lt ht hj)
          simp; omega
        · cases hx : bef c k k with
          | false => rfl
          | true => have := bef_iff.1 hx; omega
      have h6 := cntP_emb (fun j => decide (b j = p / n + 1)) ht
      rw [hq] at h4
      have h7 : cntP n (fun j => decide (b (emb t j) = p / n + 1)) ≤ p % n := by omega
      have h8 : quotaN p n c k = p / n + 1 := by unfold quotaN; rw [if_pos (by omega)]
      omega
    · omega
  · omega

/-! ### Owners anew -/
def embL (t : Nat) (l : List (Option Nat)) : List (Option Nat) := l.map (fun o => o.map (emb t))
def delL (t : Nat) (l : List (Option Nat)) : List (Option Nat) := l.map (fun o => o.bind (del t))
theorem cnt_embL (t k : Nat) : ∀ l : List (Option Nat), cntO (embL t l) (emb t k) = cntO l k
  | [] => rfl
  | o :: l => by
    show cntO (o.map (emb t) :: embL t l) (emb t k) = _
    rw [cntO_cons, cntO_cons, cnt_embL t k l]
    cases o with
    | none => simp
    | some j =>
      by_cases h : j = k
      · subst h; simp
      · rw [if_neg (by simpa using fun e => h (emb_inj e)), if_neg (by simpa using h)]
theorem cnt_embL_self (t : Nat) : ∀ l : List (Option Nat), cntO (embL t l) t = 0
  | [] => rfl
  | o :: l => by
    show cntO (o.map (emb t) :: embL t l) t = _
    rw [cntO_cons, cnt_embL_self t l]
    cases o with
    | none => simp
    | some j => rw [if_neg (by simpa using emb_ne t j)]
theorem del_some {t j k : Nat} : del t j = some k ↔ j = emb t k := by
  constructor
  · intro h
    unfold del at h
    split at h
    · cases h
    · split at h
      · cases h; rename_i h2; unfold emb; rw [if_pos h2]
      · cases h; unfold emb; rw [if_neg (by omega)]; omega
  · rintro rfl; exact del_emb t k
theorem cnt_delL (t k : Nat) : ∀ l : List (Option Nat), cntO (delL t l) k = cntO l (emb t k)
  | [] => rfl
  | o :: l => by
    show cntO (o.bind (del t) :: delL t l) k = _
    rw [cntO_cons, cntO_cons, cnt_delL t k l]
    cases o with
    | none => simp
    | some j =>
      by_cases h : j = emb t k
      · subst h; rw [if_pos (by simpa using del_emb t k), if_pos rfl]
      · rw [if_neg (by simpa using fun e => h (del_some.1 e)), if_neg (by simpa using h)]
/-- As many here as there, and all of these there: the same. -/
theorem cnt_same {k : Nat} : ∀ {l r : List (Option Nat)}, (∀ i : Nat, l[i]? = some (some k) → r[i]? = some (some k)) → cntO r k ≤ cntO l k → l.length = r.length → ∀ i : Nat, r[i]? = some (some k) → l[i]? = some (some k)
  | [], [], _, _, _, i, h => h
  | [], _ :: _, _, _, h, _, _ => by simp at h
  | _ :: _, [], _, _, h, _, _ => by simp at h
  | a :: l, b :: r, hs, hc, hl, i, h => by
    have hs' : ∀ i : Nat, l[i]? = some (some k) → r[i]? = some (some k) := fun i hi => by
      have := hs (i + 1) (by simpa using hi); simpa using this
    have hge : ∀ {l r : List (Option Nat)}, (∀ i : Nat, l[i]? = some (some k) → r[i]? = some (some k)) → cntO l k ≤ cntO r k := by
      intro l
      induction l with
      | nil => intro r _; rw [cntO_nil]; omega
      | cons a l ih =>
        intro r hs
        cases r with
        | nil =>
          have : a ≠ some k := fun e => by have := hs 0 (by simp [e]); simp at this
          have h2 := ih (r := []) (fun i hi => by have := hs (i + 1) (by simpa using hi); simp at this)
          rw [cntO_cons, if_neg this]; omega
        | cons b r =>
          have h2 := ih (r := r) (fun i hi => by have := hs (i + 1) (by simpa using hi); simpa using this)
          rw [cntO_cons, cntO_cons]
          by_cases ha : a = some k
          · have : b = some k := by have := hs 0 (by simp [ha]); simpa using this
            rw [if_pos ha, if_pos this]; omega
          · rw [if_neg ha]; omega
    rw [cntO_cons, cntO_cons] at hc
    have h2 := hge hs'
    have hab : b = some k → a = some k := fun hb => by
      by_cases ha : a = some k
      · exact ha
      · rw [if_pos hb, if_neg ha] at hc; omega
    cases i with
    | zero => simp at h ⊢; exact hab h
    | succ i =>
      rw [List.getElem?_cons_succ] at h ⊢
      refine cnt_same (l := l) (r := r) hs' ?_ (by simpa using hl) i h
      by_cases hb : b = some k
      · rw [if_pos hb, if_pos (hab hb)] at hc; omega
      · rw [if_neg hb] at hc
        by_cases ha : a = some k
        · exact absurd (by have := hs 0 (by simp [ha]); simpa using this) hb
        · rw [if_neg ha] at hc; omega
/-- All have somebody, and as many as shares were given. -/
structure Given (n : Nat) (who : List (Option Nat)) (h : Nat → Nat) : Prop where
  all : ∀ o, o ∈ who → ∃ k, k < n ∧ o = some k
  cnt : ∀ k, k < n → cntO who k = quotaN who.length n h k
theorem AsgO.given {m : Nat} {who out : List (Option Nat)} (A : AsgO m who out) : Given m out (cntO who) :=
  ⟨A.all, fun k hk => by rw [A.cnt k hk, A.len]; rfl⟩
theorem Given.okE {n t : Nat} {who : List (Option Nat)} {h : Nat → Nat} (G : Given n who h) (ht : t ≤ n) : okW (n + 1) (embL t who) := fun o ho => by
  obtain ⟨x, hx, rfl⟩ := List.mem_map.1 ho
  obtain ⟨k, hk, rfl⟩ := G.all x hx
  exact .inr ⟨_, emb_lt ht hk, rfl⟩
theorem Given.okD {n t : Nat} {who : List (Option Nat)} {h : Nat → Nat} (G : Given (n + 1) who h) (ht : t ≤ n) : okW n (delL t who) := fun o ho => by
  obtain ⟨x, hx, rfl⟩ := List.mem_map.1 ho
  obtain ⟨j, hj, rfl⟩ := G.all x hx
  by_cases hjt : j = t
  · subst hjt; exact .inl (by simpa using del_self j)
  · obtain ⟨k, hk, _, e⟩ := emb_del ht hj hjt
    exact .inr ⟨k, hk, by simpa using e⟩
/-- One member comes: just what it gets has moved. -/
theorem join_moves {n t : Nat} {who : List (Option Nat)} {h : Nat → Nat} (hn : 0 < n) (ht : t ≤ n) (G : Given n who h) {i : Nat} (hi : i < who.length) :
    (∃ k, k < n ∧ who[i]? = some (some k) ∧ (asgO (n + 1) (embL t who))[i]? = some (some (emb t k))) ∨ (asgO (n + 1) (embL t who))[i]? = some (some t) := by
  have A := asg_main (m := n + 1) (by omega) (G.okE ht)
  have hlen : (embL t who).length = who.length := List.length_map _
  obtain ⟨o, ho⟩ := get_some (l := asgO (n + 1) (embL t who)) (i := i) (by rw [A.len, hlen]; exact hi)
  obtain ⟨j, hj, rfl⟩ := A.all o (List.mem_of_getElem? ho)
  by_cases hjt : j = t
  · subst hjt; exact .inr ho
  · obtain ⟨k, hk, rfl, _⟩ := emb_del ht hj hjt
    have hq : quoO (n + 1) (embL t who) (emb t k) ≤ cntO (embL t who) (emb t k) := by
      show quotaN (embL t who).length (n + 1) (cntO (embL t who)) (emb t k) ≤ _
      rw [cnt_embL, hlen]
      exact join_le hn ht G.cnt (fun k _ => cnt_embL t k who) hk
    have h1 := cnt_same (k := emb t k) (l := keptO (n + 1) (embL t who)) (r := asgO (n + 1) (embL t who)) (fun i hi => (A.stay i _ hi).2) (by rw [A.cnt _ hj, A.kept]; omega)
      (by rw [A.len]; exact keep_len _ _ _) i ho
    have h2 := (A.stay i _ h1).1
    refine .inl ⟨k, hk, ?_, ho⟩
    obtain ⟨x, hx⟩ := get_some (l := who) (i := i) hi
    obtain ⟨y, hy, rfl⟩ := G.all x (List.mem_of_getElem? hx)
    unfold embL at h2
    rw [List.getElem?_map, hx] at h2
    have : emb t y = emb t k := by simpa using h2
    rw [hx, emb_inj this]
theorem join_gets {n t : Nat} {who : List (Option Nat)} {h : Nat → Nat} (hn : 0 < n) (ht : t ≤ n) (G : Given n who h) :
    who.length / (n + 1) ≤ cntO (asgO (n + 1) (embL t who)) t ∧ cntO (asgO (n + 1) (embL t who)) t ≤ who.length / (n + 1) + 1 := by
  have A := asg_main (m := n + 1) (by omega) (G.okE ht)
  have hlen : (embL t who).length = who.length := List.length_map _
  rw [A.cnt t (by omega)]
  have := quota_ge (embL t who).length (n + 1) (cntO (embL t who)) t
  rw [hlen] at this
  unfold quoO
  rw [hlen]; exact this
/-- One member goes: just its own move. -/
theorem leave_moves {n t : Nat} {who : List (Option Nat)} {h : Nat → Nat} (hn : 0 < n) (ht : t ≤ n) (G : Given (n + 1) who h) {i : Nat} {k : Nat} (hk : k < n) (hi : who[i]? = some (some (emb t k))) :
    (asgO n (delL t who))[i]? = some (some k) := by
  have A := asg_main (m := n) hn (G.okD ht)
  have hlen : (delL t who).length = who.length := List.length_map _
  refine A.keep i k ?_ ?_
  · show _ ≤ quotaN (delL t who).length n (cntO (delL t who)) k
    rw [cnt_delL, hlen]
    exact leave_le hn ht G.cnt (fun k _ => cnt_delL t k who) hk
  · unfold delL
    rw [List.getElem?_map, hi]
    simp [del_emb]
end Go.Proofs.Ytdlkdagmaeapdaa

/- Plain mathematics of shares: members by their numbers, places, owners. No condition. -/
namespace Go.Proofs.Ytdlkdagmaeapdaa
open Go.RowKit
set_option linter.unusedVariables false

abbrev Plc := Int × Int
abbrev Own := Plc × Int
def hadI (os : List Own) (p : Plc) : Int := match os.find? (fun o => decide (o.1 = p)) with
  | some o => o.2
  | none => -1
def idxI : List Int → Int → Option Nat
  | [], _ => none
  | y :: r, x => if y = x then some 0 else (idxI r x).map (· + 1)
def whoI (ms : List Int) (ps : List Plc) (os : List Own) : List (Option Nat) := ps.map (fun p => idxI ms (hadI os p))
def idI (ms : List Int) : Option Nat → Int
  | some k => ms.getD k (-1)
  | none => -1
def outI (ms : List Int) (ps : List Plc) (os : List Own) : List (Option Nat) := asgO ms.length (whoI ms ps os)
def asgI (ms : List Int) (ps : List Plc) (os : List Own) : List Own := List.zipWith (fun p o => (p, idI ms o)) ps (outI ms ps os)
def risI (ms : List Int) : Prop := ms.length ≤ 8 ∧ (∀ x, x ∈ ms → 0 ≤ x ∧ x < 16) ∧ ms.Pairwise (· < ·)
def disI (ps : List Plc) : Prop := (∀ p, p ∈ ps → 0 ≤ p.1 ∧ 0 ≤ p.2) ∧ ps.Nodup
def ofI (os : List Own) (id : Int) : List Plc := (os.filter (fun o => decide (o.2 = id))).map (·.1)
def movedI (was now : List Own) : List Plc := (now.filter (fun o => decide (0 ≤ hadI was o.1) && decide (hadI was o.1 ≠ o.2))).map (·.1)

/-! ### Numbers of members -/
theorem idx_some {x : Int} {k : Nat} : ∀ {ms : List Int}, idxI ms x = some k → ms[k]? = some x
  | [], h => by cases h
  | y :: r, h => by
    rw [idxI] at h
    split at h
    · rename_i e; cases h; simp [e]
    · cases hr : idxI r x with
      | none => rw [hr] at h; cases h
      | some j => rw [hr] at h; cases h; simpa using idx_some hr
theorem idx_none {x : Int} : ∀ {ms : List Int}, idxI ms x = none → x ∉ ms
  | [], _ => by simp
  | y :: r, h => by
    rw [idxI] at h
    split at h
    · cases h
    · rename_i hne
      cases hr : idxI r x with
      | none => intro hm; rcases List.mem_cons.1 hm with rfl | hm
                · exact hne rfl
                · exact idx_none hr hm
      | some j => rw [hr] at h; cases h
theorem idx_at {ms : List Int} (hn : ms.Pairwise (· < ·)) {k : Nat} {x : Int} (h : ms[k]? = some x) : idxI ms x = some k := by
  cases hi : idxI ms x with
  | none => exact absurd (List.mem_of_getElem? h) (idx_none hi)
  | some j =>
    have hj := idx_some hi
    obtain ⟨h1, e1⟩ := List.getElem?_eq_some_iff.1 h
    obtain ⟨h2, e2⟩ := List.getElem?_eq_some_iff.1 hj
    have hp := List.pairwise_iff_getElem.1 hn
    by_cases hjk : j < k
    · have := hp j k h2 h1 hjk; omega
    · by_cases hkj : k < j
      · have := hp k j h1 h2 hkj; omega
      · rw [show j = k by omega]
theorem idx_iff {ms : List Int} (hn : ms.Pairwise (· < ·)) {k : Nat} (hk : k < ms.length) {x : Int} : idxI ms x = some k ↔ x = ms[k] :=
  ⟨fun h => by have := idx_some h; rw [List.getElem?_eq_getElem hk] at this; exact (Option.some.inj this).symm, fun h => idx_at hn (by rw [List.getElem?_eq_getElem hk, h])⟩
theorem idx_lt {ms : List Int} {x : Int} {k : Nat} (h : idxI ms x = some k) : k < ms.length := (List.getElem?_eq_some_iff.1 (idx_some h)).1
theorem idI_at {ms : List Int} {k : Nat} (hk : k < ms.length) : idI ms (some k) = ms[k] := by unfold idI; simp [List.getD, List.getElem?_eq_getElem hk]
theorem idx_id {ms : List Int} (hr : risI ms) {o : Option Nat} (ho : o = none ∨ ∃ k, k < ms.length ∧ o = some k) : idxI ms (idI ms o) = o := by
  rcases ho with rfl | ⟨k, hk, rfl⟩
  · cases hi : idxI ms (idI ms none) with
    | none => rfl
    | some j =>
      have := hr.2.1 _ (List.mem_of_getElem? (idx_some hi))
      have e : idI ms none = -1 := rfl
      omega
  · rw [idI_at hk]; exact (idx_iff hr.2.2 hk).2 rfl
theorem who_ok (ms : List Int) (ps : List Plc) (os : List Own) : okW ms.length (whoI ms ps os) := fun o ho => by
  obtain ⟨p, hp, rfl⟩ := List.mem_map.1 ho
  cases hi : idxI ms (hadI os p) with
  | none => exact .inl rfl
  | some k => exact .inr ⟨k, idx_lt hi, rfl⟩
theorem who_len (ms : List Int) (ps : List Plc) (os : List Own) : (whoI ms ps os).length = ps.length := List.length_map _

/-! ### Without members -/
theorem asg_zero : ∀ {who : List (Option Nat)}, okW 0 who → asgO 0 who = who := by
  have hk : ∀ (q c : Nat → Nat) (l : List (Option Nat)), okW 0 l → keepL q c l = l := by
    intro q c l
    induction l with
    | nil => intro _; rfl
    | cons o l ih =>
      intro h
      rcases h o (List.mem_cons_self ..) with rfl | ⟨k, hk, _⟩
      · rw [keepL, ih (okW_tail h)]
      · omega
  have hf : ∀ (q c : Nat → Nat) (l : List (Option Nat)), okW 0 l → fillL 0 q c l = l := by
    intro q c l
    induction l with
    | nil => intro _; rfl
    | cons o l ih =>
      intro h
      rcases h o (List.mem_cons_self ..) with rfl | ⟨k, hk, _⟩
      · have : roomK 0 q c = none := rfl
        rw [fillL, this]
        show none :: fillL 0 q c l = _
        rw [ih (okW_tail h)]
      · omega
  intro who h
  unfold asgO keptO
  rw [hk _ _ _ h, hf _ _ _ h]
theorem out_len (ms : List Int) (ps : List Plc) (os : List Own) : (outI ms ps os).length = ps.length := by
  unfold outI asgO keptO
  rw [fill_len, keep_len, who_len]
theorem out_ok (ms : List Int) (ps : List Plc) (os : List Own) : okW ms.length (outI ms ps os) := by
  by_cases hm : 0 < ms.length
  · exact fun o ho => .inr ((asg_main hm (who_ok ms ps os)).all o ho)
  · have e : ms = [] := List.eq_nil_of_length_eq_zero (by omega)
    subst e
    have h := who_ok [] ps os
    show okW 0 (asgO 0 _)
    rw [asg_zero h]; exact h
theorem asgI_len (ms : List Int) (ps : List Plc) (os : List Own) : (asgI ms ps os).length = ps.length := by
  unfold asgI; rw [List.length_zipWith, out_len]; omega
theorem asgI_at {ms : List Int} {ps : List Plc} {os : List Own} {i : Nat} {p : Plc} {o : Option Nat} (hp : ps[i]? = some p) (ho : (outI ms ps os)[i]? = some o) : (asgI ms ps os)[i]? = some (p, idI ms o) := by
  unfold asgI; rw [List.getElem?_zipWith, hp, ho]

/-! ### Who had what, of what was given -/
theorem had_at : ∀ {os : List Own} {i : Nat} {p : Plc} {x : Int}, (os.map (·.1)).Nodup → os[i]? = some (p, x) → hadI os p = x
  | [], _, _, _, _, h => by cases h
  | o :: os, i, p, x, hn, h => by
    rw [List.map_cons, List.nodup_cons] at hn
    unfold hadI
    rw [List.find?_cons]
    cases i with
    | zero => simp at h; subst h; simp
    | succ i =>
      have h' : os[i]? = some (p, x) := by simpa using h
      have hne : o.1 ≠ p := fun e => hn.1 (List.mem_map.2 ⟨_, List.mem_of_getElem? h', e.symm⟩)
      rw [decide_eq_false hne]
      exact had_at hn.2 h'
theorem asgI_places (ms : List Int) (ps : List Plc) (os : List Own) : (asgI ms ps os).map (·.1) = ps := by
  unfold asgI
  rw [List.map_zipWith]
  refine List.ext_getElem? (fun i => ?_)
  rw [List.getElem?_zipWith]
  by_cases hi : i < ps.length
  · obtain ⟨p, hp⟩ := get_some (l := ps) (i := i) hi
    obtain ⟨o, ho⟩ := get_some (l := outI ms ps os) (i := i) (by rw [out_len]; exact hi)
    rw [hp, ho]
  · rw [List.getElem?_eq_none (by omega)]
theorem had_asg {ms : List Int} {ps : List Plc} {os : List Own} (hd : disI ps) {i : Nat} {p : Plc} {o : Option Nat} (hp : ps[i]? = some p) (ho : (outI ms ps os)[i]? = some o) : hadI (asgI ms ps os) p = idI ms o :=
  had_at (by rw [asgI_places]; exact hd.2) (asgI_at hp ho)
theorem who_asg {ms ns : List Int} {ps : List Plc} {os : List Own} (hd : disI ps) {f : Option Nat → Option Nat} (hf : ∀ o, o ∈ outI ms ps os → idxI ns (idI ms o) = f o) : whoI ns ps (asgI ms ps os) = (outI ms ps os).map f := by
  refine List.ext_getElem? (fun i => ?_)
  unfold whoI
  rw [List.getElem?_map, List.getElem?_map]
  by_cases hi : i < ps.length
  · obtain ⟨p, hp⟩ := get_some (l := ps) (i := i) hi
    obtain ⟨o, ho⟩ := get_some (l := outI ms ps os) (i := i) (by rw [out_len]; exact hi)
    rw [hp, ho]
    simp only [Option.map_some]
    rw [had_asg hd hp ho, hf o (List.mem_of_getElem? ho)]
  · rw [List.getElem?_eq_none (by omega), List.getElem?_eq_none (by rw [out_len]; omega)]; rfl
theorem who_again {ms : List Int} {ps : List Plc} {os : List Own} (hr : risI ms) (hd : disI ps) : whoI ms ps (asgI ms ps os) = outI ms ps os := by
  rw [who_asg (f := fun o => o) hd (fun o ho => idx_id hr (out_ok ms ps os o ho))]; exact List.map_id _

/-! ### 16.5: again nothing moves -/
theorem asgI_again {ms : List Int} {ps : List Plc} {os : List Own} (hr : risI ms) (hd : disI ps) : asgI ms ps (asgI ms ps os) = asgI ms ps os := by
  have e : outI ms ps (asgI ms ps os) = outI ms ps os := by
    show asgO ms.length (whoI ms ps (asgI ms ps os)) = _
    rw [who_again hr hd]
    by_cases hm : 0 < ms.length
    · exact asg_again hm (who_ok ms ps os)
    · have e : ms = [] := List.eq_nil_of_length_eq_zero (by omega)
      subst e
      exact asg_zero (out_ok [] ps os)
  show List.zipWith _ _ (outI ms ps (asgI ms ps os)) = _
  rw [e]; rfl
theorem moved_none {ms : List Int} {ps : List Plc} {os : List Own} (hd : disI ps) : movedI (asgI ms ps os) (asgI ms ps os) = [] := by
  unfold movedI
  rw [List.filter_eq_nil_iff.2, List.map_nil]
  intro o ho
  obtain ⟨i, hi, e⟩ := List.mem_iff_getElem.1 ho
  have := had_at (os := asgI ms ps os) (i := i) (p := o.1) (x := o.2) (by rw [asgI_places]; exact hd.2) (by rw [List.getElem?_eq_getElem hi, e])
  simp [this]

/-! ### 16.3, 16.4 -/
theorem asgI_all {ms : List Int} {ps : List Plc} {os : List Own} {i : Nat} {p : Plc} (hp : ps[i]? = some p) :
    ∃ x, (asgI ms ps os)[i]? = some (p, x) ∧ (0 < ms.length → x ∈ ms) ∧ (ms.length = 0 → x = -1) := by
  obtain ⟨o, ho⟩ := get_some (l := outI ms ps os) (i := i) (by rw [out_len]; exact (List.getElem?_eq_some_iff.1 hp).1)
  refine ⟨_, asgI_at hp ho, fun hm => ?_, fun hm => ?_⟩
  · obtain ⟨k, hk, rfl⟩ := (asg_main hm (who_ok ms ps os)).all o (List.mem_of_getElem? ho)
    rw [idI_at hk]; exact List.getElem_mem hk
  · rcases out_ok ms ps os o (List.mem_of_getElem? ho) with rfl | ⟨k, hk, _⟩
    · rfl
    · omega
theorem of_cnt {ms : List Int} (hr : risI ms) {k : Nat} (hk : k < ms.length) : ∀ (ps : List Plc) (out : List (Option Nat)), okW ms.length out → ps.length = out.length →
    (ofI (List.zipWith (fun p o => (p, idI ms o)) ps out) ms[k]).length = cntO out k
  | [], [], _, _ => rfl
  | [], _ :: _, _, h => by simp at h
  | _ :: _, [], _, h => by simp at h
  | p :: ps, o :: out, ho, hl => by
    have ih := of_cnt hr hk ps out (okW_tail ho) (by simpa using hl)
    unfold ofI at ih ⊢
    rw [List.length_map] at ih ⊢
    rw [List.zipWith_cons_cons, List.filter_cons, cntO_cons]
    have hiff : idI ms o = ms[k] ↔ o = some k := by
      constructor
      · intro e
        rw [← idx_id hr (ho o (List.mem_cons_self ..)), e]; exact (idx_iff hr.2.2 hk).2 rfl
      · rintro rfl; exact idI_at hk
    by_cases h : o = some k
    · rw [if_pos (by simpa using hiff.2 h), if_pos h, List.length_cons, ih]; omega
    · rw [if_neg (by simpa using fun e => h (hiff.1 e)), if_neg h, ih]; omega
/-- What a member has. -/
theorem of_asg {ms : List Int} {ps : List Plc} {os : List Own} (hr : risI ms) {k : Nat} (hk : k < ms.length) : (ofI (asgI ms ps os) ms[k]).length = quoO ms.length (whoI ms ps os) k := by
  rw [← (asg_main (by omega) (who_ok ms ps os)).cnt k hk]
  exact of_cnt hr hk ps _ (out_ok ms ps os) (by rw [out_len])
theorem of_even {ms : List Int} {ps : List Plc} {os : List Own} (hr : risI ms) {k : Nat} (hk : k < ms.length) : ps.length / ms.length ≤ (ofI (asgI ms ps os) ms[k]).length ∧ (ofI (asgI ms ps os) ms[k]).length ≤ ps.length / ms.length + 1 := by
  rw [of_asg hr hk]
  have := quota_ge (whoI ms ps os).length ms.length (cntO (whoI ms ps os)) k
  rw [who_len] at this
  unfold quoO; rw [who_len]; exact this
end Go.Proofs.Ytdlkdagmaeapdaa

/- Plain mathematics of shares: what stays, what moves when one member comes or goes, by numbers. No condition. -/
namespace Go.Proofs.Ytdlkdagmaeapdaa
open Go.RowKit
set_option linter.unusedVariables false

/-! ### 16.5: what stays -/
/-- In so many places both lists tell this. -/
def bothN : Nat → List (Option Nat) → List (Option Nat) → Nat
  | k, a :: l, b :: r => (if a = some k ∧ b = some k then 1 else 0) + bothN k l r
  | _, _, _ => 0
theorem both_ge {k : Nat} : ∀ {l r s : List (Option Nat)}, l.length = r.length → s.length = l.length → (∀ i : Nat, s[i]? = some (some k) → l[i]? = some (some k) ∧ r[i]? = some (some k)) → cntO s k ≤ bothN k l r
  | [], _, [], _, _, _ => by rw [cntO_nil]; omega
  | [], _, _ :: _, _, h, _ => by simp at h
  | _ :: _, [], _, h, _, _ => by simp at h
  | _ :: _, _ :: _, [], _, h, _ => by simp at h
  | a :: l, b :: r, c :: s, h1, h2, hs => by
    have ih := both_ge (k := k) (l := l) (r := r) (s := s) (by simpa using h1) (by simpa using h2) (fun i hi => by have := hs (i + 1) (by simpa using hi); simpa using this)
    rw [cntO_cons, bothN]
    by_cases hc : c = some k
    · have := hs 0 (by simp [hc])
      rw [if_pos hc, if_pos (by simpa using this)]; omega
    · rw [if_neg hc]; omega
theorem both_le {k : Nat} : ∀ (l r : List (Option Nat)), bothN k l r ≤ cntO l k
  | [], _ => by simp [bothN]
  | _ :: _, [] => by simp [bothN]
  | a :: l, b :: r => by
    have ih := both_le (k := k) l r
    rw [cntO_cons, bothN]
    by_cases ha : a = some k
    · rw [if_pos ha]; split <;> omega
    · rw [if_neg ha, if_neg (fun h => ha h.1)]; omega
theorem keeps_law {m : Nat} {who : List (Option Nat)} (hm : 0 < m) (hw : okW m who) {k : Nat} (hk : k < m) :
    min (cntO who k) (who.length / m) ≤ bothN k who (asgO m who) ∧ (cntO who k ≤ who.length / m → bothN k who (asgO m who) = cntO who k) := by
  have A := asg_main hm hw
  have h1 := both_ge (k := k) (l := who) (r := asgO m who) (s := keptO m who) A.len.symm (keep_len _ _ _) (fun i hi => A.stay i k hi)
  rw [A.kept] at h1
  have h2 := quota_ge who.length m (cntO who) k
  have h3 := both_le (k := k) who (asgO m who)
  have h4 : who.length / m ≤ quoO m who k := h2.1
  constructor
  · omega
  · intro h; omega

/-! ### 16.5: what moves -/
/-- What moved, counted place by place. -/
theorem moved_len {was : List Own} {k : Nat} : ∀ {now : List Own} {out : List (Option Nat)}, now.length = out.length →
    (∀ (i : Nat) (o : Own) (x : Option Nat), now[i]? = some o → out[i]? = some x → (decide (0 ≤ hadI was o.1) && decide (hadI was o.1 ≠ o.2)) = decide (x = some k)) → (movedI was now).length = cntO out k
  | [], [], _, _ => rfl
  | [], _ :: _, h, _ => by simp at h
  | _ :: _, [], h, _ => by simp at h
  | o :: now, x :: out, hl, h => by
    have ih := moved_len (was := was) (k := k) (now := now) (out := out) (by simpa using hl) (fun i o x h1 h2 => h (i + 1) o x (by simpa using h1) (by simpa using h2))
    unfold movedI at ih ⊢
    rw [List.length_map] at ih ⊢
    have h0 := h 0 o x rfl rfl
    rw [List.filter_cons, h0, cntO_cons]
    by_cases hx : x = some k
    · rw [if_pos (by simpa using hx), if_pos hx, List.length_cons, ih]; omega
    · rw [if_neg (by simpa using hx), if_neg hx, ih]; omega
/-- The members with one more at t. -/
structure OneMore (ms all : List Int) (t : Nat) (x : Int) : Prop where
  len : all.length = ms.length + 1
  le : t ≤ ms.length
  at_ : ∀ k : Nat, k < ms.length → all[emb t k]? = ms[k]?
  new : all[t]? = some x
theorem OneMore.idE {ms all : List Int} {t : Nat} {x : Int} (O : OneMore ms all t x) (hra : risI all) {k : Nat} (hk : k < ms.length) : idxI all (idI ms (some k)) = some (emb t k) := by
  rw [idI_at hk]
  exact idx_at hra.2.2 (by rw [O.at_ k hk, List.getElem?_eq_getElem hk])
theorem OneMore.idD {ms all : List Int} {t : Nat} {x : Int} (O : OneMore ms all t x) (hr : risI ms) (hra : risI all) {j : Nat} (hj : j < all.length) : idxI ms (idI all (some j)) = del t j := by
  rw [idI_at hj]
  by_cases hjt : j = t
  · subst hjt
    rw [del_self]
    have e : all[j] = x := by have := O.new; rw [List.getElem?_eq_getElem hj] at this; exact Option.some.inj this
    cases hi : idxI ms all[j] with
    | none => rfl
    | some k =>
      have h1 := idx_some hi
      have hk := idx_lt hi
      rw [← O.at_ k hk] at h1
      have h2 := idx_at hra.2.2 h1
      rw [(idx_iff hra.2.2 hj).2 rfl] at h2
      exact absurd (Option.some.inj h2).symm (emb_ne j k)
  · obtain ⟨k, hk, rfl, e⟩ := emb_del O.le (by rw [← O.len]; exact hj) hjt
    rw [e]
    refine idx_at hr.2.2 ?_
    rw [← O.at_ k hk, List.getElem?_eq_getElem hj]
section
variable {ms all : List Int} {t : Nat} {x : Int} {ps : List Plc} {os : List Own}
theorem join_who (O : OneMore ms all t x) (hm : 0 < ms.length) (hra : risI all) (hd : disI ps) : whoI all ps (asgI ms ps os) = embL t (outI ms ps os) :=
  who_asg (f := fun o => o.map (emb t)) hd (fun o ho => by
    obtain ⟨k, hk, rfl⟩ := (asg_main hm (who_ok ms ps os)).all o ho
    exact O.idE hra hk)
theorem leave_who (O : OneMore ms all t x) (hr : risI ms) (hra : risI all) (hd : disI ps) : whoI ms ps (asgI all ps os) = delL t (outI all ps os) :=
  who_asg (f := fun o => o.bind (del t)) hd (fun o ho => by
    obtain ⟨k, hk, rfl⟩ := (asg_main (by rw [O.len]; omega) (who_ok all ps os)).all o ho
    exact O.idD hr hra hk)
theorem id_ge {ms : List Int} (hr : risI ms) {k : Nat} (hk : k < ms.length) : 0 ≤ idI ms (some k) := by rw [idI_at hk]; exact (hr.2.1 _ (List.getElem_mem hk)).1
theorem id_new (O : OneMore ms all t x) : idI all (some t) = x := by
  have hj : t < all.length := by rw [O.len]; have := O.le; omega
  rw [idI_at hj]
  have := O.new; rw [List.getElem?_eq_getElem hj] at this; exact Option.some.inj this
theorem id_emb (O : OneMore ms all t x) {k : Nat} (hk : k < ms.length) : idI all (some (emb t k)) = idI ms (some k) := by
  have hj : emb t k < all.length := by rw [O.len]; exact emb_lt O.le hk
  rw [idI_at hj, idI_at hk]
  have := O.at_ k hk
  rw [List.getElem?_eq_getElem hj, List.getElem?_eq_getElem hk] at this; exact Option.some.inj this
theorem id_other (O : OneMore ms all t x) (hra : risI all) {k : Nat} (hk : k < ms.length) : idI ms (some k) ≠ x := fun e => by
  have h1 := O.idE hra hk
  rw [e] at h1
  have h2 := idx_at hra.2.2 O.new
  rw [h1] at h2
  exact emb_ne t k (Option.some.inj h2)
/-- One member comes: so many move as it gets; and it gets its share. -/
theorem join_law (O : OneMore ms all t x) (hm : 0 < ms.length) (hr : risI ms) (hra : risI all) (hd : disI ps) :
    (movedI (asgI ms ps os) (asgI all ps (asgI ms ps os))).length = (ofI (asgI all ps (asgI ms ps os)) x).length
      ∧ ps.length / (ms.length + 1) ≤ (ofI (asgI all ps (asgI ms ps os)) x).length ∧ (ofI (asgI all ps (asgI ms ps os)) x).length ≤ ps.length / (ms.length + 1) + 1 := by
  have G : Given ms.length (outI ms ps os) _ := (asg_main hm (who_ok ms ps os)).given
  have e2 : outI all ps (asgI ms ps os) = asgO (ms.length + 1) (embL t (outI ms ps os)) := by unfold outI; rw [← O.len]; exact congrArg _ (join_who O hm hra hd)
  have ht : t < all.length := by rw [O.len]; have := O.le; omega
  have ex : all[t] = x := by rw [← idI_at ht]; exact id_new O
  have hof : (ofI (asgI all ps (asgI ms ps os)) x).length = cntO (outI all ps (asgI ms ps os)) t := by
    rw [← ex]; exact of_cnt hra ht ps _ (out_ok all ps _) (by rw [out_len])
  refine ⟨?_, ?_⟩
  · rw [hof]
    refine moved_len (by rw [asgI_len, out_len]) (fun i o y h1 h2 => ?_)
    have hi : i < ps.length := by rw [← out_len all ps (asgI ms ps os)]; exact (List.getElem?_eq_some_iff.1 h2).1
    obtain ⟨p, hp⟩ := get_some (l := ps) (i := i) hi
    rw [asgI_at hp h2] at h1
    obtain rfl := Option.some.inj h1
    obtain ⟨z, hz⟩ := get_some (l := outI ms ps os) (i := i) (by rw [out_len]; exact hi)
    obtain ⟨k, hk, rfl⟩ := G.all z (List.mem_of_getElem? hz)
    have hh := had_asg (ms := ms) (os := os) hd hp hz
    show (decide (0 ≤ hadI (asgI ms ps os) p) && decide (hadI (asgI ms ps os) p ≠ idI all y)) = _
    rw [hh, decide_eq_true (id_ge hr hk), Bool.true_and]
    have hj := join_moves hm O.le G (i := i) (by rw [out_len]; exact hi)
    rw [← e2, h2] at hj
    rcases hj with ⟨k2, hk2, e3, e4⟩ | e3
    · rw [hz] at e3
      obtain rfl := Option.some.inj (Option.some.inj e3)
      obtain rfl := Option.some.inj e4
      rw [id_emb O hk, decide_eq_false (by simp), decide_eq_false (fun e => emb_ne t k (Option.some.inj e))]
    · obtain rfl := Option.some.inj e3
      rw [id_new O, decide_eq_true (id_other O hra hk), decide_eq_true rfl]
  · rw [hof, e2]
    have := join_gets hm O.le G
    rw [out_len] at this; exact this
/-- One member goes: so many move as it had. -/
theorem leave_law (O : OneMore ms all t x) (hm : 0 < ms.length) (hr : risI ms) (hra : risI all) (hd : disI ps) :
    (movedI (asgI all ps os) (asgI ms ps (asgI all ps os))).length = (ofI (asgI all ps os) x).length := by
  have G : Given (ms.length + 1) (outI all ps os) (cntO (whoI all ps os)) := by have := (asg_main (m := all.length) (by rw [O.len]; omega) (who_ok all ps os)).given; unfold outI; rw [← O.len]; exact this
  have e2 : outI ms ps (asgI all ps os) = asgO ms.length (delL t (outI all ps os)) := by unfold outI; exact congrArg _ (leave_who O hr hra hd)
  have ht : t < all.length := by rw [O.len]; have := O.le; omega
  have ex : all[t] = x := by rw [← idI_at ht]; exact id_new O
  have hof : (ofI (asgI all ps os) x).length = cntO (outI all ps os) t := by
    rw [← ex]; exact of_cnt hra ht ps _ (out_ok all ps _) (by rw [out_len])
  rw [hof]
  refine moved_len (by rw [asgI_len, out_len]) (fun i o y h1 h2 => ?_)
  have hi : i < ps.length := by rw [← out_len all ps os]; exact (List.getElem?_eq_some_iff.1 h2).1
  obtain ⟨p, hp⟩ := get_some (l := ps) (i := i) hi
  obtain ⟨z, hz⟩ := get_some (l := outI ms ps (asgI all ps os)) (i := i) (by rw [out_len]; exact hi)
  rw [asgI_at hp hz] at h1
  obtain rfl := Option.some.inj h1
  obtain ⟨j, hj, rfl⟩ := G.all y (List.mem_of_getElem? h2)
  have hja : j < all.length := by rw [O.len]; exact hj
  have hh := had_asg (ms := all) (os := os) hd hp h2
  show (decide (0 ≤ hadI (asgI all ps os) p) && decide (hadI (asgI all ps os) p ≠ idI ms z)) = _
  rw [hh, decide_eq_true (id_ge hra hja), Bool.true_and]
  obtain ⟨k, hk, rfl⟩ := (asg_main hm (who_ok ms ps (asgI all ps os))).all z (List.mem_of_getElem? hz)
  by_cases hjt : j = t
  · subst hjt
    have hne : x ≠ idI ms (some k) := fun e => id_other O hra hk e.symm
    rw [id_new O, decide_eq_true hne, decide_eq_true rfl]
  · obtain ⟨k2, hk2, rfl, _⟩ := emb_del O.le hj hjt
    have h4 := leave_moves hm O.le G hk2 h2
    rw [← e2, hz] at h4
    obtain rfl := Option.some.inj (Option.some.inj h4)
    rw [id_emb O hk, decide_eq_false (by simp), decide_eq_false (fun e => hjt (Option.some.inj e))]
end
end Go.Proofs.Ytdlkdagmaeapdaa

/- What Assign and Even answer, told of lists. No condition. -/
namespace Go.Proofs.Ytdlkdagmaeapdaa
open Go.RowKit
set_option linter.unusedVariables false

instance (ms : List Int) : Decidable (risI ms) := by unfold risI; infer_instance
instance (ps : List Plc) : Decidable (disI ps) := by unfold disI; infer_instance
def asgE (ms : List Int) (ps : List Plc) (os : List Own) : Int := if 256 < ps.length ∨ 256 < os.length then 3 else if risI ms ∧ disI ps then 0 else 2
def asgV (ms : List Int) (ps : List Plc) (os : List Own) : List Own := if asgE ms ps os = 0 then asgI ms ps os else []
def cntsI (ms : List Int) (os : List Own) : List Nat := ms.map (fun id => (ofI os id).length)
def evenI (ms : List Int) (os : List Own) : Int := match cntsI ms os with
  | [] => 0
  | x :: r => ((r.foldl max x : Nat) : Int) - ((r.foldl min x : Nat) : Int)
theorem asgE_ok {ms : List Int} {ps : List Plc} {os : List Own} (h : asgE ms ps os = 0) : ps.length ≤ 256 ∧ os.length ≤ 256 ∧ risI ms ∧ disI ps := by
  unfold asgE at h
  split at h
  · omega
  · split at h
    · rename_i h1 h2; exact ⟨by omega, by omega, h2⟩
    · omega
theorem asgE_of {ms : List Int} {ps : List Plc} {os : List Own} (h1 : ps.length ≤ 256) (h2 : os.length ≤ 256) (h3 : risI ms) (h4 : disI ps) : asgE ms ps os = 0 := by
  unfold asgE; rw [if_neg (by omega), if_pos ⟨h3, h4⟩]
theorem asgV_ok {ms : List Int} {ps : List Plc} {os : List Own} (h : asgE ms ps os = 0) : asgV ms ps os = asgI ms ps os := by unfold asgV; rw [if_pos h]
theorem asgV_no {ms : List Int} {ps : List Plc} {os : List Own} (h : asgE ms ps os ≠ 0) : asgV ms ps os = [] := by unfold asgV; rw [if_neg h]
theorem asgV_nodup {ms : List Int} {ps : List Plc} {os b : List Own} (e : asgE ms ps os = 0) (v : asgV ms ps os = b) : (b.map (·.1)).Nodup := by
  rw [← v, asgV_ok e, asgI_places]
  exact (asgE_ok e).2.2.2.2
end Go.Proofs.Ytdlkdagmaeapdaa

/- The document's shares, step by step: what lies in its counts and its owners behind each round. No condition. -/
namespace Go.Proofs.Ytdlkdagmaeapdaa
open Go.RowKit
set_option linter.unusedVariables false

/-- Counts as a row. -/
def cL (m : Nat) (c : Nat → Nat) : List Int := (List.range m).map fun k => ((c k : Nat) : Int)
theorem cL_len (m : Nat) (c : Nat → Nat) : (cL m c).length = m := by simp [cL]
theorem cL_get {m k : Nat} (c : Nat → Nat) (hk : k < m) : (cL m c)[k]? = some ((c k : Nat) : Int) := by
  unfold cL
  rw [List.getElem?_map, List.getElem?_range hk]; rfl
theorem cL_congr {m : Nat} {c d : Nat → Nat} (h : ∀ j, j < m → c j = d j) : cL m c = cL m d := by
  unfold cL
  exact List.map_congr_left fun j hj => by rw [h j (List.mem_range.1 hj)]
theorem cL_set {m k : Nat} {c d : Nat → Nat} (hk : k < m) (h : ∀ j, j < m → j ≠ k → c j = d j) : (cL m c).set k ((d k : Nat) : Int) = cL m d := by
  apply List.ext_getElem?
  intro i
  by_cases hi : i < m
  · rw [cL_get d hi]
    by_cases hik : i = k
    · subst hik
      rw [List.getElem?_set_self (by rw [cL_len]; exact hi)]
    · rw [List.getElem?_set_ne (fun e => hik e.symm), cL_get c hi, h i hi hik]
  · rw [List.getElem?_eq_none (by rw [List.length_set, cL_len]; omega), List.getElem?_eq_none (by rw [cL_len]; omega)]
theorem cL_zero (m : Nat) : cL m (fun _ => 0) = List.replicate m 0 := by
  unfold cL
  apply List.ext_getElem?
  intro i
  by_cases hi : i < m
  · rw [List.getElem?_map, List.getElem?_range hi, List.getElem?_replicate, if_pos hi]; rfl
  · rw [List.getElem?_eq_none (by simp; omega), List.getElem?_eq_none (by simp; omega)]

/-! ### How many each had -/
def hadC (who : List (Option Nat)) (k i : Nat) : Nat → Nat := fun j => if j < k then cntO who j else if j = k then cntO (who.take i) k else 0
theorem hadC_zero (who : List (Option Nat)) : hadC who 0 0 = fun _ => 0 := by
  funext j
  unfold hadC
  rw [if_neg (by omega)]
  split <;> rfl
theorem cnt_take {who : List (Option Nat)} {i : Nat} {o : Option Nat} (h : who[i]? = some o) (k : Nat) : cntO (who.take (i + 1)) k = cntO (who.take i) k + if o = some k then 1 else 0 := by
  have ht : who.take (i + 1) = who.take i ++ [o] := by rw [List.take_add_one, h]; rfl
  rw [ht]
  unfold cntO
  rw [List.filter_append, List.length_append, List.filter_cons, List.filter_nil]
  by_cases e : o = some k
  · rw [if_pos (by simpa using e), if_pos e]; rfl
  · rw [if_neg (by simpa using e), if_neg e]; rfl
theorem hadC_at (who : List (Option Nat)) (k i : Nat) : hadC who k i k = cntO (who.take i) k := by unfold hadC; rw [if_neg (Nat.lt_irrefl _), if_pos rfl]
theorem hadC_other {who : List (Option Nat)} {k i i' j : Nat} (h : j ≠ k) : hadC who k i j = hadC who k i' j := by unfold hadC; rw [if_neg h, if_neg h]
theorem hadC_next (who : List (Option Nat)) (k : Nat) : hadC who k who.length = hadC who (k + 1) 0 := by
  funext j
  unfold hadC
  rw [List.take_length]
  by_cases h1 : j < k
  · rw [if_pos h1, if_pos (by omega)]
  · rw [if_neg h1]
    by_cases h2 : j = k
    · subst h2; rw [if_pos rfl, if_pos (by omega)]
    · rw [if_neg h2, if_neg (by omega)]
      split <;> rfl
theorem hadC_all (who : List (Option Nat)) (m : Nat) : cL m (hadC who m 0) = cL m (cntO who) := cL_congr fun j hj => by unfold hadC; rw [if_pos hj]

/-! ### Quotas -/
def aheadTo (h : Nat → Nat) (k j : Nat) : Nat := ((List.range j).filter (fun x => bef h x k)).length
theorem aheadTo_step (h : Nat → Nat) (k j : Nat) : aheadTo h k (j + 1) = aheadTo h k j + if bef h j k = true then 1 else 0 := by
  unfold aheadTo
  rw [List.range_succ, List.filter_append, List.length_append, List.filter_cons, List.filter_nil]
  split <;> rfl
theorem aheadTo_le (h : Nat → Nat) (k j : Nat) : aheadTo h k j ≤ j := by
  unfold aheadTo
  refine Nat.le_trans (List.length_filter_le _ _) ?_
  rw [List.length_range]; exact Nat.le_refl _
def quoC (n m : Nat) (h : Nat → Nat) (k : Nat) : Nat → Nat := fun j => if j < k then quotaN n m h j else 0
def quoC1 (n m : Nat) (h : Nat → Nat) (k : Nat) : Nat → Nat := fun j => if j < k then quotaN n m h j else if j = k then n / m else 0

/-! ### Each keeps -/
def stK (q : Nat → Nat) : (Nat → Nat) → List (Option Nat) → Nat → Nat → Nat
  | c, _, 0 => c
  | c, [], _ + 1 => c
  | c, none :: r, i + 1 => stK q c r i
  | c, some k :: r, i + 1 => if c k < q k then stK q (upd c k) r i else stK q c r i
theorem stK_n (q c : Nat → Nat) (r : List (Option Nat)) (i : Nat) : stK q c (none :: r) (i + 1) = stK q c r i := rfl
theorem stK_s (q c : Nat → Nat) (k : Nat) (r : List (Option Nat)) (i : Nat) : stK q c (some k :: r) (i + 1) = if c k < q k then stK q (upd c k) r i else stK q c r i := rfl
theorem stK_zero (q c : Nat → Nat) (l : List (Option Nat)) : stK q c l 0 = c := by cases l <;> rfl
theorem stK_none {q : Nat → Nat} : ∀ {l : List (Option Nat)} {c : Nat → Nat} {i : Nat}, l[i]? = some none → stK q c l (i + 1) = stK q c l i
  | [], c, i, h => by simp at h
  | none :: r, c, 0, h => by rw [stK_n, stK_zero, stK_zero]
  | none :: r, c, i + 1, h => by
    rw [stK_n, stK_n]; exact stK_none (by simpa using h)
  | some k :: r, c, 0, h => by simp at h
  | some k :: r, c, i + 1, h => by
    rw [stK_s, stK_s]
    split
    · exact stK_none (by simpa using h)
    · exact stK_none (by simpa using h)
theorem stK_some {q : Nat → Nat} {k : Nat} : ∀ {l : List (Option Nat)} {c : Nat → Nat} {i : Nat}, l[i]? = some (some k) → stK q c l (i + 1) = if stK q c l i k < q k then upd (stK q c l i) k else stK q c l i
  | [], c, i, h => by simp at h
  | none :: r, c, 0, h => by simp at h
  | none :: r, c, i + 1, h => by
    rw [stK_n, stK_n]; exact stK_some (by simpa using h)
  | some j :: r, c, 0, h => by
    obtain rfl : j = k := by simpa using h
    rw [stK_s, stK_zero, stK_zero, stK_zero]
  | some j :: r, c, i + 1, h => by
    rw [stK_s, stK_s]
    split
    · exact stK_some (by simpa using h)
    · exact stK_some (by simpa using h)
theorem keep_none {q : Nat → Nat} : ∀ {l : List (Option Nat)} {c : Nat → Nat} {i : Nat}, l[i]? = some none → (keepL q c l)[i]? = some none
  | [], c, i, h => by simp at h
  | none :: r, c, 0, h => by rw [keepL]; rfl
  | none :: r, c, i + 1, h => by rw [keepL]; exact keep_none (l := r) (by simpa using h)
  | some k :: r, c, 0, h => by simp at h
  | some k :: r, c, i + 1, h => by
    rw [keepL]
    split
    · exact keep_none (l := r) (by simpa using h)
    · exact keep_none (l := r) (by simpa using h)
theorem keep_some {q : Nat → Nat} {k : Nat} : ∀ {l : List (Option Nat)} {c : Nat → Nat} {i : Nat}, l[i]? = some (some k) → (keepL q c l)[i]? = some (if stK q c l i k < q k then some k else none)
  | [], c, i, h => by simp at h
  | none :: r, c, 0, h => by simp at h
  | none :: r, c, i + 1, h => by rw [keepL, stK_n]; exact keep_some (l := r) (by simpa using h)
  | some j :: r, c, 0, h => by
    obtain rfl : j = k := by simpa using h
    rw [keepL, stK_zero]
    split <;> rfl
  | some j :: r, c, i + 1, h => by
    rw [keepL, stK_s]
    split
    · exact keep_some (l := r) (by simpa using h)
    · exact keep_some (l := r) (by simpa using h)
theorem stK_all {q : Nat → Nat} : ∀ (l : List (Option Nat)) (c : Nat → Nat) (k : Nat), stK q c l l.length k = c k + cntO (keepL q c l) k
  | [], c, k => by rw [keepL, cntO_nil]; rfl
  | none :: r, c, k => by
    rw [List.length_cons, stK_n, keepL, cntO_cons, if_neg (by simp), stK_all r c k]; omega
  | some j :: r, c, k => by
    rw [List.length_cons, stK_s, keepL]
    split
    · rw [stK_all r _ k, cntO_cons]
      unfold upd
      by_cases h : k = j
      · subst h; rw [if_pos rfl, if_pos rfl]; omega
      · rw [if_neg h, if_neg (by simpa using fun e => h e.symm)]; omega
    · rw [stK_all r c k, cntO_cons, if_neg (by simp)]; omega

/-! ### The others go -/
def stF (m : Nat) (q : Nat → Nat) : (Nat → Nat) → List (Option Nat) → Nat → Nat → Nat
  | c, _, 0 => c
  | c, [], _ + 1 => c
  | c, some _ :: r, i + 1 => stF m q c r i
  | c, none :: r, i + 1 => match roomK m q c with
    | some k => stF m q (upd c k) r i
    | none => stF m q c r i
theorem stF_s (m : Nat) (q c : Nat → Nat) (k : Nat) (r : List (Option Nat)) (i : Nat) : stF m q c (some k :: r) (i + 1) = stF m q c r i := rfl
theorem stF_n (m : Nat) (q c : Nat → Nat) (r : List (Option Nat)) (i : Nat) : stF m q c (none :: r) (i + 1) = match roomK m q c with | some k => stF m q (upd c k) r i | none => stF m q c r i := rfl
theorem stF_zero (m : Nat) (q c : Nat → Nat) (l : List (Option Nat)) : stF m q c l 0 = c := by cases l <;> rfl
theorem stF_some {m k : Nat} {q : Nat → Nat} : ∀ {l : List (Option Nat)} {c : Nat → Nat} {i : Nat}, l[i]? = some (some k) → stF m q c l (i + 1) = stF m q c l i
  | [], c, i, h => by simp at h
  | some j :: r, c, 0, h => by rw [stF_s, stF_zero, stF_zero]
  | some j :: r, c, i + 1, h => by rw [stF_s, stF_s]; exact stF_some (l := r) (by simpa using h)
  | none :: r, c, 0, h => by simp at h
  | none :: r, c, i + 1, h => by
    have h' : r[i]? = some (some k) := by simpa using h
    rw [stF_n, stF_n]
    cases roomK m q c with
    | none => exact stF_some (l := r) h'
    | some j => exact stF_some (l := r) h'
theorem stF_none {m : Nat} {q : Nat → Nat} : ∀ {l : List (Option Nat)} {c : Nat → Nat} {i : Nat}, l[i]? = some none → stF m q c l (i + 1) = match roomK m q (stF m q c l i) with | some k => upd (stF m q c l i) k | none => stF m q c l i
  | [], c, i, h => by simp at h
  | some j :: r, c, 0, h => by simp at h
  | some j :: r, c, i + 1, h => by rw [stF_s, stF_s]; exact stF_none (l := r) (by simpa using h)
  | none :: r, c, 0, h => by
    rw [stF_n, stF_zero m q c (none :: r)]
    cases roomK m q c with
    | none => exact stF_zero ..
    | some j => exact stF_zero ..
  | none :: r, c, i + 1, h => by
    have h' : r[i]? = some none := by simpa using h
    rw [stF_n, stF_n]
    cases roomK m q c with
    | none => exact stF_none (l := r) h'
    | some j => exact stF_none (l := r) h'
theorem fill_none {m : Nat} {q : Nat → Nat} : ∀ {l : List (Option Nat)} {c : Nat → Nat} {i : Nat}, l[i]? = some none → (fillL m q c l)[i]? = some (roomK m q (stF m q c l i))
  | [], c, i, h => by simp at h
  | some j :: r, c, 0, h => by simp at h
  | some j :: r, c, i + 1, h => by rw [fillL, stF_s]; exact fill_none (l := r) (by simpa using h)
  | none :: r, c, 0, h => by
    rw [fillL, stF_zero]
    cases roomK m q c with
    | none => rfl
    | some j => rfl
  | none :: r, c, i + 1, h => by
    have h' : r[i]? = some none := by simpa using h
    rw [fillL, stF_n]
    cases roomK m q c with
    | none => exact fill_none (l := r) h'
    | some j => exact fill_none (l := r) h'
theorem room_is {m : Nat} {q c : Nat → Nat} {k : Nat} (hk : k < m) (h1 : c k < q k) (h2 : ∀ j, j < k → ¬ c j < q j) : roomK m q c = some k := by
  unfold roomK
  rw [List.find?_range_eq_some]
  exact ⟨decide_eq_true h1, List.mem_range.2 hk, fun j hj => by simpa using h2 j hj⟩
theorem room_no {m : Nat} {q c : Nat → Nat} (h : ∀ j, j < m → ¬ c j < q j) : roomK m q c = none := by
  unfold roomK
  rw [List.find?_eq_none]
  intro j hj
  simpa using h j (List.mem_range.1 hj)

/-! ### Owners, place by place -/
def oL (ps : List Plc) (xs : List Int) : List Own := List.zipWith (fun p x => (p, x)) ps xs
theorem oL_len {ps : List Plc} {xs : List Int} (h : xs.length = ps.length) : (oL ps xs).length = ps.length := by unfold oL; rw [List.length_zipWith, h]; omega
theorem oL_get {ps : List Plc} {xs : List Int} {i : Nat} {p : Plc} {x : Int} (hp : ps[i]? = some p) (hx : xs[i]? = some x) : (oL ps xs)[i]? = some (p, x) := by
  unfold oL; rw [List.getElem?_zipWith, hp, hx]
theorem oL_set {ps : List Plc} {xs : List Int} {i : Nat} {p : Plc} (hp : ps[i]? = some p) (x : Int) : (oL ps xs).set i (p, x) = oL ps (xs.set i x) := by
  unfold oL
  apply List.ext_getElem?
  intro j
  rw [List.getElem?_zipWith]
  by_cases hj : j = i
  · subst hj
    by_cases hx : j < xs.length
    · rw [List.getElem?_set_self (by rw [List.length_zipWith]; have := (List.getElem?_eq_some_iff.1 hp).1; omega), List.getElem?_set_self hx, hp]
    · rw [List.getElem?_eq_none (by rw [List.length_set, List.length_zipWith]; omega), List.getElem?_eq_none (l := xs.set j x) (by rw [List.length_set]; omega), hp]
  · rw [List.getElem?_set_ne (fun e => hj e.symm), List.getElem?_set_ne (fun e => hj e.symm), List.getElem?_zipWith]
/-- Those who are told so far, and nobody behind. -/
def mix (a b : List Int) (i : Nat) : List Int := a.take i ++ b.drop i
theorem mix_len {a b : List Int} (h : a.length = b.length) (i : Nat) : (mix a b i).length = b.length := by
  unfold mix; rw [List.length_append, List.length_take, List.length_drop]; omega
theorem mix_get {a b : List Int} (h : a.length = b.length) {i j : Nat} (hj : j < b.length) : (mix a b i)[j]? = if j < i then a[j]? else b[j]? := by
  unfold mix
  by_cases hji : j < i
  · rw [if_pos hji, List.getElem?_append_left (by rw [List.length_take]; omega), List.getElem?_take, if_pos hji]
  · rw [if_neg hji, List.getElem?_append_right (by rw [List.length_take]; omega), List.getElem?_drop]
    congr 1
    rw [List.length_take]; omega
theorem mix_set {a b : List Int} (h : a.length = b.length) {i : Nat} {x : Int} (hx : a[i]? = some x) : (mix a b i).set i x = mix a b (i + 1) := by
  have hi := (List.getElem?_eq_some_iff.1 hx).1
  apply List.ext_getElem?
  intro j
  by_cases hj : j < b.length
  · rw [mix_get h hj]
    by_cases hji : j = i
    · subst hji
      rw [List.getElem?_set_self (by rw [mix_len h]; omega), if_pos (by omega), hx]
    · rw [List.getElem?_set_ne (fun e => hji e.symm), mix_get h hj]
      by_cases h1 : j < i
      · rw [if_pos h1, if_pos (by omega)]
      · rw [if_neg h1, if_neg (by omega)]
  · rw [List.getElem?_eq_none (by rw [List.length_set, mix_len h]; omega), List.getElem?_eq_none (by rw [mix_len h]; omega)]
theorem mix_same {a b : List Int} (h : a.length = b.length) {i : Nat} (hx : a[i]? = b[i]?) : mix a b (i + 1) = mix a b i := by
  apply List.ext_getElem?
  intro j
  by_cases hj : j < b.length
  · rw [mix_get h hj, mix_get h hj]
    by_cases h1 : j < i
    · rw [if_pos h1, if_pos (by omega)]
    · rw [if_neg h1]
      by_cases h2 : j = i
      · subst h2; rw [if_pos (by omega), hx]
      · rw [if_neg (by omega)]
  · rw [List.getElem?_eq_none (by rw [mix_len h]; omega), List.getElem?_eq_none (by rw [mix_len h]; omega)]
theorem mix_zero (a b : List Int) : mix a b 0 = b := by unfold mix; simp
theorem mix_all {a b : List Int} (h : a.length = b.length) : mix a b b.length = a := by unfold mix; rw [List.take_of_length_le (by omega), List.drop_length, List.append_nil]
end Go.Proofs.Ytdlkdagmaeapdaa
