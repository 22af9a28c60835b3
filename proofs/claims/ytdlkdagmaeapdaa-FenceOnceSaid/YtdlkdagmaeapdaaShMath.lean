/- Plain mathematics of shares: quotas, who keeps what, who gets the others. No condition. -/
import Derived.Test.YtdlkdagmaeapdaaBase
namespace Go.Proofs.Ytdlkdagmaeapdaa
open Go.RowKit
set_option linter.unusedVariables false

/-! ### Sums -/
def sumTo : Nat → (Nat → Nat) → Nat
  | 0, _ => 0
  | m + 1, f => sumTo m f + f m
theorem sumTo_congr {f g : Nat → Nat} : ∀ {m : Nat}, (∀ k, k < m → f k = g k) → sumTo m f = sumTo m g
  | 0, _ => rfl
  | m + 1, h => by rw [sumTo, sumTo, sumTo_congr (fun k hk => h k (by omega)), h m (by omega)]
theorem sumTo_add (f g : Nat → Nat) : ∀ m : Nat, sumTo m (fun k => f k + g k) = sumTo m f + sumTo m g
  | 0 => rfl
  | m + 1 => by rw [sumTo, sumTo, sumTo, sumTo_add f g m]; omega
theorem sumTo_const (c : Nat) : ∀ m : Nat, sumTo m (fun _ => c) = m * c
  | 0 => by simp [sumTo]
  | m + 1 => by rw [sumTo, sumTo_const c m, Nat.succ_mul]
theorem sumTo_le {f g : Nat → Nat} : ∀ {m : Nat}, (∀ k, k < m → f k ≤ g k) → sumTo m f ≤ sumTo m g
  | 0, _ => Nat.le_refl _
  | m + 1, h => by
    have h1 := sumTo_le (m := m) (fun k hk => h k (by omega))
    have h2 := h m (by omega)
    rw [sumTo, sumTo]; omega
theorem sumTo_if (p : Nat → Bool) : ∀ m : Nat, sumTo m (fun k => if p k = true then 1 else 0) = ((List.range m).filter p).length
  | 0 => rfl
  | m + 1 => by
    rw [sumTo, sumTo_if p m, List.range_succ, List.filter_append, List.length_append, List.filter_cons, List.filter_nil]
    split <;> rfl
/-- One more at one place. -/
theorem sumTo_upd {f g : Nat → Nat} {a : Nat} : ∀ {m : Nat}, a < m → (∀ k, k ≠ a → f k = g k) → f a = g a + 1 → sumTo m f = sumTo m g + 1
  | 0, h, _, _ => by omega
  | m + 1, h, he, ha => by
    rw [sumTo, sumTo]
    by_cases hm : a = m
    · subst hm
      rw [sumTo_congr (f := f) (g := g) (fun k hk => he k (by omega)), ha]; omega
    · rw [sumTo_upd (m := m) (by omega) he ha, he m (fun e => hm e.symm)]; omega
theorem sumTo_zero {f : Nat → Nat} : ∀ {m : Nat}, sumTo m f = 0 → ∀ k, k < m → f k = 0
  | 0, _, k, hk => by omega
  | m + 1, h, k, hk => by
    rw [sumTo] at h
    by_cases hm : k = m
    · subst hm; omega
    · exact sumTo_zero (m := m) (by omega) k (by omega)
theorem sumTo_pos {f : Nat → Nat} : ∀ {m : Nat}, 0 < sumTo m f → ∃ k, k < m ∧ 0 < f k
  | 0, h => by rw [sumTo] at h; omega
  | m + 1, h => by
    rw [sumTo] at h
    by_cases hm : 0 < f m
    · exact ⟨m, by omega, hm⟩
    · obtain ⟨k, hk, h2⟩ := sumTo_pos (m := m) (f := f) (by omega)
      exact ⟨k, by omega, h2⟩

/-! ### Counting -/
theorem flt_le {α : Type} {p q : α → Bool} {l : List α} (h : ∀ i, i ∈ l → p i = true → q i = true) : (l.filter p).length ≤ (l.filter q).length := by
  induction l with
  | nil => simp
  | cons x l ih =>
    have ih := ih (fun i hi => h i (List.mem_cons_of_mem _ hi))
    rw [List.filter_cons, List.filter_cons]
    by_cases hp : p x = true
    · rw [if_pos hp, if_pos (h x (List.mem_cons_self ..) hp)]; simp; exact ih
    · rw [if_neg hp]
      split
      · simp; omega
      · exact ih
theorem flt_lt {α : Type} {p q : α → Bool} {a : α} : ∀ {l : List α}, (∀ i, i ∈ l → p i = true → q i = true) → a ∈ l → q a = true → p a = false → (l.filter p).length < (l.filter q).length
  | [], _, h, _, _ => by cases h
  | x :: l, h, hm, hq, hp => by
    have hl := flt_le (p := p) (q := q) (l := l) (fun i hi => h i (List.mem_cons_of_mem _ hi))
    rw [List.filter_cons, List.filter_cons]
    rcases List.mem_cons.1 hm with rfl | hm'
    · rw [if_neg (by rw [hp]; simp), if_pos hq]; simp; omega
    · have ih := flt_lt (l := l) (fun i hi => h i (List.mem_cons_of_mem _ hi)) hm' hq hp
      by_cases hpx : p x = true
      · rw [if_pos hpx, if_pos (h x (List.mem_cons_self ..) hpx)]; simp; exact ih
      · rw [if_neg hpx]
        split
        · simp; omega
        · exact ih
/-- Different numbers below r are at most r. -/
theorem nodup_len : ∀ {r : Nat} {l : List Nat}, l.Nodup → (∀ x, x ∈ l → x < r) → l.length ≤ r
  | 0, [], _, _ => Nat.le_refl _
  | 0, x :: l, _, h => by have := h x (List.mem_cons_self ..); omega
  | r + 1, l, hn, h => by
    have h1 := nodup_len (r := r) (l := l.filter (fun x => decide (x ≠ r))) (List.Pairwise.filter _ hn) (fun x hx => by
      obtain ⟨a, b⟩ := List.mem_filter.1 hx
      have := h x a
      have : x ≠ r := by simpa using b
      omega)
    have h2 : ∀ {l : List Nat}, l.Nodup → l.length ≤ (l.filter (fun x => decide (x ≠ r))).length + 1 := by
      intro l hn
      induction l with
      | nil => simp
      | cons x l ih =>
        obtain ⟨hx, hl⟩ := List.nodup_cons.1 hn
        rw [List.filter_cons]
        by_cases hxr : x = r
        · have e : l.filter (fun x => decide (x ≠ r)) = l := List.filter_eq_self.2 (fun y hy => by
            have : y ≠ r := fun e => hx (by rw [hxr, ← e]; exact hy)
            simpa using this)
          rw [if_neg (by simpa using hxr), e]; simp
        · rw [if_pos (by simpa using hxr)]
          have := ih hl
          rw [List.length_cons, List.length_cons]; omega
    have := h2 hn
    omega
theorem flt_split {α : Type} (p : α → Bool) (l : List α) : (l.filter p).length + (l.filter (fun x => !p x)).length = l.length := by
  induction l with
  | nil => rfl
  | cons x l ih =>
    rw [List.filter_cons, List.filter_cons]
    cases h : p x <;> simp <;> omega
/-- Of so many different numbers below m just r are below r. -/
theorem below_len {m r : Nat} {l : List Nat} (hn : l.Nodup) (hl : l.length = m) (h : ∀ x, x ∈ l → x < m) (hr : r ≤ m) : (l.filter (fun x => decide (x < r))).length = r := by
  have h1 := nodup_len (r := r) (l := l.filter (fun x => decide (x < r))) (List.Pairwise.filter _ hn) (fun x hx => by simpa using (List.mem_filter.1 hx).2)
  have h2 := nodup_len (r := m - r) (l := (l.filter (fun x => !decide (x < r))).map (fun x => x - r)) (by
    have hp : ((l.filter (fun x => !decide (x < r)))).Nodup := List.Pairwise.filter _ hn
    refine List.pairwise_map.2 (List.Pairwise.imp_of_mem (fun {a b} ha hb hab => ?_) hp)
    have ha' : ¬ a < r := by simpa using (List.mem_filter.1 ha).2
    have hb' : ¬ b < r := by simpa using (List.mem_filter.1 hb).2
    omega) (fun x hx => by
    obtain ⟨y, hy, rfl⟩ := List.mem_map.1 hx
    obtain ⟨a, b⟩ := List.mem_filter.1 hy
    have : ¬ y < r := by simpa using b
    have := h y a
    omega)
  rw [List.length_map] at h2
  have h3 : (l.filter (fun x => decide (x < r))).length + (l.filter (fun x => !decide (x < r))).length = l.length := flt_split (fun x => decide (x < r)) l
  omega

/-! ### Quotas -/
/-- j comes ahead of k: it had more, or as many and has the lesser number. -/
def bef (h : Nat → Nat) (j k : Nat) : Bool := decide (h k < h j) || (decide (h j = h k) && decide (j < k))
def aheadN (m : Nat) (h : Nat → Nat) (k : Nat) : Nat := ((List.range m).filter (fun j => bef h j k)).length
def quotaN (n m : Nat) (h : Nat → Nat) (k : Nat) : Nat := n / m + if aheadN m h k < n % m then 1 else 0
theorem bef_iff {h : Nat → Nat} {j k : Nat} : bef h j k = true ↔ h k < h j ∨ (h j = h k ∧ j < k) := by unfold bef; simp
theorem ahead_lt {m : Nat} {h : Nat → Nat} {k : Nat} (hk : k < m) : aheadN m h k < m := by
  have := flt_lt (p := fun j => bef h j k) (q := fun _ => true) (a := k) (l := List.range m) (fun _ _ _ => rfl) (List.mem_range.2 hk) rfl (by
    cases hb : bef h k k with
    | false => rfl
    | true => have := bef_iff.1 hb; omega)
  rw [List.filter_eq_self.2 (fun _ _ => rfl), List.length_range] at this
  exact this
theorem ahead_mono {m : Nat} {h : Nat → Nat} {j k : Nat} (hj : j < m) (hb : bef h j k = true) : aheadN m h j < aheadN m h k := by
  refine flt_lt (a := j) (fun i _ hi => ?_) (List.mem_range.2 hj) hb ?_
  · have h1 := bef_iff.1 hi
    have h2 := bef_iff.1 hb
    exact bef_iff.2 (by omega)
  · cases hc : bef h j j with
    | false => rfl
    | true => have := bef_iff.1 hc; omega
theorem bef_or {h : Nat → Nat} {j k : Nat} (hjk : j ≠ k) : bef h j k = true ∨ bef h k j = true := by
  rw [bef_iff, bef_iff]; omega
theorem ahead_nodup (m : Nat) (h : Nat → Nat) : ((List.range m).map (aheadN m h)).Nodup := by
  refine List.pairwise_map.2 (List.Pairwise.imp_of_mem (fun {a b} ha hb hab => ?_) (List.nodup_range (n := m)))
  have ha := List.mem_range.1 ha
  have hb := List.mem_range.1 hb
  rcases bef_or (h := h) hab with h1 | h1
  · have := ahead_mono ha h1; omega
  · have := ahead_mono hb h1; omega
theorem ahead_count {m r : Nat} (h : Nat → Nat) (hr : r ≤ m) : ((List.range m).filter (fun k => decide (aheadN m h k < r))).length = r := by
  have := below_len (m := m) (r := r) (ahead_nodup m h) (by simp) (fun x hx => by
    obtain ⟨k, hk, rfl⟩ := List.mem_map.1 hx
    exact ahead_lt (List.mem_range.1 hk)) hr
  rw [List.filter_map, List.length_map] at this
  exact this
theorem quota_sum (n m : Nat) (h : Nat → Nat) (hm : 0 < m) : sumTo m (quotaN n m h) = n := by
  have e : sumTo m (quotaN n m h) = sumTo m (fun k => n / m + (if (decide (aheadN m h k < n % m)) = true then 1 else 0)) := sumTo_congr (fun k _ => by unfold quotaN; simp)
  rw [e, sumTo_add (fun _ => n / m) (fun k => if (decide (aheadN m h k < n % m)) = true then 1 else 0), sumTo_const, sumTo_if (fun k => decide (aheadN m h k < n % m)), ahead_count h (Nat.le_of_lt (Nat.mod_lt _ hm))]
  exact Nat.div_add_mod n m
theorem quota_ge (n m : Nat) (h : Nat → Nat) (k : Nat) : n / m ≤ quotaN n m h k ∧ quotaN n m h k ≤ n / m + 1 := by
  unfold quotaN; split <;> omega
end Go.Proofs.Ytdlkdagmaeapdaa
