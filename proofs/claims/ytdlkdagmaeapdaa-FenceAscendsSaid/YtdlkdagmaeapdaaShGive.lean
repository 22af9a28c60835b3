/- Plain mathematics of shares: who keeps what, who gets the others. A place's owner is told by the member's place in the list. No condition. -/
import Derived.Test.YtdlkdagmaeapdaaShMath
namespace Go.Proofs.Ytdlkdagmaeapdaa
open Go.RowKit
set_option linter.unusedVariables false

def upd (c : Nat → Nat) (k : Nat) : Nat → Nat := fun j => if j = k then c j + 1 else c j
def cntO (l : List (Option Nat)) (k : Nat) : Nat := (l.filter (fun o => decide (o = some k))).length
def nones (l : List (Option Nat)) : Nat := (l.filter (fun o => decide (o = none))).length
def keepL (q : Nat → Nat) : (Nat → Nat) → List (Option Nat) → List (Option Nat)
  | _, [] => []
  | c, none :: r => none :: keepL q c r
  | c, some k :: r => if c k < q k then some k :: keepL q (upd c k) r else none :: keepL q c r
def roomK (m : Nat) (q c : Nat → Nat) : Option Nat := (List.range m).find? (fun k => decide (c k < q k))
def fillL (m : Nat) (q : Nat → Nat) : (Nat → Nat) → List (Option Nat) → List (Option Nat)
  | _, [] => []
  | c, some k :: r => some k :: fillL m q c r
  | c, none :: r => match roomK m q c with
    | some k => some k :: fillL m q (upd c k) r
    | none => none :: fillL m q c r

theorem cntO_cons (o : Option Nat) (l : List (Option Nat)) (k : Nat) : cntO (o :: l) k = (if o = some k then 1 else 0) + cntO l k := by
  unfold cntO
  rw [List.filter_cons]
  by_cases h : o = some k
  · rw [if_pos (by simpa using h), if_pos h, List.length_cons]; omega
  · rw [if_neg (by simpa using h), if_neg h]; omega
theorem nones_cons (o : Option Nat) (l : List (Option Nat)) : nones (o :: l) = (if o = none then 1 else 0) + nones l := by
  unfold nones
  rw [List.filter_cons]
  by_cases h : o = none
  · rw [if_pos (by simpa using h), if_pos h, List.length_cons]; omega
  · rw [if_neg (by simpa using h), if_neg h]; omega
theorem cntO_nil (k : Nat) : cntO [] k = 0 := rfl
theorem cntO_le (l : List (Option Nat)) (k : Nat) : cntO l k ≤ l.length := List.length_filter_le _ _
/-- Each is nobody's, or a member's. -/
def okW (m : Nat) (l : List (Option Nat)) : Prop := ∀ o, o ∈ l → o = none ∨ ∃ k, k < m ∧ o = some k
theorem okW_tail {m : Nat} {o : Option Nat} {l : List (Option Nat)} (h : okW m (o :: l)) : okW m l := fun x hx => h x (List.mem_cons_of_mem _ hx)
theorem cnt_total {m : Nat} : ∀ {l : List (Option Nat)}, okW m l → sumTo m (cntO l) + nones l = l.length
  | [], _ => by
    have : sumTo m (cntO []) = m * 0 := by rw [← sumTo_const 0 m]; exact sumTo_congr (fun _ _ => rfl)
    rw [this]; rfl
  | o :: l, h => by
    have ih := cnt_total (okW_tail h)
    rw [nones_cons, List.length_cons]
    rcases h o (List.mem_cons_self ..) with rfl | ⟨k, hk, rfl⟩
    · rw [if_pos rfl, sumTo_congr (f := cntO (none :: l)) (g := cntO l) (fun j _ => by rw [cntO_cons, if_neg (by simp)]; omega)]; omega
    · rw [if_neg (by simp), sumTo_upd (f := cntO (some k :: l)) (g := cntO l) hk (fun j hj => by rw [cntO_cons, if_neg (by simpa using fun e => hj e.symm)]; omega) (by rw [cntO_cons, if_pos rfl]; omega)]; omega

/-! ### Each keeps -/
theorem keep_len (q : Nat → Nat) : ∀ (l : List (Option Nat)) (c : Nat → Nat), (keepL q c l).length = l.length
  | [], _ => rfl
  | none :: l, c => by rw [keepL, List.length_cons, List.length_cons, keep_len q l c]
  | some k :: l, c => by
    rw [keepL]
    split
    · rw [List.length_cons, List.length_cons, keep_len q l _]
    · rw [List.length_cons, List.length_cons, keep_len q l c]
theorem keep_cnt (q : Nat → Nat) (k : Nat) : ∀ (l : List (Option Nat)) (c : Nat → Nat), cntO (keepL q c l) k = min (cntO l k) (q k - c k)
  | [], c => by rw [keepL, cntO_nil]; omega
  | none :: l, c => by rw [keepL, cntO_cons, cntO_cons, if_neg (by simp), keep_cnt q k l c]; omega
  | some j :: l, c => by
    rw [keepL]
    by_cases hj : c j < q j
    · rw [if_pos hj, cntO_cons, cntO_cons, keep_cnt q k l (upd c j)]
      by_cases hjk : j = k
      · subst hjk
        rw [if_pos rfl]
        unfold upd; rw [if_pos rfl]; omega
      · rw [if_neg (by simpa using hjk)]
        unfold upd; rw [if_neg (fun e => hjk e.symm)]; omega
    · rw [if_neg hj, cntO_cons, cntO_cons, if_neg (by simp), keep_cnt q k l c]
      by_cases hjk : j = k
      · subst hjk; rw [if_pos rfl]; omega
      · rw [if_neg (by simpa using hjk)]; omega
theorem keep_sub (q : Nat → Nat) : ∀ (l : List (Option Nat)) (c : Nat → Nat) (i k : Nat), (keepL q c l)[i]? = some (some k) → l[i]? = some (some k)
  | [], _, _, _, h => h
  | none :: l, c, i, k, h => by
    rw [keepL] at h
    cases i with
    | zero => simp at h
    | succ i => exact keep_sub q l c i k (by simpa using h)
  | some j :: l, c, i, k, h => by
    rw [keepL] at h
    split at h
    · cases i with
      | zero => simpa using h
      | succ i => exact keep_sub q l _ i k (by simpa using h)
    · cases i with
      | zero => simp at h
      | succ i => exact keep_sub q l c i k (by simpa using h)
theorem keep_all (q : Nat → Nat) : ∀ (l : List (Option Nat)) (c : Nat → Nat) (i k : Nat), cntO l k ≤ q k - c k → l[i]? = some (some k) → (keepL q c l)[i]? = some (some k)
  | [], _, _, _, _, h => h
  | none :: l, c, i, k, hc, h => by
    rw [cntO_cons, if_neg (by simp)] at hc
    rw [keepL]
    cases i with
    | zero => simp at h
    | succ i => rw [List.getElem?_cons_succ]; exact keep_all q l c i k (by omega) (by simpa using h)
  | some j :: l, c, i, k, hc, h => by
    rw [cntO_cons] at hc
    rw [keepL]
    by_cases hjk : j = k
    · subst hjk
      rw [if_pos rfl] at hc
      rw [if_pos (by omega)]
      cases i with
      | zero => rfl
      | succ i => rw [List.getElem?_cons_succ]; exact keep_all q l _ i j (by unfold upd; rw [if_pos rfl]; omega) (by simpa using h)
    · rw [if_neg (by simpa using hjk)] at hc
      cases i with
      | zero => exact absurd (by simpa using h) hjk
      | succ i =>
        split
        · rw [List.getElem?_cons_succ]; exact keep_all q l _ i k (by unfold upd; rw [if_neg (fun e => hjk e.symm)]; omega) (by simpa using h)
        · rw [List.getElem?_cons_succ]; exact keep_all q l c i k (by omega) (by simpa using h)
theorem keep_ok {m : Nat} {q c : Nat → Nat} {l : List (Option Nat)} (h : okW m l) : okW m (keepL q c l) := fun o ho => by
  cases o with
  | none => exact .inl rfl
  | some k =>
    obtain ⟨i, hi, e⟩ := List.mem_iff_getElem.1 ho
    have h1 := keep_sub q l c i k (by rw [List.getElem?_eq_getElem hi, e])
    rcases h _ (List.mem_of_getElem? h1) with h2 | h2
    · cases h2
    · exact .inr h2

/-! ### The others go -/
theorem room_some {m : Nat} {q c : Nat → Nat} (h : 0 < sumTo m (fun k => q k - c k)) : ∃ k, roomK m q c = some k ∧ k < m ∧ c k < q k := by
  obtain ⟨k, hk, h2⟩ := sumTo_pos h
  cases hf : roomK m q c with
  | none =>
    have := List.find?_eq_none.1 hf k (List.mem_range.2 hk)
    simp at this; omega
  | some j =>
    have h3 := List.find?_some hf
    have h4 := List.mem_range.1 (List.mem_of_find?_eq_some hf)
    exact ⟨j, rfl, h4, by simpa using h3⟩
theorem fill_len (m : Nat) (q : Nat → Nat) : ∀ (l : List (Option Nat)) (c : Nat → Nat), (fillL m q c l).length = l.length
  | [], _ => rfl
  | some k :: l, c => by rw [fillL, List.length_cons, List.length_cons, fill_len m q l c]
  | none :: l, c => by
    rw [fillL]
    split
    · rw [List.length_cons, List.length_cons, fill_len m q l _]
    · rw [List.length_cons, List.length_cons, fill_len m q l c]
theorem fill_keep (m : Nat) (q : Nat → Nat) : ∀ (l : List (Option Nat)) (c : Nat → Nat) (i k : Nat), l[i]? = some (some k) → (fillL m q c l)[i]? = some (some k)
  | [], _, _, _, h => h
  | some j :: l, c, i, k, h => by
    rw [fillL]
    cases i with
    | zero => simpa using h
    | succ i => rw [List.getElem?_cons_succ]; exact fill_keep m q l c i k (by simpa using h)
  | none :: l, c, i, k, h => by
    rw [fillL]
    cases i with
    | zero => simp at h
    | succ i =>
      split
      · rw [List.getElem?_cons_succ]; exact fill_keep m q l _ i k (by simpa using h)
      · rw [List.getElem?_cons_succ]; exact fill_keep m q l c i k (by simpa using h)
theorem fill_all (m : Nat) (q : Nat → Nat) : ∀ (l : List (Option Nat)) (c : Nat → Nat), sumTo m (fun k => q k - c k) = nones l → okW m l →
    (∀ o, o ∈ fillL m q c l → ∃ k, k < m ∧ o = some k) ∧ ∀ k, k < m → cntO (fillL m q c l) k = cntO l k + (q k - c k)
  | [], c, hs, _ => ⟨fun o ho => by simp [fillL] at ho, fun k hk => by
    have := sumTo_zero (show sumTo m (fun k => q k - c k) = 0 from hs) k hk
    rw [fillL, cntO_nil]; omega⟩
  | some j :: l, c, hs, ho => by
    rw [nones_cons, if_neg (by simp), Nat.zero_add] at hs
    obtain ⟨h1, h2⟩ := fill_all m q l c hs (okW_tail ho)
    rw [fillL]
    refine ⟨fun o hm => ?_, fun k hk => by rw [cntO_cons, cntO_cons, h2 k hk]; omega⟩
    rcases List.mem_cons.1 hm with rfl | hm
    · rcases ho _ (List.mem_cons_self ..) with h3 | h3
      · cases h3
      · exact h3
    · exact h1 o hm
  | none :: l, c, hs, ho => by
    rw [nones_cons, if_pos rfl] at hs
    obtain ⟨j, e, hj, hlt⟩ := room_some (m := m) (q := q) (c := c) (by omega)
    have hu : sumTo m (fun k => q k - c k) = sumTo m (fun k => q k - upd c j k) + 1 := sumTo_upd hj (fun k hk => by unfold upd; rw [if_neg hk]) (by unfold upd; rw [if_pos rfl]; omega)
    obtain ⟨h1, h2⟩ := fill_all m q l (upd c j) (by omega) (okW_tail ho)
    rw [fillL, e]
    refine ⟨fun o hm => ?_, fun k hk => ?_⟩
    · rcases List.mem_cons.1 hm with rfl | hm
      · exact ⟨j, hj, rfl⟩
      · exact h1 o hm
    · show cntO (some j :: fillL m q (upd c j) l) k = _
      rw [cntO_cons, cntO_cons, h2 k hk, if_neg (show ¬ ((none : Option Nat) = some k) by simp)]
      by_cases hjk : j = k
      · subst hjk; rw [if_pos rfl]; unfold upd; rw [if_pos rfl]; omega
      · rw [if_neg (fun e => hjk (Option.some.inj e))]; unfold upd; rw [if_neg (fun e => hjk e.symm)]; omega

/-! ### Assigned -/
def quoO (m : Nat) (who : List (Option Nat)) : Nat → Nat := quotaN who.length m (cntO who)
def keptO (m : Nat) (who : List (Option Nat)) : List (Option Nat) := keepL (quoO m who) (fun _ => 0) who
def asgO (m : Nat) (who : List (Option Nat)) : List (Option Nat) := fillL m (quoO m who) (cntO (keptO m who)) (keptO m who)
structure AsgO (m : Nat) (who out : List (Option Nat)) : Prop where
  len : out.length = who.length
  all : ∀ o, o ∈ out → ∃ k, k < m ∧ o = some k
  cnt : ∀ k, k < m → cntO out k = quoO m who k
  stay : ∀ i k : Nat, (keptO m who)[i]? = some (some k) → who[i]? = some (some k) ∧ out[i]? = some (some k)
  kept : ∀ k : Nat, cntO (keptO m who) k = min (cntO who k) (quoO m who k)
  keep : ∀ i k : Nat, cntO who k ≤ quoO m who k → who[i]? = some (some k) → out[i]? = some (some k)
theorem asg_main {m : Nat} {who : List (Option Nat)} (hm : 0 < m) (hw : okW m who) : AsgO m who (asgO m who) := by
  have hk : ∀ k, cntO (keptO m who) k = min (cntO who k) (quoO m who k) := fun k => by unfold keptO; rw [keep_cnt]; omega
  have hs : sumTo m (fun k => quoO m who k - cntO (keptO m who) k) = nones (keptO m who) := by
    have h1 : sumTo m (fun k => (quoO m who k - cntO (keptO m who) k) + cntO (keptO m who) k) = sumTo m (quoO m who) := sumTo_congr (fun k _ => by rw [hk]; omega)
    rw [sumTo_add (fun k => quoO m who k - cntO (keptO m who) k) (cntO (keptO m who)), show sumTo m (quoO m who) = who.length from quota_sum _ m _ hm] at h1
    have h2 := cnt_total (m := m) (l := keptO m who) (keep_ok hw)
    have h3 : (keptO m who).length = who.length := keep_len _ _ _
    omega
  obtain ⟨h1, h2⟩ := fill_all m (quoO m who) (keptO m who) (cntO (keptO m who)) hs (keep_ok hw)
  refine ⟨?_, h1, fun k hkm => ?_, fun i k h => ⟨keep_sub _ _ _ _ _ h, fill_keep _ _ _ _ _ _ h⟩, hk, fun i k hc h => fill_keep _ _ _ _ _ _ (keep_all _ _ _ _ _ (by omega) h)⟩
  · unfold asgO; rw [fill_len]; exact keep_len _ _ _
  · show cntO (fillL m (quoO m who) (cntO (keptO m who)) (keptO m who)) k = _
    rw [h2 k hkm, hk]; omega
/-- Quotas that have been given are quotas again. -/
theorem quota_again (n m : Nat) (h : Nat → Nat) (hm : 0 < m) {k : Nat} (hk : k < m) : quotaN n m (quotaN n m h) k = quotaN n m h k := by
  have hr := Nat.mod_lt n hm
  have hc := ahead_count (m := m) (r := n % m) h (Nat.le_of_lt hr)
  by_cases hl : aheadN m h k < n % m
  · have e : quotaN n m h k = n / m + 1 := by unfold quotaN; rw [if_pos hl]
    have h2 : aheadN m (quotaN n m h) k < n % m := by
      rw [← hc]
      refine flt_lt (a := k) (fun j hj hb => ?_) (List.mem_range.2 hk) (by simpa using hl) ?_
      · have hb := bef_iff.1 hb
        have := quota_ge n m h j
        rw [e] at hb
        have hj2 : quotaN n m h j = n / m + 1 := by omega
        unfold quotaN at hj2
        split at hj2
        · simpa
        · omega
      · cases hb : bef (quotaN n m h) k k with
        | false => rfl
        | true => have := bef_iff.1 hb; omega
    rw [e]; unfold quotaN at h2 ⊢; rw [if_pos h2]
  · have e : quotaN n m h k = n / m := by unfold quotaN; rw [if_neg hl]; rfl
    have h2 : ¬ aheadN m (quotaN n m h) k < n % m := by
      have : n % m ≤ aheadN m (quotaN n m h) k := by
        rw [← hc]
        refine flt_le (fun j hj hp => bef_iff.2 (.inl ?_))
        have hp' : aheadN m h j < n % m := by simpa using hp
        rw [e]; unfold quotaN; rw [if_pos hp']; omega
      omega
    rw [e]; unfold quotaN at h2 ⊢; rw [if_neg h2]; rfl
theorem ahead_congr {m : Nat} {h g : Nat → Nat} (hg : ∀ j, j < m → h j = g j) {k : Nat} (hk : k < m) : aheadN m h k = aheadN m g k := by
  unfold aheadN
  rw [List.filter_congr (fun j hj => ?_)]
  unfold bef
  rw [hg j (List.mem_range.1 hj), hg k hk]
theorem quota_congr {n m : Nat} {h g : Nat → Nat} (hg : ∀ j, j < m → h j = g j) {k : Nat} (hk : k < m) : quotaN n m h k = quotaN n m g k := by
  unfold quotaN; rw [ahead_congr hg hk]
/-- Assigned again from its own answer nothing moves. -/
theorem asg_again {m : Nat} {who : List (Option Nat)} (hm : 0 < m) (hw : okW m who) : asgO m (asgO m who) = asgO m who := by
  have A := asg_main hm hw
  have hw2 : okW m (asgO m who) := fun o ho => .inr (A.all o ho)
  have B := asg_main hm hw2
  have hq : ∀ k, k < m → quoO m (asgO m who) k = quoO m who k := fun k hk => by
    show quotaN (asgO m who).length m (cntO (asgO m who)) k = quotaN who.length m (cntO who) k
    rw [A.len, quota_congr (g := quotaN who.length m (cntO who)) A.cnt hk, quota_again _ _ _ hm hk]
  refine List.ext_getElem? (fun i => ?_)
  by_cases hi : i < who.length
  · obtain ⟨o, ho⟩ := get_some (l := asgO m who) (i := i) (by rw [A.len]; exact hi)
    obtain ⟨k, hk, rfl⟩ := A.all o (List.mem_of_getElem? ho)
    rw [ho]
    exact B.keep i k (by rw [hq k hk, A.cnt k hk]; exact Nat.le_refl _) ho
  · rw [List.getElem?_eq_none (by rw [B.len, A.len]; omega), List.getElem?_eq_none (by rw [A.len]; omega)]
end Go.Proofs.Ytdlkdagmaeapdaa
