/- Who keeps what, member by member: plain lists. No condition but that members rise. -/
import Derived.Test.YtlnbgfglpdkifaaShHad
import Derived.Test.YtlnbgfglpdkifaaShZMath
namespace Go.Proofs.Ytlnbgfglpdkifaa
open Go.RowKit
set_option linter.unusedVariables false

theorem stK_min {q : Nat → Nat} {who : List (Option Nat)} (k : Nat) : ∀ p, p ≤ who.length → stK q (fun _ => 0) who p k = min (q k) (cntO (who.take p) k)
  | 0, _ => by rw [stK_zero]; simp [cntO]
  | p + 1, hp => by
    have ih := fun k => stK_min (q := q) (who := who) k p (by omega)
    obtain ⟨o, ho⟩ := get_some (l := who) (i := p) hp
    rw [cnt_take ho]
    cases o with
    | none => rw [stK_none ho, ih k, if_neg (by simp), Nat.add_zero]
    | some k' =>
      rw [stK_some ho]
      by_cases hk : k' = k
      · subst hk
        rw [if_pos rfl]
        have h1 := ih k'
        split
        · rename_i h; unfold upd; rw [if_pos rfl, h1]; omega
        · rename_i h; rw [h1]; omega
      · rw [if_neg (fun e => hk (Option.some.inj e)), Nat.add_zero]
        split
        · unfold upd; rw [if_neg (fun e => hk e.symm), ih k]
        · rw [ih k]
def kpO (q : Nat → Nat) (who : List (Option Nat)) (p : Nat) : Option Nat → Option Nat
  | some k => if cntO (who.take p) k < q k then some k else none
  | none => none
theorem kept_at {q : Nat → Nat} {who : List (Option Nat)} {p : Nat} {o : Option Nat} (h : who[p]? = some o) : (keepL q (fun _ => 0) who)[p]? = some (kpO q who p o) := by
  cases o with
  | none => exact keep_none h
  | some k =>
    rw [keep_some h, stK_min k p (by have := (List.getElem?_eq_some_iff.1 h).1; omega)]
    congr 1
    show _ = if cntO (who.take p) k < q k then some k else none
    by_cases hc : cntO (who.take p) k < q k
    · rw [if_pos hc, if_pos (by omega)]
    · rw [if_neg hc, if_neg (by omega)]
theorem cnt_mono (who : List (Option Nat)) (k p : Nat) : ∀ d, cntO (who.take p) k ≤ cntO (who.take (p + d)) k
  | 0 => Nat.le_refl _
  | d + 1 => by
    refine Nat.le_trans (cnt_mono who k p d) ?_
    cases h : who[p + d]? with
    | none =>
      have : who.take (p + d + 1) = who.take (p + d) := by rw [List.take_add_one, h]; simp
      rw [show p + (d + 1) = p + d + 1 by omega, this]; exact Nat.le_refl _
    | some o =>
      rw [show p + (d + 1) = p + d + 1 by omega, cnt_take h]; omega
theorem cnt_lt {who : List (Option Nat)} {k j p : Nat} (h : who[j]? = some (some k)) (hjp : j < p) : cntO (who.take j) k < cntO (who.take p) k := by
  have h1 := cnt_mono who k (j + 1) (p - (j + 1))
  rw [cnt_take h, if_pos rfl, show j + 1 + (p - (j + 1)) = p by omega] at h1
  omega
theorem kept_cnt (q : Nat → Nat) (who : List (Option Nat)) (k : Nat) : cntO (keepL q (fun _ => 0) who) k = min (q k) (cntO who k) := by
  have h1 := stK_all (q := q) who (fun _ => 0) k
  rw [stK_min k who.length (Nat.le_refl _), List.take_length, Nat.zero_add] at h1
  exact h1.symm

/-- Who has the places, when i members have kept theirs, and the next one e of its own. -/
def idK (ms : List Int) (q : Nat → Nat) (who : List (Option Nat)) (i e p : Nat) : Int := match who[p]? with
  | some (some k) => if k < i then (if cntO (who.take p) k < q k then ms.getD k (-1) else -1) else if k = i ∧ cntO (who.take p) k < e then ms.getD k (-1) else -1
  | _ => -1
def XK (ms : List Int) (q : Nat → Nat) (who : List (Option Nat)) (n i e : Nat) : List Int := (List.range n).map (idK ms q who i e)
theorem XK_len (ms : List Int) (q : Nat → Nat) (who : List (Option Nat)) (n i e : Nat) : (XK ms q who n i e).length = n := by simp [XK]
theorem XK_get {ms : List Int} {q : Nat → Nat} {who : List (Option Nat)} {n i e p : Nat} (hp : p < n) : (XK ms q who n i e)[p]? = some (idK ms q who i e p) := by
  unfold XK; rw [List.getElem?_map, List.getElem?_range hp]; rfl
theorem XK_zero (ms : List Int) (q : Nat → Nat) (who : List (Option Nat)) (n : Nat) : XK ms q who n 0 0 = List.replicate n (-1) := by
  apply List.ext_getElem?
  intro p
  by_cases hp : p < n
  · rw [XK_get hp, List.getElem?_replicate, if_pos hp]
    unfold idK
    split
    · rw [if_neg (by omega), if_neg (by omega)]
    · rfl
  · rw [List.getElem?_eq_none (by rw [XK_len]; omega), List.getElem?_eq_none (by simp; omega)]
theorem XK_step {ms : List Int} {q : Nat → Nat} {who : List (Option Nat)} {n i e p : Nat} (hw : who.length = n) (h : who[p]? = some (some i)) (he : cntO (who.take p) i = e) : (XK ms q who n i e).set p (ms.getD i (-1)) = XK ms q who n i (e + 1) := by
  have hpn : p < n := by rw [← hw]; exact (List.getElem?_eq_some_iff.1 h).1
  apply List.ext_getElem?
  intro j
  by_cases hj : j < n
  · rw [XK_get hj]
    by_cases hjp : j = p
    · subst hjp
      rw [List.getElem?_set_self (by rw [XK_len]; exact hj)]
      unfold idK
      rw [h]
      simp only
      rw [if_neg (Nat.lt_irrefl _), if_pos (by constructor; trivial; omega)]
    · rw [List.getElem?_set_ne (fun e => hjp e.symm), XK_get hj]
      congr 1
      unfold idK
      cases hwj : who[j]? with
      | none => rfl
      | some o =>
        cases o with
        | none => rfl
        | some k =>
          simp only
          by_cases hki : k < i
          · rw [if_pos hki, if_pos hki]
          · rw [if_neg hki, if_neg hki]
            by_cases hk : k = i
            · subst hk
              have hne : cntO (who.take j) k ≠ e := by
                intro h2
                rcases Nat.lt_or_gt_of_ne hjp with h3 | h3
                · have := cnt_lt hwj h3; omega
                · have := cnt_lt h h3; omega
              by_cases h5 : cntO (who.take j) k < e
              · rw [if_pos (by constructor; trivial; exact h5), if_pos (by constructor; trivial; omega)]
              · rw [if_neg (fun h6 => h5 h6.2), if_neg (fun h6 => by omega)]
            · rw [if_neg (fun h6 => hk h6.1), if_neg (fun h6 => hk h6.1)]
  · rw [List.getElem?_eq_none (by rw [List.length_set, XK_len]; omega), List.getElem?_eq_none (by rw [XK_len]; omega)]
theorem XK_next {ms : List Int} {q : Nat → Nat} {who : List (Option Nat)} {n i e : Nat} (h1 : e ≤ q i) (h2 : e = q i ∨ e = cntO who i) : XK ms q who n i e = XK ms q who n (i + 1) 0 := by
  apply List.ext_getElem?
  intro j
  by_cases hj : j < n
  · rw [XK_get hj, XK_get hj]
    congr 1
    unfold idK
    cases hwj : who[j]? with
    | none => rfl
    | some o =>
      cases o with
      | none => rfl
      | some k =>
        simp only
        by_cases hki : k < i
        · rw [if_pos hki, if_pos (show k < i + 1 by omega)]
        · rw [if_neg hki]
          by_cases hk : k = i
          · subst hk
            rw [if_pos (show k < k + 1 by omega)]
            have h3 : cntO (who.take j) k < cntO who k := by
              have := cnt_lt hwj (List.getElem?_eq_some_iff.1 hwj).1
              rwa [List.take_length] at this
            by_cases h5 : cntO (who.take j) k < e
            · rw [if_pos (by constructor; trivial; exact h5), if_pos (by omega)]
            · rw [if_neg (fun h6 => h5 h6.2), if_neg (by omega)]
          · rw [if_neg (fun h6 => hk h6.1), if_neg (by omega), if_neg (fun h6 => by omega)]
  · rw [List.getElem?_eq_none (by rw [XK_len]; omega), List.getElem?_eq_none (by rw [XK_len]; omega)]
theorem XK_all {ms : List Int} {q : Nat → Nat} {who : List (Option Nat)} {n m : Nat} (hw : who.length = n) (hm : m = ms.length) (hok : okW m who) : XK ms q who n m 0 = (keepL q (fun _ => 0) who).map (idI ms) := by
  apply List.ext_getElem?
  intro j
  by_cases hj : j < n
  · obtain ⟨o, ho⟩ := get_some (l := who) (i := j) (by rw [hw]; exact hj)
    rw [XK_get hj, List.getElem?_map, kept_at ho]
    congr 1
    unfold idK
    rw [ho]
    cases o with
    | none => rfl
    | some k =>
      simp only
      have hk : k < m := by
        rcases hok _ (List.mem_of_getElem? ho) with h | ⟨k', h, e⟩
        · cases h
        · obtain rfl := Option.some.inj e; exact h
      rw [if_pos hk]
      show _ = idI ms (if cntO (who.take j) k < q k then some k else none)
      split <;> rfl
  · rw [List.getElem?_eq_none (by rw [XK_len]; omega), List.getElem?_eq_none (by rw [List.length_map, keep_len, hw]; omega)]
def cK (q : Nat → Nat) (who : List (Option Nat)) (i e : Nat) : Nat → Nat := fun j => if j < i then min (q j) (cntO who j) else if j = i then e else 0
theorem cK_next {q : Nat → Nat} {who : List (Option Nat)} {i e : Nat} (h1 : e ≤ q i) (h2 : e = q i ∨ e = cntO who i) (h3 : e ≤ cntO who i) : cK q who i e = cK q who (i + 1) 0 := by
  funext j
  unfold cK
  by_cases h : j < i
  · rw [if_pos h, if_pos (by omega)]
  · rw [if_neg h]
    by_cases hj : j = i
    · subst hj; rw [if_pos rfl, if_pos (by omega)]; omega
    · rw [if_neg hj, if_neg (by omega)]; split <;> rfl
theorem cK_zero (q : Nat → Nat) (who : List (Option Nat)) : cK q who 0 0 = fun _ => 0 := by
  funext j; unfold cK
  rw [if_neg (by omega)]; split <;> rfl
theorem cK_all (q : Nat → Nat) (who : List (Option Nat)) (m : Nat) : ∀ j, j < m → cK q who m 0 j = cntO (keepL q (fun _ => 0) who) j := fun j hj => by
  unfold cK; rw [if_pos hj, kept_cnt]
theorem cK_at (q : Nat → Nat) (who : List (Option Nat)) (i e : Nat) : cK q who i e i = e := by unfold cK; rw [if_neg (Nat.lt_irrefl _), if_pos rfl]
theorem cK_other {q : Nat → Nat} {who : List (Option Nat)} {i e e' j : Nat} (h : j ≠ i) : cK q who i e j = cK q who i e' j := by unfold cK; rw [if_neg h, if_neg h]

/-! ### What a member had, and whose the places were -/
theorem had_who {ms F : List Int} {i : Nat} {mk : Int} (hr : ms.Pairwise (· < ·)) (hi : ms[i]? = some mk) : ∀ p, p ≤ F.length → (hadTo F mk p).length = cntO ((F.map (idxI ms)).take p) i
  | 0, _ => by simp [hadTo, cntO]
  | p + 1, hp => by
    obtain ⟨x, hx⟩ := get_some (l := F) (i := p) hp
    have ho : (F.map (idxI ms))[p]? = some (idxI ms x) := by rw [List.getElem?_map, hx]; rfl
    obtain ⟨hil, hie⟩ := List.getElem?_eq_some_iff.1 hi
    have hix := idx_iff hr hil (x := x)
    rw [hadTo_succ, cnt_take ho, List.length_append, had_who hr hi p (by omega), hx]
    congr 1
    by_cases h : x = mk
    · rw [if_pos (by rw [h]), if_pos (hix.2 (by rw [hie]; exact h))]; rfl
    · rw [if_neg (fun e => h (Option.some.inj e)), if_neg (fun e => h (by rw [← hie]; exact hix.1 e))]; rfl
theorem hadTo_nodup (F : List Int) (x : Int) (n : Nat) : (hadTo F x n).Nodup := List.Pairwise.filter _ List.nodup_range
theorem had_event {F : List Int} {x : Int} {n e p : Nat} (h : (hadTo F x n)[e]? = some p) : (hadTo F x p).length = e := by
  obtain ⟨h1, h2⟩ := hadTo_mem h
  have h3 := hadTo_get h1 h2
  obtain ⟨a, e1⟩ := List.getElem?_eq_some_iff.1 h
  obtain ⟨b, e2⟩ := List.getElem?_eq_some_iff.1 h3
  exact (List.getElem_inj (hadTo_nodup F x n)).1 (e2.trans e1.symm)
end Go.Proofs.Ytlnbgfglpdkifaa
