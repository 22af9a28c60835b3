/- Plain mathematics of shares: what stays, what moves when one member comes or goes, by numbers. No condition. -/
import Derived.Test.YtdlkdagmaeapdaaShIds
namespace Go.Proofs.Ytdlkdagmaeapdaa
open Go.RowKit
set_option linter.unusedVariables false

/-! ### 16.5: what stays -/
/-- In so many places both lists tell this. -/
def bothN : Nat → List (Option Nat) → List (Option Nat) → Nat
  | k, a :: l, b :: r => (if a = some k ∧ b = some k then 1 else 0) + bothN k l r
  | _, _, _ => 0
theorem both_ge {k : Nat} : ∀ {l r s : List (Option Nat)}, l.length = r.length → s.length = l.length → (∀ i : Nat, s[i]? = some (some k) → l[i]? = some (some k) ∧ r[i]? = some (some k)) → cntO s k ≤ bothN k l r
  | [], _, [], _, _, _ => by rw [cntO_nil]; omega
  | [], _, _ :: _, _, h, _ => by simp at h
  | _ :: _, [], _, h, _, _ => by simp at h
  | _ :: _, _ :: _, [], _, h, _ => by simp at h
  | a :: l, b :: r, c :: s, h1, h2, hs => by
    have ih := both_ge (k := k) (l := l) (r := r) (s := s) (by simpa using h1) (by simpa using h2) (fun i hi => by have := hs (i + 1) (by simpa using hi); simpa using this)
    rw [cntO_cons, bothN]
    by_cases hc : c = some k
    · have := hs 0 (by simp [hc])
      rw [if_pos hc, if_pos (by simpa using this)]; omega
    · rw [if_neg hc]; omega
theorem both_le {k : Nat} : ∀ (l r : List (Option Nat)), bothN k l r ≤ cntO l k
  | [], _ => by simp [bothN]
  | _ :: _, [] => by simp [bothN]
  | a :: l, b :: r => by
    have ih := both_le (k := k) l r
    rw [cntO_cons, bothN]
    by_cases ha : a = some k
    · rw [if_pos ha]; split <;> omega
    · rw [if_neg ha, if_neg (fun h => ha h.1)]; omega
theorem keeps_law {m : Nat} {who : List (Option Nat)} (hm : 0 < m) (hw : okW m who) {k : Nat} (hk : k < m) :
    min (cntO who k) (who.length / m) ≤ bothN k who (asgO m who) ∧ (cntO who k ≤ who.length / m → bothN k who (asgO m who) = cntO who k) := by
  have A := asg_main hm hw
  have h1 := both_ge (k := k) (l := who) (r := asgO m who) (s := keptO m who) A.len.symm (keep_len _ _ _) (fun i hi => A.stay i k hi)
  rw [A.kept] at h1
  have h2 := quota_ge who.length m (cntO who) k
  have h3 := both_le (k := k) who (asgO m who)
  have h4 : who.length / m ≤ quoO m who k := h2.1
  constructor
  · omega
  · intro h; omega

/-! ### 16.5: what moves -/
/-- What moved, counted place by place. -/
theorem moved_len {was : List Own} {k : Nat} : ∀ {now : List Own} {out : List (Option Nat)}, now.length = out.length →
    (∀ (i : Nat) (o : Own) (x : Option Nat), now[i]? = some o → out[i]? = some x → (decide (0 ≤ hadI was o.1) && decide (hadI was o.1 ≠ o.2)) = decide (x = some k)) → (movedI was now).length = cntO out k
  | [], [], _, _ => rfl
  | [], _ :: _, h, _ => by simp at h
  | _ :: _, [], h, _ => by simp at h
  | o :: now, x :: out, hl, h => by
    have ih := moved_len (was := was) (k := k) (now := now) (out := out) (by simpa using hl) (fun i o x h1 h2 => h (i + 1) o x (by simpa using h1) (by simpa using h2))
    unfold movedI at ih ⊢
    rw [List.length_map] at ih ⊢
    have h0 := h 0 o x rfl rfl
    rw [List.filter_cons, h0, cntO_cons]
    by_cases hx : x = some k
    · rw [if_pos (by simpa using hx), if_pos hx, List.length_cons, ih]; omega
    · rw [if_neg (by simpa using hx), if_neg hx, ih]; omega
/-- The members with one more at t. -/
structure OneMore (ms all : List Int) (t : Nat) (x : Int) : Prop where
  len : all.length = ms.length + 1
  le : t ≤ ms.length
  at_ : ∀ k : Nat, k < ms.length → all[emb t k]? = ms[k]?
  new : all[t]? = some x
theorem OneMore.idE {ms all : List Int} {t : Nat} {x : Int} (O : OneMore ms all t x) (hra : risI all) {k : Nat} (hk : k < ms.length) : idxI all (idI ms (some k)) = some (emb t k) := by
  rw [idI_at hk]
  exact idx_at hra.2.2 (by rw [O.at_ k hk, List.getElem?_eq_getElem hk])
theorem OneMore.idD {ms all : List Int} {t : Nat} {x : Int} (O : OneMore ms all t x) (hr : risI ms) (hra : risI all) {j : Nat} (hj : j < all.length) : idxI ms (idI all (some j)) = del t j := by
  rw [idI_at hj]
  by_cases hjt : j = t
  · subst hjt
    rw [del_self]
    have e : all[j] = x := by have := O.new; rw [List.getElem?_eq_getElem hj] at this; exact Option.some.inj this
    cases hi : idxI ms all[j] with
    | none => rfl
    | some k =>
      have h1 := idx_some hi
      have hk := idx_lt hi
      rw [← O.at_ k hk] at h1
      have h2 := idx_at hra.2.2 h1
      rw [(idx_iff hra.2.2 hj).2 rfl] at h2
      exact absurd (Option.some.inj h2).symm (emb_ne j k)
  · obtain ⟨k, hk, rfl, e⟩ := emb_del O.le (by rw [← O.len]; exact hj) hjt
    rw [e]
    refine idx_at hr.2.2 ?_
    rw [← O.at_ k hk, List.getElem?_eq_getElem hj]
section
variable {ms all : List Int} {t : Nat} {x : Int} {ps : List Plc} {os : List Own}
theorem join_who (O : OneMore ms all t x) (hm : 0 < ms.length) (hra : risI all) (hd : disI ps) : whoI all ps (asgI ms ps os) = embL t (outI ms ps os) :=
  who_asg (f := fun o => o.map (emb t)) hd (fun o ho => by
    obtain ⟨k, hk, rfl⟩ := (asg_main hm (who_ok ms ps os)).all o ho
    exact O.idE hra hk)
theorem leave_who (O : OneMore ms all t x) (hr : risI ms) (hra : risI all) (hd : disI ps) : whoI ms ps (asgI all ps os) = delL t (outI all ps os) :=
  who_asg (f := fun o => o.bind (del t)) hd (fun o ho => by
    obtain ⟨k, hk, rfl⟩ := (asg_main (by rw [O.len]; omega) (who_ok all ps os)).all o ho
    exact O.idD hr hra hk)
theorem id_ge {ms : List Int} (hr : risI ms) {k : Nat} (hk : k < ms.length) : 0 ≤ idI ms (some k) := by rw [idI_at hk]; exact (hr.2.1 _ (List.getElem_mem hk)).1
theorem id_new (O : OneMore ms all t x) : idI all (some t) = x := by
  have hj : t < all.length := by rw [O.len]; have := O.le; omega
  rw [idI_at hj]
  have := O.new; rw [List.getElem?_eq_getElem hj] at this; exact Option.some.inj this
theorem id_emb (O : OneMore ms all t x) {k : Nat} (hk : k < ms.length) : idI all (some (emb t k)) = idI ms (some k) := by
  have hj : emb t k < all.length := by rw [O.len]; exact emb_lt O.le hk
  rw [idI_at hj, idI_at hk]
  have := O.at_ k hk
  rw [List.getElem?_eq_getElem hj, List.getElem?_eq_getElem hk] at this; exact Option.some.inj this
theorem id_other (O : OneMore ms all t x) (hra : risI all) {k : Nat} (hk : k < ms.length) : idI ms (some k) ≠ x := fun e => by
  have h1 := O.idE hra hk
  rw [e] at h1
  have h2 := idx_at hra.2.2 O.new
  rw [h1] at h2
  exact emb_ne t k (Option.some.inj h2)
/-- One member comes: so many move as it gets; and it gets its share. -/
theorem join_law (O : OneMore ms all t x) (hm : 0 < ms.length) (hr : risI ms) (hra : risI all) (hd : disI ps) :
    (movedI (asgI ms ps os) (asgI all ps (asgI ms ps os))).length = (ofI (asgI all ps (asgI ms ps os)) x).length
      ∧ ps.length / (ms.length + 1) ≤ (ofI (asgI all ps (asgI ms ps os)) x).length ∧ (ofI (asgI all ps (asgI ms ps os)) x).length ≤ ps.length / (ms.length + 1) + 1 := by
  have G : Given ms.length (outI ms ps os) _ := (asg_main hm (who_ok ms ps os)).given
  have e2 : outI all ps (asgI ms ps os) = asgO (ms.length + 1) (embL t (outI ms ps os)) := by unfold outI; rw [← O.len]; exact congrArg _ (join_who O hm hra hd)
  have ht : t < all.length := by rw [O.len]; have := O.le; omega
  have ex : all[t] = x := by rw [← idI_at ht]; exact id_new O
  have hof : (ofI (asgI all ps (asgI ms ps os)) x).length = cntO (outI all ps (asgI ms ps os)) t := by
    rw [← ex]; exact of_cnt hra ht ps _ (out_ok all ps _) (by rw [out_len])
  refine ⟨?_, ?_⟩
  · rw [hof]
    refine moved_len (by rw [asgI_len, out_len]) (fun i o y h1 h2 => ?_)
    have hi : i < ps.length := by rw [← out_len all ps (asgI ms ps os)]; exact (List.getElem?_eq_some_iff.1 h2).1
    obtain ⟨p, hp⟩ := get_some (l := ps) (i := i) hi
    rw [asgI_at hp h2] at h1
    obtain rfl := Option.some.inj h1
    obtain ⟨z, hz⟩ := get_some (l := outI ms ps os) (i := i) (by rw [out_len]; exact hi)
    obtain ⟨k, hk, rfl⟩ := G.all z (List.mem_of_getElem? hz)
    have hh := had_asg (ms := ms) (os := os) hd hp hz
    show (decide (0 ≤ hadI (asgI ms ps os) p) && decide (hadI (asgI ms ps os) p ≠ idI all y)) = _
    rw [hh, decide_eq_true (id_ge hr hk), Bool.true_and]
    have hj := join_moves hm O.le G (i := i) (by rw [out_len]; exact hi)
    rw [← e2, h2] at hj
    rcases hj with ⟨k2, hk2, e3, e4⟩ | e3
    · rw [hz] at e3
      obtain rfl := Option.some.inj (Option.some.inj e3)
      obtain rfl := Option.some.inj e4
      rw [id_emb O hk, decide_eq_false (by simp), decide_eq_false (fun e => emb_ne t k (Option.some.inj e))]
    · obtain rfl := Option.some.inj e3
      rw [id_new O, decide_eq_true (id_other O hra hk), decide_eq_true rfl]
  · rw [hof, e2]
    have := join_gets hm O.le G
    rw [out_len] at this; exact this
/-- One member goes: so many move as it had. -/
theorem leave_law (O : OneMore ms all t x) (hm : 0 < ms.length) (hr : risI ms) (hra : risI all) (hd : disI ps) :
    (movedI (asgI all ps os) (asgI ms ps (asgI all ps os))).length = (ofI (asgI all ps os) x).length := by
  have G : Given (ms.length + 1) (outI all ps os) (cntO (whoI all ps os)) := by have := (asg_main (m := all.length) (by rw [O.len]; omega) (who_ok all ps os)).given; unfold outI; rw [← O.len]; exact this
  have e2 : outI ms ps (asgI all ps os) = asgO ms.length (delL t (outI all ps os)) := by unfold outI; exact congrArg _ (leave_who O hr hra hd)
  have ht : t < all.length := by rw [O.len]; have := O.le; omega
  have ex : all[t] = x := by rw [← idI_at ht]; exact id_new O
  have hof : (ofI (asgI all ps os) x).length = cntO (outI all ps os) t := by
    rw [← ex]; exact of_cnt hra ht ps _ (out_ok all ps _) (by rw [out_len])
  rw [hof]
  refine moved_len (by rw [asgI_len, out_len]) (fun i o y h1 h2 => ?_)
  have hi : i < ps.length := by rw [← out_len all ps os]; exact (List.getElem?_eq_some_iff.1 h2).1
  obtain ⟨p, hp⟩ := get_some (l := ps) (i := i) hi
  obtain ⟨z, hz⟩ := get_some (l := outI ms ps (asgI all ps os)) (i := i) (by rw [out_len]; exact hi)
  rw [asgI_at hp hz] at h1
  obtain rfl := Option.some.inj h1
  obtain ⟨j, hj, rfl⟩ := G.all y (List.mem_of_getElem? h2)
  have hja : j < all.length := by rw [O.len]; exact hj
  have hh := had_asg (ms := all) (os := os) hd hp h2
  show (decide (0 ≤ hadI (asgI all ps os) p) && decide (hadI (asgI all ps os) p ≠ idI ms z)) = _
  rw [hh, decide_eq_true (id_ge hra hja), Bool.true_and]
  obtain ⟨k, hk, rfl⟩ := (asg_main hm (who_ok ms ps (asgI all ps os))).all z (List.mem_of_getElem? hz)
  by_cases hjt : j = t
  · subst hjt
    have hne : x ≠ idI ms (some k) := fun e => id_other O hra hk e.symm
    rw [id_new O, decide_eq_true hne, decide_eq_true rfl]
  · obtain ⟨k2, hk2, rfl, _⟩ := emb_del O.le hj hjt
    have h4 := leave_moves hm O.le G hk2 h2
    rw [← e2, hz] at h4
    obtain rfl := Option.some.inj (Option.some.inj h4)
    rw [id_emb O hk, decide_eq_false (by simp), decide_eq_false (fun e => hjt (Option.some.inj e))]
end
end Go.Proofs.Ytdlkdagmaeapdaa
