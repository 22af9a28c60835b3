/- Plain mathematics of ledgers: rewinds, and the spans of both kinds. No condition. -/
import Derived.Test.YtpkodmclbobkpaaLgModel
namespace Go.Proofs.Ytpkodmclbobkpaa
open Go.RowKit
set_option linter.unusedVariables false

theorem backL_fin {l : List Pc} : ∀ {a : Int} {k : Option Bool} {t : Int}, chn a k l → endF a l ≤ t → backL l t = l := by
  induction l with
  | nil => intro a k t _ _; rfl
  | cons y l ih =>
    intro a k t hc ht
    have h0 := (endF_le hc).2 y (List.mem_cons_self ..)
    obtain ⟨h1, h2, h3, h4⟩ := hc
    have h5 : endF a (y :: l) = endF y.2.1 l := rfl
    have h6 := (endF_le h4).1
    rw [backL_cons, if_pos (by omega), ih h4 (by omega)]
    unfold cutPc
    rw [show min y.2.1 t = y.2.1 by omega]
theorem back_fin {M : LgM} (h : M.Ok) : backE M M.fin = 0 ∧ M.back M.fin = M := by
  have h1 : M.b ≤ M.fin := (endF_le h.ch).1
  have h0 := h.lo
  have he : backE M M.fin = 0 := by unfold backE; rw [if_neg (by omega), if_neg (by omega)]
  refine ⟨he, ?_⟩
  unfold LgM.back
  rw [if_neg (by simp [he]), show backL M.L M.fin = M.L from backL_fin h.ch (Int.le_refl _)]
theorem back_snoc {l : List Pc} {k : Nat} {x : Pc} (tt : Int) (h : l[k]? = some x) : backL (l.take (k + 1)) tt = if x.1 < tt then backL (l.take k) tt ++ [cutPc tt x] else backL (l.take k) tt := by
  unfold backL
  rw [List.take_add_one, h, List.filter_append]
  simp only [Option.toList_some, List.filter_cons, List.filter_nil]
  by_cases hk : x.1 < tt
  · rw [if_pos hk, if_pos (by simpa using hk)]; simp
  · rw [if_neg hk, if_neg (by simpa using hk)]; simp
theorem chn_take {l : List Pc} {a : Int} {k : Option Bool} (h : chn a k l) (n : Nat) : chn a k (l.take n) := by
  have h2 : chn a k (l.take n ++ l.drop n) := by rw [List.take_append_drop]; exact h
  exact ((chn_app _ _ _ _).1 h2).1
theorem chn_drop {l : List Pc} {a : Int} {k : Option Bool} (h : chn a k l) (n : Nat) : chn (endF a (l.take n)) (lastK k (l.take n)) (l.drop n) := by
  have h2 : chn a k (l.take n ++ l.drop n) := by rw [List.take_append_drop]; exact h
  exact ((chn_app _ _ _ _).1 h2).2
theorem chn_at {l : List Pc} {a : Int} {k : Option Bool} {j : Nat} {x : Pc} (h : chn a k l) (hx : l[j]? = some x) : x.1 = endF a (l.take j) ∧ x.1 < x.2.1 ∧ lastK k (l.take j) ≠ some x.2.2 ∧ endF a (l.take (j + 1)) = x.2.1 ∧ lastK k (l.take (j + 1)) = some x.2.2 := by
  have h1 := chn_drop h j
  obtain ⟨hj, e⟩ := List.getElem?_eq_some_iff.1 hx
  rw [List.drop_eq_getElem_cons hj, e] at h1
  obtain ⟨h2, h3, h4, _⟩ := h1
  have h5 : l.take (j + 1) = l.take j ++ [x] := by rw [List.take_add_one, hx]; rfl
  exact ⟨h2, by omega, h4, by rw [h5, endF_app]; rfl, by rw [h5, lastK_app]; rfl⟩
theorem LgM.Ok.take {M : LgM} (h : M.Ok) (n : Nat) : LgM.Ok ⟨M.b, M.L.take n⟩ := by
  refine ⟨h.lo, chn_take h.ch n, by have := h.len; show (M.L.take n).length ≤ 256; rw [List.length_take]; omega, ?_⟩
  have h1 := (endF_le (chn_drop h.ch n)).1
  have h2 : M.fin = endF (endF M.b (M.L.take n)) (M.L.drop n) := by rw [← endF_app, List.take_append_drop]; rfl
  have := h.hi
  show endF M.b (M.L.take n) ≤ _
  omega
end Go.Proofs.Ytpkodmclbobkpaa
