/- What RingOnce asks of the plain ring: each reference goes once, in order. No condition. -/
import Derived.Test.YtefopajkcpcjpaaRingOrderW
import Derived.Test.YtefopajkcpcjpaaReadyMath
namespace Go.Proofs.Ytefopajkcpcjpaa
open Go.RowKit
set_option linter.unusedVariables false

/-- The references that have gone. -/
def goneL (h : Nat) : List Int := (List.range h).map fun (i : Nat) => (i : Int) + 1
theorem goneL_len (h : Nat) : (goneL h).length = h := by simp [goneL]
theorem goneL_get {h i : Nat} (hi : i < h) : (goneL h)[i]? = some ((i : Int) + 1) := by simp [goneL, hi]
theorem goneL_succ (h : Nat) : goneL (h + 1) = goneL h ++ [(h : Int) + 1] := by simp [goneL, List.range_succ]
/-- Whose each number is its place and the gone ones and 1 comes behind them. -/
theorem goneL_more (h : Nat) : ∀ (l : List Int), (∀ (i : Nat) (x : Int), l[i]? = some x → x = (h : Int) + (i : Int) + 1) → goneL h ++ l = goneL (h + l.length)
  | [], _ => by simp
  | a :: r, hl => by
    have h0 := hl 0 a rfl
    have ih := goneL_more (h + 1) r (fun i x hx => by have := hl (i + 1) x (by simpa using hx); omega)
    rw [goneL_succ, List.append_assoc] at ih
    rw [show h + (a :: r).length = h + 1 + r.length by simp; omega, ← ih]
    simp; omega

/-- A ring whose references are the offsets and 1, and the marks that go with them. -/
def OnceM (M : RM) (D : List Bool) : Prop := D.length = M.tail ∧ ∀ (i : Nat) (p : Plc), M.l[i]? = some p → p.r = (M.h : Int) + (i : Int) + 1 ∧ D[M.h + i]? = some p.d

theorem OnceM.trim {M : RM} {D : List Bool} (H : OnceM M D) (x : Int) : goneL M.h ++ M.trimL x = goneL (M.trimM x).h ∧ OnceM (M.trimM x) D := by
  by_cases he : M.trimE x = 0
  · have hc := (RM.trim_cut he).1
    have e1 : M.trimL x = (M.l.take (M.cut x)).map (·.r) := by unfold RM.trimL; rw [if_neg (by rw [he]; simp)]
    have e2 : M.trimM x = { M with h := M.h + M.cut x, l := M.l.drop (M.cut x) } := by unfold RM.trimM; rw [if_neg (by rw [he]; simp)]
    rw [e1, e2]
    refine ⟨?_, ?_, fun i p hp => ?_⟩
    · rw [goneL_more M.h _ (fun i y hy => ?_)]
      · rw [List.length_map, List.length_take, Nat.min_eq_left hc]
      · rw [List.getElem?_map, List.getElem?_take] at hy
        split at hy
        · obtain ⟨p, hp, rfl⟩ := Option.map_eq_some_iff.1 hy
          exact (H.2 i p hp).1
        · cases hy
    · rw [H.1]; unfold RM.tail; rw [List.length_drop]; dsimp only; omega
    · rw [List.getElem?_drop] at hp
      obtain ⟨h1, h2⟩ := H.2 _ p hp
      exact ⟨by rw [h1]; push_cast; omega, by rw [← h2]; congr 1; show M.h + M.cut x + i = _; omega⟩
  · have e1 : M.trimL x = [] := by unfold RM.trimL; rw [if_pos he]
    have e2 : M.trimM x = M := by unfold RM.trimM; rw [if_pos he]
    rw [e1, e2]
    exact ⟨List.append_nil _, H⟩

theorem OnceM.pub_ok {M : RM} {D : List Bool} (H : OnceM M D) {k : Nat} (he : M.pubE (k : Nat) = 0) : k < D.length ∧ OnceM (M.pubM (k : Nat)) (D.set k true) ∧ (M.pubM (k : Nat)).h = M.h ∧ (M.pubM (k : Nat)).tail = M.tail := by
  have hf : M.findE (k : Nat) = 0 := by
    unfold RM.pubE at he
    split at he
    · rename_i h; exact absurd he h
    · rename_i h; simpa using h
  obtain ⟨h1, h2, h3⟩ := RM.found hf
  have hk : k = M.h + M.cut (k : Nat) := by omega
  have e2 : M.pubM (k : Nat) = { M with l := M.l.set (M.cut (k : Nat)) ⟨(M.pl (k : Nat)).r, true⟩ } := by unfold RM.pubM; rw [if_neg (by rw [he]; simp)]
  have hkl : k < D.length := by rw [H.1]; unfold RM.tail; omega
  refine ⟨hkl, ?_, (RM.pub_tail _ _).2, (RM.pub_tail _ _).1⟩
  rw [e2]
  refine ⟨by rw [List.length_set, H.1]; unfold RM.tail; simp, fun i p hp => ?_⟩
  show p.r = (M.h : Int) + (i : Int) + 1 ∧ (D.set k true)[M.h + i]? = some p.d
  by_cases e : M.cut (k : Nat) = i
  · rw [e] at hp
    rw [List.getElem?_set_self (by omega)] at hp
    cases hp
    rw [e] at h3
    refine ⟨(H.2 i _ h3).1, ?_⟩
    rw [show M.h + i = k by omega, List.getElem?_set_self hkl]
  · rw [List.getElem?_set_ne e] at hp
    rw [List.getElem?_set_ne (by omega)]
    exact H.2 i p hp
theorem RM.pub_no {M : RM} {x : Int} (he : M.pubE x ≠ 0) : M.pubM x = M := by unfold RM.pubM; rw [if_pos he]

theorem OnceM.claim {M : RM} {D : List Bool} (H : OnceM M D) {x : Int} (hx : x = (M.tail : Nat) + 1) (hp : 1 ≤ M.n) (he : M.claimE x = 0) :
    OnceM (M.claimM x) (D ++ [false]) ∧ ((M.claimW x = 0 ∧ (M.claimM x).h = M.h) ∨ (M.claimW x = (M.h : Int) + 1 ∧ (M.claimM x).h = M.h + 1)) := by
  have ht := (RM.claim_tail he hp).1
  by_cases hf : M.l.length = M.n
  · have e1 : M.claimM x = { M with h := M.h + 1, l := M.l.drop 1 ++ [⟨x, false⟩] } := by unfold RM.claimM; rw [if_neg (by rw [he]; simp), if_pos hf]
    have e2 : M.claimW x = M.hdp.r := by unfold RM.claimW; rw [if_neg (by rw [he]; simp), if_pos hf]
    obtain ⟨p0, hp0⟩ := get_some (l := M.l) (i := 0) (by omega)
    have e3 : M.hdp = p0 := by unfold RM.hdp; rw [hp0]; rfl
    refine ⟨⟨by rw [ht, List.length_append, H.1]; rfl, ?_⟩, .inr ⟨?_, by rw [e1]⟩⟩
    · rw [e1]
      intro i p hp
      show p.r = ((M.h + 1 : Nat) : Int) + (i : Int) + 1 ∧ (D ++ [false])[M.h + 1 + i]? = some p.d
      have hp' : (M.l.drop 1 ++ [⟨x, false⟩])[i]? = some p := hp
      by_cases hi : i < M.l.length - 1
      · rw [List.getElem?_append_left (by rw [List.length_drop]; exact hi), List.getElem?_drop] at hp'
        obtain ⟨q1, q2⟩ := H.2 _ p hp'
        refine ⟨by rw [q1]; omega, ?_⟩
        rw [List.getElem?_append_left (by rw [H.1]; unfold RM.tail; omega), show M.h + 1 + i = M.h + (1 + i) by omega]
        exact q2
      · rw [List.getElem?_append_right (by rw [List.length_drop]; omega), List.length_drop] at hp'
        have hi2 : i = M.l.length - 1 := by
          have := (List.getElem?_eq_some_iff.1 hp').1
          simp at this; omega
        rw [show i - (M.l.length - 1) = 0 by omega] at hp'
        cases hp'
        unfold RM.tail at hx
        refine ⟨by show x = _; rw [hx]; omega, ?_⟩
        rw [List.getElem?_append_right (by rw [H.1]; unfold RM.tail; omega), H.1, show M.h + 1 + i - M.tail = 0 by unfold RM.tail; omega]
        rfl
    · rw [e2, e3, (H.2 0 p0 hp0).1]; omega
  · have e1 : M.claimM x = { M with l := M.l ++ [⟨x, false⟩] } := by unfold RM.claimM; rw [if_neg (by rw [he]; simp), if_neg hf]
    have e2 : M.claimW x = 0 := by unfold RM.claimW; rw [if_neg (by rw [he]; simp), if_neg hf]
    refine ⟨⟨by rw [ht, List.length_append, H.1]; rfl, ?_⟩, .inl ⟨e2, by rw [e1]⟩⟩
    rw [e1]
    intro i p hp
    show p.r = (M.h : Int) + (i : Int) + 1 ∧ (D ++ [false])[M.h + i]? = some p.d
    have hp' : (M.l ++ [⟨x, false⟩])[i]? = some p := hp
    by_cases hi : i < M.l.length
    · rw [List.getElem?_append_left hi] at hp'
      obtain ⟨q1, q2⟩ := H.2 _ p hp'
      refine ⟨q1, ?_⟩
      rw [List.getElem?_append_left (by rw [H.1]; unfold RM.tail; omega)]
      exact q2
    · rw [List.getElem?_append_right (by omega)] at hp'
      have hi2 : i = M.l.length := by
        have := (List.getElem?_eq_some_iff.1 hp').1
        simp at this; omega
      rw [show i - M.l.length = 0 by omega] at hp'
      cases hp'
      unfold RM.tail at hx
      refine ⟨by show x = _; rw [hx]; omega, ?_⟩
      rw [List.getElem?_append_right (by rw [H.1]; unfold RM.tail; omega), H.1, show M.h + i - M.tail = 0 by unfold RM.tail; omega]
      rfl

theorem OnceM.get {M : RM} {D : List Bool} (H : OnceM M D) {k : Nat} (h1 : M.h ≤ k) (h2 : k < M.tail) : ∃ d, D[k]? = some d ∧ M.getE (k : Nat) = (if d = true then 0 else 8) ∧ (d = true → M.getR (k : Nat) = (k : Int) + 1) := by
  obtain ⟨p, hp⟩ := get_some (l := M.l) (i := k - M.h) (by unfold RM.tail at h2; omega)
  obtain ⟨q1, q2⟩ := H.2 _ p hp
  have e := RM.getE_at h1 hp
  refine ⟨p.d, by rw [← q2]; congr 1; omega, e, fun hd => ?_⟩
  unfold RM.getR
  rw [if_neg (by rw [e, if_pos hd]; simp), (RM.get_at h1 hp).2, q1]
  omega

theorem OnceM.all {M : RM} {D : List Bool} (H : OnceM M D) : goneL M.h ++ M.refs = goneL M.tail := by
  rw [goneL_more M.h M.refs (fun i x hx => by
    unfold RM.refs at hx
    rw [List.getElem?_map] at hx
    obtain ⟨p, hp, rfl⟩ := Option.map_eq_some_iff.1 hx
    exact (H.2 i p hp).1)]
  simp [RM.refs, RM.tail]
end Go.Proofs.Ytefopajkcpcjpaa
