/- What ShareJoins builds and what comes of it: members 0, 2, 4 .., one odd member more, places by fives. Plain; no condition. -/
import Derived.Test.YtlnbgfglpdkifaaShApi
namespace Go.Proofs.Ytlnbgfglpdkifaa
open Go.RowKit
set_option linter.unusedVariables false
set_option maxRecDepth 100000

def evM : Nat → List Int
  | 0 => []
  | k + 1 => evM k ++ [2 * (k : Int)]
def allM (t : Nat) : Nat → List Int
  | 0 => []
  | k + 1 => if k = t then (allM t k ++ [2 * (k : Int)]) ++ [2 * (t : Int) + 1] else allM t k ++ [2 * (k : Int)]
def plM : Nat → List Plc
  | 0 => []
  | k + 1 => plM k ++ [((k : Int) / 5, (k : Int) % 5)]
theorem evM_len : ∀ n, (evM n).length = n
  | 0 => rfl
  | n + 1 => by rw [evM, List.length_append, evM_len n]; rfl
theorem plM_len : ∀ n, (plM n).length = n
  | 0 => rfl
  | n + 1 => by rw [plM, List.length_append, plM_len n]; rfl
theorem allM_len (t : Nat) : ∀ k, (allM t k).length = k + if t < k then 1 else 0
  | 0 => by simp [allM]
  | k + 1 => by
    have ih := allM_len t k
    rw [allM]
    by_cases h : k = t
    · subst h
      rw [if_pos rfl, List.length_append, List.length_append, ih, if_neg (by omega), if_pos (by omega)]; rfl
    · rw [if_neg h, List.length_append, ih]
      by_cases h2 : t < k
      · rw [if_pos h2, if_pos (by omega)]; simp
      · rw [if_neg h2, if_neg (by omega)]; rfl
theorem ev_get : ∀ {n k : Nat}, k < n → (evM n)[k]? = some (2 * (k : Int))
  | 0, k, h => by omega
  | n + 1, k, h => by
    rw [evM]
    by_cases hk : k < n
    · rw [List.getElem?_append_left (by rw [evM_len]; exact hk)]; exact ev_get hk
    · obtain rfl : k = n := by omega
      rw [List.getElem?_append_right (by rw [evM_len]; omega), evM_len]; simp
theorem ev_ris : ∀ n, n < 8 → risI (evM n) := by decide
theorem all_ris : ∀ n, n < 8 → ∀ t, t < n → risI (allM t n) := by decide
theorem all_one : ∀ n, n < 8 → ∀ t, t < n → (allM t n).length = (evM n).length + 1 ∧ t + 1 ≤ (evM n).length ∧ (∀ k, k < (evM n).length → (allM t n)[emb (t + 1) k]? = (evM n)[k]?) ∧ (allM t n)[t + 1]? = some (2 * (t : Int) + 1) := by decide
theorem all_more {n t : Nat} (hn : n < 8) (ht : t < n) : OneMore (evM n) (allM t n) (t + 1) (2 * (t : Int) + 1) := by
  obtain ⟨h1, h2, h3, h4⟩ := all_one n hn t ht
  exact ⟨h1, h2, h3, h4⟩
theorem pl_get : ∀ {n k : Nat}, k < n → (plM n)[k]? = some ((k : Int) / 5, (k : Int) % 5)
  | 0, k, h => by omega
  | n + 1, k, h => by
    rw [plM]
    by_cases hk : k < n
    · rw [List.getElem?_append_left (by rw [plM_len]; exact hk)]; exact pl_get hk
    · obtain rfl : k = n := by omega
      rw [List.getElem?_append_right (by rw [plM_len]; omega), plM_len]; simp
theorem pl_dis (n : Nat) : disI (plM n) := by
  refine ⟨fun p hp => ?_, ?_⟩
  · obtain ⟨k, hk, e⟩ := List.mem_iff_getElem.1 hp
    have h := pl_get (n := n) (k := k) (by rw [plM_len] at hk; exact hk)
    rw [List.getElem?_eq_getElem hk, e] at h
    obtain rfl := Option.some.inj h
    exact ⟨by show (0 : Int) ≤ (k : Int) / 5; omega, by show (0 : Int) ≤ (k : Int) % 5; omega⟩
  · refine List.pairwise_iff_getElem.2 (fun i j hi hj hij => ?_)
    have h1 := pl_get (n := n) (k := i) (by rw [plM_len] at hi; exact hi)
    have h2 := pl_get (n := n) (k := j) (by rw [plM_len] at hj; exact hj)
    rw [List.getElem?_eq_getElem hi] at h1
    rw [List.getElem?_eq_getElem hj] at h2
    rw [Option.some.inj h1, Option.some.inj h2]
    intro e
    have e1 : (i : Int) / 5 = (j : Int) / 5 := congrArg Prod.fst e
    have e2 : (i : Int) % 5 = (j : Int) % 5 := congrArg Prod.snd e
    omega
/-- All that ShareJoins asks. -/
structure JoinsM (n t p : Nat) (a b c : List Own) (g : Nat) : Prop where
  ea : asgE (evM n) (plM p) [] = 0
  va : asgV (evM n) (plM p) [] = a
  la : a.length = p
  eb : asgE (allM t n) (plM p) a = 0
  vb : asgV (allM t n) (plM p) a = b
  lb : b.length = p
  ec : asgE (evM n) (plM p) b = 0
  vc : asgV (evM n) (plM p) b = c
  lc : c.length = p
  got : (ofI b (2 * (t : Int) + 1)).length = g
  ge : p / (n + 1) ≤ g
  le : g ≤ p / (n + 1) + 1
  mj : (movedI a b).length = g
  ml : (movedI b c).length = g
theorem joins_all {n t p : Nat} (hn0 : 0 < n) (hn : n < 8) (ht : t < n) (hp : p ≤ 256) : ∃ a b c g, JoinsM n t p a b c g := by
  have r1 := ev_ris n hn
  have r2 := all_ris n hn t ht
  have d := pl_dis p
  have O := all_more hn ht
  have hm : 0 < (evM n).length := by rw [evM_len]; exact hn0
  have lp := plM_len p
  have ea : asgE (evM n) (plM p) [] = 0 := asgE_of (by omega) (by simp) r1 d
  have eb : asgE (allM t n) (plM p) (asgI (evM n) (plM p) []) = 0 := asgE_of (by omega) (by rw [asgI_len]; omega) r2 d
  have ec : asgE (evM n) (plM p) (asgI (allM t n) (plM p) (asgI (evM n) (plM p) [])) = 0 := asgE_of (by omega) (by rw [asgI_len]; omega) r1 d
  have j := join_law (os := []) O hm r1 r2 d
  have l := leave_law (os := asgI (evM n) (plM p) []) O hm r1 r2 d
  rw [evM_len, lp] at j
  exact ⟨_, _, _, _, ea, asgV_ok ea, by rw [asgI_len]; exact lp, eb, asgV_ok eb, by rw [asgI_len]; exact lp, ec, asgV_ok ec, by rw [asgI_len]; exact lp, rfl, j.2.1, j.2.2, j.1, l⟩
end Go.Proofs.Ytlnbgfglpdkifaa
