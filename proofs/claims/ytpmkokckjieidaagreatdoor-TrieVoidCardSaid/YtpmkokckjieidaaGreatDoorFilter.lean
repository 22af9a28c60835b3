/- The plain filters: what layer 9 says of texts, names and filters. No condition. -/
import Derived.Test.YtpmkokckjieidaaGreatDoorNameRef
namespace Go.Proofs.YtpmkokckjieidaaGreatDoor
open Go.RowKit
set_option linter.unusedVariables false
set_option linter.unusedSimpArgs false

def fcC (b : UInt8) : Bool := decide (33 ≤ b.toNat) && decide (b.toNat ≤ 126)
/-- Does a wild byte stand for whole levels only, a # for the last one only? -/
def lvB : List Txt → Bool
  | [] => true
  | x :: r => (decide ((43 : UInt8) ∉ x) || decide (x = [43])) && (decide ((35 : UInt8) ∉ x) || (decide (x = [35]) && decide (r = []))) && lvB r
/-- Is it a filter? -/
def fcE (l : Txt) : Int := if l ≠ [] ∧ l.length ≤ 64 ∧ (∀ b ∈ l, fcC b = true) ∧ (spl l).length ≤ 8 ∧ lvB (spl l) = true then 0 else 90
def flv (l : Txt) : List Txt := if fcE l = 0 then spl l else []
/-- Level by level. -/
def mts : List Txt → List Txt → Bool
  | [], n => decide (n = [])
  | x :: f, n => if x = [35] then true else match n with
    | [] => false
    | y :: m => (decide (x = [43]) || decide (x = y)) && mts f m
/-- A filter whose first level is wild, over a first level that is hidden. -/
def hidB (f n : Txt) : Bool := decide (n[0]? = some 36) && (decide (f[0]? = some 43) || decide (f[0]? = some 35))
def isB (f n : Txt) : Bool := !hidB f n && mts (spl f) (spl n)
def mtE (f n : Txt) : Int := if fcE f ≠ 0 then 90 else if nmE n ≠ 0 then 80 else 0
def mtB (f n : Txt) : Bool := decide (mtE f n = 0) && isB f n
def anR (n : Txt) : Nat → List Txt → Int × Int
  | _, [] => (-1, 0)
  | k, x :: r => if mtE x n ≠ 0 then (0, mtE x n) else if isB x n = true then ((k : Int), 0) else anR n (k + 1) r
def anV (n : Txt) (ls : List Txt) : Int × Int := if nmE n ≠ 0 then (0, 80) else anR n 0 ls
def cvs : List Txt → List Txt → Bool
  | [], b => decide (b = [])
  | x :: a, b => if x = [35] then true else match b with
    | [] => false
    | y :: c => if y = [35] then false else (decide (x = [43]) || decide (x = y)) && cvs a c
def cvE (a b : Txt) : Int := if fcE a = 0 ∧ fcE b = 0 then 0 else 90
def cvB (a b : Txt) : Bool := decide (cvE a b = 0) && (!hidB a b && cvs (spl a) (spl b))
def wldB (l : Txt) : Bool := decide (fcE l = 0) && (decide ([43] ∈ spl l) || decide ([35] ∈ spl l))

theorem mts_nil (N : List Txt) : mts [] N = decide (N = []) := by simp [mts]
theorem mts_hash (F N : List Txt) : mts ([35] :: F) N = true := by cases N <;> simp [mts]
theorem mts_end {x : Txt} {F : List Txt} (h : x ≠ [35]) : mts (x :: F) [] = false := by simp [mts, h]
theorem mts_go {x y : Txt} {F N : List Txt} (h : x ≠ [35]) : mts (x :: F) (y :: N) = ((decide (x = [43]) || decide (x = y)) && mts F N) := by simp [mts, h]
theorem cvs_nil (N : List Txt) : cvs [] N = decide (N = []) := by simp [cvs]
theorem cvs_hash (F N : List Txt) : cvs ([35] :: F) N = true := by cases N <;> simp [cvs]
theorem cvs_end {x : Txt} {F : List Txt} (h : x ≠ [35]) : cvs (x :: F) [] = false := by simp [cvs, h]
theorem cvs_low {x : Txt} {F N : List Txt} (h : x ≠ [35]) : cvs (x :: F) ([35] :: N) = false := by simp [cvs, h]
theorem cvs_go {x y : Txt} {F N : List Txt} (h : x ≠ [35]) (h' : y ≠ [35]) : cvs (x :: F) (y :: N) = ((decide (x = [43]) || decide (x = y)) && cvs F N) := by simp [cvs, h, h']

theorem fcE_iff {l : Txt} : fcE l = 0 ↔ l ≠ [] ∧ l.length ≤ 64 ∧ (∀ b ∈ l, fcC b = true) ∧ (spl l).length ≤ 8 ∧ lvB (spl l) = true := by
  unfold fcE; split
  · rename_i h; exact ⟨fun _ => h, fun _ => rfl⟩
  · rename_i h; exact ⟨fun e => (by cases e), fun e => absurd e h⟩
theorem fcE_or (l : Txt) : fcE l = 0 ∨ fcE l = 90 := by unfold fcE; split <;> simp
theorem fcE_no {l : Txt} (h : fcE l ≠ 0) : fcE l = 90 := (fcE_or l).resolve_left h
theorem flv_ok {l : Txt} (h : fcE l = 0) : flv l = spl l := if_pos h
theorem flv_no {l : Txt} (h : fcE l ≠ 0) : flv l = [] := if_neg h
theorem flv_len (l : Txt) : (flv l).length ≤ 8 := by
  unfold flv; split
  · rename_i h; exact (fcE_iff.1 h).2.2.2.1
  · simp
theorem mtE_or (f n : Txt) : (mtE f n = 0 ∧ fcE f = 0 ∧ nmE n = 0) ∨ (mtE f n = 90 ∧ fcE f = 90) ∨ (mtE f n = 80 ∧ fcE f = 0 ∧ nmE n = 80) := by
  unfold mtE
  rcases fcE_or f with h | h
  · rcases nmE_or n with h' | h'
    · rw [h, h']; simp
    · rw [h, h']; simp
  · rw [h]; simp
theorem cvE_or (a b : Txt) : cvE a b = 0 ∨ cvE a b = 90 := by unfold cvE; split <;> simp
theorem cvE_iff {a b : Txt} : cvE a b = 0 ↔ fcE a = 0 ∧ fcE b = 0 := by
  unfold cvE; split
  · rename_i h; exact ⟨fun _ => h, fun _ => rfl⟩
  · rename_i h; exact ⟨fun e => (by cases e), fun e => absurd e h⟩

/-- What level k asks of a filter. -/
theorem lvB_at : ∀ {L : List Txt}, lvB L = true → ∀ {k : Nat} {x : Txt}, L[k]? = some x → ((43 : UInt8) ∈ x → x = [43]) ∧ ((35 : UInt8) ∈ x → x = [35] ∧ k + 1 = L.length)
  | [], _, k, x, hx => by simp at hx
  | y :: r, h, k, x, hx => by
    simp only [lvB, Bool.and_eq_true, Bool.or_eq_true, decide_eq_true_eq] at h
    cases k with
    | zero =>
      simp at hx; subst hx
      refine ⟨fun h1 => h.1.1.resolve_left (fun h2 => h2 h1), fun h1 => ?_⟩
      obtain ⟨h2, h3⟩ := h.1.2.resolve_left (fun h2 => h2 h1)
      exact ⟨h2, by rw [h3]; rfl⟩
    | succ k =>
      rw [List.getElem?_cons_succ] at hx
      obtain ⟨h1, h2⟩ := lvB_at h.2 hx
      exact ⟨h1, fun h3 => ⟨(h2 h3).1, by rw [List.length_cons]; have := (h2 h3).2; omega⟩⟩
theorem lvB_of : ∀ {L : List Txt}, (∀ k x, L[k]? = some x → ((43 : UInt8) ∈ x → x = [43]) ∧ ((35 : UInt8) ∈ x → x = [35] ∧ k + 1 = L.length)) → lvB L = true
  | [], _ => rfl
  | y :: r, h => by
    simp only [lvB, Bool.and_eq_true, Bool.or_eq_true, decide_eq_true_eq]
    obtain ⟨h1, h2⟩ := h 0 y rfl
    refine ⟨⟨?_, ?_⟩, lvB_of (fun k x hx => ?_)⟩
    · by_cases e : (43 : UInt8) ∈ y
      · exact .inr (h1 e)
      · exact .inl e
    · by_cases e : (35 : UInt8) ∈ y
      · refine .inr ⟨(h2 e).1, ?_⟩
        have := (h2 e).2
        rw [List.length_cons] at this
        exact List.eq_nil_of_length_eq_zero (by omega)
      · exact .inl e
    · obtain ⟨h3, h4⟩ := h (k + 1) x (by rw [List.getElem?_cons_succ]; exact hx)
      exact ⟨h3, fun e => ⟨(h4 e).1, by have := (h4 e).2; rw [List.length_cons] at this; omega⟩⟩
/-- Level k is none of a filter's. -/
def badLv (x : Txt) (last : Bool) : Bool := (decide ((43 : UInt8) ∈ x) && decide (x ≠ [43])) || (decide ((35 : UInt8) ∈ x) && (decide (x ≠ [35]) || !last))
theorem badLv_false {x : Txt} {last : Bool} (h : badLv x last = false) : ((43 : UInt8) ∈ x → x = [43]) ∧ ((35 : UInt8) ∈ x → x = [35] ∧ last = true) := by
  simp only [badLv, Bool.or_eq_false_iff, Bool.and_eq_false_iff, decide_eq_false_iff_not, Decidable.not_not, Bool.not_eq_false'] at h
  refine ⟨fun h1 => ?_, fun h1 => ?_⟩
  · rcases h.1 with h2 | h2
    · exact absurd h1 h2
    · exact h2
  · rcases h.2 with h2 | h2
    · exact absurd h1 h2
    · exact h2
theorem badLv_true {x : Txt} {last : Bool} (h : badLv x last = true) : ¬ (((43 : UInt8) ∈ x → x = [43]) ∧ ((35 : UInt8) ∈ x → x = [35] ∧ last = true)) := by
  rintro ⟨h1, h2⟩
  simp only [badLv, Bool.or_eq_true, Bool.and_eq_true, decide_eq_true_eq, Bool.not_eq_true'] at h
  rcases h with ⟨h3, h4⟩ | ⟨h3, h4⟩
  · exact h4 (h1 h3)
  · obtain ⟨h5, h6⟩ := h2 h3
    rcases h4 with h4 | h4
    · exact h4 h5
    · rw [h6] at h4; cases h4
end Go.Proofs.YtpmkokckjieidaaGreatDoor
