/- The plain tree of filters: its pairs, and what layer 10 says of them. No condition. -/
import Derived.Test.YtpmkokckjieidaaGreatDoorFilterMath
namespace Go.Proofs.YtpmkokckjieidaaGreatDoor
open Go.RowKit
set_option linter.unusedVariables false
set_option linter.unusedSimpArgs false

/-- A filter and a number that stands for it. -/
abbrev Pr := Txt × Nat
def hasP (L : List Pr) (f : Txt) (n : Int) : Bool := decide (0 ≤ n ∧ (f, n.toNat) ∈ L)
def ptE (L : List Pr) (f : Txt) (n : Int) : Int := if fcE f ≠ 0 then 90 else if n < 0 ∨ 256 ≤ n then 2 else if hasP L f n = true then 6 else if 256 ≤ L.length then 4 else 0
def putL (L : List Pr) (f : Txt) (n : Int) : List Pr := if ptE L f n = 0 then L ++ [(f, n.toNat)] else L
def tkE (L : List Pr) (f : Txt) (n : Int) : Int := if fcE f ≠ 0 then 90 else if n < 0 ∨ 256 ≤ n then 2 else if hasP L f n = true then 0 else 5
def takeL (L : List Pr) (f : Txt) (n : Int) : List Pr := if tkE L f n = 0 then L.erase (f, n.toNat) else L
def dropL (L : List Pr) (n : Int) : List Pr := L.filter fun p => decide ((p.2 : Int) ≠ n)
def dropN (L : List Pr) (n : Int) : Nat := L.length - (dropL L n).length
/-- The numbers of a filter; those of all filters that match. -/
def ofL (L : List Pr) (f : Txt) : List Nat := if fcE f = 0 then (List.range 256).filter fun n => hasP L f n else []
def hitB (L : List Pr) (s : Txt) (n : Nat) : Bool := L.any fun p => decide (p.2 = n) && isB p.1 s
def mtL (L : List Pr) (s : Txt) : List Nat := if nmE s = 0 then (List.range 256).filter fun n => hitB L s n else []
/-- A text into a rising list, once. -/
def addT : List Txt → Txt → List Txt
  | [], s => [s]
  | x :: l, s => if Op.bytesLess x s = true then x :: addT l s else if x = s then x :: l else s :: x :: l
def flL (L : List Pr) : List Txt := L.foldl (fun out p => addT out p.1) []
/-- A beginning: levels, a stroke behind each. -/
def frontT (s : Txt) (k : Nat) : Txt := ((spl s).take k).flatMap fun x => x ++ [47]
def metB (all : List Txt) (i : Nat) (fr : Txt) : Bool := (all.take i).any fun t => decide ((t ++ [47]).take fr.length = fr)
/-- The beginnings of text i that none ahead has. -/
def newN (all : List Txt) (i : Nat) (s : Txt) : Nat := ((List.range (spl s).length).filter fun k => !metB all i (frontT s (k + 1))).length
def ndN (all : List Txt) : Nat := 1 + ((List.range all.length).map fun i => newN all i (all[i]?.getD [])).sum
def ndL (L : List Pr) : Nat := ndN (flL L)

structure TOk (L : List Pr) : Prop where
  nodup : L.Nodup
  ok : ∀ p ∈ L, fcE p.1 = 0 ∧ p.2 < 256
  len : L.length ≤ 256

theorem TOk.nil : TOk [] := ⟨List.nodup_nil, fun p h => by simp at h, Nat.zero_le _⟩
theorem ptE_cases (L : List Pr) (f : Txt) (n : Int) : (ptE L f n = 90 ∧ fcE f = 90) ∨ (ptE L f n = 2 ∧ fcE f = 0 ∧ (n < 0 ∨ 256 ≤ n)) ∨ (ptE L f n = 6 ∧ fcE f = 0 ∧ 0 ≤ n ∧ n < 256 ∧ hasP L f n = true) ∨ (ptE L f n = 4 ∧ fcE f = 0 ∧ 0 ≤ n ∧ n < 256 ∧ hasP L f n = false ∧ 256 ≤ L.length) ∨ (ptE L f n = 0 ∧ fcE f = 0 ∧ 0 ≤ n ∧ n < 256 ∧ hasP L f n = false ∧ L.length < 256) := by
  unfold ptE
  rcases fcE_or f with h | h
  · rw [h]
    by_cases h1 : n < 0 ∨ 256 ≤ n
    · exact .inr (.inl ⟨by simp [h1], rfl, h1⟩)
    · cases h2 : hasP L f n with
      | true => exact .inr (.inr (.inl ⟨by simp [h1], rfl, by omega, by omega, rfl⟩))
      | false =>
        by_cases h3 : 256 ≤ L.length
        · exact .inr (.inr (.inr (.inl ⟨by simp [h1, h3], rfl, by omega, by omega, rfl, h3⟩)))
        · exact .inr (.inr (.inr (.inr ⟨by simp [h1, h3], rfl, by omega, by omega, rfl, by omega⟩)))
  · rw [h]; simp
theorem tkE_cases (L : List Pr) (f : Txt) (n : Int) : (tkE L f n = 90 ∧ fcE f = 90) ∨ (tkE L f n = 2 ∧ fcE f = 0 ∧ (n < 0 ∨ 256 ≤ n)) ∨ (tkE L f n = 5 ∧ fcE f = 0 ∧ 0 ≤ n ∧ n < 256 ∧ hasP L f n = false) ∨ (tkE L f n = 0 ∧ fcE f = 0 ∧ 0 ≤ n ∧ n < 256 ∧ hasP L f n = true) := by
  unfold tkE
  rcases fcE_or f with h | h
  · rw [h]
    by_cases h1 : n < 0 ∨ 256 ≤ n
    · exact .inr (.inl ⟨by simp [h1], rfl, h1⟩)
    · cases h2 : hasP L f n with
      | true => exact .inr (.inr (.inr ⟨by simp [h1], rfl, by omega, by omega, rfl⟩))
      | false => exact .inr (.inr (.inl ⟨by simp [h1], rfl, by omega, by omega, rfl⟩))
  · rw [h]; simp
theorem TOk.put {L : List Pr} (h : TOk L) (f : Txt) (n : Int) : TOk (putL L f n) := by
  unfold putL
  split
  · rename_i e
    rcases ptE_cases L f n with h' | h' | h' | h' | h'
    · omega
    · omega
    · omega
    · omega
    · obtain ⟨_, h1, h2, h3, h4, h5⟩ := h'
      have hno : (f, n.toNat) ∉ L := fun hm => by
        have : hasP L f n = true := decide_eq_true ⟨h2, hm⟩
        rw [h4] at this; cases this
      refine ⟨?_, fun p hp => ?_, by rw [List.length_append]; simp; omega⟩
      · rw [List.nodup_append]
        exact ⟨h.nodup, by simp, fun a ha b hb => by simp at hb; subst hb; intro e; subst e; exact hno ha⟩
      · rcases List.mem_append.1 hp with hp | hp
        · exact h.ok p hp
        · simp at hp; subst hp; exact ⟨h1, by show n.toNat < 256; omega⟩
  · exact h
theorem TOk.take {L : List Pr} (h : TOk L) (f : Txt) (n : Int) : TOk (takeL L f n) := by
  unfold takeL
  split
  · exact ⟨h.nodup.erase _, fun p hp => h.ok p (List.mem_of_mem_erase hp), Nat.le_trans List.length_erase_le h.len⟩
  · exact h
theorem TOk.drop {L : List Pr} (h : TOk L) (n : Int) : TOk (dropL L n) :=
  ⟨h.nodup.filter _, fun p hp => h.ok p (List.mem_filter.1 hp).1, Nat.le_trans (List.length_filter_le _ _) h.len⟩
theorem dropL_len (L : List Pr) (n : Int) : (dropL L n).length ≤ L.length := List.length_filter_le _ _
end Go.Proofs.YtpmkokckjieidaaGreatDoor
