/- The plain names: what layer 8 says of texts and levels. No condition. -/
import Derived.Test.YtpmkokckjieidaaGreatDoorTextRow
namespace Go.Proofs.YtpmkokckjieidaaGreatDoor
open Go.RowKit
set_option linter.unusedVariables false
set_option linter.unusedSimpArgs false

/-- May a name have this byte? -/
def okC (b : UInt8) : Bool := decide (33 ≤ b.toNat) && decide (b.toNat ≤ 126) && decide (b.toNat ≠ 43) && decide (b.toNat ≠ 35)
/-- Is it a name? -/
def nmE (l : Txt) : Int := if l ≠ [] ∧ l.length ≤ 64 ∧ (∀ b ∈ l, okC b = true) ∧ (spl l).length ≤ 8 then 0 else 80
def lvls (l : Txt) : List Txt := if nmE l = 0 then spl l else []
/-- Are they the levels of a name? -/
def ofE (ls : List Txt) : Int := if (∀ x ∈ ls, (47 : UInt8) ∉ x) ∧ nmE (jn ls) = 0 then 0 else 80
def ofT (ls : List Txt) : Txt := if ofE ls = 0 then jn ls else []
def hdB (l : Txt) : Bool := decide (nmE l = 0 ∧ l[0]? = some 36)
def abE (l : Txt) (d : Int) : Int := if nmE l ≠ 0 then 80 else if d < 1 ∨ ((spl l).length : Int) < d then 2 else ofE ((spl l).take d.toNat)
def abT (l : Txt) (d : Int) : Txt := if abE l d = 0 then jn ((spl l).take d.toNat) else []
def cpE (a b : Txt) : Int := if nmE a = 0 ∧ nmE b = 0 then 0 else 80
def cpN (a b : Txt) : Int := if cpE a b = 0 then cmpL (spl a) (spl b) else 0

theorem nmE_iff {l : Txt} : nmE l = 0 ↔ l ≠ [] ∧ l.length ≤ 64 ∧ (∀ b ∈ l, okC b = true) ∧ (spl l).length ≤ 8 := by
  unfold nmE; split
  · rename_i h; exact ⟨fun _ => h, fun _ => rfl⟩
  · rename_i h; exact ⟨fun e => (by cases e), fun e => absurd e h⟩
theorem nmE_or (l : Txt) : nmE l = 0 ∨ nmE l = 80 := by unfold nmE; split <;> simp
theorem nmE_no {l : Txt} (h : nmE l ≠ 0) : nmE l = 80 := (nmE_or l).resolve_left h
theorem ofE_iff {ls : List Txt} : ofE ls = 0 ↔ (∀ x ∈ ls, (47 : UInt8) ∉ x) ∧ nmE (jn ls) = 0 := by
  unfold ofE; split
  · rename_i h; exact ⟨fun _ => h, fun _ => rfl⟩
  · rename_i h; exact ⟨fun e => (by cases e), fun e => absurd e h⟩
theorem ofE_or (ls : List Txt) : ofE ls = 0 ∨ ofE ls = 80 := by unfold ofE; split <;> simp
theorem ofE_no {ls : List Txt} (h : ofE ls ≠ 0) : ofE ls = 80 := (ofE_or ls).resolve_left h
theorem cpE_or (a b : Txt) : cpE a b = 0 ∨ cpE a b = 80 := by unfold cpE; split <;> simp
theorem cpE_iff {a b : Txt} : cpE a b = 0 ↔ nmE a = 0 ∧ nmE b = 0 := by
  unfold cpE; split
  · rename_i h; exact ⟨fun _ => h, fun _ => rfl⟩
  · rename_i h; exact ⟨fun e => (by cases e), fun e => absurd e h⟩
theorem lvls_ok {l : Txt} (h : nmE l = 0) : lvls l = spl l := if_pos h
theorem lvls_no {l : Txt} (h : nmE l ≠ 0) : lvls l = [] := if_neg h
theorem lvls_len (l : Txt) : (lvls l).length ≤ 8 := by
  unfold lvls; split
  · rename_i h; exact (nmE_iff.1 h).2.2.2
  · simp

theorem spl_one {x : Txt} (h : (47 : UInt8) ∉ x) : spl x = [x] := by
  have := spF_skip x [] [] [] h
  rw [List.append_nil] at this
  unfold spl; rw [this]; rfl
theorem spl_many {x : Txt} : 1 < (spl x).length ↔ (47 : UInt8) ∈ x := by
  constructor
  · intro h
    by_cases h' : (47 : UInt8) ∈ x
    · exact h'
    · rw [spl_one h'] at h; simp at h
  · intro h
    have h1 := (spl_len x).1
    rcases Nat.lt_or_ge 1 (spl x).length with h2 | h2
    · exact h2
    · obtain ⟨y, hy⟩ : ∃ y, spl x = [y] := List.length_eq_one_iff.1 (by omega)
      have h3 := jn_spl x
      rw [hy] at h3
      have h4 := spl_pure x y (by rw [hy]; simp)
      rw [jn] at h3
      rw [h3] at h4
      exact absurd h h4
/-- Levels that make a name are its levels. -/
theorem of_back {ls : List Txt} (h : ofE ls = 0) : spl (jn ls) = ls ∧ ls ≠ [] := by
  obtain ⟨h1, h2⟩ := ofE_iff.1 h
  have h3 : ls ≠ [] := by
    rintro rfl
    exact (nmE_iff.1 h2).1 rfl
  exact ⟨spl_jn h3 h1, h3⟩
theorem ofE_spl (l : Txt) : ofE (spl l) = nmE l := by
  rcases nmE_or l with h | h
  · rw [h]; exact ofE_iff.2 ⟨spl_pure l, by rw [jn_spl]; exact h⟩
  · rw [h]; refine ofE_no (fun h' => ?_)
    have := (ofE_iff.1 h').2
    rw [jn_spl, h] at this; cases this
theorem of_many {ls : List Txt} (h : 8 < ls.length) : ofE ls = 80 := ofE_no (fun h' => by
  have h1 := (of_back h').1
  have h2 := (nmE_iff.1 (ofE_iff.1 h').2).2.2.2
  rw [h1] at h2; omega)
theorem of_long {ls : List Txt} {k : Nat} (h : 64 < (jn (ls.take k)).length) : ofE ls = 80 := ofE_no (fun h' => by
  have h1 := jn_len_le ls k
  have h2 := (nmE_iff.1 (ofE_iff.1 h').2).2.1
  omega)
theorem of_stroke {ls : List Txt} {x : Txt} (hx : x ∈ ls) (h : (47 : UInt8) ∈ x) : ofE ls = 80 := ofE_no (fun h' => (ofE_iff.1 h').1 x hx h)
theorem jn_take {ls : List Txt} {k : Nat} {x : Txt} (hx : ls[k]? = some x) : jn (ls.take (k + 1)) = if k = 0 then x else jn (ls.take k) ++ 47 :: x := by
  rw [List.take_add_one, hx]
  show jn (ls.take k ++ [x]) = _
  have hk := get_lt hx
  by_cases h0 : k = 0
  · subst h0; rw [if_pos rfl]; simp [jn]
  · rw [if_neg h0, jn_snoc]
    intro h
    rcases List.take_eq_nil_iff.1 h with h1 | h1
    · exact h0 h1
    · subst h1; simp at hk
/-- The name of the first so many levels: none just where that is one empty level. -/
theorem ab_of {l : Txt} (h : nmE l = 0) {d : Nat} (h1 : 1 ≤ d) (h2 : d ≤ (spl l).length) : ofE ((spl l).take d) = if jn ((spl l).take d) = [] then 80 else 0 := by
  obtain ⟨a1, a2, a3, a4⟩ := nmE_iff.1 h
  have hp : ∀ x ∈ (spl l).take d, (47 : UInt8) ∉ x := fun x hx => spl_pure l x (List.mem_of_mem_take hx)
  have hne : (spl l).take d ≠ [] := fun e => by
    rcases List.take_eq_nil_iff.1 e with e | e
    · omega
    · exact spl_ne l e
  obtain ⟨r, hr⟩ := jn_take_pre (spl l) d
  rw [jn_spl] at hr
  by_cases h0 : jn ((spl l).take d) = []
  · rw [if_pos h0]
    exact ofE_no (fun e => (nmE_iff.1 (ofE_iff.1 e).2).1 h0)
  · rw [if_neg h0]
    refine ofE_iff.2 ⟨hp, nmE_iff.2 ⟨h0, ?_, fun b hb => a3 b (by rw [hr]; simp [hb]), ?_⟩⟩
    · have := congrArg List.length hr
      rw [List.length_append] at this
      omega
    · rw [spl_jn hne hp, List.length_take]; omega
end Go.Proofs.YtpmkokckjieidaaGreatDoor
