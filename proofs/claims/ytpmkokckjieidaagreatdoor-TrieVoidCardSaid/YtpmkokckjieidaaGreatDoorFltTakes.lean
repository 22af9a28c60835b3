/- The program's takes: whether a filter's levels match a name's, or cover another filter's, level by level. No condition but that the levels lie where they are told. -/
import Derived.Test.YtpmkokckjieidaaGreatDoorFltTame
import Derived.Scope
import Derived.WalkMore
namespace Go.Proofs.YtpmkokckjieidaaGreatDoor
open Go.RowKit Go.Shelf
attribute [local go_sem] Oper.semAt_some
set_option linter.unusedVariables false
set_option linter.unusedSimpArgs false
set_option maxRecDepth 100000

def hid2 (F N : List Txt) : Bool := (decide (F[0]? = some [43]) || decide (F[0]? = some [35])) && (match N[0]? with | some y => Lib.hasPrefix y [36] | none => false)
def tkB (F N : List Txt) : Bool := !hid2 F N && cvs F N

theorem prefix_any (y : Txt) (w : World) : Calls Tryz.prog 67 #[tx y, tx [36]] w fun e w' => e = .returned (.bool (Lib.hasPrefix y [36])) ∧ w' = w :=
  Tryz.strings_HasPrefix ⟨y.toArray⟩ ⟨#[36]⟩ w

theorem cvs_pair {F N : List Txt} {k : Nat} {x y : Txt} (hx : F[k]? = some x) (hy : N[k]? = some y) (h1 : x ≠ [35]) (h2 : y ≠ [35]) : cvs (F.drop k) (N.drop k) = ((decide (x = [43]) || decide (x = y)) && cvs (F.drop (k + 1)) (N.drop (k + 1))) := by
  obtain ⟨h3, e3⟩ := List.getElem?_eq_some_iff.1 hx
  obtain ⟨h4, e4⟩ := List.getElem?_eq_some_iff.1 hy
  rw [List.drop_eq_getElem_cons h3, e3, List.drop_eq_getElem_cons h4, e4, cvs_go h1 h2]
theorem cvs_hash_at {F N : List Txt} {k : Nat} (hx : F[k]? = some [35]) : cvs (F.drop k) (N.drop k) = true := by
  obtain ⟨h3, e3⟩ := List.getElem?_eq_some_iff.1 hx
  rw [List.drop_eq_getElem_cons h3, e3, cvs_hash]
theorem cvs_low_at {F N : List Txt} {k : Nat} {x : Txt} (hx : F[k]? = some x) (hy : N[k]? = some [35]) (h1 : x ≠ [35]) : cvs (F.drop k) (N.drop k) = false := by
  obtain ⟨h3, e3⟩ := List.getElem?_eq_some_iff.1 hx
  obtain ⟨h4, e4⟩ := List.getElem?_eq_some_iff.1 hy
  rw [List.drop_eq_getElem_cons h3, e3, List.drop_eq_getElem_cons h4, e4, cvs_low h1]
theorem cvs_end_at {F N : List Txt} {k : Nat} {x : Txt} (hx : F[k]? = some x) (hy : N.length ≤ k) (h1 : x ≠ [35]) : cvs (F.drop k) (N.drop k) = false := by
  obtain ⟨h3, e3⟩ := List.getElem?_eq_some_iff.1 hx
  rw [List.drop_eq_getElem_cons h3, e3, List.drop_of_length_le hy, cvs_end h1]
theorem cvs_nil_at {F N : List Txt} {k : Nat} (hx : F.length ≤ k) : cvs (F.drop k) (N.drop k) = decide (N.length ≤ k) := by
  rw [List.drop_of_length_le hx, cvs_nil]
  exact decide_eq_decide.2 List.drop_eq_nil_iff

theorem tkB_at {F N : List Txt} {x y : Txt} (hx : F[0]? = some x) (hy : N[0]? = some y) : tkB F N = (!(((x == [43]) || (x == [35])) && Lib.hasPrefix y [36]) && cvs F N) := by
  have e1 : decide (x = [43]) = (x == [43]) := by rw [Bool.eq_iff_iff]; simp
  have e2 : decide (x = [35]) = (x == [35]) := by rw [Bool.eq_iff_iff]; simp
  simp only [tkB, hid2, hx, hy, Option.some.injEq, e1, e2]
theorem way3 (x : Txt) : ((x == [43]) = true ∧ (x == [35]) = false) ∨ ((x == [43]) = false ∧ (x == [35]) = true) ∨ ((x == [43]) = false ∧ (x == [35]) = false) := by
  by_cases h : x = [43]
  · subst h; exact .inl (by decide)
  · by_cases h' : x = [35]
    · subst h'; exact .inr (.inl (by decide))
    · exact .inr (.inr ⟨by simpa using h, by simpa using h'⟩)

end Go.Proofs.YtpmkokckjieidaaGreatDoor