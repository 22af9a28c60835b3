/- What Is of the program's ledger answers: the iterator's spans are looked through. No condition but that the ledger is one. -/
import Derived.Test.YtdlkdagmaeapdaaLgOut
import Derived.Test.YtdlkdagmaeapdaaLgMath
namespace Go.Proofs.Ytdlkdagmaeapdaa
open Go.RowKit Go.Shelf
attribute [local go_sem] Oper.semAt_some
set_option linter.unusedVariables false
set_option linter.unusedSimpArgs false
set_option maxRecDepth 100000

/-- How a function ends whose result, a Bool, lies in a cell, where a loop lies behind it. -/
theorem cell_endB {F : Fence} {n : Nat} {V : World} {D B : Nat} {y : Bool} {p : Tmp} {a : Act} {fn : Func} {R : Ending → World → Prop} (hfn : fn.results = #[.cell p 4])
    (h4 : a.tmps.getD p undef = .pointer (some ⟨B, 0, none⟩)) (hd : a.defers = [{ target := .collected D, args := #[] }]) (hB : Blk V B [.bool y] 4) (hne : B ≠ D) (hK : V.heap[D]? = some (.deferred (some [])))
    (hR : ∀ W', Turned (· = D) V W' → R (.returned (.bool y)) W') : bodyPostM F n Try.prog fn R .ret a V := by
  show LeavesInM F n Try.prog fn a.tmps R a.defers .returning V
  rw [hd]
  refine ⟨by simp, .inl ⟨_, _, rfl, run_takeDeferred hK, ?_⟩⟩
  have hP : Turned (· = D) V (V.putObj D (.deferred none)) := putObj_since _ (Array.getElem?_eq_some_iff.1 hK).1
  have b1 : (V.putObj D (.deferred none)).cell? ⟨B, 0, none⟩ = some (.bool y) := (hB.turned hP hne).cell rfl
  refine ⟨.bool y, ?_, hR _ hP⟩
  have hr : ∀ (tmps : Array Value) (P : Program) (w : World), (results fn tmps).run P w = ((asAddr (tmps.getD p undef)).run P w).andThen fun a w₁ => (loadVar 4 a).run P w₁ := fun tmps P w => by
    simp only [results, hfn]
    simp [Sem.run_bind, Result.andThen]
  rw [hr, h4]
  go_simp

/-- What holds between two rounds; and where one has left. -/
def inI (B : Nat) (L : List (Int × Int)) (x : Int) (k : Nat) : Thing where
  at_ w W := (blkT B [.bool false] 4).at_ w W ∧ ∀ j z, j < k → L[j]? = some z → inP x z = false
  lt := fun h => (blkT B [.bool false] 4).lt h.1
  keep := fun h ht hs => ⟨(blkT B [.bool false] 4).keep h.1 ht hs, h.2⟩
def inX (B : Nat) (L : List (Int × Int)) (x : Int) (k : Nat) : Thing where
  at_ w W := (∃ z, L[k]? = some z ∧ inP x z = true) ∧ (blkT B [.bool true] 4).at_ w W
  lt := fun h => (blkT B [.bool true] 4).lt h.2
  keep := fun h ht hs => ⟨h.1, (blkT B [.bool true] 4).keep h.2 ht hs⟩

section
variable {q : Nat} {M : LgM} {w : World} {W : Nat → Prop} {n : Nat}
end
end Go.Proofs.Ytdlkdagmaeapdaa
