/- Texts that lie next to one another, laid into one: each says what it holds. No condition but what each states. -/
import Derived.RangeFuncNested
import Derived.RangeFuncBound
import Derived.RangeFuncCalls
import Derived.RangeFuncLeaves
import Derived.RangeFuncBox
import Derived.Maps.AppendAt
import Derived.Shelf.Abstract
import Derived.OwnWalkIn
import Derived.TacticsInMore
import Derived.LoopNIn
import Derived.LoopIn
import Derived.Test.YtmmkcfiecgpkpaaGreatBdPlain
import Derived.Test.YtmmkcfiecgpkpaaGreatBdThing

/- The iterator of package handle goes through the handles of a book of generations that may be, slot by slot. No condition. -/
namespace Go.Proofs.YtmmkcfiecgpkpaaGreat
open Go.RowKit Go.Shelf
attribute [local go_sem] Oper.semAt_some
set_option linter.unusedVariables false
set_option maxRecDepth 100000

/-- A generation that may be. -/
def genOk (g : Int) : Prop := 0 ≤ g ∧ g < 1099511627776
/-- The handles of a book, slot by slot. -/
def hsFrom : Nat → List Int → List Int
  | _, [] => []
  | k, g :: r => (g * 128 + k + 1) :: hsFrom (k + 1) r
def hsOf (l : List Int) : List Int := hsFrom 0 l
theorem hsFrom_length : ∀ (l : List Int) (k : Nat), (hsFrom k l).length = l.length
  | [], k => rfl
  | g :: r, k => by simp [hsFrom, hsFrom_length r]
theorem hsOf_length (l : List Int) : (hsOf l).length = l.length := hsFrom_length l 0
theorem hsFrom_get : ∀ (l : List Int) (k i : Nat) (g : Int), l[i]? = some g → (hsFrom k l)[i]? = some (g * 128 + (k + i : Nat) + 1)
  | [], k, i, g, h => by simp at h
  | a :: r, k, 0, g, h => by simp at h; subst h; simp [hsFrom]
  | a :: r, k, i + 1, g, h => by
    simp only [List.getElem?_cons_succ] at h
    simp only [hsFrom, List.getElem?_cons_succ]
    rw [hsFrom_get r (k + 1) i g h, show k + 1 + i = k + (i + 1) by omega]
theorem hsOf_get {l : List Int} {i : Nat} {g : Int} (h : l[i]? = some g) : (hsOf l)[i]? = some (g * 128 + (i : Nat) + 1) := by
  have := hsFrom_get l 0 i g h
  rwa [Nat.zero_add] at this

theorem of_in (F : Fence) (n : Nat) (k : Nat) (g : Int) (w : World) (hk : k < 128) (hg : genOk g) (h : F.fn 103) (hro : F.round = none) :
    CallsIn F n Tryz.prog 103 #[.int .i64 k, .int .i64 g] w fun e w' => e = .returned (.tuple #[.int .i64 (g * 128 + k + 1), .int .i64 0]) ∧ w = w' := by
  obtain ⟨h3, h4⟩ := hg
  refine callsIn_of_wp Tryz.func103 rfl h ?_ hro
  simp only [Tryz.ntmps103, List.size_toArray, List.length_cons, List.length_nil, Nat.reduceAdd, Nat.reduceSub, Array.replicate_succ, Array.replicate_zero, List.push_toArray, List.append_toArray, List.nil_append, List.cons_append]
  gi_wp2
  go_ret2
  exact ⟨rfl, rfl⟩

/-- The cells of a book lie before n₀. -/
def NumsLow (n₀ : Nat) (ao : Option Addr) : Prop := ∀ a, ao = some a → a.block < n₀
theorem NumsAt.below {n₀ : Nat} {w w' : World} {ao : Option Addr} {l : List Int} (h : NumsAt w ao l) (hb : Below n₀ w w') (hl : NumsLow n₀ ao) : NumsAt w' ao l := fun i x hx => by
  obtain ⟨b, o, rfl, hc⟩ := h i x hx
  refine ⟨b, o, rfl, ?_⟩
  have : w'.heap[b]? = w.heap[b]? := hb.block b (hl ⟨b, o, none⟩ rfl)
  rw [← hc]
  exact World.cell?_of_block (w := w) this

end Go.Proofs.YtmmkcfiecgpkpaaGreat

/- What handle.All hands out: a new slice of all handles, slot by slot. No condition but that there are no more slots than may be, and that the generations may be. -/
namespace Go.Proofs.YtmmkcfiecgpkpaaGreat
open Go.RowKit Go.Shelf
attribute [local go_sem] Oper.semAt_some
set_option linter.unusedVariables false

theorem infoInt4 : (Tryz.prog.info? 3).map (fun i => (i.zero, i.size, i.bytes)) = some (some (.int .i64 0), 1, 8) := by kernel_rfl
theorem results_cell2 {fn : Func} {p q : Tmp} {t u : TypeId} (h : fn.results = #[.cell p t, .cell q u]) (tmps : Array Value) (P : Program) (w : World) :
    (results fn tmps).run P w =
      ((asAddr (tmps.getD p undef)).run P w).andThen fun a w₁ => ((loadVar t a).run P w₁).andThen fun v w₂ =>
        ((asAddr (tmps.getD q undef)).run P w₂).andThen fun a' w₃ => ((loadVar u a').run P w₃).andThen fun v' w₄ => .ok (.tuple #[v, v']) w₄ := by
  simp only [results, h]
  simp [Sem.run_bind, Result.andThen]

/-- All handles of a book, in a slice of their own. -/
def HAllPost (w : World) (st : List Int) (m : Nat) (e : Ending) (W' : World) : Prop :=
  ∃ nb, e = .returned (.tuple #[.slice (some ⟨nb, 0, none⟩) m m, .int .i64 0]) ∧ NumsAt W' (some ⟨nb, 0, none⟩) (hsOf st) ∧ w.heap.size ≤ nb ∧ Still w W'
end Go.Proofs.YtmmkcfiecgpkpaaGreat
