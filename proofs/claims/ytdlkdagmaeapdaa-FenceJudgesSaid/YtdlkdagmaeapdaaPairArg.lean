/- A struct of two numbers as an argument. No condition. -/
import Derived.Test.YtdlkdagmaeapdaaReadInts
namespace Go.Proofs.Ytdlkdagmaeapdaa
open Go.RowKit
set_option linter.unusedVariables false

/-- Two numbers in a struct: an argument that is one. -/
def encPair (a : Int × Int) : List Value := [.int .i64 a.1, .int .i64 a.2]
def okPair (w : World) (a : Int × Int) : Prop := okI .i64 w a.1 ∧ okI .i64 w a.2
theorem rdPlace13 : Rd Try.prog 54 encPair okPair :=
  rd_struct2 (m0 := 1) (m1 := 1) Try.underlying54 (by kernel_rfl) cellsInt cellsInt rfl rfl rdInt rdInt
theorem rd_arg_agg {P : Program} {t : TypeId} {α : Type} {enc : α → List Value} {ok : World → α → Prop} {H : Type} {e : TypeId × Value → H} {w : World} {base : Nat} {spare : Nat → Bool} {held : Bool} {cs : Array Value} {d : DataW H} {ps : List MemPlace}
    (hR : Rd P t enc ok) (h : DataW.Trod e P w base spare held t (.agg cs) d ps) : ∃ a, cs = (enc a).toArray ∧ ok w a := by
  obtain ⟨a, h1, h2⟩ := rd_arg hR h
  exact ⟨a, by rw [← h1]; rfl, h2⟩

theorem okWide_agg {P : Program} {t : TypeId} {fs : Array Field} {w : World} {r : Reach} {base : Nat} {v : Value} (ht : P.underlying t = some (.struct fs)) (h : Value.okWide P w r base t v) : ∃ cs, v = .agg cs := by
  unfold Value.okWide at h
  rw [ht] at h
  obtain ⟨cs, h1, _⟩ := h
  exact ⟨cs, h1⟩

end Go.Proofs.Ytdlkdagmaeapdaa
