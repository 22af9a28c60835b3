/- TopicPlays: the walk, over the landed sets; a place as an argument. No condition. -/
import Derived.Test.YtmmkcfiecgpkpaaGreatBdTp
import Derived.Test.YtmmkcfiecgpkpaaGreatTpPlaysW
import Derived.Test.YtmmkcfiecgpkpaaGreatBdPart
namespace Go.Proofs.YtmmkcfiecgpkpaaGreat
open Go.RowKit
set_option linter.unusedVariables false

/-- Two numbers in a struct: an argument that is one. -/
def encPair (a : Int × Int) : List Value := [.int .i64 a.1, .int .i64 a.2]
def okPair (w : World) (a : Int × Int) : Prop := okI .i64 w a.1 ∧ okI .i64 w a.2
theorem rdPlace13 : Rd Tryz.prog 25 encPair okPair :=
  rd_struct2 (m0 := 1) (m1 := 1) Tryz.underlying25 (by kernel_rfl) cellsInt cellsInt rfl rfl rdInt rdInt
theorem rd_arg_agg {P : Program} {t : TypeId} {α : Type} {enc : α → List Value} {ok : World → α → Prop} {H : Type} {e : TypeId × Value → H} {w : World} {base : Nat} {spare : Nat → Bool} {held : Bool} {cs : Array Value} {d : DataW H} {ps : List MemPlace}
    (hR : Rd P t enc ok) (h : DataW.Trod e P w base spare held t (.agg cs) d ps) : ∃ a, cs = (enc a).toArray ∧ ok w a := by
  obtain ⟨a, h1, h2⟩ := rd_arg hR h
  exact ⟨a, by rw [← h1]; rfl, h2⟩

theorem w64_arg {a : Int} (h : (Lit.int .i64 a).wf = true) : -9223372036854775808 ≤ a ∧ a ≤ 9223372036854775807 := by
  simp [Lit.wf, IntKind.min, IntKind.max, IntKind.signed, IntKind.bits] at h
  omega

theorem okWide_agg {P : Program} {t : TypeId} {fs : Array Field} {w : World} {r : Reach} {base : Nat} {v : Value} (ht : P.underlying t = some (.struct fs)) (h : Value.okWide P w r base t v) : ∃ cs, v = .agg cs := by
  unfold Value.okWide at h
  rw [ht] at h
  obtain ⟨cs, h1, _⟩ := h
  exact ⟨cs, h1⟩

theorem walk_TopicPlays (a b : Int) (s : Sl Act13) (l : Sl Int) (o : Int × Int) (w : World) (h0 : (Lit.int .i64 a).wf = true) (h1 : (Lit.int .i64 b).wf = true) (h2 : SlOk encAct13 okAct13 6 w s) (h3 : SlOk encI (okI .i64) 1 w l) (h4 : okPair w o) :
    Calls Tryz.prog 3 #[.int .i64 a, .int .i64 b, .slice s.a s.len s.cap, .slice l.a l.len l.cap, .agg (encPair o).toArray] w fun e w' => e = .returned (.bool true) ∧ Still w w' :=
  tpplays_walk topic_api part_acts pool_api12.toPoolActs a b s l o.1 o.2 w (w64_arg h0) (w64_arg h1) h2 h3 (w64_arg h4.1) (w64_arg h4.2)
end Go.Proofs.YtmmkcfiecgpkpaaGreat
