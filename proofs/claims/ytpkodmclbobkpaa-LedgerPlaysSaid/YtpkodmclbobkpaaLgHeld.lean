/- A ledger behind acts, behind whatever left the arguments alone. No condition but the words. -/
import Derived.Test.YtpkodmclbobkpaaLgBuilt
namespace Go.Proofs.Ytpkodmclbobkpaa
open Go.RowKit
set_option linter.unusedVariables false

theorem Held.lower {w0 w1 w2 : World} {Q : Thing} (h : Held w1 w2 Q) (hs : Still w0 w1) : Held w0 w2 Q := by
  obtain ⟨W, h1, h2, h3⟩ := h
  exact ⟨W, h1, fun k hk => Nat.le_trans hs.size (h2 k hk), hs.trans h3⟩
theorem Held.none {w0 w : World} {A : Thing} (h : Held w0 w A) : Held w0 w (A.sep Thing.none) := by
  obtain ⟨W, h1, h2, h3⟩ := h
  exact ⟨W, ⟨W, fun _ => False, h1, fun _ h => h, fun _ _ h => h, fun k => ⟨.inl, fun h => h.elim id (fun h => h.elim)⟩⟩, h2, h3⟩
theorem okAct14_stays : Stays okAct14 := fun w w' a ht h => h
/-- built, behind whatever left the arguments alone. -/
theorem built14_at {LT : Nat → LgM → Thing} (A : LedgerApi LT) (n0 : Int) (t : Sl Act14) (w V : World) (h1 : SlOk encAct14 okAct14 3 w t) (hs : Still w V) :
    Calls Try.prog 28 #[.int .i64 n0, .slice t.a t.len t.cap] V fun e w' => ∃ q, e = .returned (.pointer (some ⟨q, 0, none⟩)) ∧ ∃ M : LgM, M.Ok ∧ M.b < 1000 ∧ Held w w' ((LT q M).sep Thing.none) :=
  (built14_any A n0 t V (SlOk.stays okAct14_stays w V _ hs h1)).mono fun e w' ⟨q, he, b, _, hb, M, m1, m2, m3⟩ => ⟨q, he, M, m1, by omega, m3.lower hs⟩
end Go.Proofs.Ytpkodmclbobkpaa
