/- The three boxes in which Next's results lie. No condition. -/
import Derived.Test.YtliaaggjefjbeaaCursorApi
namespace Go.Proofs.Ytliaaggjefjbeaa
open Go.RowKit
set_option linter.unusedVariables false

theorem still_below {B : Nat} {w w' : World} (h : Still w w') (hB : B ≤ w.heap.size) : Below B w w' := h.below hB (fun _ h => h.elim)

/-- The three result boxes of Next. -/
def Bx3 (b : Nat) (r t e : Int) (W : World) : Prop := Blk W b [.int .i64 r] 3 ∧ Blk W (b + 1) [.int .i64 t] 3 ∧ Blk W (b + 1 + 1) [.int .i64 e] 25
theorem Bx3.set {b : Nat} {r t e : Int} {W : World} (h : Bx3 b r t e W) (r' t' e' : Int) : Bx3 b r' t' e' (((W.setCell ⟨b, 0, none⟩ (.int .i64 r')).setCell ⟨b + 1, 0, none⟩ (.int .i64 t')).setCell ⟨b + 1 + 1, 0, none⟩ (.int .i64 e')) :=
  ⟨((Blk.set (b := b) (xs := [.int .i64 r]) h.1 0 (.int .i64 r')).other (p := ⟨b + 1, 0, none⟩) (by simp) _).other (p := ⟨b + 1 + 1, 0, none⟩) (by simp; omega) _,
    (Blk.set (b := b + 1) (xs := [.int .i64 t]) (Blk.other (b := b + 1) (xs := [.int .i64 t]) h.2.1 (p := ⟨b, 0, none⟩) (by simp) _) 0 (.int .i64 t')).other (p := ⟨b + 1 + 1, 0, none⟩) (by simp) _,
    Blk.set (b := b + 1 + 1) (xs := [.int .i64 e]) ((Blk.other (b := b + 1 + 1) (xs := [.int .i64 e]) h.2.2 (p := ⟨b, 0, none⟩) (by simp; omega) _).other (p := ⟨b + 1, 0, none⟩) (by simp) _) 0 (.int .i64 e')⟩
theorem Bx3.cells {b : Nat} {r t e : Int} {W : World} (h : Bx3 b r t e W) : W.cell? ⟨b, 0, none⟩ = some (.int .i64 r) ∧ W.cell? ⟨b + 1, 0, none⟩ = some (.int .i64 t) ∧ W.cell? ⟨b + 1 + 1, 0, none⟩ = some (.int .i64 e) ∧ W.frozen? ⟨b, 0, none⟩ = false ∧ W.frozen? ⟨b + 1, 0, none⟩ = false ∧ W.frozen? ⟨b + 1 + 1, 0, none⟩ = false :=
  ⟨h.1.cell rfl, h.2.1.cell rfl, h.2.2.cell rfl, h.1.free _, h.2.1.free _, h.2.2.free _⟩
theorem Bx3.turned {b : Nat} {r t e : Int} {S : Nat → Prop} {W W' : World} (h : Bx3 b r t e W) (ht : Turned S W W') (hs : ∀ k, b ≤ k → k ≤ b + 2 → ¬ S k) : Bx3 b r t e W' :=
  ⟨h.1.turned ht (hs _ (by omega) (by omega)), h.2.1.turned ht (hs _ (by omega) (by omega)), h.2.2.turned ht (hs _ (by omega) (by omega))⟩
theorem set3_below {b : Nat} {W : World} (u v x : Value) : Below b W (((W.setCell ⟨b, 0, none⟩ u).setCell ⟨b + 1, 0, none⟩ v).setCell ⟨b + 1 + 1, 0, none⟩ x) :=
  (((Below.refl b W).setCell (p := ⟨b, 0, none⟩) (Nat.le_refl _) _).setCell (p := ⟨b + 1, 0, none⟩) (Nat.le_succ _) _).setCell (p := ⟨b + 1 + 1, 0, none⟩) (by show b ≤ b + 1 + 1; omega) _
theorem Bx3.new (w : World) : Bx3 w.heap.size 0 0 0 (((w.alloc (.cells #[.int .i64 0] 3)).alloc (.cells #[.int .i64 0] 3)).alloc (.cells #[.int .i64 0] 25)) := by
  refine ⟨((Blk.new w _ _).alloc _).alloc _, ?_, ?_⟩
  · have := (Blk.new (w.alloc (.cells #[.int .i64 0] 3)) [.int .i64 0] 3).alloc (.cells #[.int .i64 0] 25)
    rwa [World.size_alloc] at this
  · have := Blk.new ((w.alloc (.cells #[.int .i64 0] 3)).alloc (.cells #[.int .i64 0] 3)) [.int .i64 0] 25
    rwa [World.size_alloc, World.size_alloc] at this
end Go.Proofs.Ytliaaggjefjbeaa
