/- What Make of the program's ring answers. No condition. -/
import Derived.Test.YtliaaggjefjbeaaRingDo
namespace Go.Proofs.Ytliaaggjefjbeaa
open Go.RowKit
set_option linter.unusedVariables false
set_option linter.unusedSimpArgs false
set_option maxRecDepth 100000

theorem rmake_no (n p : Int) (w : World) (h : ¬ (1 ≤ n ∧ n ≤ 64 ∧ (p = 0 ∨ p = 1))) :
    Calls Try.prog 26 #[.int .i64 n, .int .i64 p] w fun e w' => e = .returned (.tuple #[.pointer none, .int .i64 2]) ∧ Still w w' := by
  have h' : n < 1 ∨ 64 < n ∨ (p ≠ 0 ∧ p ≠ 1) := by omega
  clear h
  rcases h' with h | h | ⟨h, k⟩
  · go_enter Try.func26, Try.ntmps26
    go_wp2
    all_goals first | (exfalso; omega) | (go_ret2; exact ⟨rfl, Turned.refl _ _⟩)
  · have h1 : ¬ n < 1 := by omega
    go_enter Try.func26, Try.ntmps26
    go_wp2
    all_goals first | (exfalso; omega) | (go_ret2; exact ⟨rfl, Turned.refl _ _⟩)
  · have h1 : (p != 0) = true := by rw [bne_iff_ne]; exact h
    have h2 : (p != 1) = true := by rw [bne_iff_ne]; exact k
    go_enter Try.func26, Try.ntmps26
    go_wp2
    all_goals first | (exfalso; omega) | (go_ret2; exact ⟨rfl, Turned.refl _ _⟩)

theorem rmake_ok (n : Nat) (ov : Bool) (w : World) (h1 : 1 ≤ n) (h2 : n ≤ 64) :
    Calls Try.prog 26 #[.int .i64 n, .int .i64 (polB ov)] w (RNew rT w n ov) := by
  have HI := Lib.hid (show ∃ W, (rT w.heap.size (RM.new n ov)).at_ (w.alloc (.cells #[.int .i64 (n : Nat), .int .i64 (polB ov), .int .i64 0, .slice none 0 0, .slice none 0 0] 63)) W ∧ Still w (w.alloc (.cells #[.int .i64 (n : Nat), .int .i64 (polB ov), .int .i64 0, .slice none 0 0, .slice none 0 0] 63)) ∧ ∀ k, W k → w.heap.size ≤ k from
    ⟨fun k => k = w.heap.size, ⟨none, 0, none, 0, fun k hk => by rw [hk]; simp, rfl, fun k hk => absurd hk.1 (Nat.lt_irrefl _), fun k hk => absurd hk.1 (Nat.lt_irrefl _), fun k hk => absurd hk.1 (Nat.lt_irrefl _),
      Blk.new w [.int .i64 (n : Nat), .int .i64 (polB ov), .int .i64 0, .slice none 0 0, .slice none 0 0] 63, Part.nil _ _ _, Part.nil _ _ _⟩, (Turned.refl _ _).alloc _, fun k hk => by omega⟩)
  have hn1 : (1 : Int) ≤ (n : Int) := by omega
  have hn2 : (n : Int) ≤ 64 := by omega
  cases ov
  · go_enter Try.func26, Try.ntmps26
    simp only [show polB false = 0 from rfl] at HI ⊢
    go_wp2
    go_ret2
    exact ⟨_, rfl, HI.out⟩
  · go_enter Try.func26, Try.ntmps26
    simp only [show polB true = 1 from rfl] at HI ⊢
    go_wp2
    go_ret2
    exact ⟨_, rfl, HI.out⟩
end Go.Proofs.Ytliaaggjefjbeaa
