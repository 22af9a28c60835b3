/- What Ready and Make of the document's ring do. No condition but that the ring is one. -/
import Derived.Test.YtliaaggjefjbeaaRingRefRefs
namespace Go.Proofs.Ytliaaggjefjbeaa
open Go.RowKit
set_option linter.unusedVariables false
set_option linter.unusedSimpArgs false
set_option maxRecDepth 100000

theorem tw_done {α : Type} (f : α → Bool) : ∀ (l : List α) (j : Nat) (x : α), j ≤ (l.takeWhile f).length → l[j]? = some x → f x = true → j < (l.takeWhile f).length
  | [], j, x, h, hx, _ => by simp at hx
  | a :: r, 0, x, h, hx, hf => by
    simp at hx; subst hx
    rw [List.takeWhile_cons_of_pos hf]; simp
  | a :: r, j + 1, x, h, hx, hf => by
    by_cases ha : f a = true
    · rw [List.takeWhile_cons_of_pos ha] at h ⊢
      simp only [List.length_cons] at h ⊢
      have := tw_done f r j x (by omega) (by simpa using hx) hf
      omega
    · rw [List.takeWhile_cons_of_neg ha] at h; simp at h
theorem tw_stop {α : Type} (f : α → Bool) : ∀ (l : List α) (j : Nat) (x : α), j ≤ (l.takeWhile f).length → l[j]? = some x → f x = false → j = (l.takeWhile f).length
  | [], j, x, h, hx, _ => by simp at hx
  | a :: r, 0, x, h, hx, hf => by
    simp at hx; subst hx
    rw [List.takeWhile_cons_of_neg (by simp [hf])]; simp
  | a :: r, j + 1, x, h, hx, hf => by
    by_cases ha : f a = true
    · rw [List.takeWhile_cons_of_pos ha] at h ⊢
      simp only [List.length_cons] at h ⊢
      have := tw_stop f r j x (by omega) (by simpa using hx) hf
      omega
    · rw [List.takeWhile_cons_of_neg ha] at h; simp at h
theorem tw_le {α : Type} (f : α → Bool) (l : List α) : (l.takeWhile f).length ≤ l.length := (List.takeWhile_sublist f).length_le

theorem zrtail_quiet {w : World} {W : Nat → Prop} {q lc : Nat} {la : Option Addr} {M : RM} {N : Nat} (H : RIn w W q la lc M) (hM : M.Ok N) (hN : N < 1000000) :
    Calls Try.prog 25 #[.pointer (some ⟨q, 0, none⟩)] w fun e w' => e = .returned (.int .i64 M.tail) ∧ ∃ m, w' = w.drewN m := by
  obtain ⟨_, _, c2, c3⟩ := H.cells
  have hl := hM.low
  obtain ⟨n, hn⟩ : ∃ n, n = M.l.length := ⟨_, rfl⟩
  have HR := Lib.hid (show ((M.tail : Nat) : Int) = (M.h : Int) + (n : Int) by unfold RM.tail; omega)
  unfold RM.tail at hl
  rw [← hn] at c3 hl
  have h1 : (M.h : Int) < 1000000 := by omega
  have h2 : (n : Int) < 1000000 := by omega
  have h3 : (0 : Int) ≤ (M.h : Int) := by omega
  rw [HR.out]
  generalize (M.h : Int) = h at *
  clear hl hn H hM hN
  go_enter Try.func25, Try.ntmps25
  go_wp2_with fail
  go_quiet (fail)
  go_wp2_with fail
  go_ret
  exact ⟨rfl, _, rfl⟩

/-- A new ring. -/
def RNew (RT : Nat → RM → Thing) (w : World) (n : Nat) (ov : Bool) (e : Ending) (w' : World) : Prop :=
  ∃ q, e = .returned (.tuple #[.pointer (some ⟨q, 0, none⟩), .int .i64 0]) ∧ ∃ W, (RT q (RM.new n ov)).at_ w' W ∧ Still w w' ∧ ∀ k, W k → w.heap.size ≤ k

theorem zrmake_no (n p : Int) (w : World) (h : ¬ (1 ≤ n ∧ n ≤ 64 ∧ (p = 0 ∨ p = 1))) :
    Calls Try.prog 33 #[.int .i64 n, .int .i64 p] w fun e w' => e = .returned (.tuple #[.pointer none, .int .i64 2]) ∧ Still w w' := by
  have h' : n < 1 ∨ 64 < n ∨ (p ≠ 0 ∧ p ≠ 1) := by omega
  clear h
  rcases h' with h | h | ⟨h, k⟩
  · go_enter Try.func33, Try.ntmps33
    go_wp2
    all_goals first | (exfalso; omega) | (go_ret2; exact ⟨rfl, Turned.refl _ _⟩)
  · have h1 : ¬ n < 1 := by omega
    go_enter Try.func33, Try.ntmps33
    go_wp2
    all_goals first | (exfalso; omega) | (go_ret2; exact ⟨rfl, Turned.refl _ _⟩)
  · have h1 : (p != 0) = true := by rw [bne_iff_ne]; exact h
    have h2 : (p != 1) = true := by rw [bne_iff_ne]; exact k
    clear h k
    go_enter Try.func33, Try.ntmps33
    go_wp2
    all_goals first | (exfalso; omega) | (go_ret2; exact ⟨rfl, Turned.refl _ _⟩)

theorem zrmake_ok (n : Nat) (ov : Bool) (w : World) (h1 : 1 ≤ n) (h2 : n ≤ 64) :
    Calls Try.prog 33 #[.int .i64 n, .int .i64 (polB ov)] w (RNew zrT w n ov) := by
  have HI := Lib.hid (show ∃ W, (zrT w.heap.size (RM.new n ov)).at_ (w.alloc (.cells #[.int .i64 (n : Nat), .int .i64 (polB ov), .int .i64 0, .slice none 0 0] 48)) W ∧ Still w (w.alloc (.cells #[.int .i64 (n : Nat), .int .i64 (polB ov), .int .i64 0, .slice none 0 0] 48)) ∧ ∀ k, W k → w.heap.size ≤ k from
    ⟨fun k => k = w.heap.size, ⟨none, 0, fun k hk => by rw [hk]; simp, ⟨rfl, fun a ha => by cases ha⟩, Blk.new w [.int .i64 (n : Nat), .int .i64 (polB ov), .int .i64 0, .slice none 0 0] 48, ⟨rfl, .inl ⟨rfl, rfl⟩⟩⟩, (Turned.refl _ _).alloc _, fun k hk => by omega⟩)
  have hn1 : (1 : Int) ≤ (n : Int) := by omega
  have hn2 : (n : Int) ≤ 64 := by omega
  cases ov
  · go_enter Try.func33, Try.ntmps33
    simp only [show polB false = 0 from rfl] at HI ⊢
    go_wp2
    go_ret2
    exact ⟨_, rfl, HI.out⟩
  · go_enter Try.func33, Try.ntmps33
    simp only [show polB true = 1 from rfl] at HI ⊢
    go_wp2
    go_ret2
    exact ⟨_, rfl, HI.out⟩
end Go.Proofs.Ytliaaggjefjbeaa
