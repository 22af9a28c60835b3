/- Fair picks come to an end: plain mathematics of the machine of sessions. Conditions: a measure that each step lessens, unless it changes nothing. -/
import Derived.Test.YtdbmieofcdafkaaMach
namespace Go.Proofs.Ytdbmieofcdafkaa
open Go.RowKit
set_option linter.unusedVariables false

def roundL (n : Nat) : List Int := (List.range n).map fun (i : Nat) => (i : Int)

theorem fairL_more (n m : Nat) : fairL n (n * (m + 1)) = roundL n ++ fairL n (n * m) := by
  unfold fairL roundL
  rw [show n * (m + 1) = n + n * m by rw [Nat.mul_add]; omega, List.range_add, List.map_append, List.map_map]
  congr 1
  · apply List.map_congr_left
    intro i hi
    rw [Nat.mod_eq_of_lt (List.mem_range.1 hi)]
  · apply List.map_congr_left
    intro i _
    simp

theorem fairL_take (n a b : Nat) (h : a ≤ b) : (fairL n b).take a = fairL n a := by
  unfold fairL
  rw [← List.map_take, List.take_range, Nat.min_eq_left h]

theorem mem_roundL {n k : Nat} (h : k < n) : (k : Int) ∈ roundL n := by
  unfold roundL; rw [List.mem_map]; exact ⟨k, List.mem_range.2 h, rfl⟩

section
variable {I : Mach → Prop} {ψ : Mach → Int} {n : Nat}

theorem psi_run (hs : ∀ M k, I M → I (M.step k)) (h1 : ∀ M k, I M → M.step k = M ∨ ψ (M.step k) < ψ M) :
    ∀ (l : List Int) (M : Mach), I M → I (M.run l) ∧ ψ (M.run l) ≤ ψ M ∧ (ψ (M.run l) = ψ M → ∀ k ∈ l, M.step k = M)
  | [], M, h => ⟨h, Int.le_refl _, fun _ k hk => by cases hk⟩
  | a :: l, M, h => by
    obtain ⟨g1, g2, g3⟩ := psi_run hs h1 l (M.step a) (hs M a h)
    refine ⟨g1, ?_, ?_⟩
    · show ψ ((M.step a).run l) ≤ ψ M
      rcases h1 M a h with e | e
      · rw [e] at g2 ⊢; exact g2
      · omega
    · intro e k hk
      have e : ψ ((M.step a).run l) = ψ M := e
      rcases h1 M a h with e1 | e1
      · rw [e1] at e g3
        rcases List.mem_cons.1 hk with rfl | hk
        · exact e1
        · exact g3 e k hk
      · omega

theorem fair_end (hn : 0 < n) (hs : ∀ M k, I M → I (M.step k)) (h0 : ∀ M, I M → 0 ≤ ψ M)
    (h1 : ∀ M k, I M → M.step k = M ∨ ψ (M.step k) < ψ M) (h2 : ∀ M, I M → (∀ k : Nat, k < n → M.step k = M) → M.done = true) :
    ∀ (m : Nat) (M : Mach), I M → ψ M < m → (M.run (fairL n (n * m))).done = true
  | 0, M, h, hm => by have := h0 M h; omega
  | m + 1, M, h, hm => by
    obtain ⟨g1, g2, g3⟩ := psi_run hs h1 (roundL n) M h
    rw [fairL_more, Mach.run_append]
    by_cases e : ψ (M.run (roundL n)) = ψ M
    · have hd := h2 M h (fun k hk => g3 e k (mem_roundL hk))
      rw [(Mach.run_done hd _).1, (Mach.run_done hd _).1]
      exact hd
    · exact fair_end hn hs h0 h1 h2 m _ g1 (by omega)

theorem fair_end_all (hn : 0 < n) (hs : ∀ M k, I M → I (M.step k)) (h0 : ∀ M, I M → 0 ≤ ψ M)
    (h1 : ∀ M k, I M → M.step k = M ∨ ψ (M.step k) < ψ M) (h2 : ∀ M, I M → (∀ k : Nat, k < n → M.step k = M) → M.done = true)
    (m most : Nat) (M : Mach) (h : I M) (hm : ψ M < m) (hl : n * m ≤ most) : (M.run (fairL n most)).done = true := by
  have := fair_end hn hs h0 h1 h2 m M h hm
  rw [← fairL_take n (n * m) most hl] at this
  rw [(Mach.run_take_done this).1]
  exact this
end

/-! ### Sums over the sessions -/
def sumTo : Nat → (Nat → Int) → Int
  | 0, _ => 0
  | n + 1, f => sumTo n f + f n

theorem sumTo_congr {n : Nat} {f g : Nat → Int} (h : ∀ j, j < n → f j = g j) : sumTo n f = sumTo n g := by
  induction n with
  | zero => rfl
  | succ n ih => unfold sumTo; rw [ih (fun j hj => h j (by omega)), h n (by omega)]

theorem sumTo_nonneg {n : Nat} {f : Nat → Int} (h : ∀ j, j < n → 0 ≤ f j) : 0 ≤ sumTo n f := by
  induction n with
  | zero => exact Int.le_refl _
  | succ n ih => have := ih (fun j hj => h j (by omega)); have := h n (by omega); unfold sumTo; omega

theorem sumTo_bound {n : Nat} {f : Nat → Int} {c : Int} (h : ∀ j, j < n → f j ≤ c) : sumTo n f ≤ n * c := by
  induction n with
  | zero => simp [sumTo]
  | succ n ih =>
    have := ih (fun j hj => h j (by omega)); have := h n (by omega)
    unfold sumTo
    rw [Int.natCast_succ, Int.add_mul, Int.one_mul]; omega

theorem sumTo_le {n : Nat} {f g : Nat → Int} {c : Int} (h : ∀ j, j < n → f j ≤ g j + c) : sumTo n f ≤ sumTo n g + n * c := by
  induction n with
  | zero => simp [sumTo]
  | succ n ih =>
    have := ih (fun j hj => h j (by omega)); have := h n (by omega)
    unfold sumTo
    rw [Int.natCast_succ, Int.add_mul, Int.one_mul]; omega

/-- One place is another, the others grow by no more than c. -/
theorem sumTo_one_le {n : Nat} {f g : Nat → Int} {c : Int} {k : Nat} (hk : k < n) (h : ∀ j, j < n → j ≠ k → f j ≤ g j + c) : sumTo n f ≤ sumTo n g + (n * c - c) + (f k - g k) := by
  induction n with
  | zero => omega
  | succ n ih =>
    unfold sumTo
    rw [Int.natCast_succ, Int.add_mul, Int.one_mul]
    by_cases e : k = n
    · subst e
      have := sumTo_le (n := k) (f := f) (g := g) (c := c) (fun j hj => h j (by omega) (by omega))
      omega
    · have := ih (by omega) (fun j hj hne => h j (by omega) hne)
      have := h n (by omega) (fun e2 => e e2.symm)
      omega

theorem sumTo_one {n : Nat} {f g : Nat → Int} {k : Nat} (hk : k < n) (h : ∀ j, j < n → j ≠ k → f j = g j) : sumTo n f = sumTo n g + (f k - g k) := by
  induction n with
  | zero => omega
  | succ n ih =>
    unfold sumTo
    by_cases e : k = n
    · subst e
      rw [sumTo_congr (fun j hj => h j (by omega) (by omega))]; omega
    · rw [ih (by omega) (fun j hj hne => h j (by omega) hne), h n (by omega) (fun e2 => e e2.symm)]; omega

/-! ### The sessions by their numbers -/
def sg (M : Mach) (k : Nat) : Sess := (M.ss[k]?).getD ⟨[], 0, []⟩
def lg (ls : List (List Int)) (k : Nat) : List Int := (ls[k]?).getD []

theorem sg_get {M : Mach} {k : Nat} (h : k < M.ss.length) : M.ss[k]? = some (sg M k) := by
  obtain ⟨s, hs⟩ := get_some h
  unfold sg; rw [hs]; rfl

theorem get_nat {M : Mach} {k : Nat} (h : k < M.ss.length) : M.get (k : Int) = some (sg M k) := by
  unfold Mach.get; rw [if_pos (by omega), Int.toNat_natCast]; exact sg_get h

theorem over_nat {M : Mach} {k : Nat} (h : k < M.ss.length) : M.over (k : Int) = !(sg M k).goes := by
  unfold Mach.over; rw [get_nat h]

/-- What a step of one that goes on makes. -/
theorem step_goes {M : Mach} {k : Nat} (h : k < M.ss.length) (hg : (sg M k).goes = true) :
    M.step k = ⟨(stepI k M.st (sg M k) (insAt (sg M k).p (sg M k).pc)).1, M.ss.set k (stepI k M.st (sg M k) (insAt (sg M k).p (sg M k).pc)).2⟩ := by
  unfold Mach.step
  rw [get_nat h]
  show (if (sg M k).goes = true then _ else M) = _
  rw [if_pos hg, Int.toNat_natCast]

theorem step_stays {M : Mach} {k : Nat} (h : k < M.ss.length) (hg : (sg M k).goes = false) : M.step k = M :=
  Mach.step_over (by rw [over_nat h, hg]; rfl)

theorem sg_set_same {M : Mach} {k : Nat} (h : k < M.ss.length) (st : List Cel) (s : Sess) : sg ⟨st, M.ss.set k s⟩ k = s := by
  unfold sg; simp [h]

theorem sg_set_other {M : Mach} {k j : Nat} (h : j ≠ k) (st : List Cel) (s : Sess) : sg ⟨st, M.ss.set k s⟩ j = sg M j := by
  unfold sg; rw [List.getElem?_set_ne (fun e => h e.symm)]

theorem done_all {M : Mach} (h : ∀ k, k < M.ss.length → (sg M k).goes = false) : M.done = true := by
  unfold Mach.done
  rw [List.all_eq_true]
  intro s hs
  obtain ⟨k, hk⟩ := List.getElem?_of_mem hs
  have := h k (get_lt hk)
  unfold sg at this
  rw [hk] at this
  simpa using this

theorem done_one {M : Mach} (h : M.done = true) {k : Nat} (hk : k < M.ss.length) : (sg M k).goes = false := by
  have := Mach.over_of_done h k
  rw [over_nat hk] at this
  simpa using this

theorem step_out {M : Mach} {k : Int} (h : ¬ (0 ≤ k ∧ k < M.ss.length)) : M.step k = M := by
  refine Mach.step_over ?_
  unfold Mach.over
  cases hg : M.get k with
  | none => rfl
  | some s => obtain ⟨h1, h2, _⟩ := Mach.get_some hg; exact absurd ⟨h1, by omega⟩ h
end Go.Proofs.Ytdbmieofcdafkaa
