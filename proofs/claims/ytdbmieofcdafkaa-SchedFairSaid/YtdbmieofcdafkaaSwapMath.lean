/- Sessions that add by swapping come to the sum, whatever the picks: plain mathematics of the machine. Conditions: at most 8 sessions, each with at most 10 numbers. -/
import Derived.Test.YtdbmieofcdafkaaFair
namespace Go.Proofs.Ytdbmieofcdafkaa
open Go.RowKit
set_option linter.unusedVariables false
set_option maxRecDepth 100000

def swapSeg (k i : Nat) (x : Int) : List Ins :=
  [⟨2, 0, 1, 0⟩, ⟨3, 1 + (k : Int), 1, 0⟩, ⟨2, 1 + (k : Int), 0, 0⟩, ⟨6, 0, 0, x⟩, ⟨4, 0, 0, 1⟩, ⟨7, 0, 1, 6 * (i : Int)⟩]
def swapFrom (k : Nat) : Nat → List Int → List Ins
  | _, [] => []
  | i, x :: l => swapSeg k i x ++ swapFrom k (i + 1) l

theorem swapSeg_len (k i : Nat) (x : Int) : (swapSeg k i x).length = 6 := rfl
theorem swapFrom_len (k i : Nat) (l : List Int) : (swapFrom k i l).length = 6 * l.length := by
  induction l generalizing i with
  | nil => rfl
  | cons x l ih => simp only [swapFrom, List.length_append, swapSeg_len, ih, List.length_cons]; omega

theorem swapFrom_get (k i : Nat) (l : List Int) {q j : Nat} {x : Int} (h : l[q]? = some x) (hj : j < 6) : (swapFrom k i l)[6 * q + j]? = (swapSeg k (i + q) x)[j]? := by
  induction l generalizing i q with
  | nil => simp at h
  | cons y l ih =>
    unfold swapFrom
    cases q with
    | zero =>
      simp at h; subst h
      rw [List.getElem?_append_left (by rw [swapSeg_len]; omega)]
      simp
    | succ q =>
      simp at h
      rw [List.getElem?_append_right (by rw [swapSeg_len]; omega), swapSeg_len, show 6 * (q + 1) + j - 6 = 6 * q + j by omega, ih (i + 1) h]
      rw [show i + 1 + q = i + (q + 1) by omega]

theorem swapFrom_snoc (k i : Nat) (l : List Int) (x : Int) : swapFrom k i (l ++ [x]) = swapFrom k i l ++ swapSeg k (i + l.length) x := by
  induction l generalizing i with
  | nil => simp [swapFrom]
  | cons y l ih =>
    simp only [List.cons_append, swapFrom, ih, List.length_cons, List.append_assoc]
    rw [show i + 1 + l.length = i + (l.length + 1) by omega]

/-- What holds of session k between two steps. -/
structure SwS (k : Nat) (l : List Int) (st : List Cel) (s : Sess) : Prop where
  p : s.p = swapFrom k 0 l
  r : s.r.length = 4
  pc : s.pc ≤ 6 * l.length
  h2 : s.pc % 6 = 2 → (celAt st (1 + (k : Int))).n = regAt s.r 1
  h3 : s.pc % 6 = 3 → regAt s.r 0 = regAt s.r 1
  h4 : s.pc % 6 = 4 → regAt s.r 0 = wrap64 (regAt s.r 1 + (l[s.pc / 6]?).getD 0)
  h5 : s.pc % 6 = 5 → regAt s.r 1 = 0 ∨ regAt s.r 1 = 1

/-- How many numbers it has added. -/
def doneN (s : Sess) : Nat := s.pc / 6 + (if s.pc % 6 = 5 ∧ regAt s.r 1 ≠ 0 then 1 else 0)

/-- How many steps of its own till it has added the next one, if no other does. -/
def cost (l : List Int) (v : Int) (s : Sess) : Int :=
  if s.pc = 6 * l.length then 0
  else if s.pc % 6 = 0 then 5
  else if s.pc % 6 = 5 then (if regAt s.r 1 = 0 then 6 else if s.pc / 6 + 1 = l.length then 1 else 6)
  else (5 - ((s.pc % 6 : Nat) : Int)) + (if regAt s.r 1 = v then 0 else 6)

theorem cost_nonneg (l : List Int) (v : Int) (s : Sess) : 0 ≤ cost l v s := by
  unfold cost
  have : s.pc % 6 < 6 := Nat.mod_lt _ (by omega)
  split
  · omega
  · split
    · omega
    · split
      · split
        · omega
        · split <;> omega
      · split <;> omega

theorem cost_le (l : List Int) (v : Int) (s : Sess) : cost l v s ≤ 10 := by
  unfold cost
  have : s.pc % 6 < 6 := Nat.mod_lt _ (by omega)
  split
  · omega
  · split
    · omega
    · split
      · split
        · omega
        · split <;> omega
      · split <;> omega

theorem cost_other (l : List Int) (v v' : Int) (s : Sess) : cost l v' s ≤ cost l v s + 6 := by
  unfold cost
  have : s.pc % 6 < 6 := Nat.mod_lt _ (by omega)
  split
  · omega
  · split
    · omega
    · split
      · split
        · omega
        · split <;> omega
      · split <;> split <;> omega

def swSum (ls : List (List Int)) (M : Mach) : Int := sumTo ls.length fun k => ((lg ls k).take (doneN (sg M k))).sum
def cel0 (M : Mach) : Int := (celAt M.st 0).n

structure SwInv (ls : List (List Int)) (M : Mach) : Prop where
  n : M.ss.length = ls.length
  st : M.st.length = 9
  ses : ∀ k, k < ls.length → SwS k (lg ls k) M.st (sg M k)
  sum : cel0 M = wrap64 (swSum ls M)

def psi (ls : List (List Int)) (M : Mach) : Int :=
  sumTo ls.length fun k => 6 * (ls.length : Int) * (((lg ls k).length : Int) - (doneN (sg M k) : Int)) + cost (lg ls k) (cel0 M) (sg M k)

theorem doneN_le {k : Nat} {l : List Int} {st : List Cel} {s : Sess} (h : SwS k l st s) : doneN s ≤ l.length := by
  unfold doneN
  have := h.pc
  split <;> omega

theorem celAt_set_same {st : List Cel} {i : Int} (h : i.toNat < st.length) (c : Cel) : celAt (st.set i.toNat c) i = c := by
  unfold celAt; simp [h]
theorem celAt_set_other {st : List Cel} {i j : Int} (h : i.toNat ≠ j.toNat) (c : Cel) : celAt (st.set i.toNat c) j = celAt st j := by
  unfold celAt; rw [List.getElem?_set_ne h]

/-- What a step of a session is, told by what it leaves: it has added nothing, or the next number. -/
structure SwStep (k : Nat) (l : List Int) (st st' : List Cel) (s s' : Sess) : Prop where
  len : st'.length = st.length
  oth : ∀ j : Nat, j ≠ k → celAt st' (1 + (j : Int)) = celAt st (1 + (j : Int))
  ses : SwS k l st' s'
  what : ((celAt st' 0).n = (celAt st 0).n ∧ doneN s' = doneN s ∧ cost l (celAt st 0).n s' + 1 ≤ cost l (celAt st 0).n s) ∨
    ∃ x, l[doneN s]? = some x ∧ doneN s' = doneN s + 1 ∧ (celAt st' 0).n = wrap64 ((celAt st 0).n + x) ∧ cost l (celAt st 0).n s = 1 ∧ cost l (celAt st' 0).n s' ≤ 6

theorem regs {r : List Int} (h : r.length = 4) : ∃ a b c d, r = [a, b, c, d] := by
  match r, h with
  | [a, b, c, d], _ => exact ⟨a, b, c, d, rfl⟩

theorem cost_at {l : List Int} {v : Int} {s : Sess} {q j : Nat} (hpc : s.pc = 6 * q + j) (hj : j < 6) (hq : q < l.length) :
    cost l v s = if j = 0 then 5 else if j = 5 then (if regAt s.r 1 = 0 then 6 else if q + 1 = l.length then 1 else 6) else (5 - (j : Int)) + (if regAt s.r 1 = v then 0 else 6) := by
  unfold cost
  rw [if_neg (by omega), hpc, show (6 * q + j) % 6 = j by omega, show (6 * q + j) / 6 = q by omega]
theorem cost_end {l : List Int} {v : Int} {s : Sess} (hpc : s.pc = 6 * l.length) : cost l v s = 0 := by
  unfold cost; rw [if_pos hpc]
theorem doneN_at {s : Sess} {q j : Nat} (hpc : s.pc = 6 * q + j) (hj : j < 6) : doneN s = q + (if j = 5 ∧ regAt s.r 1 ≠ 0 then 1 else 0) := by
  unfold doneN
  rw [hpc, show (6 * q + j) % 6 = j by omega, show (6 * q + j) / 6 = q by omega]

theorem sw_step {k : Nat} {l : List Int} {st : List Cel} {s : Sess} (hk : k < 8) (hst : st.length = 9) (h : SwS k l st s) (hg : s.goes = true) :
    SwStep k l st (stepI k st s (insAt s.p s.pc)).1 s (stepI k st s (insAt s.p s.pc)).2 := by
  have hg' : s.pc < 6 * l.length := by
    have : s.pc < s.p.length := by simpa [Sess.goes] using hg
    rw [h.p, swapFrom_len] at this; exact this
  obtain ⟨q, j, hj, hq⟩ : ∃ q j, j < 6 ∧ s.pc = 6 * q + j := ⟨s.pc / 6, s.pc % 6, Nat.mod_lt _ (by omega), by omega⟩
  have hql : q < l.length := by omega
  obtain ⟨x, hx⟩ := get_some hql
  have hins : insAt s.p s.pc = ((swapSeg k q x)[j]?).getD ⟨0, 0, 0, 0⟩ := by
    unfold insAt; rw [h.p, hq, swapFrom_get k 0 l hx hj, Nat.zero_add]
  obtain ⟨a, b, c, d, hr⟩ := regs h.r
  obtain ⟨p, pc, r⟩ := s
  dsimp only at *
  subst hq
  subst hr
  have hmod : (6 * q + j) % 6 = j := by omega
  have hdiv : (6 * q + j) / 6 = q := by omega
  rw [hins]
  have e1 : (1 + (k : Int)).toNat = 1 + k := by omega
  have h2 := h.h2
  have h3 := h.h3
  have h4 := h.h4
  have h5 := h.h5
  dsimp only at h2 h3 h4 h5
  rw [hmod] at h2 h3 h4 h5
  rw [hdiv, hx] at h4
  have hmod1 : j ≠ 5 → (6 * q + j + 1) % 6 = j + 1 := fun _ => by omega
  have hdiv1 : j ≠ 5 → (6 * q + j + 1) / 6 = q := fun _ => by omega
  rcases (show j = 0 ∨ j = 1 ∨ j = 2 ∨ j = 3 ∨ j = 4 ∨ j = 5 by omega) with rfl | rfl | rfl | rfl | rfl | rfl
  · -- the cell is read
    rw [show stepI (k : Int) st ⟨p, 6 * q + 0, [a, b, c, d]⟩ (((swapSeg k q x)[0]?).getD ⟨0, 0, 0, 0⟩) = (st, ⟨p, 6 * q + 1, [a, (celAt st 0).n, c, d]⟩) by simp [stepI, swapSeg]]
    refine ⟨rfl, fun j _ => rfl, ⟨h.p, rfl, ?_, ?_, ?_, ?_, ?_⟩, .inl ⟨rfl, ?_, ?_⟩⟩
    · show 6 * q + 1 ≤ _; omega
    · intro e; dsimp only at e; omega
    · intro e; dsimp only at e; omega
    · intro e; dsimp only at e; omega
    · intro e; dsimp only at e; omega
    · rw [doneN_at (q := q) (j := 1) rfl (by omega), doneN_at (q := q) (j := 0) rfl (by omega)]; simp
    · rw [cost_at (q := q) (j := 1) rfl (by omega) hql, cost_at (q := q) (j := 0) rfl (by omega) hql]
      simp [regAt]
  · -- it is stored in the session's own cell
    rw [show stepI (k : Int) st ⟨p, 6 * q + 1, [a, b, c, d]⟩ (((swapSeg k q x)[1]?).getD ⟨0, 0, 0, 0⟩) = (st.set (1 + (k : Int)).toNat ((celAt st (1 + (k : Int))).put b), ⟨p, 6 * q + 2, [a, b, c, d]⟩) by simp [stepI, swapSeg, regAt]]
    have hother : ∀ j : Int, 0 ≤ j → j ≠ 1 + (k : Int) → celAt (st.set (1 + (k : Int)).toNat ((celAt st (1 + (k : Int))).put b)) j = celAt st j := fun j h0 hne => celAt_set_other (by omega) _
    have hself : celAt (st.set (1 + (k : Int)).toNat ((celAt st (1 + (k : Int))).put b)) (1 + (k : Int)) = (celAt st (1 + (k : Int))).put b := celAt_set_same (by omega) _
    refine ⟨List.length_set, fun j hj => hother _ (by omega) (by omega), ⟨h.p, rfl, ?_, ?_, ?_, ?_, ?_⟩, .inl ⟨by rw [hother 0 (by omega) (by omega)], ?_, ?_⟩⟩
    · show 6 * q + 2 ≤ _; omega
    · intro _; rw [hself]; rfl
    · intro e; dsimp only at e; omega
    · intro e; dsimp only at e; omega
    · intro e; dsimp only at e; omega
    · rw [doneN_at (q := q) (j := 2) rfl (by omega), doneN_at (q := q) (j := 1) rfl (by omega)]; simp
    · rw [cost_at (q := q) (j := 2) rfl (by omega) hql, cost_at (q := q) (j := 1) rfl (by omega) hql]
      simp; omega
  · -- and read from there
    have hb := h2 rfl
    rw [show stepI (k : Int) st ⟨p, 6 * q + 2, [a, b, c, d]⟩ (((swapSeg k q x)[2]?).getD ⟨0, 0, 0, 0⟩) = (st, ⟨p, 6 * q + 3, [(celAt st (1 + (k : Int))).n, b, c, d]⟩) by simp [stepI, swapSeg]]
    refine ⟨rfl, fun j _ => rfl, ⟨h.p, rfl, ?_, ?_, ?_, ?_, ?_⟩, .inl ⟨rfl, ?_, ?_⟩⟩
    · show 6 * q + 3 ≤ _; omega
    · intro e; dsimp only at e; omega
    · intro _; rw [hb]; rfl
    · intro e; dsimp only at e; omega
    · intro e; dsimp only at e; omega
    · rw [doneN_at (q := q) (j := 3) rfl (by omega), doneN_at (q := q) (j := 2) rfl (by omega)]; simp
    · rw [cost_at (q := q) (j := 3) rfl (by omega) hql, cost_at (q := q) (j := 2) rfl (by omega) hql]
      simp [regAt]; omega
  · -- the number is added to it
    have hb := h3 rfl
    have hb : a = b := hb
    rw [show stepI (k : Int) st ⟨p, 6 * q + 3, [a, b, c, d]⟩ (((swapSeg k q x)[3]?).getD ⟨0, 0, 0, 0⟩) = (st, ⟨p, 6 * q + 4, [wrap64 (a + x), b, c, d]⟩) by simp [stepI, swapSeg, regAt]]
    refine ⟨rfl, fun j _ => rfl, ⟨h.p, rfl, ?_, ?_, ?_, ?_, ?_⟩, .inl ⟨rfl, ?_, ?_⟩⟩
    · show 6 * q + 4 ≤ _; omega
    · intro e; dsimp only at e; omega
    · intro e; dsimp only at e; omega
    · intro _
      show wrap64 (a + x) = wrap64 (b + (l[(6 * q + 4) / 6]?).getD 0)
      rw [show (6 * q + 4) / 6 = q by omega, hx, hb]; rfl
    · intro e; dsimp only at e; omega
    · rw [doneN_at (q := q) (j := 4) rfl (by omega), doneN_at (q := q) (j := 3) rfl (by omega)]; simp
    · rw [cost_at (q := q) (j := 4) rfl (by omega) hql, cost_at (q := q) (j := 3) rfl (by omega) hql]
      simp [regAt]; omega
  · -- the swap
    have hb := h4 rfl
    have hb : a = wrap64 (b + x) := hb
    by_cases hsw : (celAt st 0).n = b
    · rw [show stepI (k : Int) st ⟨p, 6 * q + 4, [a, b, c, d]⟩ (((swapSeg k q x)[4]?).getD ⟨0, 0, 0, 0⟩) = (st.set (0 : Int).toNat ((celAt st 0).put a), ⟨p, 6 * q + 5, [a, 1, c, d]⟩) by simp [stepI, swapSeg, regAt, hsw]]
      have hother : ∀ j : Int, 0 < j → celAt (st.set (0 : Int).toNat ((celAt st 0).put a)) j = celAt st j := fun j h0 => celAt_set_other (by omega) _
      have hself : celAt (st.set (0 : Int).toNat ((celAt st 0).put a)) 0 = (celAt st 0).put a := celAt_set_same (by omega) _
      refine ⟨List.length_set, fun j hj => hother _ (by omega), ⟨h.p, rfl, ?_, ?_, ?_, ?_, ?_⟩, .inr ⟨x, ?_, ?_, ?_, ?_, ?_⟩⟩
      · show 6 * q + 5 ≤ _; omega
      · intro e; dsimp only at e; omega
      · intro e; dsimp only at e; omega
      · intro e; dsimp only at e; omega
      · intro _; exact .inr rfl
      · rw [doneN_at (q := q) (j := 4) rfl (by omega)]; simpa using hx
      · rw [doneN_at (q := q) (j := 5) rfl (by omega), doneN_at (q := q) (j := 4) rfl (by omega)]; simp [regAt]
      · rw [hself, hsw, ← hb]; rfl
      · rw [cost_at (q := q) (j := 4) rfl (by omega) hql]; simp [regAt, hsw]
      · rw [cost_at (q := q) (j := 5) rfl (by omega) hql]; simp [regAt]; split <;> omega
    · rw [show stepI (k : Int) st ⟨p, 6 * q + 4, [a, b, c, d]⟩ (((swapSeg k q x)[4]?).getD ⟨0, 0, 0, 0⟩) = (st, ⟨p, 6 * q + 5, [a, 0, c, d]⟩) by simp [stepI, swapSeg, regAt, hsw]]
      refine ⟨rfl, fun j _ => rfl, ⟨h.p, rfl, ?_, ?_, ?_, ?_, ?_⟩, .inl ⟨rfl, ?_, ?_⟩⟩
      · show 6 * q + 5 ≤ _; omega
      · intro e; dsimp only at e; omega
      · intro e; dsimp only at e; omega
      · intro e; dsimp only at e; omega
      · intro _; exact .inl rfl
      · rw [doneN_at (q := q) (j := 5) rfl (by omega), doneN_at (q := q) (j := 4) rfl (by omega)]; simp [regAt]
      · have hsw' : ¬ b = (celAt st 0).n := fun e => hsw e.symm
        rw [cost_at (q := q) (j := 5) rfl (by omega) hql, cost_at (q := q) (j := 4) rfl (by omega) hql]; simp [regAt, hsw']
  · -- on, or again
    have hb := h5 rfl
    have hb : b = 0 ∨ b = 1 := hb
    by_cases h0 : b = 0
    · subst h0
      rw [show stepI (k : Int) st ⟨p, 6 * q + 5, [a, 0, c, d]⟩ (((swapSeg k q x)[5]?).getD ⟨0, 0, 0, 0⟩) = (st, ⟨p, 6 * q + 0, [a, 0, c, d]⟩) by simp [stepI, swapSeg, regAt]; omega]
      refine ⟨rfl, fun j _ => rfl, ⟨h.p, rfl, ?_, ?_, ?_, ?_, ?_⟩, .inl ⟨rfl, ?_, ?_⟩⟩
      · show 6 * q + 0 ≤ _; omega
      · intro e; dsimp only at e; omega
      · intro e; dsimp only at e; omega
      · intro e; dsimp only at e; omega
      · intro e; dsimp only at e; omega
      · rw [doneN_at (q := q) (j := 0) rfl (by omega), doneN_at (q := q) (j := 5) rfl (by omega)]; simp [regAt]
      · rw [cost_at (q := q) (j := 0) rfl (by omega) hql, cost_at (q := q) (j := 5) rfl (by omega) hql]; simp [regAt]
    · have h1 : b = 1 := by omega
      subst h1
      rw [show stepI (k : Int) st ⟨p, 6 * q + 5, [a, 1, c, d]⟩ (((swapSeg k q x)[5]?).getD ⟨0, 0, 0, 0⟩) = (st, ⟨p, 6 * (q + 1) + 0, [a, 1, c, d]⟩) by simp [stepI, swapSeg, regAt]; omega]
      refine ⟨rfl, fun j _ => rfl, ⟨h.p, rfl, ?_, ?_, ?_, ?_, ?_⟩, .inl ⟨rfl, ?_, ?_⟩⟩
      · show 6 * (q + 1) + 0 ≤ _; omega
      · intro e; dsimp only at e; omega
      · intro e; dsimp only at e; omega
      · intro e; dsimp only at e; omega
      · intro e; dsimp only at e; omega
      · rw [doneN_at (q := q + 1) (j := 0) rfl (by omega), doneN_at (q := q) (j := 5) rfl (by omega)]; simp [regAt]
      · by_cases he : q + 1 = l.length
        · rw [cost_end (by show 6 * (q + 1) + 0 = _; omega), cost_at (q := q) (j := 5) rfl (by omega) hql]; simp [regAt, he]
        · rw [cost_at (q := q + 1) (j := 0) rfl (by omega) (by omega), cost_at (q := q) (j := 5) rfl (by omega) hql]; simp [regAt, he]

theorem sum_take_get {l : List Int} {q : Nat} {x : Int} (h : l[q]? = some x) : (l.take (q + 1)).sum = (l.take q).sum + x := by
  rw [List.take_add_one, h, List.sum_append]; simp

theorem wrap_wrap (a x : Int) : wrap64 (wrap64 a + x) = wrap64 (a + x) := by unfold wrap64; omega

/-- Each step of the machine keeps the sum, and comes nearer to the end. -/
theorem sw_mach {ls : List (List Int)} (hls : ls.length ≤ 8) {M : Mach} (I : SwInv ls M) {k : Nat} (hk : k < ls.length) (hg : (sg M k).goes = true) :
    SwInv ls (M.step k) ∧ psi ls (M.step k) < psi ls M := by
  have hkM : k < M.ss.length := by rw [I.n]; exact hk
  rw [step_goes hkM hg]
  have S := sw_step (by omega) I.st (I.ses k hk) hg
  generalize stepI k M.st (sg M k) (insAt (sg M k).p (sg M k).pc) = y at S
  obtain ⟨st', s'⟩ := y
  dsimp only at S ⊢
  have hsame : sg ⟨st', M.ss.set k s'⟩ k = s' := sg_set_same hkM st' s'
  have hoth : ∀ j, j ≠ k → sg ⟨st', M.ss.set k s'⟩ j = sg M j := fun j hj => sg_set_other hj st' s'
  have hses : ∀ j, j < ls.length → SwS j (lg ls j) st' (sg ⟨st', M.ss.set k s'⟩ j) := by
    intro j hj
    by_cases e : j = k
    · subst e; rw [hsame]; exact S.ses
    · rw [hoth j e]
      have h := I.ses j hj
      exact ⟨h.p, h.r, h.pc, fun h2 => by rw [S.oth j e]; exact h.h2 h2, h.h3, h.h4, h.h5⟩
  rcases S.what with ⟨hv, hd, hc⟩ | ⟨x, hx, hd, hv, hc, hc'⟩
  · refine ⟨⟨by show (M.ss.set k s').length = _; rw [List.length_set]; exact I.n, by show st'.length = 9; rw [S.len]; exact I.st, hses, ?_⟩, ?_⟩
    · show (celAt st' 0).n = _
      rw [hv]
      have h2 := I.sum
      unfold cel0 at h2
      rw [h2]
      congr 1
      unfold swSum
      refine sumTo_congr (fun j hj => ?_)
      by_cases e : j = k
      · subst e; rw [hsame, hd]
      · rw [hoth j e]
    · unfold psi
      have hone := sumTo_one (n := ls.length) (k := k) hk
        (f := fun k' => 6 * (ls.length : Int) * (((lg ls k').length : Int) - (doneN (sg ⟨st', M.ss.set k s'⟩ k') : Int)) + cost (lg ls k') (cel0 ⟨st', M.ss.set k s'⟩) (sg ⟨st', M.ss.set k s'⟩ k'))
        (g := fun k' => 6 * (ls.length : Int) * (((lg ls k').length : Int) - (doneN (sg M k') : Int)) + cost (lg ls k') (cel0 M) (sg M k'))
        (fun j hj e => by
          rw [hoth j e, show cel0 ⟨st', M.ss.set k s'⟩ = cel0 M from hv])
      rw [hone]
      rw [hsame, hd, show cel0 ⟨st', M.ss.set k s'⟩ = cel0 M from hv]
      have hc2 : cost (lg ls k) (cel0 M) s' + 1 ≤ cost (lg ls k) (cel0 M) (sg M k) := hc
      omega
  · refine ⟨⟨by show (M.ss.set k s').length = _; rw [List.length_set]; exact I.n, by show st'.length = 9; rw [S.len]; exact I.st, hses, ?_⟩, ?_⟩
    · show (celAt st' 0).n = _
      rw [hv]
      have h2 := I.sum
      unfold cel0 at h2
      rw [h2, wrap_wrap]
      congr 1
      unfold swSum
      rw [sumTo_one (n := ls.length) (k := k) hk (f := fun k' => ((lg ls k').take (doneN (sg ⟨st', M.ss.set k s'⟩ k'))).sum) (g := fun k' => ((lg ls k').take (doneN (sg M k'))).sum)
        (fun j hj e => by rw [hoth j e])]
      rw [hsame, hd, sum_take_get hx]
      omega
    · unfold psi
      have hone := sumTo_one_le (n := ls.length) (k := k) (c := 6) hk
        (f := fun k' => 6 * (ls.length : Int) * (((lg ls k').length : Int) - (doneN (sg ⟨st', M.ss.set k s'⟩ k') : Int)) + cost (lg ls k') (cel0 ⟨st', M.ss.set k s'⟩) (sg ⟨st', M.ss.set k s'⟩ k'))
        (g := fun k' => 6 * (ls.length : Int) * (((lg ls k').length : Int) - (doneN (sg M k') : Int)) + cost (lg ls k') (cel0 M) (sg M k'))
        (fun j hj e => by
          rw [hoth j e]
          have := cost_other (lg ls j) (cel0 M) (cel0 ⟨st', M.ss.set k s'⟩) (sg M j)
          omega)
      refine Int.lt_of_le_of_lt hone ?_
      rw [hsame, hd]
      have hc1 : cost (lg ls k) (cel0 M) (sg M k) = 1 := hc
      have hc2 : cost (lg ls k) (cel0 ⟨st', M.ss.set k s'⟩) s' ≤ 6 := hc'
      have hm : 6 * (ls.length : Int) * (((lg ls k).length : Int) - ((doneN (sg M k) + 1 : Nat) : Int)) = 6 * (ls.length : Int) * (((lg ls k).length : Int) - (doneN (sg M k) : Int)) - 6 * (ls.length : Int) := by
        rw [show (((lg ls k).length : Int) - ((doneN (sg M k) + 1 : Nat) : Int)) = (((lg ls k).length : Int) - (doneN (sg M k) : Int)) - 1 by omega, Int.mul_sub, Int.mul_one]
      rw [hm]
      omega

theorem psi_nonneg {ls : List (List Int)} {M : Mach} (I : SwInv ls M) : 0 ≤ psi ls M := by
  refine sumTo_nonneg (fun j hj => ?_)
  have h1 := doneN_le (I.ses j hj)
  have h2 := cost_nonneg (lg ls j) (cel0 M) (sg M j)
  have h3 : 0 ≤ 6 * (ls.length : Int) * (((lg ls j).length : Int) - (doneN (sg M j) : Int)) := Int.mul_nonneg (by omega) (by omega)
  omega

theorem psi_bound {ls : List (List Int)} (hls : ls.length ≤ 8) (h10 : ∀ l ∈ ls, l.length ≤ 10) {M : Mach} (I : SwInv ls M) : psi ls M < 4000 := by
  have hb : psi ls M ≤ (ls.length : Int) * 490 := by
    refine sumTo_bound (fun j hj => ?_)
    have h2 := cost_le (lg ls j) (cel0 M) (sg M j)
    have h3 : (lg ls j).length ≤ 10 := by
      obtain ⟨l, hl⟩ := get_some hj
      unfold lg; rw [hl]; exact h10 l (List.mem_of_getElem? hl)
    have h4 : 6 * (ls.length : Int) * (((lg ls j).length : Int) - (doneN (sg M j) : Int)) ≤ 48 * 10 := by
      refine Int.le_trans (Int.mul_le_mul_of_nonneg_left (show (((lg ls j).length : Int) - (doneN (sg M j) : Int)) ≤ 10 by omega) (by omega)) ?_
      exact Int.mul_le_mul_of_nonneg_right (by omega) (by omega)
    omega
  have : (ls.length : Int) * 490 ≤ 8 * 490 := Int.mul_le_mul_of_nonneg_right (by omega) (by omega)
  omega

def swPrograms (ls : List (List Int)) : List (List Ins) := (ls.zipIdx).map fun x => swapFrom x.2 0 x.1

theorem swPrograms_len (ls : List (List Int)) : (swPrograms ls).length = ls.length := by simp [swPrograms]

theorem sw_start (ls : List (List Int)) : SwInv ls (mach0 9 (swPrograms ls)) := by
  have hl : (mach0 9 (swPrograms ls)).ss.length = ls.length := by simp [mach0, swPrograms]
  have hsg : ∀ k, k < ls.length → sg (mach0 9 (swPrograms ls)) k = ⟨swapFrom k 0 (lg ls k), 0, [0, 0, 0, 0]⟩ := by
    intro k hk
    obtain ⟨l, hlk⟩ := get_some hk
    unfold sg lg
    simp [mach0, swPrograms, hlk]
  refine ⟨hl, by simp [mach0, newSt], ?_, ?_⟩
  · intro k hk
    rw [hsg k hk]
    exact ⟨rfl, rfl, Nat.zero_le _, fun h => by dsimp only at h; omega, fun h => by dsimp only at h; omega, fun h => by dsimp only at h; omega, fun h => by dsimp only at h; omega⟩
  · have : swSum ls (mach0 9 (swPrograms ls)) = 0 := by
      unfold swSum
      have h0 : sumTo ls.length (fun k => ((lg ls k).take (doneN (sg (mach0 9 (swPrograms ls)) k))).sum) = sumTo ls.length (fun _ => 0) := sumTo_congr (fun j hj => by
        rw [hsg j hj]; simp [doneN])
      rw [h0]
      have : ∀ n, sumTo n (fun _ => 0) = 0 := fun n => by induction n with
        | zero => rfl
        | succ n ih => simp [sumTo, ih]
      exact this _
    rw [this]
    simp [cel0, mach0, newSt, celAt, wrap64]

/-- Whatever was picked ahead, fair picks finish, and the sum is there. -/
theorem sw_end {ls : List (List Int)} (h0 : 0 < ls.length) (hls : ls.length ≤ 8) (h10 : ∀ l ∈ ls, l.length ≤ 10) (picks : List Int) (most : Nat) (hmost : 32000 ≤ most) :
    (((mach0 9 (swPrograms ls)).run picks).run (fairL ls.length most)).done = true ∧
    cel0 (((mach0 9 (swPrograms ls)).run picks).run (fairL ls.length most)) = wrap64 (sumTo ls.length fun k => (lg ls k).sum) := by
  have hI : ∀ M k, SwInv ls M → SwInv ls (M.step k) := by
    intro M k I
    by_cases hk : 0 ≤ k ∧ k < M.ss.length
    · obtain ⟨j, rfl⟩ : ∃ j : Nat, k = j := ⟨k.toNat, by omega⟩
      have hj : j < M.ss.length := by omega
      cases hg : (sg M j).goes with
      | true => exact (sw_mach hls I (by rw [← I.n]; exact hj) hg).1
      | false => rw [step_stays hj hg]; exact I
    · rw [step_out hk]; exact I
  have h1 : ∀ M k, SwInv ls M → M.step k = M ∨ psi ls (M.step k) < psi ls M := by
    intro M k I
    by_cases hk : 0 ≤ k ∧ k < M.ss.length
    · obtain ⟨j, rfl⟩ : ∃ j : Nat, k = j := ⟨k.toNat, by omega⟩
      have hj : j < M.ss.length := by omega
      cases hg : (sg M j).goes with
      | true => exact .inr (sw_mach hls I (by rw [← I.n]; exact hj) hg).2
      | false => exact .inl (step_stays hj hg)
    · exact .inl (step_out hk)
  have h2 : ∀ M, SwInv ls M → (∀ k : Nat, k < ls.length → M.step k = M) → M.done = true := by
    intro M I hst
    refine done_all (fun k hk => ?_)
    cases hg : (sg M k).goes with
    | false => rfl
    | true =>
      have hk' : k < ls.length := by rw [← I.n]; exact hk
      have := (sw_mach hls I hk' hg).2
      rw [hst k hk'] at this
      omega
  have hA := (psi_run hI h1 picks _ (sw_start ls)).1
  have hdone := fair_end_all h0 hI (fun M I => psi_nonneg I) h1 h2 4000 most _ hA (psi_bound hls h10 hA) (by omega)
  refine ⟨hdone, ?_⟩
  have hB := (psi_run hI h1 (fairL ls.length most) _ hA).1
  rw [hB.sum]
  congr 1
  unfold swSum
  refine sumTo_congr (fun j hj => ?_)
  have hjM : j < (((mach0 9 (swPrograms ls)).run picks).run (fairL ls.length most)).ss.length := by rw [hB.n]; exact hj
  have hgo := done_one hdone hjM
  have hs := hB.ses j hj
  generalize sg (((mach0 9 (swPrograms ls)).run picks).run (fairL ls.length most)) j = s at hgo hs
  have hpc : s.pc = 6 * (lg ls j).length := by
    have h3 : ¬ s.pc < s.p.length := by simpa [Sess.goes] using hgo
    rw [hs.p, swapFrom_len] at h3
    have := hs.pc
    omega
  rw [doneN_at (q := (lg ls j).length) (j := 0) (by omega) (by omega)]
  simp
end Go.Proofs.Ytdbmieofcdafkaa
