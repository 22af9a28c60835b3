/- Sessions that read, add and store under a lock lose nothing, whatever the picks: plain mathematics of the machine. Conditions: at most 8 sessions, each with at most 10 numbers. -/
import Derived.Test.YtkeacdhjkhojhaaSwapMath
namespace Go.Proofs.Ytkeacdhjkhojhaa
open Go.RowKit
set_option linter.unusedVariables false
set_option maxRecDepth 100000

def lockSeg (x : Int) : List Ins := [⟨9, 0, 0, 0⟩, ⟨2, 1, 0, 0⟩, ⟨6, 0, 0, x⟩, ⟨3, 1, 0, 0⟩, ⟨10, 0, 0, 0⟩]
def lockFrom (l : List Int) : List Ins := l.flatMap lockSeg

theorem lockSeg_len (x : Int) : (lockSeg x).length = 5 := rfl
theorem lockFrom_cons (x : Int) (l : List Int) : lockFrom (x :: l) = lockSeg x ++ lockFrom l := by simp [lockFrom]
theorem lockFrom_snoc (l : List Int) (x : Int) : lockFrom (l ++ [x]) = lockFrom l ++ lockSeg x := by simp [lockFrom]
theorem lockFrom_len (l : List Int) : (lockFrom l).length = 5 * l.length := by
  induction l with
  | nil => rfl
  | cons x l ih => rw [lockFrom_cons, List.length_append, lockSeg_len, ih, List.length_cons]; omega
theorem lockFrom_get (l : List Int) {q j : Nat} {x : Int} (h : l[q]? = some x) (hj : j < 5) : (lockFrom l)[5 * q + j]? = (lockSeg x)[j]? := by
  induction l generalizing q with
  | nil => simp at h
  | cons y l ih =>
    rw [lockFrom_cons]
    cases q with
    | zero =>
      simp at h; subst h
      rw [List.getElem?_append_left (by rw [lockSeg_len]; omega)]
      simp
    | succ q =>
      simp at h
      rw [List.getElem?_append_right (by rw [lockSeg_len]; omega), lockSeg_len, show 5 * (q + 1) + j - 5 = 5 * q + j by omega, ih h]

structure LkS (l : List Int) (st : List Cel) (s : Sess) : Prop where
  p : s.p = lockFrom l
  r : s.r.length = 4
  pc : s.pc ≤ 5 * l.length
  h2 : s.pc % 5 = 2 → regAt s.r 0 = (celAt st 1).n
  h3 : s.pc % 5 = 3 → regAt s.r 0 = wrap64 ((celAt st 1).n + (l[s.pc / 5]?).getD 0)

def doneL (s : Sess) : Nat := s.pc / 5 + (if s.pc % 5 = 4 then 1 else 0)
def lkSum (ls : List (List Int)) (M : Mach) : Int := sumTo ls.length fun k => ((lg ls k).take (doneL (sg M k))).sum
def lkPsi (ls : List (List Int)) (M : Mach) : Int := sumTo ls.length fun k => 5 * ((lg ls k).length : Int) - ((sg M k).pc : Int)

structure LkInv (ls : List (List Int)) (M : Mach) : Prop where
  n : M.ss.length = ls.length
  st : M.st.length = 2
  ses : ∀ k, k < ls.length → LkS (lg ls k) M.st (sg M k)
  hold : ∀ k : Nat, k < ls.length → ((sg M k).pc % 5 ≠ 0 ↔ (celAt M.st 0).h = k)
  who : (celAt M.st 0).h = -1 ∨ ∃ k : Nat, k < ls.length ∧ (celAt M.st 0).h = k
  sum : (celAt M.st 1).n = wrap64 (lkSum ls M)

/-- A step's way, session k's: it waits, or goes on and leaves all this. -/
theorem lk_step {ls : List (List Int)} {M : Mach} (I : LkInv ls M) {k : Nat} (hk : k < ls.length) (hg : (sg M k).goes = true) :
    ((celAt M.st 0).h ≠ -1 ∧ (sg M k).pc % 5 = 0 ∧ stepI k M.st (sg M k) (insAt (sg M k).p (sg M k).pc) = (M.st, sg M k)) ∨
    ∃ st' s', stepI k M.st (sg M k) (insAt (sg M k).p (sg M k).pc) = (st', s') ∧ st'.length = 2 ∧ LkS (lg ls k) st' s' ∧ s'.pc = (sg M k).pc + 1 ∧
      ((celAt st' 1).n = (celAt M.st 1).n ∧ doneL s' = doneL (sg M k) ∨
        ((sg M k).pc % 5 ≠ 0 ∧ ∃ x, (lg ls k)[doneL (sg M k)]? = some x ∧ doneL s' = doneL (sg M k) + 1 ∧ (celAt st' 1).n = wrap64 ((celAt M.st 1).n + x))) ∧
      (((sg M k).pc % 5 = 0 ∧ (celAt M.st 0).h = -1 ∧ (celAt st' 0).h = k) ∨ ((sg M k).pc % 5 = 4 ∧ (celAt st' 0).h = -1) ∨ ((sg M k).pc % 5 ≠ 0 ∧ (sg M k).pc % 5 ≠ 4 ∧ (celAt st' 0).h = (celAt M.st 0).h)) := by
  have h := I.ses k hk
  have hho := I.hold k hk
  have hst := I.st
  generalize sg M k = s at *
  generalize lg ls k = l at *
  generalize M.st = st at *
  have hg' : s.pc < 5 * l.length := by
    have : s.pc < s.p.length := by simpa [Sess.goes] using hg
    rw [h.p, lockFrom_len] at this; exact this
  obtain ⟨q, j, hj, hq⟩ : ∃ q j, j < 5 ∧ s.pc = 5 * q + j := ⟨s.pc / 5, s.pc % 5, Nat.mod_lt _ (by omega), by omega⟩
  have hql : q < l.length := by omega
  obtain ⟨x, hx⟩ := get_some hql
  have hins : insAt s.p s.pc = ((lockSeg x)[j]?).getD ⟨0, 0, 0, 0⟩ := by
    unfold insAt; rw [h.p, hq, lockFrom_get l hx hj]
  obtain ⟨a, b, c, d, hr⟩ := regs h.r
  obtain ⟨p, pc, r⟩ := s
  dsimp only at *
  subst hq
  subst hr
  have hmod : (5 * q + j) % 5 = j := by omega
  have hdiv : (5 * q + j) / 5 = q := by omega
  rw [hins]
  have h2 := h.h2
  have h3 := h.h3
  dsimp only at h2 h3
  rw [hmod] at h2 h3 hho
  rw [hdiv, hx] at h3
  have dn : ∀ (q j : Nat) (p : List Ins) (r : List Int), j < 5 → doneL ⟨p, 5 * q + j, r⟩ = q + (if j = 4 then 1 else 0) := fun q j p r hj => by
    unfold doneL; dsimp only; rw [show (5 * q + j) % 5 = j by omega, show (5 * q + j) / 5 = q by omega]
  rcases (show j = 0 ∨ j = 1 ∨ j = 2 ∨ j = 3 ∨ j = 4 by omega) with rfl | rfl | rfl | rfl | rfl
  · by_cases hh : (celAt st 0).h = -1
    · right
      have hs0 : celAt (st.set (0 : Int).toNat { celAt st 0 with h := (k : Int) }) 0 = { celAt st 0 with h := (k : Int) } := celAt_set_same (by omega) _
      have hs1 : celAt (st.set (0 : Int).toNat { celAt st 0 with h := (k : Int) }) 1 = celAt st 1 := celAt_set_other (by omega) _
      refine ⟨st.set (0 : Int).toNat { celAt st 0 with h := (k : Int) }, ⟨p, 5 * q + 1, [a, b, c, d]⟩, by simp [stepI, lockSeg, hh], by rw [List.length_set]; exact hst, ⟨h.p, rfl, by dsimp only; omega, fun e => by dsimp only at e; omega, fun e => by dsimp only at e; omega⟩, rfl, .inl ⟨by rw [hs1], by rw [dn q 1 _ _ (by omega), dn q 0 _ _ (by omega)]; rfl⟩, .inl ⟨by omega, hh, by rw [hs0]⟩⟩
    · left
      exact ⟨hh, by omega, by simp [stepI, lockSeg, hh]⟩
  · right
    refine ⟨st, ⟨p, 5 * q + 2, [(celAt st 1).n, b, c, d]⟩, by simp [stepI, lockSeg], hst, ⟨h.p, rfl, by dsimp only; omega, fun _ => rfl, fun e => by dsimp only at e; omega⟩, rfl, .inl ⟨rfl, by rw [dn q 2 _ _ (by omega), dn q 1 _ _ (by omega)]; rfl⟩, .inr (.inr ⟨by omega, by omega, rfl⟩)⟩
  · right
    have ha : a = (celAt st 1).n := h2 rfl
    refine ⟨st, ⟨p, 5 * q + 3, [wrap64 (a + x), b, c, d]⟩, by simp [stepI, lockSeg, regAt], hst, ⟨h.p, rfl, by dsimp only; omega, fun e => by dsimp only at e; omega, fun _ => ?_⟩, rfl, .inl ⟨rfl, by rw [dn q 3 _ _ (by omega), dn q 2 _ _ (by omega)]; rfl⟩, .inr (.inr ⟨by omega, by omega, rfl⟩)⟩
    show wrap64 (a + x) = wrap64 ((celAt st 1).n + (l[(5 * q + 3) / 5]?).getD 0)
    rw [show (5 * q + 3) / 5 = q by omega, hx, ha]; rfl
  · right
    have ha : a = wrap64 ((celAt st 1).n + x) := h3 rfl
    have hs1 : celAt (st.set (1 : Int).toNat ((celAt st 1).put a)) 1 = (celAt st 1).put a := celAt_set_same (by omega) _
    have hs0 : celAt (st.set (1 : Int).toNat ((celAt st 1).put a)) 0 = celAt st 0 := celAt_set_other (by omega) _
    refine ⟨st.set (1 : Int).toNat ((celAt st 1).put a), ⟨p, 5 * q + 4, [a, b, c, d]⟩, by simp [stepI, lockSeg, regAt], by rw [List.length_set]; exact hst, ⟨h.p, rfl, by dsimp only; omega, fun e => by dsimp only at e; omega, fun e => by dsimp only at e; omega⟩, rfl,
      .inr ⟨by omega, x, by rw [dn q 3 _ _ (by omega)]; simpa using hx, by rw [dn q 4 _ _ (by omega), dn q 3 _ _ (by omega)]; rfl, by rw [hs1, ← ha]; rfl⟩, .inr (.inr ⟨by omega, by omega, by rw [hs0]⟩)⟩
  · right
    have hh : (celAt st 0).h = k := hho.1 (by omega)
    have hs0 : celAt (st.set (0 : Int).toNat { celAt st 0 with h := -1 }) 0 = { celAt st 0 with h := -1 } := celAt_set_same (by omega) _
    have hs1 : celAt (st.set (0 : Int).toNat { celAt st 0 with h := -1 }) 1 = celAt st 1 := celAt_set_other (by omega) _
    refine ⟨st.set (0 : Int).toNat { celAt st 0 with h := -1 }, ⟨p, 5 * (q + 1) + 0, [a, b, c, d]⟩, by simp [stepI, lockSeg, hh]; omega, by rw [List.length_set]; exact hst, ⟨h.p, rfl, by dsimp only; omega, fun e => by dsimp only at e; omega, fun e => by dsimp only at e; omega⟩, by dsimp only; omega, .inl ⟨by rw [hs1], by rw [dn (q + 1) 0 _ _ (by omega), dn q 4 _ _ (by omega)]; rfl⟩, .inr (.inl ⟨by omega, by rw [hs0]⟩)⟩

theorem set_self {α : Type} {l : List α} {k : Nat} {a : α} (h : l[k]? = some a) : l.set k a = l := by
  apply List.ext_getElem?
  intro i
  rw [List.getElem?_set]
  split
  · rename_i e; subst e
    split
    · exact h.symm
    · rename_i h2; exact absurd (get_lt h) h2
  · rfl

theorem lk_mach {ls : List (List Int)} {M : Mach} (I : LkInv ls M) {k : Nat} (hk : k < ls.length) (hg : (sg M k).goes = true) :
    LkInv ls (M.step k) ∧ ((M.step k = M ∧ (celAt M.st 0).h ≠ -1 ∧ (sg M k).pc % 5 = 0) ∨ lkPsi ls (M.step k) < lkPsi ls M) := by
  have hkM : k < M.ss.length := by rw [I.n]; exact hk
  have hstep := step_goes hkM hg
  rcases lk_step I hk hg with ⟨h1, h2, h3⟩ | ⟨st', s', h3, hl, hs, hpc, hw, hh⟩
  · rw [h3] at hstep
    have hM : M.step k = M := by rw [hstep]; dsimp only; rw [set_self (sg_get hkM)]
    rw [hM]
    exact ⟨I, .inl ⟨rfl, h1, h2⟩⟩
  · rw [h3] at hstep
    dsimp only at hstep
    rw [hstep]
    have hsame : sg ⟨st', M.ss.set k s'⟩ k = s' := sg_set_same hkM st' s'
    have hoth : ∀ j, j ≠ k → sg ⟨st', M.ss.set k s'⟩ j = sg M j := fun j hj => sg_set_other hj st' s'
    have hpk := I.hold k hk
    have hpsi : lkPsi ls ⟨st', M.ss.set k s'⟩ < lkPsi ls M := by
      unfold lkPsi
      rw [sumTo_one (n := ls.length) (k := k) hk (f := fun k' => 5 * ((lg ls k').length : Int) - ((sg ⟨st', M.ss.set k s'⟩ k').pc : Int)) (g := fun k' => 5 * ((lg ls k').length : Int) - ((sg M k').pc : Int))
        (fun j hj e => by rw [hoth j e])]
      rw [hsame, hpc]
      omega
    have idle : ∀ j : Nat, j < ls.length → j ≠ k → (sg M k).pc % 5 ≠ 0 → (sg M j).pc % 5 = 0 := fun j hj hne h0 => by
      have e1 := hpk.1 h0
      have e2 := I.hold j hj
      by_cases h5 : (sg M j).pc % 5 = 0
      · exact h5
      · have := e2.1 h5
        rw [e1] at this; omega
    refine ⟨⟨by show (M.ss.set k s').length = _; rw [List.length_set]; exact I.n, hl, ?_, ?_, ?_, ?_⟩, .inr hpsi⟩
    · intro j hj
      by_cases e : j = k
      · subst e; rw [hsame]; exact hs
      · rw [hoth j e]
        have h := I.ses j hj
        rcases hw with ⟨hw1, _⟩ | ⟨h0, _⟩
        · exact ⟨h.p, h.r, h.pc, fun h2 => by show _ = (celAt st' 1).n; rw [hw1]; exact h.h2 h2, fun h2 => by show _ = wrap64 ((celAt st' 1).n + _); rw [hw1]; exact h.h3 h2⟩
        · have := idle j hj e h0
          exact ⟨h.p, h.r, h.pc, fun h2 => by omega, fun h2 => by omega⟩
    · intro j hj
      show (sg ⟨st', M.ss.set k s'⟩ j).pc % 5 ≠ 0 ↔ (celAt st' 0).h = j
      by_cases e : j = k
      · subst e
        rw [hsame, hpc]
        rcases hh with ⟨h1, h2, h4⟩ | ⟨h1, h2⟩ | ⟨h1, h2, h4⟩
        · rw [h4]; exact ⟨fun _ => rfl, fun _ => by omega⟩
        · rw [h2]; exact ⟨fun h => by omega, fun h => by omega⟩
        · rw [h4, hpk.1 h1]; exact ⟨fun _ => rfl, fun _ => by omega⟩
      · rw [hoth j e]
        have e2 := I.hold j hj
        rcases hh with ⟨h1, h2, h4⟩ | ⟨h1, h2⟩ | ⟨h1, h2, h4⟩
        · rw [h4]; rw [h2] at e2
          exact ⟨fun h => by have := e2.1 h; omega, fun h => by omega⟩
        · have := idle j hj e (by omega)
          rw [h2]
          exact ⟨fun h => by omega, fun h => by omega⟩
        · rw [h4]; exact e2
    · show (celAt st' 0).h = -1 ∨ ∃ k : Nat, k < ls.length ∧ (celAt st' 0).h = k
      rcases hh with ⟨h1, h2, h4⟩ | ⟨h1, h2⟩ | ⟨h1, h2, h4⟩
      · exact .inr ⟨k, hk, h4⟩
      · exact .inl h2
      · rw [h4]; exact I.who
    · show (celAt st' 1).n = wrap64 (lkSum ls ⟨st', M.ss.set k s'⟩)
      have hsum := I.sum
      rcases hw with ⟨hw1, hw2⟩ | ⟨_, x, hx, hd, hv⟩
      · rw [hw1, hsum]
        congr 1
        refine sumTo_congr (fun j hj => ?_)
        by_cases e : j = k
        · subst e; rw [hsame, hw2]
        · rw [hoth j e]
      · rw [hv, hsum, wrap_wrap]
        congr 1
        unfold lkSum
        rw [sumTo_one (n := ls.length) (k := k) hk (f := fun k' => ((lg ls k').take (doneL (sg ⟨st', M.ss.set k s'⟩ k'))).sum) (g := fun k' => ((lg ls k').take (doneL (sg M k'))).sum)
          (fun j hj e => by rw [hoth j e])]
        rw [hsame, hd, sum_take_get hx]
        omega

def lkPrograms (ls : List (List Int)) : List (List Ins) := ls.map lockFrom

theorem lk_start (ls : List (List Int)) : LkInv ls (mach0 2 (lkPrograms ls)) := by
  have hl : (mach0 2 (lkPrograms ls)).ss.length = ls.length := by simp [mach0, lkPrograms]
  have hsg : ∀ k, k < ls.length → sg (mach0 2 (lkPrograms ls)) k = ⟨lockFrom (lg ls k), 0, [0, 0, 0, 0]⟩ := by
    intro k hk
    obtain ⟨l, hlk⟩ := get_some hk
    unfold sg lg
    simp [mach0, lkPrograms, hlk]
  have hh : (celAt (mach0 2 (lkPrograms ls)).st 0).h = -1 := by simp [mach0, newSt, celAt]
  refine ⟨hl, by simp [mach0, newSt], ?_, ?_, .inl hh, ?_⟩
  · intro k hk
    rw [hsg k hk]
    exact ⟨rfl, rfl, Nat.zero_le _, fun h => by dsimp only at h; omega, fun h => by dsimp only at h; omega⟩
  · intro k hk
    rw [hsg k hk, hh]
    exact ⟨fun h => absurd rfl h, fun h => by omega⟩
  · have : lkSum ls (mach0 2 (lkPrograms ls)) = 0 := by
      unfold lkSum
      have h0 : sumTo ls.length (fun k => ((lg ls k).take (doneL (sg (mach0 2 (lkPrograms ls)) k))).sum) = sumTo ls.length (fun _ => 0) := sumTo_congr (fun j hj => by
        rw [hsg j hj]; simp [doneL])
      rw [h0]
      have : ∀ n, sumTo n (fun _ => 0) = 0 := fun n => by induction n with
        | zero => rfl
        | succ n ih => simp [sumTo, ih]
      exact this _
    rw [this]
    simp [mach0, newSt, celAt, wrap64]

theorem lk_end {ls : List (List Int)} (h0 : 0 < ls.length) (hls : ls.length ≤ 8) (h10 : ∀ l ∈ ls, l.length ≤ 10) (picks : List Int) (most : Nat) (hmost : 4000 ≤ most) :
    (((mach0 2 (lkPrograms ls)).run picks).run (fairL ls.length most)).done = true ∧
    (celAt (((mach0 2 (lkPrograms ls)).run picks).run (fairL ls.length most)).st 1).n = wrap64 (sumTo ls.length fun k => (lg ls k).sum) ∧
    (celAt (((mach0 2 (lkPrograms ls)).run picks).run (fairL ls.length most)).st 0).h = -1 := by
  have hI : ∀ M k, LkInv ls M → LkInv ls (M.step k) := by
    intro M k I
    by_cases hk : 0 ≤ k ∧ k < M.ss.length
    · obtain ⟨j, rfl⟩ : ∃ j : Nat, k = j := ⟨k.toNat, by omega⟩
      have hj : j < M.ss.length := by omega
      cases hg : (sg M j).goes with
      | true => exact (lk_mach I (by rw [← I.n]; exact hj) hg).1
      | false => rw [step_stays hj hg]; exact I
    · rw [step_out hk]; exact I
  have h1 : ∀ M k, LkInv ls M → M.step k = M ∨ lkPsi ls (M.step k) < lkPsi ls M := by
    intro M k I
    by_cases hk : 0 ≤ k ∧ k < M.ss.length
    · obtain ⟨j, rfl⟩ : ∃ j : Nat, k = j := ⟨k.toNat, by omega⟩
      have hj : j < M.ss.length := by omega
      cases hg : (sg M j).goes with
      | true => exact (lk_mach I (by rw [← I.n]; exact hj) hg).2.imp (fun h => h.1) id
      | false => exact .inl (step_stays hj hg)
    · exact .inl (step_out hk)
  have hpos : ∀ M, LkInv ls M → 0 ≤ lkPsi ls M := fun M I => sumTo_nonneg (fun j hj => by have := (I.ses j hj).pc; omega)
  have busy : ∀ M, LkInv ls M → ∀ k : Nat, k < ls.length → (sg M k).pc % 5 ≠ 0 → (sg M k).goes = true := by
    intro M I k hk h5
    have hs := I.ses k hk
    unfold Sess.goes
    rw [decide_eq_true_iff, hs.p, lockFrom_len]
    have := hs.pc
    omega
  have h2 : ∀ M, LkInv ls M → (∀ k : Nat, k < ls.length → M.step k = M) → M.done = true := by
    intro M I hst
    refine done_all (fun k hk => ?_)
    cases hg : (sg M k).goes with
    | false => rfl
    | true =>
      have hk' : k < ls.length := by rw [← I.n]; exact hk
      rcases (lk_mach I hk' hg).2 with ⟨_, hh, _⟩ | hlt
      · rcases I.who with h | ⟨k0, hk0, h⟩
        · exact absurd h hh
        · have h5 := (I.hold k0 hk0).2 h
          rcases (lk_mach I hk0 (busy M I k0 hk0 h5)).2 with ⟨_, _, h6⟩ | hlt
          · exact absurd h6 h5
          · rw [hst k0 hk0] at hlt; omega
      · rw [hst k hk'] at hlt; omega
  have hA := (psi_run hI h1 picks _ (lk_start ls)).1
  have hb : lkPsi ls ((mach0 2 (lkPrograms ls)).run picks) < 401 := by
    have h3 : lkPsi ls ((mach0 2 (lkPrograms ls)).run picks) ≤ (ls.length : Int) * 50 := sumTo_bound (fun j hj => by
      have h4 : (lg ls j).length ≤ 10 := by
        obtain ⟨l, hl⟩ := get_some hj
        unfold lg; rw [hl]; exact h10 l (List.mem_of_getElem? hl)
      omega)
    have : (ls.length : Int) * 50 ≤ 8 * 50 := Int.mul_le_mul_of_nonneg_right (by omega) (by omega)
    omega
  have hdone := fair_end_all h0 hI hpos h1 h2 401 most _ hA hb (by omega)
  have hB := (psi_run hI h1 (fairL ls.length most) _ hA).1
  generalize ((mach0 2 (lkPrograms ls)).run picks).run (fairL ls.length most) = MF at hdone hB
  have hpc : ∀ j, j < ls.length → (sg MF j).pc = 5 * (lg ls j).length := by
    intro j hj
    have hgo := done_one hdone (k := j) (by rw [hB.n]; exact hj)
    have hs := hB.ses j hj
    have h3 : ¬ (sg MF j).pc < (sg MF j).p.length := by simpa [Sess.goes] using hgo
    rw [hs.p, lockFrom_len] at h3
    have := hs.pc
    omega
  refine ⟨hdone, ?_, ?_⟩
  · rw [hB.sum]
    congr 1
    refine sumTo_congr (fun j hj => ?_)
    unfold doneL
    rw [hpc j hj, show 5 * (lg ls j).length % 5 = 0 by omega, show 5 * (lg ls j).length / 5 = (lg ls j).length by omega]
    simp
  · rcases hB.who with h | ⟨k, hk, h⟩
    · exact h
    · have := (hB.hold k hk).2 h
      rw [hpc k hk] at this
      omega
end Go.Proofs.Ytkeacdhjkhojhaa
