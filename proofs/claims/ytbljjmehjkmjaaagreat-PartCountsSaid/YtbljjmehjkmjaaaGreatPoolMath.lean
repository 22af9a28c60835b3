/- The plain pool: generations only rise, handles that were given stay a slot's and a generation's, and free and live slots are all slots. No condition. -/
import Derived.Test.YtbljjmehjkmjaaaGreatPool
namespace Go.Proofs.YtbljjmehjkmjaaaGreat
open Go.RowKit
set_option linter.unusedVariables false

/-- As many slots, no generation less, and a slot of the same generation is not given back. -/
structure PM.Le (M M' : PM) : Prop where
  len : M'.sl.length = M.sl.length
  gen : ∀ (k : Nat) (s : Slt), M.sl[k]? = some s → ∃ s', M'.sl[k]? = some s' ∧ (s.g < s'.g ∨ s.g = s'.g ∧ (s.c ≠ 0 → s'.c ≠ 0))

theorem PM.Le.refl (M : PM) : M.Le M := ⟨rfl, fun k s h => ⟨s, h, .inr ⟨rfl, fun h => h⟩⟩⟩
theorem PM.Le.trans {a b c : PM} (h : a.Le b) (k : b.Le c) : a.Le c :=
  ⟨k.len.trans h.len, fun i s hs => by
    obtain ⟨s1, h1, h2⟩ := h.gen i s hs
    obtain ⟨s2, h3, h4⟩ := k.gen i s1 h1
    refine ⟨s2, h3, ?_⟩
    rcases h2 with h2 | ⟨h2, h2'⟩
    · rcases h4 with h4 | ⟨h4, _⟩ <;> exact .inl (by omega)
    · rcases h4 with h4 | ⟨h4, h4'⟩
      · exact .inl (by omega)
      · exact .inr ⟨by omega, fun hc => h4' (h2' hc)⟩⟩

theorem PM.Le.set {M : PM} {k : Nat} {s t : Slt} {fr : List Nat} (hs : M.sl[k]? = some s) (hg : s.g < t.g ∨ s.g = t.g ∧ (s.c ≠ 0 → t.c ≠ 0)) : M.Le { M with sl := M.sl.set k t, fr := fr } := by
  refine ⟨by simp, fun i u hu => ?_⟩
  by_cases e : i = k
  · subst e
    rw [hs] at hu; cases hu
    exact ⟨t, List.getElem?_set_self (get_lt hs), hg⟩
  · exact ⟨u, by rw [List.getElem?_set_ne (fun h => e h.symm)]; exact hu, .inr ⟨rfl, fun h => h⟩⟩

theorem PM.Ok.take_le {M : PM} {N : Nat} (h : M.Ok N) (n : Int) : M.Le (M.takeM n) := by
  unfold PM.takeM
  split
  · exact PM.Le.refl M
  · cases hf : M.fr with
    | nil => exact PM.Le.refl M
    | cons k r =>
      obtain ⟨s, hs⟩ := get_some (h.lt k (by rw [hf]; exact List.mem_cons_self))
      exact PM.Le.set hs (.inr ⟨by rw [hs]; rfl, fun _ => by simp⟩)
theorem PM.keep_le (M : PM) (x : Int) : M.Le (M.keepM x) := by
  unfold PM.keepM
  split
  · exact PM.Le.refl M
  · rename_i he
    exact PM.Le.set (fr := M.fr) (PM.live (show M.err x = 0 by simpa using he)).2.2.1 (.inr ⟨rfl, fun _ => Nat.succ_ne_zero _⟩)
theorem PM.drop_le (M : PM) (x : Int) : M.Le (M.dropM x) := by
  unfold PM.dropM
  split
  · exact PM.Le.refl M
  · rename_i he
    have hl := PM.live (show M.err x = 0 by simpa using he)
    have hs := hl.2.2.1
    have hc := hl.2.2.2.2
    split
    · exact PM.Le.set hs (.inl (Nat.lt_succ_self _))
    · exact PM.Le.set (fr := M.fr) hs (.inr ⟨rfl, fun _ => by show (M.slt x).c - 1 ≠ 0; omega⟩)
theorem PM.fill_le (M : PM) (x : Int) (b : List UInt8) : M.Le (M.fillM x b) := by
  unfold PM.fillM
  split
  · exact PM.Le.refl M
  · rename_i he
    have he : M.fillE x b = 0 := by simpa using he
    have h0 : M.err x = 0 := by
      unfold PM.fillE at he
      split at he
      · exact he
      · rename_i h1; simpa using h1
    exact PM.Le.set (fr := M.fr) (PM.live h0).2.2.1 (.inr ⟨rfl, fun h => h⟩)

/-- A handle that was given: of a slot that there is, live, or of a generation gone. -/
def PM.Given (M : PM) (h : Int) : Prop := ∃ (k g : Nat) (s : Slt), h = (g : Int) * 128 + (k : Nat) + 1 ∧ M.sl[k]? = some s ∧ (g < s.g ∨ g = s.g ∧ s.c ≠ 0)
theorem PM.Given.le {M M' : PM} {h : Int} (hg : M.Given h) (hle : M.Le M') : M'.Given h := by
  obtain ⟨k, g, s, e, h1, h2⟩ := hg
  obtain ⟨s', h3, h4⟩ := hle.gen k s h1
  refine ⟨k, g, s', e, h3, ?_⟩
  rcases h2 with h2 | ⟨h2, h2'⟩
  · rcases h4 with h4 | ⟨h4, _⟩ <;> exact .inl (by omega)
  · rcases h4 with h4 | ⟨h4, h4'⟩
    · exact .inl (by omega)
    · exact .inr ⟨by omega, h4' h2'⟩
theorem PM.Given.small {M : PM} {N : Nat} {h : Int} (hg : M.Given h) (hM : M.Ok N) : 1 ≤ h ∧ h ≤ (N : Int) * 128 + 128 := by
  obtain ⟨k, g, s, rfl, h1, h2⟩ := hg
  have := (hM.low k s h1).1
  have := get_lt h1
  have := hM.len
  omega

theorem PM.Ok.given {M : PM} {N : Nat} (h : M.Ok N) {n : Int} (he : M.takeE n = 0) : (M.takeM n).Given (M.takeH n) ∧ M.takeH n ≠ 0 := by
  unfold PM.takeE at he
  split at he
  · cases he
  · rename_i h1
    split at he
    · cases he
    · rename_i h2
      split at he
      · cases he
      · rename_i h3
        cases hf : M.fr with
        | nil => exact absurd hf h3
        | cons k r =>
          obtain ⟨s, hs⟩ := get_some (h.lt k (by rw [hf]; exact List.mem_cons_self))
          have e1 : M.takeH n = (s.g : Int) * 128 + (k : Nat) + 1 := by unfold PM.takeH; rw [if_neg (by omega), hf]; simp [hs]
          have e2 : M.takeM n = { M with sl := M.sl.set k ⟨s.g, 1, List.replicate n.toNat 0⟩, fr := r } := by unfold PM.takeM; rw [if_neg (by omega), hf]; simp [hs]
          refine ⟨?_, by rw [e1]; omega⟩
          rw [e1, e2]
          exact ⟨k, s.g, _, rfl, List.getElem?_set_self (get_lt hs), .inr ⟨rfl, by simp⟩⟩

/-- How many slots are live, up to one. -/
def PM.cnt (M : PM) (k : Nat) : Nat := (M.sl[k]?.getD ⟨0, 0, []⟩).c
def PM.liveTo (M : PM) (k : Nat) : Nat := (List.range k).countP fun i => decide (0 < M.cnt i)
theorem PM.liveTo_succ (M : PM) (k : Nat) : M.liveTo (k + 1) = M.liveTo k + if 0 < M.cnt k then 1 else 0 := by
  unfold PM.liveTo
  rw [List.range_succ, List.countP_append]
  simp [List.countP_cons]
theorem PM.Ok.cnt_free {M : PM} {N : Nat} (h : M.Ok N) {k : Nat} (hk : k < M.sl.length) : (0 < M.cnt k ↔ k ∉ M.fr) := by
  obtain ⟨s, hs⟩ := get_some hk
  have := h.free k s hs
  unfold PM.cnt
  rw [hs, Option.getD_some, ← this]
  omega
theorem PM.Ok.all {M : PM} {N : Nat} (h : M.Ok N) : M.fr.length + M.liveTo M.sl.length = M.sl.length := by
  have h1 := List.length_eq_countP_add_countP (fun i => decide (0 < M.cnt i)) (l := List.range M.sl.length)
  rw [List.length_range] at h1
  have h2 : M.fr.length = (List.range M.sl.length).countP (fun a => decide ¬decide (0 < M.cnt a) = true) := by
    rw [List.countP_eq_length_filter]
    refine List.Perm.length_eq ((List.perm_ext_iff_of_nodup h.nodup (List.Pairwise.filter _ List.nodup_range)).2 (fun k => ?_))
    rw [List.mem_filter, List.mem_range]
    constructor
    · intro hk
      have hlt := h.lt k hk
      refine ⟨hlt, ?_⟩
      have := (h.cnt_free hlt)
      simp only [decide_eq_true_eq]
      intro hc
      exact this.1 hc hk
    · rintro ⟨hlt, hc⟩
      have := (h.cnt_free hlt)
      simp only [decide_eq_true_eq] at hc
      by_cases hk : k ∈ M.fr
      · exact hk
      · exact absurd (this.2 hk) hc
  unfold PM.liveTo
  omega
theorem liveTo_le (M : PM) (k : Nat) : M.liveTo k ≤ k := by
  have := List.countP_le_length (p := fun i => decide (0 < M.cnt i)) (l := List.range k)
  rwa [List.length_range] at this
end Go.Proofs.YtbljjmehjkmjaaaGreat
