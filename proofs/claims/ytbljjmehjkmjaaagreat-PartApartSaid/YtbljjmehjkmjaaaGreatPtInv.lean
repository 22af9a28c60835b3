/- What each call leaves of the counts and of the bounds. No condition. -/
import Derived.Test.YtbljjmehjkmjaaaGreatPtApi
namespace Go.Proofs.YtbljjmehjkmjaaaGreat
open Go.RowKit
set_option linter.unusedVariables false
set_option linter.unusedSimpArgs false

/-- Handles that are counted are small. -/
theorem PtInv.small {P : PM} {R : List Int} {N : Nat} (h : PtInv P R) (hO : P.Ok N) (hN : N < 900000) {x : Int} (hx : x ∈ R) : 1 ≤ x ∧ x ≤ 200000000 := by
  obtain ⟨a1, a2, a3, a4, _⟩ := PM.live (h.live x hx)
  have h1 := (hO.low _ _ a3).1
  unfold hGen at a4
  unfold haIs at a1
  omega

theorem inv_claim {P : PM} {M : RM} {X : List Int} {N K : Nat} (h : PtInv P (M.refs ++ X)) (hO : P.Ok N) (hM : M.Ok K) (hN : N < 900000) (n : Int) : PtInv (ptClP P M n) ((ptClM P M n).refs ++ X) := by
  by_cases he : ptClE P M n = 0
  · exact (pt_claim h hO hM hN he).1
  · rw [show ptClP P M n = P from if_pos he, show ptClM P M n = M from if_pos he]; exact h
theorem inv_fill {P : PM} {M : RM} {X : List Int} (h : PtInv P (M.refs ++ X)) (a : Int) (b : List UInt8) : PtInv (ptFiP P M a b) (M.refs ++ X) := by
  unfold ptFiP
  split
  · exact (h.fill _ b).1
  · exact h
theorem inv_pub {P : PM} {M : RM} {X : List Int} (h : PtInv P (M.refs ++ X)) (a : Int) : PtInv P ((M.pubM a).refs ++ X) := by rw [pub_refs]; exact h
theorem inv_read {P : PM} {M : RM} {X : List Int} (h : PtInv P (M.refs ++ X)) (a : Int) : PtInv (ptRdP P M a) (M.refs ++ (X ++ if M.getE a = 0 then [M.getR a] else [])) := by
  unfold ptRdP
  split
  · rename_i he
    rw [← List.append_assoc]
    have hl : P.err (M.getR a) = 0 := by rw [getR_pl he]; exact h.live _ (List.mem_append_left _ (get_refs (.inl he)))
    exact (h.keep hl).1.perm (List.perm_append_comm (l₁ := [M.getR a]))
  · rw [List.append_nil]; exact h
theorem inv_trim {P : PM} {M : RM} {X : List Int} {N : Nat} (h : PtInv P (M.refs ++ X)) (hO : P.Ok N) (a : Int) : PtInv (ptTrP P M a) ((M.trimM a).refs ++ X) := by
  rw [refs_trim (M := M) (a := a), List.append_assoc] at h
  exact (pt_drops h hO).1
theorem erase_perm : ∀ {X : List Int} {k : Nat} {x : Int}, X[k]? = some x → X.Perm (x :: X.eraseIdx k)
  | [], k, x, h => by simp at h
  | y :: X, 0, x, h => by
    obtain rfl : y = x := by simpa using h
    exact List.Perm.refl _
  | y :: X, k + 1, x, h => by
    have := erase_perm (X := X) (k := k) (x := x) (by simpa using h)
    exact (List.Perm.cons y this).trans (List.Perm.swap _ _ _)
theorem inv_drop {P : PM} {R X : List Int} {k : Nat} {x : Int} (h : PtInv P (R ++ X)) (hx : X[k]? = some x) : PtInv (P.dropM x) (R ++ X.eraseIdx k) := by
  have hp : (R ++ X).Perm (x :: (R ++ X.eraseIdx k)) := by
    have h1 : X.Perm (x :: X.eraseIdx k) := erase_perm hx
    exact (List.Perm.append_left R h1).trans List.perm_middle
  exact (h.perm hp).drop.1

theorem trimL_len {M : RM} {K : Nat} (hM : M.Ok K) (a : Int) : (M.trimL a).length ≤ 64 := by
  have h1 := hM.len
  have h2 := hM.max
  unfold RM.trimL
  split
  · simp
  · rw [List.length_map, List.length_take]; omega
theorem ok_read {P : PM} {M : RM} {N : Nat} (hO : P.Ok N) (a : Int) : (ptRdP P M a).Ok (N + 1) := by
  unfold ptRdP
  split
  · exact hO.keep _
  · exact hO.mono (by omega)
theorem ok_fill {P : PM} {M : RM} {N : Nat} (hO : P.Ok N) (a : Int) (b : List UInt8) : (ptFiP P M a b).Ok N := by
  unfold ptFiP
  split
  · exact hO.fill _ _
  · exact hO
theorem ok_trim {P : PM} {M : RM} {N K : Nat} (hO : P.Ok N) (hM : M.Ok K) (a : Int) : (ptTrP P M a).Ok (N + 64) :=
  (ptDrops_ok hO).mono (by have := trimL_len hM a; omega)

/-- Slots and their size stay. -/
structure SameSz (P P' : PM) : Prop where
  sl : P'.sl.length = P.sl.length
  sz : P'.size = P.size
theorem SameSz.refl (P : PM) : SameSz P P := ⟨rfl, rfl⟩
theorem SameSz.trans {a b c : PM} (h : SameSz a b) (k : SameSz b c) : SameSz a c := ⟨k.sl.trans h.sl, k.sz.trans h.sz⟩
theorem sz_drop (P : PM) (x : Int) : SameSz P (P.dropM x) := ⟨(PM.drop_le P x).len, by unfold PM.dropM; split <;> (try split) <;> rfl⟩
theorem sz_keep (P : PM) (x : Int) : SameSz P (P.keepM x) := ⟨(PM.keep_le P x).len, by unfold PM.keepM; split <;> rfl⟩
theorem sz_fill (P : PM) (x : Int) (b : List UInt8) : SameSz P (P.fillM x b) := ⟨(PM.fill_le P x b).len, by unfold PM.fillM; split <;> rfl⟩
theorem sz_claim {P : PM} {M : RM} {N K : Nat} (hO : P.Ok N) (hM : M.Ok K) (n : Int) : SameSz P (ptClP P M n) := ⟨(ptCl_ok hO hM n).2.2.1, (ptCl_ok hO hM n).2.2.2⟩
theorem sz_ptfill (P : PM) (M : RM) (a : Int) (b : List UInt8) : SameSz P (ptFiP P M a b) := by unfold ptFiP; split; exact sz_fill _ _ _; exact SameSz.refl _
theorem sz_read (P : PM) (M : RM) (a : Int) : SameSz P (ptRdP P M a) := by unfold ptRdP; split; exact sz_keep _ _; exact SameSz.refl _
theorem sz_drops : ∀ (l : List Int) (P : PM), SameSz P (ptDrops P l)
  | [], P => SameSz.refl P
  | x :: l, P => (sz_drop P x).trans (sz_drops l (P.dropM x))
theorem sz_trim (P : PM) (M : RM) (a : Int) : SameSz P (ptTrP P M a) := sz_drops _ _
theorem n_claim (P : PM) (M : RM) (n : Int) : (ptClM P M n).n = M.n ∧ (ptClM P M n).ov = M.ov := by
  unfold ptClM
  split
  · exact ⟨rfl, rfl⟩
  · unfold ptWin; split <;> exact ⟨rfl, rfl⟩
theorem n_pub (M : RM) (a : Int) : (M.pubM a).n = M.n ∧ (M.pubM a).ov = M.ov := by unfold RM.pubM; split <;> exact ⟨rfl, rfl⟩
theorem n_trim (M : RM) (a : Int) : (M.trimM a).n = M.n ∧ (M.trimM a).ov = M.ov := by unfold RM.trimM; split <;> exact ⟨rfl, rfl⟩
end Go.Proofs.YtbljjmehjkmjaaaGreat
