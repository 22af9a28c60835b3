/- Owners that are the first to tell of their places; how often a place is told of. No condition. -/
import Derived.Test.YtlnbgfglpdkifaaShIds
namespace Go.Proofs.Ytlnbgfglpdkifaa
open Go.RowKit
set_option linter.unusedVariables false

/-- How often a place stands in a list. -/
def timP (l : List Plc) (p : Plc) : Nat := (l.filter (fun q => decide (q = p))).length
theorem timP_snoc (l : List Plc) (q p : Plc) : timP (l ++ [q]) p = timP l p + if p = q then 1 else 0 := by
  unfold timP
  rw [List.filter_append, List.length_append, List.filter_cons, List.filter_nil]
  by_cases h : p = q
  · rw [if_pos h, if_pos (by simpa using h.symm)]; rfl
  · rw [if_neg h, if_neg (by simpa using fun e => h e.symm)]; rfl
theorem timP_zero {l : List Plc} {p : Plc} : timP l p = 0 ↔ p ∉ l := by
  unfold timP
  rw [List.length_eq_zero_iff, List.filter_eq_nil_iff]
  simp only [decide_eq_true_eq]
  exact ⟨fun h hm => h p hm rfl, fun h q hq e => h (e ▸ hq)⟩
theorem timP_le (l : List Plc) (p : Plc) : timP l p ≤ l.length := List.length_filter_le _ _
/-- What the map of times holds. -/
def tmsP (l : List Plc) (p : Plc) : Option Int := if timP l p = 0 then none else some ((timP l p : Nat) : Int)
theorem tmsP_get (l : List Plc) (p : Plc) : (tmsP l p).getD 0 = ((timP l p : Nat) : Int) := by
  unfold tmsP
  split
  · rename_i h; rw [h]; rfl
  · rfl
theorem tmsP_snoc (l : List Plc) (q c : Plc) : (if c = q then some (((timP l q : Nat) : Int) + 1) else tmsP l c) = tmsP (l ++ [q]) c := by
  unfold tmsP
  rw [timP_snoc]
  by_cases h : c = q
  · subst h
    rw [if_pos rfl, if_pos rfl, if_neg (by omega)]; rfl
  · rw [if_neg h, if_neg h, Nat.add_zero]
theorem tmsP_nil (p : Plc) : none = tmsP [] p := rfl

/-- The owners that are the first to tell of their places. -/
def frsG : List Plc → List Own → List Own
  | _, [] => []
  | s, o :: r => if o.1 ∈ s then frsG s r else o :: frsG (o.1 :: s) r
def frs (os : List Own) : List Own := frsG [] os
theorem frsG_snoc (o : Own) : ∀ (l : List Own) (s : List Plc), frsG s (l ++ [o]) = frsG s l ++ (if o.1 ∈ s ∨ o.1 ∈ l.map (·.1) then [] else [o])
  | [], s => by
    have e0 : frsG s [o] = if o.1 ∈ s then [] else [o] := by
      show (if o.1 ∈ s then frsG s [] else o :: frsG (o.1 :: s) []) = _
      rfl
    rw [List.nil_append, e0]
    by_cases h : o.1 ∈ s
    · rw [if_pos h, if_pos (.inl h)]; rfl
    · rw [if_neg h, if_neg (by rintro (h1 | h1); exact h h1; cases h1)]; rfl
  | x :: l, s => by
    rw [List.cons_append, frsG, frsG]
    by_cases h : x.1 ∈ s
    · rw [if_pos h, if_pos h, frsG_snoc o l s]
      congr 1
      by_cases h1 : o.1 ∈ s
      · rw [if_pos (.inl h1), if_pos (.inl h1)]
      · by_cases h2 : o.1 ∈ l.map (·.1)
        · rw [if_pos (.inr h2), if_pos (.inr (by rw [List.map_cons]; exact List.mem_cons_of_mem _ h2))]
        · rw [if_neg (fun h3 => h3.elim h1 h2), if_neg (fun h3 => h3.elim h1 (fun h4 => by
            rw [List.map_cons] at h4
            rcases List.mem_cons.1 h4 with h5 | h5
            · exact h1 (h5 ▸ h)
            · exact h2 h5))]
    · rw [if_neg h, if_neg h, frsG_snoc o l _, List.cons_append]
      congr 2
      by_cases h1 : o.1 ∈ x.1 :: s ∨ o.1 ∈ l.map (·.1)
      · rw [if_pos h1, if_pos]
        rw [List.map_cons]
        rcases h1 with h1 | h1
        · rcases List.mem_cons.1 h1 with h2 | h2
          · exact .inr (h2 ▸ List.mem_cons_self ..)
          · exact .inl h2
        · exact .inr (List.mem_cons_of_mem _ h1)
      · rw [if_neg h1, if_neg]
        rw [List.map_cons]
        rintro (h2 | h2)
        · exact h1 (.inl (List.mem_cons_of_mem _ h2))
        · rcases List.mem_cons.1 h2 with h3 | h3
          · exact h1 (.inl (h3 ▸ List.mem_cons_self ..))
          · exact h1 (.inr h3)
theorem frsG_app (m : List Own) : ∀ (l : List Own) (s : List Plc), ∃ r, frsG s (l ++ m) = frsG s l ++ r
  | [], s => ⟨_, rfl⟩
  | x :: l, s => by
    rw [List.cons_append, frsG, frsG]
    split
    · exact frsG_app m l s
    · obtain ⟨r, hr⟩ := frsG_app m l (x.1 :: s)
      exact ⟨r, by rw [hr]; rfl⟩
theorem frs_step {os : List Own} {k : Nat} {o : Own} (h : os[k]? = some o) : frs (os.take (k + 1)) = frs (os.take k) ++ if timP ((os.take k).map (·.1)) o.1 = 0 then [o] else [] := by
  have e : os.take (k + 1) = os.take k ++ [o] := by rw [List.take_add_one, h]; rfl
  unfold frs
  rw [e, frsG_snoc]
  congr 1
  by_cases hc : timP ((os.take k).map (·.1)) o.1 = 0
  · rw [if_pos hc, if_neg]
    rintro (h1 | h1)
    · cases h1
    · exact timP_zero.1 hc h1
  · rw [if_neg hc, if_pos (.inr (Classical.byContradiction fun h1 => hc (timP_zero.2 h1)))]
theorem frs_get {os : List Own} {k : Nat} {o : Own} (h : os[k]? = some o) (hc : timP ((os.take k).map (·.1)) o.1 = 0) : (frs os)[(frs (os.take k)).length]? = some o := by
  obtain ⟨r, hr⟩ := frsG_app (os.drop (k + 1)) (os.take (k + 1)) []
  rw [List.take_append_drop] at hr
  unfold frs
  rw [hr]
  have := frs_step h
  rw [if_pos hc] at this
  unfold frs at this
  rw [this, List.append_assoc, List.getElem?_append_right (Nat.le_refl _), Nat.sub_self]; rfl
theorem frs_nodup : ∀ {os : List Own} {s : List Plc}, (os.map (·.1)).Nodup → (∀ o ∈ os, o.1 ∉ s) → frsG s os = os
  | [], _, _, _ => rfl
  | o :: r, s, hn, hs => by
    rw [List.map_cons, List.nodup_cons] at hn
    rw [frsG, if_neg (hs o (List.mem_cons_self ..)), frs_nodup hn.2 (fun x hx hm => by
      rcases List.mem_cons.1 hm with h | h
      · exact hn.1 (List.mem_map.2 ⟨x, hx, h⟩)
      · exact hs x (List.mem_cons_of_mem _ hx) h)]
theorem frs_all {os : List Own} (h : (os.map (·.1)).Nodup) : frs os = os := frs_nodup h (fun _ _ h => by cases h)

/-- What the map of owners by places holds. -/
def whoF (l : List Own) (p : Plc) : Option Int := (l.find? (fun o => decide (o.1 = p))).map (·.2)
theorem whoF_had (l : List Own) (p : Plc) : (match whoF l p with | some x => x | none => -1) = hadI l p := by
  unfold whoF hadI
  cases l.find? (fun o => decide (o.1 = p)) <;> rfl
theorem find_frsG (p : Plc) : ∀ (l : List Own) (s : List Plc), p ∉ s → (frsG s l).find? (fun o => decide (o.1 = p)) = l.find? (fun o => decide (o.1 = p))
  | [], _, _ => rfl
  | o :: r, s, hp => by
    rw [frsG, List.find?_cons]
    by_cases h : o.1 ∈ s
    · rw [if_pos h, decide_eq_false (fun e : o.1 = p => hp (e ▸ h))]; exact find_frsG p r s hp
    · rw [if_neg h, List.find?_cons]
      by_cases e : o.1 = p
      · rw [decide_eq_true e]
      · rw [decide_eq_false e]
        exact find_frsG p r _ (fun hm => by
          rcases List.mem_cons.1 hm with h1 | h1
          · exact e h1.symm
          · exact hp h1)
theorem whoF_frs (l : List Own) (p : Plc) : whoF (frs l) p = whoF l p := by unfold whoF frs; rw [find_frsG p l [] (by simp)]
theorem frsG_nodup : ∀ (l : List Own) (s : List Plc), ((frsG s l).map (·.1)).Nodup ∧ ∀ o ∈ frsG s l, o.1 ∉ s
  | [], _ => ⟨List.nodup_nil, fun _ h => by cases h⟩
  | o :: r, s => by
    rw [frsG]
    by_cases h : o.1 ∈ s
    · rw [if_pos h]; exact frsG_nodup r s
    · rw [if_neg h]
      obtain ⟨h1, h2⟩ := frsG_nodup r (o.1 :: s)
      refine ⟨?_, fun x hx => ?_⟩
      · rw [List.map_cons, List.nodup_cons]
        refine ⟨fun hm => ?_, h1⟩
        obtain ⟨x, hx, e⟩ := List.mem_map.1 hm
        exact h2 x hx (e ▸ List.mem_cons_self ..)
      · rcases List.mem_cons.1 hx with rfl | hx
        · exact h
        · exact fun hm => h2 x hx (List.mem_cons_of_mem _ hm)
theorem whoF_snoc {l : List Own} {o : Own} (h : o.1 ∉ l.map (·.1)) (c : Plc) : (if c = o.1 then some o.2 else whoF l c) = whoF (l ++ [o]) c := by
  unfold whoF
  rw [List.find?_append]
  by_cases e : c = o.1
  · subst e
    have hn : l.find? (fun x => decide (x.1 = o.1)) = none := List.find?_eq_none.2 (fun x hx => by simpa using fun e => h (List.mem_map.2 ⟨x, hx, e⟩))
    rw [if_pos rfl, hn]
    simp
  · rw [if_neg e]
    cases l.find? (fun x => decide (x.1 = c)) with
    | some x => rfl
    | none => simp; exact fun e1 => e e1.symm
theorem frs_len (os : List Own) : ∀ s, (frsG s os).length ≤ os.length := by
  induction os with
  | nil => intro s; exact Nat.le_refl _
  | cons o r ih =>
    intro s
    rw [frsG]
    split
    · have := ih s; rw [List.length_cons]; omega
    · have := ih (o.1 :: s); rw [List.length_cons, List.length_cons]; omega
end Go.Proofs.Ytlnbgfglpdkifaa
