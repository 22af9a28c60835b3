/- Texts that lie next to one another, laid into one: each says what it holds. No condition but what each states. -/
import Derived.Test.YtmmkcfiecgpkpaaGreatBdPtA

/- What was told of each place and of each handle that was read stays: plain mathematics. No condition. -/
namespace Go.Proofs.YtmmkcfiecgpkpaaGreat
open Go.RowKit
set_option linter.unusedVariables false
set_option linter.unusedSimpArgs false

/-- All places are published, and each place's and each handle's bytes are what was told. -/
structure Kp (P : PM) (M : RM) (had : List Int) (which : List Nat) (told : List (List UInt8)) : Prop where
  inv : PtInv P (M.refs ++ had)
  tail : M.tail = told.length
  ov : M.ov = true
  pub : ∀ p ∈ M.l, p.d = true
  win : ∀ (i : Nat) (p : Plc), M.l[i]? = some p → told[M.h + i]? = some (P.slt p.r).b
  len : had.length = which.length
  was : ∀ (j : Nat) (x : Int) (k : Nat), had[j]? = some x → which[j]? = some k → told[k]? = some (P.slt x).b

theorem Kp.new (n size r : Nat) : Kp (PM.new n size) (RM.new r true) [] [] [] :=
  ⟨PtInv.new n size, rfl, rfl, fun p hp => (by cases hp), fun i p hp => (by simp [RM.new] at hp), rfl, fun j x k hx => (by simp at hx)⟩

/-- A place of the window. -/
theorem Kp.place {P : PM} {M : RM} {had : List Int} {which : List Nat} {told : List (List UInt8)} (H : Kp P M had which told) {k : Nat} (h1 : M.h ≤ k) (h2 : k < M.tail) :
    M.getE (k : Int) = 0 ∧ P.err (M.getR (k : Int)) = 0 ∧ told[k]? = some (P.slt (M.getR (k : Int))).b ∧ M.getR (k : Int) ∈ M.refs := by
  have hf : M.findE (k : Int) = 0 := by unfold RM.findE; rw [if_neg (by omega), if_neg (by omega), if_neg (by omega)]
  obtain ⟨f1, f2, f3⟩ := RM.found hf
  have hd := H.pub _ (List.mem_of_getElem? f3)
  have hg : M.getE (k : Int) = 0 := by unfold RM.getE; rw [if_neg (by simp [hf]), if_pos hd]
  have hr := getR_pl hg
  have hm := get_refs (M := M) (a := (k : Int)) (.inl hg)
  refine ⟨hg, ?_, ?_, by rw [hr]; exact hm⟩
  · rw [hr]; exact H.inv.live _ (List.mem_append_left _ hm)
  · rw [hr, ← H.win _ _ f3]
    congr 1
    omega
theorem Kp.found {P : PM} {M : RM} {had : List Int} {which : List Nat} {told : List (List UInt8)} (H : Kp P M had which told) {k : Nat} (hg : M.getE (k : Int) = 0) : M.h ≤ k ∧ k < M.tail := by
  have hf : M.findE (k : Int) = 0 := by
    by_cases h : M.findE (k : Int) = 0
    · exact h
    · unfold RM.getE at hg; rw [if_pos h] at hg; exact absurd hg h
  obtain ⟨f1, f2, f3⟩ := RM.found hf
  unfold RM.tail
  omega

/-- One is read. -/
theorem Kp.read {P : PM} {M : RM} {had : List Int} {which : List Nat} {told : List (List UInt8)} (H : Kp P M had which told) {k : Nat} (hg : M.getE (k : Int) = 0) :
    Kp (ptRdP P M k) M (had ++ [M.getR k]) (which ++ [k]) told := by
  obtain ⟨h1, h2⟩ := H.found hg
  obtain ⟨_, h3, h4, h5⟩ := H.place h1 h2
  have eP : ptRdP P M k = P.keepM (M.getR k) := if_pos hg
  have hi := inv_read H.inv (k : Int)
  rw [if_pos hg] at hi
  have hk := (H.inv.keep h3).2
  have hb : ∀ y ∈ M.refs ++ had, ((P.keepM (M.getR k)).slt y).b = (P.slt y).b := fun y hy => (hk y (H.inv.live y hy)).2
  rw [eP] at hi ⊢
  refine ⟨hi, H.tail, H.ov, H.pub, fun i p hp => ?_, by simp [H.len], fun j x k' hx hk' => ?_⟩
  · rw [hb p.r (List.mem_append_left _ (List.mem_map.2 ⟨p, List.mem_of_getElem? hp, rfl⟩))]
    exact H.win i p hp
  · by_cases hj : j < had.length
    · rw [List.getElem?_append_left hj] at hx
      rw [List.getElem?_append_left (by rw [← H.len]; exact hj)] at hk'
      rw [hb x (List.mem_append_right _ (List.mem_of_getElem? hx))]
      exact H.was j x k' hx hk'
    · have hj2 : j < (had ++ [M.getR k]).length := (List.getElem?_eq_some_iff.1 hx).1
      simp at hj2
      obtain rfl : j = had.length := by omega
      rw [List.getElem?_append_right (Nat.le_refl _), Nat.sub_self] at hx
      rw [H.len, List.getElem?_append_right (Nat.le_refl _), Nat.sub_self] at hk'
      cases hx; cases hk'
      rw [hb _ (List.mem_append_left _ h5)]
      exact h4
end Go.Proofs.YtmmkcfiecgpkpaaGreat

/- What was told of each place stays when one more is claimed, filled and published: plain mathematics. No condition. -/
namespace Go.Proofs.YtmmkcfiecgpkpaaGreat
open Go.RowKit
set_option linter.unusedVariables false
set_option linter.unusedSimpArgs false

/-- A window whose last place was just claimed. -/
theorem last_place {n h0 : Nat} {ov : Bool} {L : List Plc} {h : Int} {a : Nat} (ha : a = h0 + L.length) :
    (⟨n, ov, h0, L ++ [⟨h, false⟩]⟩ : RM).getE (a : Int) = 8 ∧ (⟨n, ov, h0, L ++ [⟨h, false⟩]⟩ : RM).pl (a : Int) = ⟨h, false⟩ ∧ (⟨n, ov, h0, L ++ [⟨h, false⟩]⟩ : RM).pubE (a : Int) = 0 ∧
    (⟨n, ov, h0, L ++ [⟨h, false⟩]⟩ : RM).pubM (a : Int) = ⟨n, ov, h0, L ++ [⟨h, true⟩]⟩ := by
  have hf : (⟨n, ov, h0, L ++ [⟨h, false⟩]⟩ : RM).findE (a : Int) = 0 := by
    unfold RM.findE RM.tail
    rw [if_neg (by omega), if_neg (by simp only; omega), if_neg (by simp only [List.length_append, List.length_singleton]; omega)]
  have hc : (⟨n, ov, h0, L ++ [⟨h, false⟩]⟩ : RM).cut (a : Int) = L.length := by unfold RM.cut; simp only; omega
  have hp : (⟨n, ov, h0, L ++ [⟨h, false⟩]⟩ : RM).pl (a : Int) = ⟨h, false⟩ := by unfold RM.pl; rw [hc]; simp
  have hu : (⟨n, ov, h0, L ++ [⟨h, false⟩]⟩ : RM).pubE (a : Int) = 0 := by unfold RM.pubE; rw [if_neg (by simp [hf]), hp]; rfl
  refine ⟨?_, hp, hu, ?_⟩
  · unfold RM.getE; rw [if_neg (by simp [hf]), hp]; rfl
  · unfold RM.pubM
    rw [if_neg (by simp [hu]), hp, hc]
    simp

/-- One more is claimed, filled and published; or nothing is. -/
theorem Kp.claim {P : PM} {M : RM} {had : List Int} {which : List Nat} {told : List (List UInt8)} {N K : Nat} (H : Kp P M had which told) (hO : P.Ok N) (hM : M.Ok K) (hN : N < 900000) (hK : K < 900000) {b : List UInt8} (hb : b.length ≤ P.size) :
    (ptClE P M b.length = 50 ∧ ptClP P M b.length = P ∧ ptClM P M b.length = M) ∨
    (ptClE P M b.length = 0 ∧ ptClA P M b.length = told.length ∧ ptFiE (ptClP P M b.length) (ptClM P M b.length) told.length b = 0 ∧ (ptClM P M b.length).pubE told.length = 0 ∧
      Kp (ptFiP (ptClP P M b.length) (ptClM P M b.length) told.length b) ((ptClM P M b.length).pubM told.length) had which (told ++ [b])) := by
  have hl := hM.low
  have hp := hM.pos
  by_cases he : ptClE P M b.length = 0
  · right
    obtain ⟨i1, _, _, _, _, _, i7, i8⟩ := pt_claim H.inv hO hM hN he
    obtain ⟨P1, hP1⟩ : ∃ P1, P1 = ptClP P M b.length := ⟨_, rfl⟩
    obtain ⟨h, hh⟩ : ∃ h, h = ptClH P M b.length := ⟨_, rfl⟩
    have eM : ptClM P M b.length = ptWin M h := by rw [hh]; exact if_neg (by simp [he])
    have eA : ptClA P M b.length = M.tail := if_neg (by simp [he])
    rw [eM] at i1 ⊢
    rw [← hP1, ← hh] at i7 i8
    rw [← hP1] at i1 ⊢
    obtain ⟨h0, L, ew, ha, hL, hX⟩ : ∃ (h0 : Nat) (L : List Plc), ptWin M h = ⟨M.n, true, h0, L ++ [⟨h, false⟩]⟩ ∧ told.length = h0 + L.length ∧ (∀ (i : Nat) (p : Plc), L[i]? = some p → p.d = true ∧ told[h0 + i]? = some (P.slt p.r).b) ∧ (if M.l.length = M.n then (M.l.drop 1).map (·.r) else M.refs) = L.map (·.r) := by
      have ht := H.tail
      unfold RM.tail at ht
      have hov := H.ov
      unfold ptWin
      by_cases hf : M.l.length = M.n
      · rw [if_pos hf, if_pos hf]
        refine ⟨M.h + 1, M.l.drop 1, by rw [← hov], by rw [List.length_drop]; omega, fun i p hi => ?_, rfl⟩
        rw [List.getElem?_drop] at hi
        refine ⟨H.pub p (List.mem_of_getElem? hi), ?_⟩
        rw [← H.win _ p hi, Nat.add_assoc]
      · rw [if_neg hf, if_neg hf]
        exact ⟨M.h, M.l, by rw [← hov], by omega, fun i p hi => ⟨H.pub p (List.mem_of_getElem? hi), H.win i p hi⟩, rfl⟩
    rw [hX] at i7
    rw [ew] at i1 ⊢
    obtain ⟨g1, g2, g3, g4⟩ := last_place (n := M.n) (h0 := h0) (ov := true) (L := L) (h := h) ha
    have hm : h ∈ (⟨M.n, true, h0, L ++ [⟨h, false⟩]⟩ : RM).refs := by unfold RM.refs; simp
    have hl1 : P1.err h = 0 := i1.live h (List.mem_append_left _ hm)
    have hfe : P1.fillE h b = 0 := by
      unfold PM.fillE
      rw [if_neg (by simp [hl1]), i8, if_neg]
      simp
    have eF : ptFiP P1 ⟨M.n, true, h0, L ++ [⟨h, false⟩]⟩ told.length b = P1.fillM h b := by unfold ptFiP; rw [if_pos g1, g2]
    obtain ⟨f1, _, f3, f4⟩ := i1.fill h b
    have hbs : ∀ y ∈ L.map (·.r) ++ had, ((P1.fillM h b).slt y).b = (P.slt y).b := fun y hy => by
      obtain ⟨j1, j2⟩ := i7 y hy
      rw [f3 y (by
        rcases List.mem_append.1 hy with hy | hy
        · exact List.mem_append_left _ (by unfold RM.refs; rw [List.map_append]; exact List.mem_append_left _ hy)
        · exact List.mem_append_right _ hy) j2, j1]
    refine ⟨he, by rw [eA, H.tail], ?_, g3, ?_⟩
    · unfold ptFiE
      rw [if_neg (by rw [g1]; omega), if_neg (by rw [g1]; omega), g2]
      exact hfe
    · rw [eF]
      have hI := f1
      rw [← pub_refs (a := (told.length : Int))] at hI
      rw [g4] at hI ⊢
      refine ⟨hI, ?_, rfl, fun p hp => ?_, fun i p hi => ?_, H.len, fun j x k hx hk => ?_⟩
      · unfold RM.tail; simp; omega
      · rcases List.mem_append.1 hp with hp | hp
        · obtain ⟨i, hi, e⟩ := List.getElem_of_mem hp
          exact (hL i p (by rw [List.getElem?_eq_getElem hi, e])).1
        · rw [List.mem_singleton.1 hp]
      · by_cases hlt : i < L.length
        · have hi' : L[i]? = some p := by rwa [List.getElem?_append_left hlt] at hi
          rw [hbs p.r (List.mem_append_left _ (List.mem_map.2 ⟨p, List.mem_of_getElem? hi', rfl⟩)), List.getElem?_append_left (by simp only; omega)]
          exact (hL i p hi').2
        · have hi2 : i < (L ++ [(⟨h, true⟩ : Plc)]).length := (List.getElem?_eq_some_iff.1 hi).1
          simp at hi2
          obtain rfl : i = L.length := by omega
          rw [List.getElem?_append_right (Nat.le_refl _), Nat.sub_self] at hi
          cases hi
          rw [f4 hfe, List.getElem?_append_right (by simp only; omega), ha, Nat.sub_self]
          rfl
      · rw [hbs x (List.mem_append_right _ (List.mem_of_getElem? hx)), List.getElem?_append_left ?_]
        · exact H.was j x k hx hk
        · have := H.was j x k hx hk
          exact (List.getElem?_eq_some_iff.1 this).1
  · left
    refine ⟨?_, if_pos he, if_pos he⟩
    unfold ptClE at he ⊢
    rw [if_neg (by omega), if_neg (by omega), if_neg (by omega)] at he ⊢
    have hno : ¬ (M.l.length = M.n ∧ (M.ov = false ∨ M.hdp.d = false)) := by
      rintro ⟨h1, h2 | h2⟩
      · rw [H.ov] at h2; cases h2
      · have : M.l[0]? = some M.hdp := by
          unfold RM.hdp
          cases hl : M.l with
          | nil => rw [hl] at h1; simp at h1; omega
          | cons p l => rfl
        rw [H.pub _ (List.mem_of_getElem? this)] at h2
        cases h2
    rw [if_neg hno] at he ⊢
    split at he
    · rename_i h1; rw [if_pos h1]
    · exact absurd rfl he
end Go.Proofs.YtmmkcfiecgpkpaaGreat
