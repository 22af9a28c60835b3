/- Rings over a pool: whose handles are counted, and what each call leaves of the counts. No condition. -/
import Derived.Test.YtbljjmehjkmjaaaGreatPoolMath
import Derived.Test.YtbljjmehjkmjaaaGreatRing
namespace Go.Proofs.YtbljjmehjkmjaaaGreat
open Go.RowKit
set_option linter.unusedVariables false
set_option linter.unusedSimpArgs false

/-- All handles in a list are live, and each slot's count is how often the list has a handle of it. -/
structure PtInv (P : PM) (R : List Int) : Prop where
  live : ∀ h ∈ R, P.err h = 0
  cnt : ∀ (k : Nat) (s : Slt), P.sl[k]? = some s → s.c = R.countP (fun h => hSlot h == k)

theorem PtInv.perm {P : PM} {R R' : List Int} (h : PtInv P R) (e : R.Perm R') : PtInv P R' :=
  ⟨fun x hx => h.live x (e.mem_iff.2 hx), fun k s hs => by rw [h.cnt k s hs]; exact e.countP_eq _⟩
theorem PtInv.new (n size : Nat) : PtInv (PM.new n size) [] :=
  ⟨fun h hh => (by cases hh), fun k s hs => by
    simp only [PM.new, List.getElem?_replicate] at hs
    split at hs
    · cases hs; rfl
    · cases hs⟩

theorem err_zero {P : PM} {h : Int} {s : Slt} (h1 : haIs h) (hs : P.sl[hSlot h]? = some s) (hg : (s.g : Int) = hGen h) (hc : s.c ≠ 0) : P.err h = 0 := by
  unfold PM.err
  rw [if_neg (fun hn => hn h1), hs]
  simp [hg, hc]
theorem err_same {P : PM} {h h' : Int} (h0 : P.err h = 0) (h1 : P.err h' = 0) (e : hSlot h = hSlot h') : h = h' := by
  obtain ⟨a1, a2, a3, a4, _⟩ := PM.live h0
  obtain ⟨b1, b2, b3, b4, _⟩ := PM.live h1
  rw [e, b3] at a3
  rw [Option.some.inj a3] at b4
  unfold hSlot at e
  unfold hGen at a4 b4
  omega
theorem slt_of {P : PM} {h : Int} {s : Slt} (hs : P.sl[hSlot h]? = some s) : P.slt h = s := by unfold PM.slt; rw [hs]; rfl
theorem cnt_zero {R : List Int} {k : Nat} (h : R.countP (fun h => hSlot h == k) = 0) : ∀ x ∈ R, hSlot x ≠ k := by
  intro x hx e
  rw [List.countP_eq_zero] at h
  exact h x hx (by simp [e])
theorem err_set {P : PM} {k : Nat} {t : Slt} {fr : List Nat} {x : Int} (hx : P.err x = 0) (hk : hSlot x ≠ k) : ({ P with sl := P.sl.set k t, fr := fr } : PM).err x = 0 ∧ ({ P with sl := P.sl.set k t, fr := fr } : PM).slt x = P.slt x := by
  obtain ⟨a1, a2, a3, a4, a5⟩ := PM.live hx
  have e : (P.sl.set k t)[hSlot x]? = some (P.slt x) := by rw [List.getElem?_set_ne (fun h => hk h.symm)]; exact a3
  exact ⟨err_zero a1 e a4 a5, slt_of e⟩
theorem err_set_same {P : PM} {t : Slt} {fr : List Nat} {x : Int} (hx : P.err x = 0) (hg : t.g = (P.slt x).g) (hc : t.c ≠ 0) : ({ P with sl := P.sl.set (hSlot x) t, fr := fr } : PM).err x = 0 ∧ ({ P with sl := P.sl.set (hSlot x) t, fr := fr } : PM).slt x = t := by
  obtain ⟨a1, a2, a3, a4, a5⟩ := PM.live hx
  have e : (P.sl.set (hSlot x) t)[hSlot x]? = some t := by rw [List.getElem?_set_self a2]
  exact ⟨err_zero a1 e (by rw [hg]; exact a4) hc, slt_of e⟩

theorem takeE_zero {P : PM} {n : Int} (h : P.takeE n = 0) : 0 ≤ n ∧ n ≤ P.size ∧ ∃ k r, P.fr = k :: r := by
  unfold PM.takeE at h
  split at h
  · cases h
  · split at h
    · cases h
    · split at h
      · cases h
      · rename_i h1 h2 h3
        refine ⟨by omega, by omega, ?_⟩
        cases hf : P.fr with
        | nil => exact absurd hf h3
        | cons k r => exact ⟨k, r, rfl⟩

/-- One more is taken. -/
theorem PtInv.take {P : PM} {R : List Int} {N : Nat} (h : PtInv P R) (hO : P.Ok N) (hN : N < 1000000) {n : Int} (he : P.takeE n = 0) :
    PtInv (P.takeM n) (P.takeH n :: R) ∧ 1 ≤ P.takeH n ∧ P.takeH n ≤ 200000000 ∧ P.err (P.takeH n) ≠ 0 ∧ (∀ x, P.err x = 0 → (P.takeM n).err x = 0 ∧ (P.takeM n).slt x = P.slt x) ∧ ((P.takeM n).slt (P.takeH n)).b = List.replicate n.toNat 0 := by
  obtain ⟨h0, h1, k, r, hf⟩ := takeE_zero he
  have hkl : k < P.sl.length := hO.lt k (by rw [hf]; exact List.mem_cons_self)
  have hk128 : k < 128 := Nat.lt_of_lt_of_le hkl hO.len
  obtain ⟨s0, hs0⟩ := get_some hkl
  have hgl := (hO.low k s0 hs0).1
  have hc0 : s0.c = 0 := (hO.free k s0 hs0).2 (by rw [hf]; exact List.mem_cons_self)
  have eM : P.takeM n = { P with sl := P.sl.set k ⟨s0.g, 1, List.replicate n.toNat 0⟩, fr := r } := by
    unfold PM.takeM; rw [if_neg (by omega), hf]; simp only [hs0, Option.getD_some]
  have eH : P.takeH n = (s0.g : Int) * 128 + (k : Nat) + 1 := by
    unfold PM.takeH; rw [if_neg (by omega), hf]; simp only [hs0, Option.getD_some]
  have es : hSlot (P.takeH n) = k := by rw [eH]; exact hSlot_of _ hk128
  have eg : hGen (P.takeH n) = s0.g := by rw [eH]; exact hGen_of _ hk128
  have hz := cnt_zero (k := k) (R := R) (by rw [← h.cnt k s0 hs0]; exact hc0)
  have hget : (P.sl.set k ⟨s0.g, 1, List.replicate n.toNat 0⟩)[hSlot (P.takeH n)]? = some ⟨s0.g, 1, List.replicate n.toNat 0⟩ := by rw [es, List.getElem?_set_self hkl]
  have hoth : ∀ x, P.err x = 0 → hSlot x ≠ k := fun x hx e => by
    obtain ⟨_, _, a3, _, a5⟩ := PM.live hx
    rw [e, hs0] at a3
    exact a5 (by rw [← Option.some.inj a3]; exact hc0)
  refine ⟨⟨fun x hx => ?_, fun j s hs => ?_⟩, by omega, by omega, fun e => ?_, fun x hx => ?_, ?_⟩
  · rw [eM]
    rcases List.mem_cons.1 hx with rfl | hx
    · exact err_zero (by rw [eH]; exact hIs_of hk128 (by omega)) hget (by rw [eg]) Nat.one_ne_zero
    · exact (err_set (h.live x hx) (hoth x (h.live x hx))).1
  · rw [eM] at hs
    rw [List.countP_cons, es]
    rcases set_get hkl hs with ⟨rfl, rfl⟩ | ⟨hne, hs⟩
    · rw [← h.cnt j s0 hs0, hc0]; simp
    · rw [← h.cnt j s hs]
      simp [Ne.symm hne]
  · exact hoth _ e es
  · rw [eM]; exact err_set hx (hoth x hx)
  · rw [eM]; rw [slt_of hget]

/-- One is counted once more. -/
theorem PtInv.keep {P : PM} {R : List Int} (h : PtInv P R) {x : Int} (hx : P.err x = 0) :
    PtInv (P.keepM x) (x :: R) ∧ ∀ y, P.err y = 0 → (P.keepM x).err y = 0 ∧ ((P.keepM x).slt y).b = (P.slt y).b := by
  obtain ⟨a1, a2, a3, a4, a5⟩ := PM.live hx
  have eM : P.keepM x = { P with sl := P.sl.set (hSlot x) { P.slt x with c := (P.slt x).c + 1 } } := by unfold PM.keepM; rw [if_neg (by simp [hx])]
  have hall : ∀ y, P.err y = 0 → (P.keepM x).err y = 0 ∧ ((P.keepM x).slt y).b = (P.slt y).b := fun y hy => by
    rw [eM]
    by_cases e : hSlot y = hSlot x
    · obtain rfl := err_same hy hx e
      have := err_set_same (fr := P.fr) (t := { P.slt y with c := (P.slt y).c + 1 }) hx rfl (Nat.succ_ne_zero _)
      exact ⟨this.1, by rw [this.2]⟩
    · have := err_set (fr := P.fr) (t := { P.slt x with c := (P.slt x).c + 1 }) hy e
      exact ⟨this.1, by rw [this.2]⟩
  refine ⟨⟨fun y hy => ?_, fun j s hs => ?_⟩, hall⟩
  · rcases List.mem_cons.1 hy with rfl | hy
    · exact (hall y hx).1
    · exact (hall y (h.live y hy)).1
  · rw [eM] at hs
    rw [List.countP_cons]
    rcases set_get a2 hs with ⟨rfl, rfl⟩ | ⟨hne, hs⟩
    · rw [← h.cnt _ _ a3]; simp
    · rw [← h.cnt j s hs]
      simp [Ne.symm hne]

/-- One of those that are counted is given back. -/
theorem PtInv.drop {P : PM} {R : List Int} {x : Int} (h : PtInv P (x :: R)) :
    PtInv (P.dropM x) R ∧ (∀ y ∈ R, ((P.dropM x).slt y).b = (P.slt y).b) ∧ (P.dropM x).fr = (if (P.slt x).c = 1 then hSlot x :: P.fr else P.fr) := by
  have hx := h.live x List.mem_cons_self
  obtain ⟨a1, a2, a3, a4, a5⟩ := PM.live hx
  have hc := h.cnt _ _ a3
  rw [List.countP_cons] at hc
  simp only [beq_self_eq_true, if_true] at hc
  by_cases h1 : (P.slt x).c = 1
  · have hz := cnt_zero (k := hSlot x) (R := R) (by omega)
    have eM : P.dropM x = { P with sl := P.sl.set (hSlot x) ⟨(P.slt x).g + 1, 0, []⟩, fr := hSlot x :: P.fr } := by unfold PM.dropM; rw [if_neg (by simp [hx]), if_pos h1]
    rw [eM]
    refine ⟨⟨fun y hy => ?_, fun j s hs => ?_⟩, fun y hy => ?_, by rw [if_pos h1]⟩
    · exact (err_set (h.live y (List.mem_cons_of_mem _ hy)) (hz y hy)).1
    · rcases set_get a2 hs with ⟨rfl, rfl⟩ | ⟨hne, hs⟩
      · simp only; omega
      · have := h.cnt j s hs
        rw [List.countP_cons] at this
        simpa [Ne.symm hne] using this
    · rw [(err_set (h.live y (List.mem_cons_of_mem _ hy)) (hz y hy)).2]
  · have eM : P.dropM x = { P with sl := P.sl.set (hSlot x) { P.slt x with c := (P.slt x).c - 1 } } := by unfold PM.dropM; rw [if_neg (by simp [hx]), if_neg h1]
    have hall : ∀ y, P.err y = 0 → (P.dropM x).err y = 0 ∧ ((P.dropM x).slt y).b = (P.slt y).b := fun y hy => by
      rw [eM]
      by_cases e : hSlot y = hSlot x
      · obtain rfl := err_same hy hx e
        have := err_set_same (fr := P.fr) (t := { P.slt y with c := (P.slt y).c - 1 }) hx rfl (by simp only; omega)
        exact ⟨this.1, by rw [this.2]⟩
      · have := err_set (fr := P.fr) (t := { P.slt x with c := (P.slt x).c - 1 }) hy e
        exact ⟨this.1, by rw [this.2]⟩
    refine ⟨⟨fun y hy => (hall y (h.live y (List.mem_cons_of_mem _ hy))).1, fun j s hs => ?_⟩, fun y hy => (hall y (h.live y (List.mem_cons_of_mem _ hy))).2, by rw [eM, if_neg h1]⟩
    rw [eM] at hs
    rcases set_get a2 hs with ⟨rfl, rfl⟩ | ⟨hne, hs⟩
    · simp only; omega
    · have := h.cnt j s hs
      rw [List.countP_cons] at this
      simpa [Ne.symm hne] using this

/-- One is filled. -/
theorem PtInv.fill {P : PM} {R : List Int} (h : PtInv P R) (x : Int) (b : List UInt8) :
    PtInv (P.fillM x b) R ∧ (P.fillM x b).fr = P.fr ∧ (∀ y ∈ R, hSlot y ≠ hSlot x → ((P.fillM x b).slt y).b = (P.slt y).b) ∧ (P.fillE x b = 0 → ((P.fillM x b).slt x).b = b) := by
  by_cases he : P.fillE x b = 0
  · have h0 : P.err x = 0 := by
      unfold PM.fillE at he
      split at he
      · exact he
      · rename_i h1; simpa using h1
    obtain ⟨a1, a2, a3, a4, a5⟩ := PM.live h0
    have eM : P.fillM x b = { P with sl := P.sl.set (hSlot x) { P.slt x with b := b } } := by unfold PM.fillM; rw [if_neg (by simp [he])]
    have hsame := err_set_same (fr := P.fr) (t := { P.slt x with b := b }) h0 rfl a5
    refine ⟨⟨fun y hy => ?_, fun j s hs => ?_⟩, by rw [eM], fun y hy hne => ?_, fun _ => by rw [eM]; rw [hsame.2]⟩
    · rw [eM]
      by_cases e : hSlot y = hSlot x
      · obtain rfl := err_same (h.live y hy) h0 e
        exact hsame.1
      · exact (err_set (fr := P.fr) (t := { P.slt x with b := b }) (h.live y hy) e).1
    · rw [eM] at hs
      rcases set_get a2 hs with ⟨rfl, rfl⟩ | ⟨hne, hs⟩
      · have := h.cnt _ _ a3; exact this
      · exact h.cnt j s hs
    · rw [eM, (err_set (fr := P.fr) (t := { P.slt x with b := b }) (h.live y hy) hne).2]
  · have eM : P.fillM x b = P := by unfold PM.fillM; rw [if_pos he]
    rw [eM]
    exact ⟨h, rfl, fun _ _ _ => rfl, fun hh => absurd hh he⟩

/-! What a partition's calls do. -/
def ptClE (P : PM) (M : RM) (n : Int) : Int :=
  if n < 0 then 2 else if (P.size : Int) < n then 3 else if 1099511627776 ≤ M.tail then 4 else
  if M.l.length = M.n ∧ (M.ov = false ∨ M.hdp.d = false) then 60 else
  if P.fr = [] ∧ (M.l.length ≠ M.n ∨ 1 < (P.slt M.hdp.r).c) then 50 else 0
def ptP0 (P : PM) (M : RM) : PM := if M.l.length = M.n then P.dropM M.hdp.r else P
def ptClH (P : PM) (M : RM) (n : Int) : Int := if ptClE P M n ≠ 0 then 0 else (ptP0 P M).takeH n
def ptClP (P : PM) (M : RM) (n : Int) : PM := if ptClE P M n ≠ 0 then P else (ptP0 P M).takeM n
def ptClA (P : PM) (M : RM) (n : Int) : Int := if ptClE P M n ≠ 0 then 0 else M.tail
/-- The window behind a claim of a handle. -/
def ptWin (M : RM) (h : Int) : RM := if M.l.length = M.n then { M with h := M.h + 1, l := M.l.drop 1 ++ [⟨h, false⟩] } else { M with l := M.l ++ [⟨h, false⟩] }
def ptClM (P : PM) (M : RM) (n : Int) : RM := if ptClE P M n ≠ 0 then M else ptWin M (ptClH P M n)
def ptFiE (P : PM) (M : RM) (a : Int) (b : List UInt8) : Int := if M.getE a = 0 then 6 else if M.getE a ≠ 8 then M.getE a else P.fillE (M.pl a).r b
def ptFiP (P : PM) (M : RM) (a : Int) (b : List UInt8) : PM := if M.getE a = 8 then P.fillM (M.pl a).r b else P
def ptRdP (P : PM) (M : RM) (a : Int) : PM := if M.getE a = 0 then P.keepM (M.getR a) else P
def ptPk (P : PM) (M : RM) (a : Int) : List UInt8 := if M.getE a = 0 then P.bytes (M.getR a) else []
def ptDrops (P : PM) (l : List Int) : PM := l.foldl (fun P h => P.dropM h) P
def ptTrP (P : PM) (M : RM) (a : Int) : PM := ptDrops P (M.trimL a)

/-- All places of a window are live. -/
def PtCpl (P : PM) (M : RM) : Prop := ∀ h ∈ M.refs, P.err h = 0
theorem PtInv.cpl {P : PM} {M : RM} {X : List Int} (h : PtInv P (M.refs ++ X)) : PtCpl P M := fun x hx => h.live x (List.mem_append_left _ hx)

theorem refs_hdp {M : RM} (h : 0 < M.l.length) : M.refs = M.hdp.r :: (M.l.drop 1).map (·.r) := by
  unfold RM.refs RM.hdp
  cases hl : M.l with
  | nil => rw [hl] at h; cases h
  | cons p l => rfl
theorem ptWin_refs {M : RM} {h : Int} (hp : 1 ≤ M.n) : (ptWin M h).refs = (if M.l.length = M.n then (M.l.drop 1).map (·.r) else M.refs) ++ [h] := by
  unfold ptWin RM.refs
  split <;> simp

/-- What a claim leaves. -/
theorem pt_claim {P : PM} {M : RM} {X : List Int} {N K : Nat} (h : PtInv P (M.refs ++ X)) (hO : P.Ok N) (hM : M.Ok K) (hN : N < 900000) {n : Int} (he : ptClE P M n = 0) :
    PtInv (ptClP P M n) ((ptClM P M n).refs ++ X) ∧ (ptP0 P M).takeE n = 0 ∧ (ptP0 P M).Ok (N + 1) ∧ 1 ≤ ptClH P M n ∧ ptClH P M n ≤ 200000000 ∧ (M.l.length = M.n → P.err M.hdp.r = 0) ∧
    (∀ x ∈ (if M.l.length = M.n then (M.l.drop 1).map (·.r) else M.refs) ++ X, ((ptClP P M n).slt x).b = (P.slt x).b ∧ hSlot x ≠ hSlot (ptClH P M n)) ∧ ((ptClP P M n).slt (ptClH P M n)).b = List.replicate n.toNat 0 := by
  have hp := hM.pos
  have e1 : ptClP P M n = (ptP0 P M).takeM n := if_neg (by simp [he])
  have e2 : ptClH P M n = (ptP0 P M).takeH n := if_neg (by simp [he])
  have e3 : ptClM P M n = ptWin M (ptClH P M n) := if_neg (by simp [he])
  obtain ⟨X0, hX0⟩ : ∃ X0, X0 = (if M.l.length = M.n then (M.l.drop 1).map (·.r) else M.refs) := ⟨_, rfl⟩
  have hlv : M.l.length = M.n → P.err M.hdp.r = 0 := fun hf => h.live _ (by rw [refs_hdp (by omega)]; exact List.mem_append_left _ List.mem_cons_self)
  have hI0 : PtInv (ptP0 P M) (X0 ++ X) ∧ (∀ y ∈ X0 ++ X, ((ptP0 P M).slt y).b = (P.slt y).b) := by
    unfold ptP0
    by_cases hf : M.l.length = M.n
    · rw [if_pos hf] at hX0 ⊢
      rw [refs_hdp (by omega), List.cons_append, ← hX0] at h
      exact ⟨h.drop.1, h.drop.2.1⟩
    · rw [if_neg hf] at hX0 ⊢
      rw [← hX0] at h
      exact ⟨h, fun _ _ => rfl⟩
  have hO0 : (ptP0 P M).Ok (N + 1) := by
    unfold ptP0
    split
    · exact hO.drop _
    · exact hO.mono (by omega)
  have hsz : (ptP0 P M).size = P.size := by
    unfold ptP0
    split
    · unfold PM.dropM; split <;> (try split) <;> rfl
    · rfl
  have hte : (ptP0 P M).takeE n = 0 := by
    have he' := he
    unfold ptClE at he'
    unfold PM.takeE
    rw [hsz]
    split at he'
    · cases he'
    · rename_i c1
      split at he'
      · cases he'
      · rename_i c2
        rw [if_neg c1, if_neg c2]
        split at he'
        · cases he'
        · split at he'
          · cases he'
          · split at he'
            · cases he'
            · rename_i c5
              rw [if_neg]
              intro hfr
              unfold ptP0 at hfr
              by_cases hf : M.l.length = M.n
              · rw [if_pos hf] at hfr
                rw [refs_hdp (by omega), List.cons_append] at h
                have h2 := h.drop.2.2
                rw [hfr] at h2
                split at h2
                · cases h2
                · rename_i c6
                  have hc := (PM.live (hlv hf)).2.2.2.2
                  exact c5 ⟨h2.symm, .inr (by omega)⟩
              · rw [if_neg hf] at hfr
                exact c5 ⟨hfr, .inl hf⟩
  obtain ⟨t1, t2, t3, t4, t5, t6⟩ := hI0.1.take hO0 (by omega) hte
  have hsl : ∀ x ∈ X0 ++ X, hSlot x ≠ hSlot ((ptP0 P M).takeH n) := fun x hx e => by
    have h1 := (t5 x (hI0.1.live x hx)).1
    have h2 := t1.live _ List.mem_cons_self
    have := err_same h1 h2 e
    exact t4 (this ▸ hI0.1.live x hx)
  refine ⟨?_, hte, hO0, by rw [e2]; exact t2, by rw [e2]; exact t3, hlv, ?_, by rw [e1, e2]; exact t6⟩
  · rw [e1, e3, e2, ptWin_refs hp, ← hX0]
    refine t1.perm ?_
    rw [List.append_assoc]
    exact (List.perm_middle (l₁ := X0) (l₂ := X) (a := (ptP0 P M).takeH n)).symm
  · rw [← hX0, e1, e2]
    exact fun x hx => ⟨by rw [(t5 x (hI0.1.live x hx)).2]; exact hI0.2 x hx, hsl x hx⟩

/-- What giving several back leaves. -/
theorem pt_drops : ∀ {l : List Int} {P : PM} {X : List Int} {N : Nat}, PtInv P (l ++ X) → P.Ok N → PtInv (ptDrops P l) X ∧ (ptDrops P l).Ok (N + l.length) ∧ (ptDrops P l).sl.length = P.sl.length ∧ (ptDrops P l).size = P.size ∧ ∀ y ∈ X, ((ptDrops P l).slt y).b = (P.slt y).b
  | [], P, X, N, h, hO => ⟨h, hO, rfl, rfl, fun _ _ => rfl⟩
  | x :: l, P, X, N, h, hO => by
    rw [List.cons_append] at h
    obtain ⟨h1, h2, _⟩ := h.drop
    obtain ⟨g1, g2, g3, g4, g5⟩ := pt_drops (l := l) h1 (hO.drop x)
    refine ⟨g1, g2.mono (by simp; omega), by rw [show ptDrops P (x :: l) = ptDrops (P.dropM x) l from rfl, g3, (PM.drop_le P x).len], ?_, fun y hy => ?_⟩
    · rw [show ptDrops P (x :: l) = ptDrops (P.dropM x) l from rfl, g4]
      unfold PM.dropM; split <;> (try split) <;> rfl
    · rw [show ptDrops P (x :: l) = ptDrops (P.dropM x) l from rfl, g5 y hy]
      exact h2 y (List.mem_append_right _ hy)

theorem refs_trim {M : RM} {a : Int} : M.refs = M.trimL a ++ (M.trimM a).refs := by
  unfold RM.trimL RM.trimM RM.refs
  split
  · rfl
  · rw [← List.map_append, List.take_append_drop]
theorem pub_refs {M : RM} {a : Int} : (M.pubM a).refs = M.refs := by
  unfold RM.pubM
  split
  · rfl
  · rename_i he
    have hf : M.findE a = 0 := by
      unfold RM.pubE at he
      by_cases h : M.findE a = 0
      · exact h
      · rw [if_pos h] at he; exact absurd h he
    obtain ⟨h1, _, h3⟩ := RM.found hf
    unfold RM.refs
    rw [List.map_set]
    apply List.ext_getElem?
    intro i
    by_cases e : M.cut a = i
    · subst e
      rw [List.getElem?_set_self (by simpa using h1), List.getElem?_map, h3]; rfl
    · rw [List.getElem?_set_ne e]
theorem get_refs {M : RM} {a : Int} (h : M.getE a = 0 ∨ M.getE a = 8) : (M.pl a).r ∈ M.refs := by
  have hf : M.findE a = 0 := by
    unfold RM.getE at h
    by_cases hf : M.findE a = 0
    · exact hf
    · rw [if_pos hf] at h
      rcases RM.find_vals M a with e | e | e | e <;> omega
  exact List.mem_map.2 ⟨_, List.mem_of_getElem? (RM.found hf).2.2, rfl⟩
theorem getR_pl {M : RM} {a : Int} (h : M.getE a = 0) : M.getR a = (M.pl a).r := by unfold RM.getR; rw [if_neg (by simp [h])]
theorem ptCl_ok {P : PM} {M : RM} {N K : Nat} (hO : P.Ok N) (hM : M.Ok K) (n : Int) : (ptClP P M n).Ok (N + 2) ∧ (ptClM P M n).Ok (K + 1) ∧ (ptClP P M n).sl.length = P.sl.length ∧ (ptClP P M n).size = P.size := by
  have hl := hM.low
  have hp := hM.pos
  have hm := hM.len
  unfold RM.tail at hl
  refine ⟨?_, ?_, ?_, ?_⟩
  · unfold ptClP
    split
    · exact hO.mono (by omega)
    · refine PM.Ok.take ?_ (by omega) n
      unfold ptP0
      split
      · exact (hO.drop _).mono (by omega)
      · exact hO.mono (by omega)
  · unfold ptClM
    split
    · exact hM.mono (by omega)
    · unfold ptWin
      split
      · exact ⟨hM.pos, hM.max, by simp; omega, by unfold RM.tail; simp; omega⟩
      · exact ⟨hM.pos, hM.max, by simp; omega, by unfold RM.tail; simp; omega⟩
  · unfold ptClP
    split
    · rfl
    · have h1 : ((ptP0 P M).takeM n).sl.length = (ptP0 P M).sl.length := by unfold PM.takeM; split; rfl; cases (ptP0 P M).fr <;> simp
      rw [h1]
      unfold ptP0
      split
      · exact (PM.drop_le P _).len
      · rfl
  · unfold ptClP
    split
    · rfl
    · have h1 : ((ptP0 P M).takeM n).size = (ptP0 P M).size := by unfold PM.takeM; split; rfl; cases (ptP0 P M).fr <;> rfl
      rw [h1]
      unfold ptP0
      split
      · unfold PM.dropM; split <;> (try split) <;> rfl
      · rfl
end Go.Proofs.YtbljjmehjkmjaaaGreat
