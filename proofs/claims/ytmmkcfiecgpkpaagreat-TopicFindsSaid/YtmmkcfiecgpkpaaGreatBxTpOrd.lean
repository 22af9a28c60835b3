/- Texts that lie next to one another, laid into one: each says what it holds. No condition but what each states. -/
import Derived.Test.YtmmkcfiecgpkpaaGreatBdTpM
import Derived.Test.YtmmkcfiecgpkpaaGreatBdKeep

/- Two topics whose first lets its eldest places go, in a pool with more slots than there are places: each claim goes, wherever its key goes: plain mathematics. No condition. -/
namespace Go.Proofs.YtmmkcfiecgpkpaaGreat
open Go.RowKit
set_option linter.unusedVariables false
set_option linter.unusedSimpArgs false

/-- Handles that are counted are as many as there are slots, at least, where none is free. -/
theorem none_free {P : PM} {R : List Int} {N : Nat} (h : PtInv P R) (hO : P.Ok N) (hf : P.fr = []) : P.sl.length ≤ R.length := by
  have key : ∀ m, m ≤ P.sl.length → m ≤ R.countP (fun x => decide (hSlot x < m)) := by
    intro m
    induction m with
    | zero => intro _; exact Nat.zero_le _
    | succ m ih =>
      intro hm
      obtain ⟨s, hs⟩ := get_some (l := P.sl) (i := m) (by omega)
      have hc : s.c ≠ 0 := fun e => by
        have := (hO.free m s hs).1 e
        rw [hf] at this
        cases this
      have hcnt := h.cnt m s hs
      have hsum : R.countP (fun x => decide (hSlot x < m + 1)) = R.countP (fun x => decide (hSlot x < m)) + R.countP (fun x => hSlot x == m) := by
        clear ih hcnt h
        induction R with
        | nil => rfl
        | cons y R ihR =>
          simp only [List.countP_cons]
          rw [ihR]
          by_cases h1 : hSlot y < m
          · have h2 : hSlot y < m + 1 := by omega
            have h3 : ¬ hSlot y = m := by omega
            simp [h1, h2, h3]; omega
          · by_cases h3 : hSlot y = m
            · simp [h3]; omega
            · have h2 : ¬ hSlot y < m + 1 := by omega
              simp [h1, h2, h3]
      rw [hsum]
      have := ih (by omega)
      omega
  exact Nat.le_trans (key _ (Nat.le_refl _)) List.countP_le_length

/-- The set behind some rounds. -/
structure OrdP (n r : Nat) (S : StM) (tls : List Nat) : Prop where
  two : ∃ ps, S.T = [⟨[97, 47, 98], ps⟩, ⟨[99], [RM.new 3 false, RM.new 3 false]⟩] ∧ ps.length = n ∧ (∀ M ∈ ps, M.n = r ∧ M.ov = true ∧ ∀ p ∈ M.l, p.d = true) ∧ tls = ps.map RM.tail
  sl : S.P.sl.length = 64
  size : S.P.size = 8
theorem OrdP.len {n r : Nat} {S : StM} {tls : List Nat} (h : OrdP n r S tls) : tls.length = n := by
  obtain ⟨ps, _, h2, _, h4⟩ := h.two
  rw [h4, List.length_map, h2]
theorem ord_find {n r : Nat} {S : StM} {tls : List Nat} (h : OrdP n r S tls) : fdN S.T [97, 47, 98] = 0 ∧ findE S.T [97, 47, 98] = 0 ∧ nps S.T 0 = n := by
  obtain ⟨ps, h1, h2, _⟩ := h.two
  rw [h1]
  have e : fdN [⟨[97, 47, 98], ps⟩, ⟨[99], [RM.new 3 false, RM.new 3 false]⟩] [97, 47, 98] = 0 := rfl
  refine ⟨e, ?_, by unfold nps; simpa using h2⟩
  unfold findE
  rw [if_neg (by decide +kernel), if_pos (by rw [e]; simp)]
theorem ord_prt {n r : Nat} {S : StM} {tls : List Nat} (h : OrdP n r S tls) {p : Nat} (hp : p < n) : ∃ M, prt S.T 0 p = some M ∧ M.n = r ∧ M.ov = true ∧ (∀ z ∈ M.l, z.d = true) ∧ tls[p]? = some M.tail := by
  obtain ⟨ps, h1, h2, h3, h4⟩ := h.two
  obtain ⟨M, hM⟩ := get_some (l := ps) (i := p) (by omega)
  obtain ⟨g1, g2, g3⟩ := h3 M (List.mem_of_getElem? hM)
  refine ⟨M, by rw [h1]; exact hM, g1, g2, g3, by rw [h4, List.getElem?_map, hM]; rfl⟩
theorem ord_other {n r : Nat} {S : StM} {tls : List Nat} (h : OrdP n r S tls) : prt S.T 1 0 = some (RM.new 3 false) := by
  obtain ⟨ps, h1, _⟩ := h.two
  rw [h1]; rfl
/-- How many references there are. -/
theorem ord_refs {n r N K : Nat} {S : StM} {tls : List Nat} (h : OrdP n r S tls) (hO : S.Ok [] N K) : (allR S.T).length ≤ n * r := by
  obtain ⟨ps, h1, h2, h3, h4⟩ := h.two
  have hk : ∀ M ∈ ps, M.refs.length ≤ r := fun M hM => by
    have := (hO.parts ⟨[97, 47, 98], ps⟩ (by rw [h1]; exact List.mem_cons_self) M hM).len
    rw [(h3 M hM).1] at this
    unfold RM.refs
    rwa [List.length_map]
  have e : allR S.T = ps.flatMap RM.refs := by rw [h1]; unfold allR; simp [RM.new, RM.refs]
  rw [e, ← h2]
  clear h1 h2 h3 h4 hO h e
  induction ps with
  | nil => simp
  | cons M ps ih =>
    rw [List.flatMap_cons, List.length_append, List.length_cons, Nat.succ_mul]
    have h1 := hk M List.mem_cons_self
    have h2 := ih (fun M' hM' => hk M' (List.mem_cons_of_mem _ hM'))
    omega

/-- One more: it goes, and is published. -/
theorem ord_claim {n r N K : Nat} {S : StM} {tls : List Nat} (h : OrdP n r S tls) (hO : S.Ok [] N K) (hn : 1 ≤ n) (hn8 : n ≤ 8) (hr : r ≤ 6) (hr1 : 1 ≤ r) (hN : N < 900000) (hK : K < 900000) {k : List UInt8} (hk : k.length ≤ 64) :
    ∃ (p : Nat) (t : Nat) (M : RM), p = pt n k ∧ p < n ∧ tls[p]? = some t ∧ t < 1000000 ∧ tclE S [97, 47, 98] k 1 = 0 ∧ tclT S [97, 47, 98] k 1 = 0 ∧ tclP S [97, 47, 98] k 1 = (p : Nat) ∧ tclA S [97, 47, 98] k 1 = (t : Nat) ∧
      prt (tclM S [97, 47, 98] k 1).T 0 p = some M ∧ M.pubE (t : Nat) = 0 ∧ OrdP n r ⟨(tclM S [97, 47, 98] k 1).P, putP (tclM S [97, 47, 98] k 1).T 0 p (M.pubM (t : Nat))⟩ (tls.set p (t + 1)) := by
  obtain ⟨f1, f2, f3⟩ := ord_find h
  have hrt : rtE (n : Nat) k = 0 := by unfold rtE; rw [if_neg (by omega), if_neg (by omega)]
  have e0 : routE S.T [97, 47, 98] k = 0 := by unfold routE; rw [if_neg (by simp [f2]), f1, f3, hrt]
  have eT : routT S.T [97, 47, 98] k = 0 := by unfold routT; rw [if_neg (by simp [e0]), f1]; rfl
  have eP : routP S.T [97, 47, 98] k = ((pt n k : Nat) : Int) := by
    unfold routP
    rw [if_neg (by simp [e0]), f1, f3]
    unfold rtP
    rw [if_pos hrt]
    unfold partOf pt
    rw [Int.toNat_natCast, if_neg (by omega)]
  obtain ⟨p, hp⟩ : ∃ p, p = pt n k := ⟨_, rfl⟩
  have hpn : p < n := by rw [hp]; unfold pt; exact Nat.mod_lt _ (by omega)
  rw [← hp] at eP
  obtain ⟨M, hM, g1, g2, g3, g4⟩ := ord_prt h hpn
  obtain ⟨oM, oI⟩ := hO.at hM
  have eR : rtM S.T [97, 47, 98] k = M := by
    unfold rtM
    rw [eT, eP, Int.toNat_zero, Int.toNat_natCast, hM]; rfl
  have hfr : S.P.fr ≠ [] := fun e => by
    have h1 := none_free hO.inv hO.ok e
    have h2 := ord_refs h hO
    rw [h.sl, List.append_nil] at h1
    have h3 : n * r ≤ 8 * 6 := Nat.mul_le_mul hn8 hr
    omega
  have hd : M.l.length = M.n → M.hdp.d = true := fun hf => by
    unfold RM.hdp
    obtain ⟨z, hz⟩ := get_some (l := M.l) (i := 0) (by omega)
    rw [hz]; exact g3 z (List.mem_of_getElem? hz)
  have hlow := oM.low
  have eC : ptClE S.P M 1 = 0 := by
    unfold ptClE
    rw [if_neg (by omega), if_neg (by rw [h.size]; omega), if_neg (by omega), if_neg (fun hh => by
      rcases hh.2 with h1 | h1
      · rw [g2] at h1; cases h1
      · rw [hd hh.1] at h1; cases h1), if_neg (fun hh => hfr hh.1)]
  have eE : tclE S [97, 47, 98] k 1 = 0 := by unfold tclE; rw [if_neg (by simp [e0]), eR, eC]
  have eA : tclA S [97, 47, 98] k 1 = (M.tail : Nat) := by unfold tclA; rw [if_neg (by simp [eE]), eR]; unfold ptClA; rw [if_neg (by simp [eC])]
  have eS : tclM S [97, 47, 98] k 1 = ⟨ptClP S.P M 1, putP S.T 0 p (ptClM S.P M 1)⟩ := by
    unfold tclM
    rw [if_neg (by simp [eE]), eR, eT, eP, Int.toNat_zero, Int.toNat_natCast]
  obtain ⟨hh, hhe⟩ : ∃ hh, hh = ptClH S.P M 1 := ⟨_, rfl⟩
  have eW : ptClM S.P M 1 = ptWin M hh := by rw [hhe]; exact if_neg (by simp [eC])
  obtain ⟨h0, Lx, ew, ha, hL⟩ : ∃ (h0 : Nat) (Lx : List Plc), ptWin M hh = ⟨M.n, true, h0, Lx ++ [⟨hh, false⟩]⟩ ∧ M.tail = h0 + Lx.length ∧ (∀ z ∈ Lx, z.d = true) := by
    unfold ptWin RM.tail
    by_cases hf : M.l.length = M.n
    · rw [if_pos hf]
      refine ⟨M.h + 1, M.l.drop 1, by rw [← g2], ?_, fun z hz => g3 z (List.mem_of_mem_drop hz)⟩
      have := oM.pos
      rw [List.length_drop]; omega
    · rw [if_neg hf]
      exact ⟨M.h, M.l, by rw [← g2], rfl, g3⟩
  obtain ⟨_, _, k3, k4⟩ := last_place (n := M.n) (h0 := h0) (ov := true) (L := Lx) (h := hh) ha
  rw [← ew, ← eW] at k3 k4
  have hput := put_prt (M' := ptClM S.P M 1) hM
  refine ⟨p, M.tail, ptClM S.P M 1, hp, hpn, g4, by omega, eE, by unfold tclT; rw [if_neg (by simp [eE]), eT], by unfold tclP; rw [if_neg (by simp [eE]), eP], eA, by rw [eS]; exact hput.1, k3, ?_⟩
  rw [eS]
  obtain ⟨ps, h1, h2, h3, h4⟩ := h.two
  have hps : ps[p]? = some M := by rw [h1] at hM; exact hM
  have e2 : putP (putP S.T 0 p (ptClM S.P M 1)) 0 p ((ptClM S.P M 1).pubM (M.tail : Nat)) = [⟨[97, 47, 98], ps.set p ((ptClM S.P M 1).pubM (M.tail : Nat))⟩, ⟨[99], [RM.new 3 false, RM.new 3 false]⟩] := by
    rw [h1]
    unfold putP
    simp
  refine ⟨⟨ps.set p ((ptClM S.P M 1).pubM (M.tail : Nat)), e2, by rw [List.length_set]; exact h2, fun M2 hM2 => ?_, ?_⟩, ?_, ?_⟩
  · rcases List.mem_or_eq_of_mem_set hM2 with hM2 | rfl
    · exact h3 M2 hM2
    · rw [k4]
      refine ⟨g1, rfl, fun z hz => ?_⟩
      rcases List.mem_append.1 hz with hz | hz
      · exact hL z hz
      · rw [List.mem_singleton.1 hz]
  · rw [h4, List.map_set, k4]
    congr 1
    unfold RM.tail at ha ⊢
    simp only [List.length_append, List.length_singleton]
    omega
  · show (ptClP S.P M 1).sl.length = 64
    rw [(sz_claim hO.ok oM 1).sl]; exact h.sl
  · show (ptClP S.P M 1).size = 8
    rw [(sz_claim hO.ok oM 1).sz]; exact h.size

/-- What the two opens make. -/
theorem ord_start {n r : Nat} (hn : 1 ≤ n) (hn8 : n ≤ 8) (hr : 1 ≤ r) (hr6 : r ≤ 6) :
    openE [] [97, 47, 98] n r 1 = 0 ∧ openN [] [97, 47, 98] n r 1 = 0 ∧ openE (openT [] [97, 47, 98] n r 1) [99] 2 3 0 = 0 ∧ openN (openT [] [97, 47, 98] n r 1) [99] 2 3 0 = 1 ∧
    OrdP n r ⟨PM.new 64 8, openT (openT [] [97, 47, 98] n r 1) [99] 2 3 0⟩ (List.replicate n 0) := by
  have e1 : openE [] [97, 47, 98] n r 1 = 0 := by
    unfold openE
    rw [if_neg (by decide +kernel), if_neg (by omega), if_neg (by simp [fdN]), if_neg (by simp)]
  have t1 : openT [] [97, 47, 98] n r 1 = [newT [97, 47, 98] n r 1] := by unfold openT; rw [if_neg (by simp [e1])]; rfl
  have f1 : fdN [newT [97, 47, 98] n r 1] [99] = 1 := rfl
  have e2 : openE [newT [97, 47, 98] n r 1] [99] 2 3 0 = 0 := by
    unfold openE
    rw [if_neg (by decide +kernel), if_neg (by omega), if_neg (by rw [f1]; simp), if_neg (by simp)]
  have t2 : openT [newT [97, 47, 98] n r 1] [99] 2 3 0 = [newT [97, 47, 98] n r 1, newT [99] 2 3 0] := by unfold openT; rw [if_neg (by simp [e2])]; rfl
  refine ⟨e1, by unfold openN; rw [if_neg (by simp [e1])]; rfl, by rw [t1]; exact e2, by rw [t1]; unfold openN; rw [if_neg (by simp [e2])]; rfl, ?_⟩
  rw [t1, t2]
  refine ⟨⟨List.replicate n (RM.new r true), ?_, List.length_replicate, fun M hM => ?_, ?_⟩, by simp [PM.new], rfl⟩
  · unfold newT
    simp [Int.toNat_natCast, List.replicate]
  · obtain rfl := List.eq_of_mem_replicate hM
    exact ⟨rfl, rfl, fun p hp => (by cases hp)⟩
  · rw [List.map_replicate]; rfl
end Go.Proofs.YtmmkcfiecgpkpaaGreat
