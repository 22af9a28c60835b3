/- The plain table: owners, the target, who must acknowledge, the generation; what its calls answer, and what stays. No condition. -/
import Derived.Test.YtplnbphbccflfaaShPlain
namespace Go.Proofs.Ytplnbphbccflfaa
open Go.RowKit
set_option linter.unusedVariables false

structure TbM where
  O : List Own
  T : List Own
  W : List Int
  G : Nat
def TbM.new : TbM := ⟨[], [], [], 0⟩
def nowI (ms : List Int) (ps : List Plc) (O : List Own) : List Own := ps.map fun p => (p, if hadI O p ∈ ms then hadI O p else -1)
def isRev (id : Int) (x : Own × Own) : Bool := decide (x.1.2 = id ∧ 0 ≤ id ∧ x.2.2 ≠ id)
def revI (O T : List Own) (id : Int) : List Plc := ((O.zip T).filter (isRev id)).map (·.1.1)
def waitI (ms : List Int) (O T : List Own) : List Int := ms.filter fun m => decide (0 < (revI O T m).length)
def TbM.settle (M : TbM) : TbM := if M.W = [] then ⟨M.T, M.T, [], M.G + 1⟩ else M
def begE (ps : List Plc) (ms : List Int) : Int := asgE ms ps []
def TbM.begun (M : TbM) (ps : List Plc) (ms : List Int) : TbM := ⟨nowI ms ps M.O, asgI ms ps (nowI ms ps M.O), waitI ms (nowI ms ps M.O) (asgI ms ps (nowI ms ps M.O)), M.G⟩
def TbM.begin_ (M : TbM) (ps : List Plc) (ms : List Int) : TbM := if begE ps ms = 0 then (M.begun ps ms).settle else M
def TbM.beginV (M : TbM) (ps : List Plc) (ms : List Int) : Bool := decide (begE ps ms = 0 ∧ (M.begun ps ms).W = [])
def offI (id : Int) (x : Own × Own) : Own := if isRev id x then (x.1.1, -1) else x.1
def TbM.acked (M : TbM) (id : Int) : TbM := ⟨(M.O.zip M.T).map (offI id), M.T, M.W.filter (fun m => decide (m ≠ id)), M.G⟩
def TbM.ack (M : TbM) (id : Int) : TbM := if id ∈ M.W then (M.acked id).settle else M
def TbM.ackE (M : TbM) (id : Int) : Int := if id ∈ M.W then 0 else 5
def TbM.ackV (M : TbM) (id : Int) : Bool := decide (id ∈ M.W ∧ (M.acked id).W = [])
def TbM.hasE (M : TbM) (id : Int) (p : Plc) : Int := match (M.O.zip M.T).find? (fun x => decide (x.1.1 = p)) with
  | none => 5
  | some x => if id < 0 ∨ x.1.2 ≠ id then 180 else if x.2.2 ≠ id then 170 else 0

structure TbM.Pre (M : TbM) (K : Nat) : Prop where
  same : M.O.map (·.1) = M.T.map (·.1)
  len : M.O.length ≤ 256
  dis : (M.O.map (·.1)).Nodup
  wl : M.W.length ≤ 8
  wn : M.W.Nodup
  wp : ∀ m, m ∈ M.W → 0 ≤ m ∧ m < 16
  low : M.G ≤ K
  wait : ∀ (i : Nat) (o t : Own), M.O[i]? = some o → M.T[i]? = some t → 0 ≤ o.2 → t.2 ≠ o.2 → o.2 ∈ M.W
structure TbM.Ok (M : TbM) (K : Nat) : Prop extends M.Pre K where
  fin : M.W = [] → M.O = M.T

theorem TbM.Pre.len2 {M : TbM} {K : Nat} (h : M.Pre K) : M.O.length = M.T.length := by
  have := congrArg List.length h.same
  simpa using this
theorem TbM.Ok.mono {M : TbM} {K L : Nat} (h : M.Ok K) (hKL : K ≤ L) : M.Ok L := { h with low := Nat.le_trans h.low hKL }
theorem TbM.new_ok : TbM.new.Ok 0 := ⟨⟨rfl, Nat.zero_le _, List.nodup_nil, Nat.zero_le _, List.nodup_nil, (fun _ h => by cases h), Nat.le_refl _, (fun i o t h => by cases h)⟩, fun _ => rfl⟩
theorem TbM.Pre.settle {M : TbM} {K : Nat} (h : M.Pre K) : M.settle.Ok (K + 1) := by
  unfold TbM.settle
  by_cases hw : M.W = []
  · rw [if_pos hw]
    have hd := h.dis
    rw [h.same] at hd
    exact ⟨⟨rfl, by have := h.len2; have := h.len; show M.T.length ≤ 256; omega, hd, Nat.zero_le _, List.nodup_nil, (fun m hm => by cases hm), Nat.succ_le_succ h.low,
      fun i o t ho ht h0 hne => by
        replace ho : M.T[i]? = some o := ho
        rw [ho] at ht
        obtain rfl := Option.some.inj ht
        exact absurd rfl hne⟩, fun _ => rfl⟩
  · rw [if_neg hw]
    exact ⟨{ h with low := Nat.le_succ_of_le h.low }, fun e => absurd e hw⟩
theorem now_places (ms : List Int) (ps : List Plc) (O : List Own) : (nowI ms ps O).map (·.1) = ps := by
  unfold nowI
  rw [List.map_map]
  exact List.map_id _
theorem now_len (ms : List Int) (ps : List Plc) (O : List Own) : (nowI ms ps O).length = ps.length := List.length_map _
theorem now_at {ms : List Int} {ps : List Plc} {O : List Own} {i : Nat} {o : Own} (h : (nowI ms ps O)[i]? = some o) : ps[i]? = some o.1 ∧ o.2 = (if hadI O o.1 ∈ ms then hadI O o.1 else -1) := by
  unfold nowI at h
  rw [List.getElem?_map] at h
  cases hp : ps[i]? with
  | none => rw [hp] at h; cases h
  | some p =>
    rw [hp] at h
    obtain rfl : (p, if hadI O p ∈ ms then hadI O p else -1) = o := by simpa using h
    exact ⟨rfl, rfl⟩
theorem zip_at {α β : Type} {l : List α} {r : List β} {i : Nat} {a : α} {b : β} (h1 : l[i]? = some a) (h2 : r[i]? = some b) : (l.zip r)[i]? = some (a, b) := by
  rw [List.getElem?_zip_eq_some]; exact ⟨h1, h2⟩
theorem rev_in {O T : List Own} {id : Int} {i : Nat} {o t : Own} (h1 : O[i]? = some o) (h2 : T[i]? = some t) (h0 : 0 ≤ id) (h3 : o.2 = id) (h4 : t.2 ≠ id) : o.1 ∈ revI O T id := by
  unfold revI
  refine List.mem_map.2 ⟨(o, t), List.mem_filter.2 ⟨List.mem_of_getElem? (zip_at h1 h2), ?_⟩, rfl⟩
  unfold isRev; simp [h3, h4, h0]
theorem begE_ok {ps : List Plc} {ms : List Int} (h : begE ps ms = 0) : ps.length ≤ 256 ∧ risI ms ∧ disI ps := by
  obtain ⟨a, _, b, c⟩ := asgE_ok h; exact ⟨a, b, c⟩
theorem begE_now {ps : List Plc} {ms : List Int} (O : List Own) : asgE ms ps (nowI ms ps O) = begE ps ms := by
  unfold begE asgE
  rw [now_len]
  simp
theorem ris_nodup {ms : List Int} (h : risI ms) : ms.Nodup := h.2.2.imp (fun h => by omega)
theorem TbM.begun_pre {M : TbM} {K : Nat} (h : M.Ok K) {ps : List Plc} {ms : List Int} (hb : begE ps ms = 0) : (M.begun ps ms).Pre K := by
  obtain ⟨h1, h2, h3⟩ := begE_ok hb
  refine ⟨(now_places _ _ _).trans (asgI_places _ _ _).symm, by show (nowI ms ps M.O).length ≤ 256; rw [now_len]; exact h1, by show ((nowI ms ps M.O).map (·.1)).Nodup; rw [now_places]; exact h3.2, ?_, (ris_nodup h2).filter _, fun m hm => h2.2.1 m (List.mem_filter.1 hm).1, h.low, ?_⟩
  · exact Nat.le_trans (List.length_filter_le _ _) h2.1
  · intro i o t ho ht h0 hne
    obtain ⟨e1, e2⟩ := now_at ho
    have hms : o.2 ∈ ms := by
      by_cases hh : hadI M.O o.1 ∈ ms
      · rw [if_pos hh] at e2; rw [e2]; exact hh
      · rw [if_neg hh] at e2; omega
    refine List.mem_filter.2 ⟨hms, ?_⟩
    have := rev_in (O := nowI ms ps M.O) ho ht h0 rfl hne
    exact decide_eq_true (List.length_pos_of_mem this)
theorem TbM.Ok.begin_ {M : TbM} {K : Nat} (h : M.Ok K) (ps : List Plc) (ms : List Int) : (M.begin_ ps ms).Ok (K + 1) := by
  unfold TbM.begin_
  by_cases hb : begE ps ms = 0
  · rw [if_pos hb]; exact (TbM.begun_pre h hb).settle
  · rw [if_neg hb]; exact h.mono (Nat.le_succ _)
theorem off_fst (id : Int) (x : Own × Own) : (offI id x).1 = x.1.1 := by unfold offI; split <;> rfl
theorem acked_at {M : TbM} {id : Int} {i : Nat} {o : Own} (h : (M.acked id).O[i]? = some o) : ∃ a t, M.O[i]? = some a ∧ M.T[i]? = some t ∧ o = offI id (a, t) := by
  replace h : ((M.O.zip M.T).map (offI id))[i]? = some o := h
  rw [List.getElem?_map] at h
  cases hz : (M.O.zip M.T)[i]? with
  | none => rw [hz] at h; cases h
  | some x =>
    rw [hz] at h
    obtain ⟨h1, h2⟩ := List.getElem?_zip_eq_some.1 hz
    exact ⟨x.1, x.2, h1, h2, by simpa using h.symm⟩
theorem acked_places {M : TbM} {K : Nat} (h : M.Pre K) (id : Int) : (M.acked id).O.map (·.1) = M.O.map (·.1) := by
  show ((M.O.zip M.T).map (offI id)).map (·.1) = _
  rw [List.map_map]
  have : ((fun o : Own => o.1) ∘ offI id) = (fun x : Own × Own => x.1.1) := by funext x; exact off_fst id x
  rw [this]
  have h2 : (M.O.zip M.T).map (fun x => x.1) = M.O := by
    rw [List.map_fst_zip]; have := h.len2; omega
  conv => rhs; rw [← h2, List.map_map]
  rfl
theorem acked_pre {M : TbM} {K : Nat} (h : M.Pre K) {id : Int} (hi : id ∈ M.W) : (M.acked id).Pre K := by
  have hp := acked_places h id
  refine ⟨hp.trans h.same, ?_, by rw [hp]; exact h.dis, Nat.le_trans (List.length_filter_le _ _) h.wl, h.wn.filter _, fun m hm => h.wp m (List.mem_filter.1 hm).1, h.low, ?_⟩
  · have := congrArg List.length hp
    rw [List.length_map, List.length_map] at this
    rw [this]; exact h.len
  · intro i o t ho ht h0 hne
    obtain ⟨a, t', ha, ht', rfl⟩ := acked_at ho
    replace ht : M.T[i]? = some t := ht
    rw [ht] at ht'
    obtain rfl := Option.some.inj ht'
    unfold offI at h0 hne ⊢
    by_cases hr : isRev id (a, t) = true
    · rw [if_pos hr] at h0; exact absurd h0 (show ¬ (0 : Int) ≤ -1 by decide)
    · rw [if_neg hr] at h0 hne ⊢
      refine List.mem_filter.2 ⟨h.wait i a t ha ht h0 hne, ?_⟩
      have : a.2 ≠ id := fun e => hr (by unfold isRev; simp [← e]; exact ⟨h0, hne⟩)
      simpa using this
theorem TbM.Ok.ack {M : TbM} {K : Nat} (h : M.Ok K) (id : Int) : (M.ack id).Ok (K + 1) := by
  unfold TbM.ack
  by_cases hi : id ∈ M.W
  · rw [if_pos hi]; exact (acked_pre h.toPre hi).settle
  · rw [if_neg hi]; exact h.mono (Nat.le_succ _)

/-! ### What stays -/
/-- Behind what settles, an owner is another one only where it was revoked and must acknowledge. -/
theorem settle_at {M : TbM} {K : Nat} (h : M.Pre K) {i : Nat} {b : Own} (hb : M.settle.O[i]? = some b) : ∃ a, M.O[i]? = some a ∧ a.1 = b.1 ∧ (0 ≤ a.2 → a.2 = b.2) := by
  unfold TbM.settle at hb
  by_cases hw : M.W = []
  · rw [if_pos hw] at hb
    replace hb : M.T[i]? = some b := hb
    obtain ⟨a, ha⟩ := get_some (l := M.O) (i := i) (by rw [h.len2]; exact (List.getElem?_eq_some_iff.1 hb).1)
    refine ⟨a, ha, ?_, fun h0 => ?_⟩
    · have e := congrArg (fun l : List Plc => l[i]?) h.same
      simp only [List.getElem?_map, ha, hb] at e
      simpa using e
    · apply Decidable.byContradiction
      intro hne
      have := h.wait i a b ha hb h0 (fun e => hne e.symm)
      rw [hw] at this; cases this
  · rw [if_neg hw] at hb
    exact ⟨b, hb, rfl, fun _ => rfl⟩
theorem nodup_pos {l : List Own} (h : (l.map (·.1)).Nodup) {i j : Nat} {a b : Own} (ha : l[i]? = some a) (hb : l[j]? = some b) (e : a.1 = b.1) : i = j := by
  have h1 : (l.map (·.1))[i]? = some a.1 := by rw [List.getElem?_map, ha]; rfl
  have h2 : (l.map (·.1))[j]? = some b.1 := by rw [List.getElem?_map, hb]; rfl
  obtain ⟨hi, e1⟩ := List.getElem?_eq_some_iff.1 h1
  obtain ⟨hj, e2⟩ := List.getElem?_eq_some_iff.1 h2
  exact (List.getElem_inj (h₀ := hi) (h₁ := hj) h).1 (by rw [e1, e2, e])
theorem hands_begin {M : TbM} {K : Nat} (h : M.Ok K) {ps : List Plc} {ms : List Int} (hb : begE ps ms = 0) {j k : Nat} {a b : Own} (ha : M.O[j]? = some a) (hk : (M.begin_ ps ms).O[k]? = some b) (e : a.1 = b.1) (h0 : 0 ≤ a.2) (hm : a.2 ∈ ms) : a.2 = b.2 := by
  unfold TbM.begin_ at hk
  rw [if_pos hb] at hk
  obtain ⟨c, hc, e1, e2⟩ := settle_at (TbM.begun_pre h hb) hk
  obtain ⟨_, e3⟩ := now_at hc
  have hh : hadI M.O a.1 = a.2 := had_at h.dis ha
  rw [e1, ← e, hh, if_pos hm] at e3
  exact e3.symm.trans (e2 (by omega))
theorem hands_ack {M : TbM} {K : Nat} (h : M.Ok K) {id : Int} (hi : id ∈ M.W) {j k : Nat} {a b : Own} (ha : M.O[j]? = some a) (hk : (M.ack id).O[k]? = some b) (e : a.1 = b.1) (h0 : 0 ≤ a.2) (hm : a.2 ≠ id) : a.2 = b.2 := by
  unfold TbM.ack at hk
  rw [if_pos hi] at hk
  obtain ⟨c, hc, e1, e2⟩ := settle_at (acked_pre h.toPre hi) hk
  obtain ⟨a', t, ha', ht, rfl⟩ := acked_at hc
  rw [off_fst] at e1
  obtain rfl := nodup_pos h.dis ha ha' (e.trans e1.symm)
  rw [ha] at ha'
  obtain rfl := Option.some.inj ha'
  have hr : isRev id (a, t) = false := by unfold isRev; simp [hm]
  unfold offI at e2
  rw [hr] at e2
  exact e2 h0
/-- What grows. -/
theorem settle_grows (M : TbM) : M.settle.G = M.G + (if M.W = [] then 1 else 0) ∧ (M.settle.W = [] ↔ M.W = []) := by
  unfold TbM.settle
  by_cases hw : M.W = []
  · rw [if_pos hw, if_pos hw]; exact ⟨rfl, ⟨fun _ => hw, fun _ => rfl⟩⟩
  · rw [if_neg hw, if_neg hw]; exact ⟨rfl, Iff.rfl⟩
theorem begin_grows {M : TbM} {ps : List Plc} {ms : List Int} (hb : begE ps ms = 0) : (M.begin_ ps ms).G = M.G + (if M.beginV ps ms = true then 1 else 0) ∧ (M.beginV ps ms = true ↔ (M.begin_ ps ms).W = []) := by
  unfold TbM.begin_ TbM.beginV
  rw [if_pos hb]
  obtain ⟨h1, h2⟩ := settle_grows (M.begun ps ms)
  rw [h1, h2]
  by_cases hw : (M.begun ps ms).W = []
  · rw [if_pos hw]; simp [hb, hw]; rfl
  · rw [if_neg hw]; simp [hb, hw]; rfl
theorem ack_grows {M : TbM} {id : Int} (hi : id ∈ M.W) : (M.ack id).G = M.G + (if M.ackV id = true then 1 else 0) ∧ (M.ackV id = true ↔ (M.ack id).W = []) := by
  unfold TbM.ack TbM.ackV
  rw [if_pos hi]
  obtain ⟨h1, h2⟩ := settle_grows (M.acked id)
  rw [h1, h2]
  by_cases hw : (M.acked id).W = []
  · rw [if_pos hw]; simp [hi, hw]; rfl
  · rw [if_neg hw]; simp [hi, hw]; rfl
/-- What an acknowledgement leaves, but for the owners. -/
theorem ack_is {M : TbM} {id : Int} (hi : id ∈ M.W) : (M.ack id).T = M.T ∧ (M.ack id).W = M.W.filter (fun m => decide (m ≠ id)) := by
  unfold TbM.ack TbM.settle
  rw [if_pos hi]
  by_cases hw : (M.acked id).W = []
  · rw [if_pos hw]; exact ⟨rfl, hw.symm⟩
  · rw [if_neg hw]; exact ⟨rfl, rfl⟩
end Go.Proofs.Ytplnbphbccflfaa
