import Derived.Test.YtdlkdagmaeapdaaBdShI
import Derived.Test.YtdlkdagmaeapdaaSameOw
import Derived.Test.YtdlkdagmaeapdaaHasInt
import Derived.Test.YtdlkdagmaeapdaaOutNums
import Derived.Test.YtdlkdagmaeapdaaRowsT
import Derived.Deep.DeepCutAuto
import Derived.Maps.AppendAt
import Derived.Test.YtdlkdagmaeapdaaSit
import Derived.Test.YtdlkdagmaeapdaaShBits
import Derived.Deep.RegionHeld3
import Derived.Deep.CutBlock
import Derived.BigQuiet
import Derived.BigRegion
import Derived.Test.YtdlkdagmaeapdaaActs17
import Derived.Test.YtdlkdagmaeapdaaAllT

/- The plain table: owners, the target, who must acknowledge, the generation; what its calls answer, and what stays. No condition. -/
namespace Go.Proofs.Ytdlkdagmaeapdaa
open Go.RowKit
set_option linter.unusedVariables false

structure TbM where
  O : List Own
  T : List Own
  W : List Int
  G : Nat
def TbM.new : TbM := ⟨[], [], [], 0⟩
def nowI (ms : List Int) (ps : List Plc) (O : List Own) : List Own := ps.map fun p => (p, if hadI O p ∈ ms then hadI O p else -1)
def isRev (id : Int) (x : Own × Own) : Bool := decide (x.1.2 = id ∧ 0 ≤ id ∧ x.2.2 ≠ id)
def revI (O T : List Own) (id : Int) : List Plc := ((O.zip T).filter (isRev id)).map (·.1.1)
def waitI (ms : List Int) (O T : List Own) : List Int := ms.filter fun m => decide (0 < (revI O T m).length)
def TbM.settle (M : TbM) : TbM := if M.W = [] then ⟨M.T, M.T, [], M.G + 1⟩ else M
def begE (ps : List Plc) (ms : List Int) : Int := asgE ms ps []
def TbM.begun (M : TbM) (ps : List Plc) (ms : List Int) : TbM := ⟨nowI ms ps M.O, asgI ms ps (nowI ms ps M.O), waitI ms (nowI ms ps M.O) (asgI ms ps (nowI ms ps M.O)), M.G⟩
def TbM.begin_ (M : TbM) (ps : List Plc) (ms : List Int) : TbM := if begE ps ms = 0 then (M.begun ps ms).settle else M
def TbM.beginV (M : TbM) (ps : List Plc) (ms : List Int) : Bool := decide (begE ps ms = 0 ∧ (M.begun ps ms).W = [])
def offI (id : Int) (x : Own × Own) : Own := if isRev id x then (x.1.1, -1) else x.1
def TbM.acked (M : TbM) (id : Int) : TbM := ⟨(M.O.zip M.T).map (offI id), M.T, M.W.filter (fun m => decide (m ≠ id)), M.G⟩
def TbM.ack (M : TbM) (id : Int) : TbM := if id ∈ M.W then (M.acked id).settle else M
def TbM.ackE (M : TbM) (id : Int) : Int := if id ∈ M.W then 0 else 5
def TbM.ackV (M : TbM) (id : Int) : Bool := decide (id ∈ M.W ∧ (M.acked id).W = [])
def TbM.hasE (M : TbM) (id : Int) (p : Plc) : Int := match (M.O.zip M.T).find? (fun x => decide (x.1.1 = p)) with
  | none => 5
  | some x => if id < 0 ∨ x.1.2 ≠ id then 180 else if x.2.2 ≠ id then 170 else 0

structure TbM.Pre (M : TbM) (K : Nat) : Prop where
  same : M.O.map (·.1) = M.T.map (·.1)
  len : M.O.length ≤ 256
  dis : (M.O.map (·.1)).Nodup
  wl : M.W.length ≤ 8
  wn : M.W.Nodup
  wp : ∀ m, m ∈ M.W → 0 ≤ m ∧ m < 16
  low : M.G ≤ K
  wait : ∀ (i : Nat) (o t : Own), M.O[i]? = some o → M.T[i]? = some t → 0 ≤ o.2 → t.2 ≠ o.2 → o.2 ∈ M.W
structure TbM.Ok (M : TbM) (K : Nat) : Prop extends M.Pre K where
  fin : M.W = [] → M.O = M.T

theorem TbM.Pre.len2 {M : TbM} {K : Nat} (h : M.Pre K) : M.O.length = M.T.length := by
  have := congrArg List.length h.same
  simpa using this
theorem TbM.Ok.mono {M : TbM} {K L : Nat} (h : M.Ok K) (hKL : K ≤ L) : M.Ok L := { h with low := Nat.le_trans h.low hKL }
theorem TbM.new_ok : TbM.new.Ok 0 := ⟨⟨rfl, Nat.zero_le _, List.nodup_nil, Nat.zero_le _, List.nodup_nil, (fun _ h => by cases h), Nat.le_refl _, (fun i o t h => by cases h)⟩, fun _ => rfl⟩
theorem TbM.Pre.settle {M : TbM} {K : Nat} (h : M.Pre K) : M.settle.Ok (K + 1) := by
  unfold TbM.settle
  by_cases hw : M.W = []
  · rw [if_pos hw]
    have hd := h.dis
    rw [h.same] at hd
    exact ⟨⟨rfl, by have := h.len2; have := h.len; show M.T.length ≤ 256; omega, hd, Nat.zero_le _, List.nodup_nil, (fun m hm => by cases hm), Nat.succ_le_succ h.low,
      fun i o t ho ht h0 hne => by
        replace ho : M.T[i]? = some o := ho
        rw [ho] at ht
        obtain rfl := Option.some.inj ht
        exact absurd rfl hne⟩, fun _ => rfl⟩
  · rw [if_neg hw]
    exact ⟨{ h with low := Nat.le_succ_of_le h.low }, fun e => absurd e hw⟩
theorem now_places (ms : List Int) (ps : List Plc) (O : List Own) : (nowI ms ps O).map (·.1) = ps := by
  unfold nowI
  rw [List.map_map]
  exact List.map_id _
theorem now_len (ms : List Int) (ps : List Plc) (O : List Own) : (nowI ms ps O).length = ps.length := List.length_map _
theorem now_at {ms : List Int} {ps : List Plc} {O : List Own} {i : Nat} {o : Own} (h : (nowI ms ps O)[i]? = some o) : ps[i]? = some o.1 ∧ o.2 = (if hadI O o.1 ∈ ms then hadI O o.1 else -1) := by
  unfold nowI at h
  rw [List.getElem?_map] at h
  cases hp : ps[i]? with
  | none => rw [hp] at h; cases h
  | some p =>
    rw [hp] at h
    obtain rfl : (p, if hadI O p ∈ ms then hadI O p else -1) = o := by simpa using h
    exact ⟨rfl, rfl⟩
theorem zip_at {α β : Type} {l : List α} {r : List β} {i : Nat} {a : α} {b : β} (h1 : l[i]? = some a) (h2 : r[i]? = some b) : (l.zip r)[i]? = some (a, b) := by
  rw [List.getElem?_zip_eq_some]; exact ⟨h1, h2⟩
theorem rev_in {O T : List Own} {id : Int} {i : Nat} {o t : Own} (h1 : O[i]? = some o) (h2 : T[i]? = some t) (h0 : 0 ≤ id) (h3 : o.2 = id) (h4 : t.2 ≠ id) : o.1 ∈ revI O T id := by
  unfold revI
  refine List.mem_map.2 ⟨(o, t), List.mem_filter.2 ⟨List.mem_of_getElem? (zip_at h1 h2), ?_⟩, rfl⟩
  unfold isRev; simp [h3, h4, h0]
theorem begE_ok {ps : List Plc} {ms : List Int} (h : begE ps ms = 0) : ps.length ≤ 256 ∧ risI ms ∧ disI ps := by
  obtain ⟨a, _, b, c⟩ := asgE_ok h; exact ⟨a, b, c⟩
theorem begE_now {ps : List Plc} {ms : List Int} (O : List Own) : asgE ms ps (nowI ms ps O) = begE ps ms := by
  unfold begE asgE
  rw [now_len]
  simp
theorem ris_nodup {ms : List Int} (h : risI ms) : ms.Nodup := h.2.2.imp (fun h => by omega)
theorem TbM.begun_pre {M : TbM} {K : Nat} (h : M.Ok K) {ps : List Plc} {ms : List Int} (hb : begE ps ms = 0) : (M.begun ps ms).Pre K := by
  obtain ⟨h1, h2, h3⟩ := begE_ok hb
  refine ⟨(now_places _ _ _).trans (asgI_places _ _ _).symm, by show (nowI ms ps M.O).length ≤ 256; rw [now_len]; exact h1, by show ((nowI ms ps M.O).map (·.1)).Nodup; rw [now_places]; exact h3.2, ?_, (ris_nodup h2).filter _, fun m hm => h2.2.1 m (List.mem_filter.1 hm).1, h.low, ?_⟩
  · exact Nat.le_trans (List.length_filter_le _ _) h2.1
  · intro i o t ho ht h0 hne
    obtain ⟨e1, e2⟩ := now_at ho
    have hms : o.2 ∈ ms := by
      by_cases hh : hadI M.O o.1 ∈ ms
      · rw [if_pos hh] at e2; rw [e2]; exact hh
      · rw [if_neg hh] at e2; omega
    refine List.mem_filter.2 ⟨hms, ?_⟩
    have := rev_in (O := nowI ms ps M.O) ho ht h0 rfl hne
    exact decide_eq_true (List.length_pos_of_mem this)
theorem TbM.Ok.begin_ {M : TbM} {K : Nat} (h : M.Ok K) (ps : List Plc) (ms : List Int) : (M.begin_ ps ms).Ok (K + 1) := by
  unfold TbM.begin_
  by_cases hb : begE ps ms = 0
  · rw [if_pos hb]; exact (TbM.begun_pre h hb).settle
  · rw [if_neg hb]; exact h.mono (Nat.le_succ _)
theorem off_fst (id : Int) (x : Own × Own) : (offI id x).1 = x.1.1 := by unfold offI; split <;> rfl
theorem acked_at {M : TbM} {id : Int} {i : Nat} {o : Own} (h : (M.acked id).O[i]? = some o) : ∃ a t, M.O[i]? = some a ∧ M.T[i]? = some t ∧ o = offI id (a, t) := by
  replace h : ((M.O.zip M.T).map (offI id))[i]? = some o := h
  rw [List.getElem?_map] at h
  cases hz : (M.O.zip M.T)[i]? with
  | none => rw [hz] at h; cases h
  | some x =>
    rw [hz] at h
    obtain ⟨h1, h2⟩ := List.getElem?_zip_eq_some.1 hz
    exact ⟨x.1, x.2, h1, h2, by simpa using h.symm⟩
theorem acked_places {M : TbM} {K : Nat} (h : M.Pre K) (id : Int) : (M.acked id).O.map (·.1) = M.O.map (·.1) := by
  show ((M.O.zip M.T).map (offI id)).map (·.1) = _
  rw [List.map_map]
  have : ((fun o : Own => o.1) ∘ offI id) = (fun x : Own × Own => x.1.1) := by funext x; exact off_fst id x
  rw [this]
  have h2 : (M.O.zip M.T).map (fun x => x.1) = M.O := by
    rw [List.map_fst_zip]; have := h.len2; omega
  conv => rhs; rw [← h2, List.map_map]
  rfl
theorem acked_pre {M : TbM} {K : Nat} (h : M.Pre K) {id : Int} (hi : id ∈ M.W) : (M.acked id).Pre K := by
  have hp := acked_places h id
  refine ⟨hp.trans h.same, ?_, by rw [hp]; exact h.dis, Nat.le_trans (List.length_filter_le _ _) h.wl, h.wn.filter _, fun m hm => h.wp m (List.mem_filter.1 hm).1, h.low, ?_⟩
  · have := congrArg List.length hp
    rw [List.length_map, List.length_map] at this
    rw [this]; exact h.len
  · intro i o t ho ht h0 hne
    obtain ⟨a, t', ha, ht', rfl⟩ := acked_at ho
    replace ht : M.T[i]? = some t := ht
    rw [ht] at ht'
    obtain rfl := Option.some.inj ht'
    unfold offI at h0 hne ⊢
    by_cases hr : isRev id (a, t) = true
    · rw [if_pos hr] at h0; exact absurd h0 (show ¬ (0 : Int) ≤ -1 by decide)
    · rw [if_neg hr] at h0 hne ⊢
      refine List.mem_filter.2 ⟨h.wait i a t ha ht h0 hne, ?_⟩
      have : a.2 ≠ id := fun e => hr (by unfold isRev; simp [← e]; exact ⟨h0, hne⟩)
      simpa using this
theorem TbM.Ok.ack {M : TbM} {K : Nat} (h : M.Ok K) (id : Int) : (M.ack id).Ok (K + 1) := by
  unfold TbM.ack
  by_cases hi : id ∈ M.W
  · rw [if_pos hi]; exact (acked_pre h.toPre hi).settle
  · rw [if_neg hi]; exact h.mono (Nat.le_succ _)

/-! ### What stays -/
/-- Behind what settles, an owner is another one only where it was revoked and must acknowledge. -/
theorem settle_at {M : TbM} {K : Nat} (h : M.Pre K) {i : Nat} {b : Own} (hb : M.settle.O[i]? = some b) : ∃ a, M.O[i]? = some a ∧ a.1 = b.1 ∧ (0 ≤ a.2 → a.2 = b.2) := by
  unfold TbM.settle at hb
  by_cases hw : M.W = []
  · rw [if_pos hw] at hb
    replace hb : M.T[i]? = some b := hb
    obtain ⟨a, ha⟩ := get_some (l := M.O) (i := i) (by rw [h.len2]; exact (List.getElem?_eq_some_iff.1 hb).1)
    refine ⟨a, ha, ?_, fun h0 => ?_⟩
    · have e := congrArg (fun l : List Plc => l[i]?) h.same
      simp only [List.getElem?_map, ha, hb] at e
      simpa using e
    · apply Decidable.byContradiction
      intro hne
      have := h.wait i a b ha hb h0 (fun e => hne e.symm)
      rw [hw] at this; cases this
  · rw [if_neg hw] at hb
    exact ⟨b, hb, rfl, fun _ => rfl⟩
theorem nodup_pos {l : List Own} (h : (l.map (·.1)).Nodup) {i j : Nat} {a b : Own} (ha : l[i]? = some a) (hb : l[j]? = some b) (e : a.1 = b.1) : i = j := by
  have h1 : (l.map (·.1))[i]? = some a.1 := by rw [List.getElem?_map, ha]; rfl
  have h2 : (l.map (·.1))[j]? = some b.1 := by rw [List.getElem?_map, hb]; rfl
  obtain ⟨hi, e1⟩ := List.getElem?_eq_some_iff.1 h1
  obtain ⟨hj, e2⟩ := List.getElem?_eq_some_iff.1 h2
  exact (List.getElem_inj (h₀ := hi) (h₁ := hj) h).1 (by rw [e1, e2, e])
theorem hands_begin {M : TbM} {K : Nat} (h : M.Ok K) {ps : List Plc} {ms : List Int} (hb : begE ps ms = 0) {j k : Nat} {a b : Own} (ha : M.O[j]? = some a) (hk : (M.begin_ ps ms).O[k]? = some b) (e : a.1 = b.1) (h0 : 0 ≤ a.2) (hm : a.2 ∈ ms) : a.2 = b.2 := by
  unfold TbM.begin_ at hk
  rw [if_pos hb] at hk
  obtain ⟨c, hc, e1, e2⟩ := settle_at (TbM.begun_pre h hb) hk
  obtain ⟨_, e3⟩ := now_at hc
  have hh : hadI M.O a.1 = a.2 := had_at h.dis ha
  rw [e1, ← e, hh, if_pos hm] at e3
  exact e3.symm.trans (e2 (by omega))
theorem hands_ack {M : TbM} {K : Nat} (h : M.Ok K) {id : Int} (hi : id ∈ M.W) {j k : Nat} {a b : Own} (ha : M.O[j]? = some a) (hk : (M.ack id).O[k]? = some b) (e : a.1 = b.1) (h0 : 0 ≤ a.2) (hm : a.2 ≠ id) : a.2 = b.2 := by
  unfold TbM.ack at hk
  rw [if_pos hi] at hk
  obtain ⟨c, hc, e1, e2⟩ := settle_at (acked_pre h.toPre hi) hk
  obtain ⟨a', t, ha', ht, rfl⟩ := acked_at hc
  rw [off_fst] at e1
  obtain rfl := nodup_pos h.dis ha ha' (e.trans e1.symm)
  rw [ha] at ha'
  obtain rfl := Option.some.inj ha'
  have hr : isRev id (a, t) = false := by unfold isRev; simp [hm]
  unfold offI at e2
  rw [hr] at e2
  exact e2 h0
/-- What grows. -/
theorem settle_grows (M : TbM) : M.settle.G = M.G + (if M.W = [] then 1 else 0) ∧ (M.settle.W = [] ↔ M.W = []) := by
  unfold TbM.settle
  by_cases hw : M.W = []
  · rw [if_pos hw, if_pos hw]; exact ⟨rfl, ⟨fun _ => hw, fun _ => rfl⟩⟩
  · rw [if_neg hw, if_neg hw]; exact ⟨rfl, Iff.rfl⟩
theorem begin_grows {M : TbM} {ps : List Plc} {ms : List Int} (hb : begE ps ms = 0) : (M.begin_ ps ms).G = M.G + (if M.beginV ps ms = true then 1 else 0) ∧ (M.beginV ps ms = true ↔ (M.begin_ ps ms).W = []) := by
  unfold TbM.begin_ TbM.beginV
  rw [if_pos hb]
  obtain ⟨h1, h2⟩ := settle_grows (M.begun ps ms)
  rw [h1, h2]
  by_cases hw : (M.begun ps ms).W = []
  · rw [if_pos hw]; simp [hb, hw]; rfl
  · rw [if_neg hw]; simp [hb, hw]; rfl
theorem ack_grows {M : TbM} {id : Int} (hi : id ∈ M.W) : (M.ack id).G = M.G + (if M.ackV id = true then 1 else 0) ∧ (M.ackV id = true ↔ (M.ack id).W = []) := by
  unfold TbM.ack TbM.ackV
  rw [if_pos hi]
  obtain ⟨h1, h2⟩ := settle_grows (M.acked id)
  rw [h1, h2]
  by_cases hw : (M.acked id).W = []
  · rw [if_pos hw]; simp [hi, hw]; rfl
  · rw [if_neg hw]; simp [hi, hw]; rfl
/-- What an acknowledgement leaves, but for the owners. -/
theorem ack_is {M : TbM} {id : Int} (hi : id ∈ M.W) : (M.ack id).T = M.T ∧ (M.ack id).W = M.W.filter (fun m => decide (m ≠ id)) := by
  unfold TbM.ack TbM.settle
  rw [if_pos hi]
  by_cases hw : (M.acked id).W = []
  · rw [if_pos hw]; exact ⟨rfl, hw.symm⟩
  · rw [if_neg hw]; exact ⟨rfl, rfl⟩
end Go.Proofs.Ytdlkdagmaeapdaa

/- The statements' own helpers of layer 17: places, members that may be. No condition. -/
namespace Go.Proofs.Ytdlkdagmaeapdaa
open Go.RowKit
set_option linter.unusedVariables false
set_option linter.unusedSimpArgs false
set_option maxRecDepth 100000

/-- Some places. -/
def plN : Nat → List Plc
  | 0 => []
  | k + 1 => plN k ++ [((k : Int) / 3, (k : Int) % 3)]
theorem plN_len : ∀ n, (plN n).length = n
  | 0 => rfl
  | n + 1 => by rw [plN, List.length_append, plN_len n]; rfl
theorem plN_get : ∀ {n k : Nat}, k < n → (plN n)[k]? = some ((k : Int) / 3, (k : Int) % 3)
  | 0, k, h => by omega
  | n + 1, k, h => by
    rw [plN]
    by_cases hk : k < n
    · rw [List.getElem?_append_left (by rw [plN_len]; exact hk)]; exact plN_get hk
    · obtain rfl : k = n := by omega
      rw [List.getElem?_append_right (by rw [plN_len]; omega), plN_len]; simp
theorem plN_dis (n : Nat) : disI (plN n) := by
  refine ⟨fun p hp => ?_, ?_⟩
  · obtain ⟨k, hk, e⟩ := List.mem_iff_getElem.1 hp
    have h := plN_get (n := n) (k := k) (by rw [plN_len] at hk; exact hk)
    rw [List.getElem?_eq_getElem hk, e] at h
    obtain rfl := Option.some.inj h
    exact ⟨by show (0 : Int) ≤ (k : Int) / 3; omega, by show (0 : Int) ≤ (k : Int) % 3; omega⟩
  · refine List.pairwise_iff_getElem.2 (fun i j hi hj hij => ?_)
    have h1 := plN_get (n := n) (k := i) (by rw [plN_len] at hi; exact hi)
    have h2 := plN_get (n := n) (k := j) (by rw [plN_len] at hj; exact hj)
    rw [List.getElem?_eq_getElem hi] at h1
    rw [List.getElem?_eq_getElem hj] at h2
    rw [Option.some.inj h1, Option.some.inj h2]
    intro e
    have e1 : (i : Int) / 3 = (j : Int) / 3 := congrArg Prod.fst e
    have e2 : (i : Int) % 3 = (j : Int) % 3 := congrArg Prod.snd e
    omega
/-- Members that may be, of a list. -/
def risN (l : List Int) (k : Nat) : List Int := ((List.range k).filter (fun i => decide (((i : Nat) : Int) ∈ l))).map fun (i : Nat) => (i : Int)
theorem risN_succ (l : List Int) (k : Nat) : risN l (k + 1) = if ((k : Nat) : Int) ∈ l then risN l k ++ [((k : Nat) : Int)] else risN l k := by
  unfold risN
  rw [List.range_succ, List.filter_append, List.filter_cons, List.filter_nil]
  by_cases h : ((k : Nat) : Int) ∈ l
  · rw [if_pos (by simpa using h), if_pos h, List.map_append]; rfl
  · rw [if_neg (by simpa using h), if_neg h, List.append_nil]
theorem risN_len (l : List Int) (k : Nat) : (risN l k).length ≤ k := by
  unfold risN
  rw [List.length_map]
  have := List.length_filter_le (fun i : Nat => decide (((i : Nat) : Int) ∈ l)) (List.range k)
  rwa [List.length_range] at this
theorem risN_ris (l : List Int) : risI (risN l 8) := by
  refine ⟨risN_len l 8, fun x hx => ?_, ?_⟩
  · unfold risN at hx
    obtain ⟨i, hi, rfl⟩ := List.mem_map.1 hx
    have := List.mem_range.1 (List.mem_filter.1 hi).1
    omega
  · unfold risN
    rw [List.pairwise_map]
    exact (List.Pairwise.filter _ List.pairwise_lt_range).imp (fun h => by omega)
theorem beg_pl (n : Nat) (hn : n ≤ 256) (l : List Int) : begE (plN n) (risN l 8) = 0 := asgE_of (by rw [plN_len]; exact hn) (Nat.zero_le _) (risN_ris l) (plN_dis n)

theorem infoPl17 : (Try.prog.info? 54).map (fun i => (i.zero, i.size, i.bytes)) = some (some (.agg #[.int .i64 0, .int .i64 0]), 2, 16) := by kernel_rfl
theorem row_appended {w wr w6 : World} {e : TypeId} {m : Nat} {ao : Option Addr} {k cc : Nat} {xs : List Value} {o : Obj} (hs : Still w wr) (h : wr.ownsRow w.heap.size e m (.slice ao k cc) k xs) (hg : (wr.alloc o).grownBy w6 (Value.slice ao k cc).ownBlock) : Still w w6 := by
  refine (hs.alloc o).past ((Turned.refl (fun i => (Value.slice ao k cc).ownBlock = some i) _).grown hg (fun i e => .inl e)) (fun i hi => ?_)
  cases ao with
  | none => cases hi
  | some x => have := (ow_lt h x rfl).1
              have e : x.block = i := by simpa [Value.ownBlock] using hi
              exact .inr (by omega)
end Go.Proofs.Ytdlkdagmaeapdaa

/- What the statements of layer 17 want of the program's table, told of the plain one: one word for each call; what works does. No condition but the words. -/
namespace Go.Proofs.Ytdlkdagmaeapdaa
open Go.RowKit
set_option linter.unusedVariables false
set_option linter.unusedSimpArgs false
set_option maxRecDepth 100000

/-- A new table. -/
def BNew (BT : Nat → TbM → Thing) (w : World) (M : TbM) (q : Nat) (w' : World) : Prop := ∃ W, (BT q M).at_ w' W ∧ Still w w' ∧ ∀ k, W k → w.heap.size ≤ k
structure RebalApi (BT : Nat → TbM → Thing) : Prop where
  make_ : ∀ w : World, Calls Try.prog 31 #[] w fun e w' => ∃ q, e = .returned (.pointer (some ⟨q, 0, none⟩)) ∧ BNew BT w TbM.new q w'
  begin_ : ∀ {w : World} {W : Nat → Prop} {q K : Nat} {M : TbM}, (BT q M).at_ w W → M.Ok K → K < 1000000 → ∀ {bo ao : Option Addr} {ps : List Plc} {ms : List Int} {n m c1 c2 : Nat}, n = ps.length → m = ms.length → n ≤ 1000 → m ≤ 1000 →
    PlAt w bo ps → NumsAt w ao ms → (∀ a, bo = some a → ¬ W a.block) → (∀ a, ao = some a → ¬ W a.block) →
    Calls Try.prog 33 #[.pointer (some ⟨q, 0, none⟩), .slice bo n c1, .slice ao m c2] w fun e w' => e = .returned (.tuple #[.bool (M.beginV ps ms), .int .i64 (begE ps ms)]) ∧ Goes (BT q (M.begin_ ps ms)) W w w'
  ack : ∀ {w : World} {W : Nat → Prop} {q K : Nat} {M : TbM}, (BT q M).at_ w W → M.Ok K → K < 1000000 → ∀ x : Int, -9223372036854775808 ≤ x → x ≤ 9223372036854775807 →
    Calls Try.prog 35 #[.pointer (some ⟨q, 0, none⟩), .int .i64 x] w fun e w' => e = .returned (.tuple #[.bool (M.ackV x), .int .i64 (M.ackE x)]) ∧ Goes (BT q (M.ack x)) W w w'
  gen : ∀ {w : World} {W : Nat → Prop} {q K : Nat} {M : TbM}, (BT q M).at_ w W → M.Ok K → K < 1000000 → Calls Try.prog 67 #[.pointer (some ⟨q, 0, none⟩)] w fun e w' => e = .returned (.int .i64 ((M.G : Nat) : Int)) ∧ Still w w'
  revoked : ∀ {w : World} {W : Nat → Prop} {q K : Nat} {M : TbM}, (BT q M).at_ w W → M.Ok K → K < 1000000 → ∀ x : Int, -9223372036854775808 ≤ x → x ≤ 9223372036854775807 → ∀ n, n = (revI M.O M.T x).length →
    Calls Try.prog 64 #[.pointer (some ⟨q, 0, none⟩), .int .i64 x] w (OutRow encPl 2 54 w (revI M.O M.T x) n)
  waits : ∀ {w : World} {W : Nat → Prop} {q K : Nat} {M : TbM}, (BT q M).at_ w W → M.Ok K → K < 1000000 → ∀ n, n = M.W.length → Calls Try.prog 85 #[.pointer (some ⟨q, 0, none⟩)] w (OutNums w M.W n)
  has : ∀ {w : World} {W : Nat → Prop} {q K : Nat} {M : TbM}, (BT q M).at_ w W → M.Ok K → K < 1000000 → ∀ (x : Int) (p : Plc), -9223372036854775808 ≤ x → x ≤ 9223372036854775807 →
    Calls Try.prog 66 #[.pointer (some ⟨q, 0, none⟩), .int .i64 x, .agg #[.int .i64 p.1, .int .i64 p.2]] w fun e w' => e = .returned (.int .i64 (M.hasE x p)) ∧ Still w w'
section
variable {BT : Nat → TbM → Thing} {w0 w : World} {q K : Nat} {M : TbM} {R : Thing}
theorem Held.beginC (A : RebalApi BT) (hM : M.Ok K) (hK : K < 1000000) {bo ao : Option Addr} {ps : List Plc} {ms : List Int} {n m c1 c2 : Nat} {v : Bool} {E : Int} {M' : TbM} (hn : n = ps.length) (hm : m = ms.length) (h1 : n ≤ 1000) (h2 : m ≤ 1000)
    (hv : M.beginV ps ms = v) (hE : begE ps ms = E) (hM' : M.begin_ ps ms = M') (HH : Held w0 w ((BT q M).sep (R.sep ((plsT bo n c1 ps).sep (intsT ao m c2 ms))))) :
    Calls Try.prog 33 #[.pointer (some ⟨q, 0, none⟩), .slice bo n c1, .slice ao m c2] w fun e w' => e = .returned (.tuple #[.bool v, .int .i64 E]) ∧ Held w0 w' ((BT q M').sep (R.sep ((plsT bo n c1 ps).sep (intsT ao m c2 ms)))) := by
  subst hv hE hM'
  have HH' := HH
  obtain ⟨W, hW, hlo, hst⟩ := HH'
  have hW' := hW
  obtain ⟨W1, W2, hb, ⟨W3, W4, hr, ⟨W5, W6, hp, hi, hd3, hW3⟩, hd2, hW2⟩, hd1, hW1⟩ := hW'
  refine (A.begin_ hb hM hK hn hm h1 h2 (RowAt.of_own encPl_len hp.1 hn) (NumsAt.of_own hi.1 hm) (fun a ha hk => hd1 _ hk ((hW2 _).2 (.inr ((hW3 _).2 (.inl (ownT_blk hp a ha)))))) (fun a ha hk => hd1 _ hk ((hW2 _).2 (.inr ((hW3 _).2 (.inr (ownT_blk hi a ha))))))).mono ?_
  rintro e w' ⟨he, hg⟩
  refine ⟨he, ?_⟩
  have hgo : Goes ((BT q (M.begin_ ps ms)).sep (R.sep ((plsT bo n c1 ps).sep (intsT ao m c2 ms)))) W w w' := by
    obtain ⟨W', g1, g2, g3⟩ := hg
    refine ⟨fun k => W' k ∨ W2 k, ⟨W', W2, g1, Thing.keep _ ⟨W3, W4, hr, ⟨W5, W6, hp, hi, hd3, hW3⟩, hd2, hW2⟩ g2 (fun k hk hk1 => hd1 k hk1 hk), fun k hk hk2 => ?_, fun k => Iff.rfl⟩, g2.mono (fun k _ hk => (hW1 k).2 (.inl hk)), fun k hk => ?_⟩
    · rcases g3 k hk with h | h
      · exact hd1 k h hk2
      · have := Thing.lt _ (show ((R.sep ((plsT bo n c1 ps).sep (intsT ao m c2 ms)))).at_ w W2 from ⟨W3, W4, hr, ⟨W5, W6, hp, hi, hd3, hW3⟩, hd2, hW2⟩) k hk2; omega
    · rcases hk with hk | hk
      · exact (g3 k hk).imp (fun h => (hW1 k).2 (.inl h)) id
      · exact .inl ((hW1 k).2 (.inr hk))
  obtain ⟨Wn, q1, q2, q3⟩ := hgo
  have hfin : Held w0 w' ((BT q (M.begin_ ps ms)).sep (R.sep ((plsT bo n c1 ps).sep (intsT ao m c2 ms)))) := ⟨Wn, q1, fun k hk => by
    rcases q3 k hk with h | h
    · exact hlo k h
    · exact Nat.le_trans hst.size h, hst.past q2 (fun i hi => .inr (hlo i hi))⟩
  exact hfin
theorem Held.beginB (A : RebalApi BT) (hM : M.Ok K) (hK : K < 1000000) {bo ao : Option Addr} {ps : List Plc} {ms : List Int} {n m c1 c2 : Nat} {v : Bool} {E : Int} {M' : TbM} (hn : n = ps.length) (hm : m = ms.length) (h1 : n ≤ 1000) (h2 : m ≤ 1000)
    (hv : M.beginV ps ms = v) (hE : begE ps ms = E) (hM' : M.begin_ ps ms = M') (H : Held w0 w ((((BT q M).sep R).sep (plsT bo n c1 ps)).sep (intsT ao m c2 ms))) :
    Calls Try.prog 33 #[.pointer (some ⟨q, 0, none⟩), .slice bo n c1, .slice ao m c2] w fun e w' => e = .returned (.tuple #[.bool v, .int .i64 E]) ∧ Held w0 w' ((BT q M').sep R) :=
  (Held.beginC A hM hK hn hm h1 h2 hv hE hM' H.assoc.assoc).mono fun e w' ⟨he, h⟩ => ⟨he, h.assoc'.drop⟩
theorem Held.ackB (A : RebalApi BT) (hM : M.Ok K) (hK : K < 1000000) {x : Int} {v : Bool} {E : Int} {M' : TbM} (h1 : -9223372036854775808 ≤ x) (h2 : x ≤ 9223372036854775807) (hv : M.ackV x = v) (hE : M.ackE x = E) (hM' : M.ack x = M') (H : Held w0 w ((BT q M).sep R)) :
    Calls Try.prog 35 #[.pointer (some ⟨q, 0, none⟩), .int .i64 x] w fun e w' => e = .returned (.tuple #[.bool v, .int .i64 E]) ∧ Held w0 w' ((BT q M').sep R) := by
  subst hv hE hM'; exact H.call (fun _ h => A.ack h hM hK x h1 h2)
theorem Held.genB (A : RebalApi BT) (hM : M.Ok K) (hK : K < 1000000) {v : Nat} (hv : M.G = v) (H : Held w0 w ((BT q M).sep R)) :
    Calls Try.prog 67 #[.pointer (some ⟨q, 0, none⟩)] w fun e w' => e = .returned (.int .i64 ((v : Nat) : Int)) ∧ Still w w' := by
  subst hv; obtain ⟨_, h, _⟩ := H.fst; exact A.gen h hM hK
theorem Held.hasB (A : RebalApi BT) (hM : M.Ok K) (hK : K < 1000000) {x : Int} (a b : Int) {v : Int} (h1 : -9223372036854775808 ≤ x) (h2 : x ≤ 9223372036854775807) (hv : M.hasE x (a, b) = v) (H : Held w0 w ((BT q M).sep R)) :
    Calls Try.prog 66 #[.pointer (some ⟨q, 0, none⟩), .int .i64 x, .agg #[.int .i64 a, .int .i64 b]] w fun e w' => e = .returned (.int .i64 v) ∧ Still w w' := by
  subst hv; obtain ⟨_, h, _⟩ := H.fst; exact A.has h hM hK x (a, b) h1 h2
theorem Held.waitsB (A : RebalApi BT) (hM : M.Ok K) (hK : K < 1000000) {l : List Int} {n : Nat} (hl : M.W = l) (hn : n = l.length) (H : Held w0 w ((BT q M).sep R)) :
    Calls Try.prog 85 #[.pointer (some ⟨q, 0, none⟩)] w fun e w' => ∃ a c, e = .returned (.slice a n c) ∧ Held w0 w' (((BT q M).sep R).sep (intsT a n c l)) := by
  subst hl; obtain ⟨_, h, _⟩ := H.fst
  exact (A.waits h hM hK n hn).mono fun e w' ho => H.outs ho
end

def tb1 : TbM := TbM.new.begin_ (plN 2) [1]
def tb2 : TbM := tb1.begin_ (plN 2) [1, 2]
def tb3 : TbM := tb2.ack 1
theorem w17_facts : begE (plN 2) [1] = 0 ∧ TbM.new.beginV (plN 2) [1] = true ∧ begE (plN 2) [1, 2] = 0 ∧ tb1.beginV (plN 2) [1, 2] = false ∧ tb2.G = 1 ∧ tb2.W = [1] ∧ tb2.hasE 1 (0, 1) = 170 ∧ tb2.ackV 1 = true ∧ tb2.ackE 1 = 0 ∧ tb3.G = 2 ∧ tb3.hasE 2 (0, 1) = 0 := by decide
end Go.Proofs.Ytdlkdagmaeapdaa

/- All that must acknowledge do so, in whatever order. No condition. -/
namespace Go.Proofs.Ytdlkdagmaeapdaa
open Go.RowKit
set_option linter.unusedVariables false

/-- A table of which L must acknowledge still. -/
structure Ran (M N : TbM) (L : List Int) : Prop where
  t : N.T = M.T
  w : N.W = L
  g : N.G = M.G + (if L = [] ∧ M.W ≠ [] then 1 else 0)
  o : L = [] → N.O = M.T
  s : L ≠ [] → M.W ≠ []
theorem Ran.start {M : TbM} {K : Nat} (h : M.Ok K) : Ran M M M.W :=
  ⟨rfl, rfl, by rw [if_neg (fun e => e.2 e.1)]; rfl, fun e => h.fin e, id⟩
theorem Ran.step {M N : TbM} {L : List Int} {id : Int} (h : Ran M N L) (hi : id ∈ L) : Ran M (N.ack id) (L.filter (fun m => decide (m ≠ id))) ∧ N.ackE id = 0 ∧ (N.ackV id = true ↔ L.filter (fun m => decide (m ≠ id)) = []) := by
  have hw : id ∈ N.W := by rw [h.w]; exact hi
  have hL : L ≠ [] := List.ne_nil_of_mem hi
  obtain ⟨e1, e2⟩ := ack_is hw
  obtain ⟨g1, g2⟩ := ack_grows hw
  rw [h.w] at e2
  refine ⟨⟨e1.trans h.t, e2, ?_, fun e => ?_, fun e => h.s hL⟩, by unfold TbM.ackE; rw [if_pos hw], by rw [g2, e2]⟩
  · rw [g1, h.g, if_neg (fun e => hL e.1)]
    by_cases hf : L.filter (fun m => decide (m ≠ id)) = []
    · rw [if_pos (g2.2 (by rw [e2]; exact hf)), if_pos ⟨hf, h.s hL⟩]
    · rw [if_neg (fun e => hf (by rw [← e2]; exact g2.1 e)), if_neg (fun e => hf e.1)]
  · have hb : (N.acked id).W = [] := by show N.W.filter _ = []; rw [h.w]; exact e
    unfold TbM.ack TbM.settle
    rw [if_pos hw, if_pos hb]
    exact h.t
theorem flt_drop {W : List Int} (hn : W.Nodup) {i : Nat} {x : Int} (h : W[i]? = some x) : (W.drop i).filter (fun m => decide (m ≠ x)) = W.drop (i + 1) := by
  obtain ⟨hi, e⟩ := List.getElem?_eq_some_iff.1 h
  have hd := List.drop_eq_getElem_cons hi
  rw [e] at hd
  have hn' : (x :: W.drop (i + 1)).Nodup := by rw [← hd]; exact hn.sublist (List.drop_sublist i W)
  rw [hd, List.filter_cons, if_neg (by simp)]
  rw [List.filter_eq_self.2]
  intro a ha
  have := (List.nodup_cons.1 hn').1
  exact decide_eq_true (fun e => this (e ▸ ha))
theorem flt_take {W : List Int} (hn : W.Nodup) {i : Nat} {x : Int} (h : W[i]? = some x) : (W.take (i + 1)).filter (fun m => decide (m ≠ x)) = W.take i := by
  have ht : W.take (i + 1) = W.take i ++ [x] := by rw [List.take_add_one, h]; rfl
  have hn' : (W.take i ++ [x]).Nodup := by rw [← ht]; exact hn.sublist (List.take_sublist _ _)
  rw [ht, List.filter_append, List.filter_cons, if_neg (by simp), List.filter_nil, List.append_nil]
  rw [List.filter_eq_self.2]
  intro a ha
  have := (List.nodup_append.1 hn').2.2 a ha x (by simp)
  exact decide_eq_true this
end Go.Proofs.Ytdlkdagmaeapdaa

/- What the walks of layer 17 share. No condition but the words. -/
namespace Go.Proofs.Ytdlkdagmaeapdaa
open Go.RowKit
set_option linter.unusedVariables false
set_option linter.unusedSimpArgs false
set_option maxRecDepth 100000

theorem Held.imp2 {w0 w : World} {A B : Thing} (h : Held w0 w A) (f : ∀ {w : World} {W : Nat → Prop}, A.at_ w W → B.at_ w W) : Held w0 w B := by
  obtain ⟨W, h1, h2⟩ := h; exact ⟨W, f h1, h2⟩
/-- Begin, of places and members made for it. -/
theorem Held.begG {BT : Nat → TbM → Thing} {w0 w : World} {q K : Nat} {M : TbM} {R : Thing} (A : RebalApi BT) (hM : M.Ok K) (hK : K < 1000000) {bo ao : Option Addr} {n d c1 c2 : Nat} (l : List Int) (hn : n ≤ 100) (hd : d = (risN l 8).length)
    (H : Held w0 w ((((BT q M).sep R).sep (plsT bo n c1 (plN n))).sep (intsT ao d c2 (risN l 8)))) :
    Calls Try.prog 33 #[.pointer (some ⟨q, 0, none⟩), .slice bo n c1, .slice ao d c2] w fun e w' => e = .returned (.tuple #[.bool (M.beginV (plN n) (risN l 8)), .int .i64 0]) ∧ Held w0 w' ((BT q (M.begin_ (plN n) (risN l 8))).sep R) :=
  Held.beginB A hM hK (by rw [plN_len]) hd (by omega) (by have := risN_len l 8; omega) rfl (beg_pl n (by omega) l) rfl H
end Go.Proofs.Ytdlkdagmaeapdaa
