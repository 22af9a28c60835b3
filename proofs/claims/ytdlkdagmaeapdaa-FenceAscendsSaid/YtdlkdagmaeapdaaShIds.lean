/- Plain mathematics of shares: members by their numbers, places, owners. No condition. -/
import Derived.Test.YtdlkdagmaeapdaaShJoin
namespace Go.Proofs.Ytdlkdagmaeapdaa
open Go.RowKit
set_option linter.unusedVariables false

abbrev Plc := Int × Int
abbrev Own := Plc × Int
def hadI (os : List Own) (p : Plc) : Int := match os.find? (fun o => decide (o.1 = p)) with
  | some o => o.2
  | none => -1
def idxI : List Int → Int → Option Nat
  | [], _ => none
  | y :: r, x => if y = x then some 0 else (idxI r x).map (· + 1)
def whoI (ms : List Int) (ps : List Plc) (os : List Own) : List (Option Nat) := ps.map (fun p => idxI ms (hadI os p))
def idI (ms : List Int) : Option Nat → Int
  | some k => ms.getD k (-1)
  | none => -1
def outI (ms : List Int) (ps : List Plc) (os : List Own) : List (Option Nat) := asgO ms.length (whoI ms ps os)
def asgI (ms : List Int) (ps : List Plc) (os : List Own) : List Own := List.zipWith (fun p o => (p, idI ms o)) ps (outI ms ps os)
def risI (ms : List Int) : Prop := ms.length ≤ 8 ∧ (∀ x, x ∈ ms → 0 ≤ x ∧ x < 16) ∧ ms.Pairwise (· < ·)
def disI (ps : List Plc) : Prop := (∀ p, p ∈ ps → 0 ≤ p.1 ∧ 0 ≤ p.2) ∧ ps.Nodup
def ofI (os : List Own) (id : Int) : List Plc := (os.filter (fun o => decide (o.2 = id))).map (·.1)
def movedI (was now : List Own) : List Plc := (now.filter (fun o => decide (0 ≤ hadI was o.1) && decide (hadI was o.1 ≠ o.2))).map (·.1)

/-! ### Numbers of members -/
theorem idx_some {x : Int} {k : Nat} : ∀ {ms : List Int}, idxI ms x = some k → ms[k]? = some x
  | [], h => by cases h
  | y :: r, h => by
    rw [idxI] at h
    split at h
    · rename_i e; cases h; simp [e]
    · cases hr : idxI r x with
      | none => rw [hr] at h; cases h
      | some j => rw [hr] at h; cases h; simpa using idx_some hr
theorem idx_none {x : Int} : ∀ {ms : List Int}, idxI ms x = none → x ∉ ms
  | [], _ => by simp
  | y :: r, h => by
    rw [idxI] at h
    split at h
    · cases h
    · rename_i hne
      cases hr : idxI r x with
      | none => intro hm; rcases List.mem_cons.1 hm with rfl | hm
                · exact hne rfl
                · exact idx_none hr hm
      | some j => rw [hr] at h; cases h
theorem idx_at {ms : List Int} (hn : ms.Pairwise (· < ·)) {k : Nat} {x : Int} (h : ms[k]? = some x) : idxI ms x = some k := by
  cases hi : idxI ms x with
  | none => exact absurd (List.mem_of_getElem? h) (idx_none hi)
  | some j =>
    have hj := idx_some hi
    obtain ⟨h1, e1⟩ := List.getElem?_eq_some_iff.1 h
    obtain ⟨h2, e2⟩ := List.getElem?_eq_some_iff.1 hj
    have hp := List.pairwise_iff_getElem.1 hn
    by_cases hjk : j < k
    · have := hp j k h2 h1 hjk; omega
    · by_cases hkj : k < j
      · have := hp k j h1 h2 hkj; omega
      · rw [show j = k by omega]
theorem idx_iff {ms : List Int} (hn : ms.Pairwise (· < ·)) {k : Nat} (hk : k < ms.length) {x : Int} : idxI ms x = some k ↔ x = ms[k] :=
  ⟨fun h => by have := idx_some h; rw [List.getElem?_eq_getElem hk] at this; exact (Option.some.inj this).symm, fun h => idx_at hn (by rw [List.getElem?_eq_getElem hk, h])⟩
theorem idx_lt {ms : List Int} {x : Int} {k : Nat} (h : idxI ms x = some k) : k < ms.length := (List.getElem?_eq_some_iff.1 (idx_some h)).1
theorem idI_at {ms : List Int} {k : Nat} (hk : k < ms.length) : idI ms (some k) = ms[k] := by unfold idI; simp [List.getD, List.getElem?_eq_getElem hk]
theorem idx_id {ms : List Int} (hr : risI ms) {o : Option Nat} (ho : o = none ∨ ∃ k, k < ms.length ∧ o = some k) : idxI ms (idI ms o) = o := by
  rcases ho with rfl | ⟨k, hk, rfl⟩
  · cases hi : idxI ms (idI ms none) with
    | none => rfl
    | some j =>
      have := hr.2.1 _ (List.mem_of_getElem? (idx_some hi))
      have e : idI ms none = -1 := rfl
      omega
  · rw [idI_at hk]; exact (idx_iff hr.2.2 hk).2 rfl
theorem who_ok (ms : List Int) (ps : List Plc) (os : List Own) : okW ms.length (whoI ms ps os) := fun o ho => by
  obtain ⟨p, hp, rfl⟩ := List.mem_map.1 ho
  cases hi : idxI ms (hadI os p) with
  | none => exact .inl rfl
  | some k => exact .inr ⟨k, idx_lt hi, rfl⟩
theorem who_len (ms : List Int) (ps : List Plc) (os : List Own) : (whoI ms ps os).length = ps.length := List.length_map _

/-! ### Without members -/
theorem asg_zero : ∀ {who : List (Option Nat)}, okW 0 who → asgO 0 who = who := by
  have hk : ∀ (q c : Nat → Nat) (l : List (Option Nat)), okW 0 l → keepL q c l = l := by
    intro q c l
    induction l with
    | nil => intro _; rfl
    | cons o l ih =>
      intro h
      rcases h o (List.mem_cons_self ..) with rfl | ⟨k, hk, _⟩
      · rw [keepL, ih (okW_tail h)]
      · omega
  have hf : ∀ (q c : Nat → Nat) (l : List (Option Nat)), okW 0 l → fillL 0 q c l = l := by
    intro q c l
    induction l with
    | nil => intro _; rfl
    | cons o l ih =>
      intro h
      rcases h o (List.mem_cons_self ..) with rfl | ⟨k, hk, _⟩
      · have : roomK 0 q c = none := rfl
        rw [fillL, this]
        show none :: fillL 0 q c l = _
        rw [ih (okW_tail h)]
      · omega
  intro who h
  unfold asgO keptO
  rw [hk _ _ _ h, hf _ _ _ h]
theorem out_len (ms : List Int) (ps : List Plc) (os : List Own) : (outI ms ps os).length = ps.length := by
  unfold outI asgO keptO
  rw [fill_len, keep_len, who_len]
theorem out_ok (ms : List Int) (ps : List Plc) (os : List Own) : okW ms.length (outI ms ps os) := by
  by_cases hm : 0 < ms.length
  · exact fun o ho => .inr ((asg_main hm (who_ok ms ps os)).all o ho)
  · have e : ms = [] := List.eq_nil_of_length_eq_zero (by omega)
    subst e
    have h := who_ok [] ps os
    show okW 0 (asgO 0 _)
    rw [asg_zero h]; exact h
theorem asgI_len (ms : List Int) (ps : List Plc) (os : List Own) : (asgI ms ps os).length = ps.length := by
  unfold asgI; rw [List.length_zipWith, out_len]; omega
theorem asgI_at {ms : List Int} {ps : List Plc} {os : List Own} {i : Nat} {p : Plc} {o : Option Nat} (hp : ps[i]? = some p) (ho : (outI ms ps os)[i]? = some o) : (asgI ms ps os)[i]? = some (p, idI ms o) := by
  unfold asgI; rw [List.getElem?_zipWith, hp, ho]

/-! ### Who had what, of what was given -/
theorem had_at : ∀ {os : List Own} {i : Nat} {p : Plc} {x : Int}, (os.map (·.1)).Nodup → os[i]? = some (p, x) → hadI os p = x
  | [], _, _, _, _, h => by cases h
  | o :: os, i, p, x, hn, h => by
    rw [List.map_cons, List.nodup_cons] at hn
    unfold hadI
    rw [List.find?_cons]
    cases i with
    | zero => simp at h; subst h; simp
    | succ i =>
      have h' : os[i]? = some (p, x) := by simpa using h
      have hne : o.1 ≠ p := fun e => hn.1 (List.mem_map.2 ⟨_, List.mem_of_getElem? h', e.symm⟩)
      rw [decide_eq_false hne]
      exact had_at hn.2 h'
theorem asgI_places (ms : List Int) (ps : List Plc) (os : List Own) : (asgI ms ps os).map (·.1) = ps := by
  unfold asgI
  rw [List.map_zipWith]
  refine List.ext_getElem? (fun i => ?_)
  rw [List.getElem?_zipWith]
  by_cases hi : i < ps.length
  · obtain ⟨p, hp⟩ := get_some (l := ps) (i := i) hi
    obtain ⟨o, ho⟩ := get_some (l := outI ms ps os) (i := i) (by rw [out_len]; exact hi)
    rw [hp, ho]
  · rw [List.getElem?_eq_none (by omega)]
theorem had_asg {ms : List Int} {ps : List Plc} {os : List Own} (hd : disI ps) {i : Nat} {p : Plc} {o : Option Nat} (hp : ps[i]? = some p) (ho : (outI ms ps os)[i]? = some o) : hadI (asgI ms ps os) p = idI ms o :=
  had_at (by rw [asgI_places]; exact hd.2) (asgI_at hp ho)
theorem who_asg {ms ns : List Int} {ps : List Plc} {os : List Own} (hd : disI ps) {f : Option Nat → Option Nat} (hf : ∀ o, o ∈ outI ms ps os → idxI ns (idI ms o) = f o) : whoI ns ps (asgI ms ps os) = (outI ms ps os).map f := by
  refine List.ext_getElem? (fun i => ?_)
  unfold whoI
  rw [List.getElem?_map, List.getElem?_map]
  by_cases hi : i < ps.length
  · obtain ⟨p, hp⟩ := get_some (l := ps) (i := i) hi
    obtain ⟨o, ho⟩ := get_some (l := outI ms ps os) (i := i) (by rw [out_len]; exact hi)
    rw [hp, ho]
    simp only [Option.map_some]
    rw [had_asg hd hp ho, hf o (List.mem_of_getElem? ho)]
  · rw [List.getElem?_eq_none (by omega), List.getElem?_eq_none (by rw [out_len]; omega)]; rfl
theorem who_again {ms : List Int} {ps : List Plc} {os : List Own} (hr : risI ms) (hd : disI ps) : whoI ms ps (asgI ms ps os) = outI ms ps os := by
  rw [who_asg (f := fun o => o) hd (fun o ho => idx_id hr (out_ok ms ps os o ho))]; exact List.map_id _

/-! ### 16.5: again nothing moves -/
theorem asgI_again {ms : List Int} {ps : List Plc} {os : List Own} (hr : risI ms) (hd : disI ps) : asgI ms ps (asgI ms ps os) = asgI ms ps os := by
  have e : outI ms ps (asgI ms ps os) = outI ms ps os := by
    show asgO ms.length (whoI ms ps (asgI ms ps os)) = _
    rw [who_again hr hd]
    by_cases hm : 0 < ms.length
    · exact asg_again hm (who_ok ms ps os)
    · have e : ms = [] := List.eq_nil_of_length_eq_zero (by omega)
      subst e
      exact asg_zero (out_ok [] ps os)
  show List.zipWith _ _ (outI ms ps (asgI ms ps os)) = _
  rw [e]; rfl
theorem moved_none {ms : List Int} {ps : List Plc} {os : List Own} (hd : disI ps) : movedI (asgI ms ps os) (asgI ms ps os) = [] := by
  unfold movedI
  rw [List.filter_eq_nil_iff.2, List.map_nil]
  intro o ho
  obtain ⟨i, hi, e⟩ := List.mem_iff_getElem.1 ho
  have := had_at (os := asgI ms ps os) (i := i) (p := o.1) (x := o.2) (by rw [asgI_places]; exact hd.2) (by rw [List.getElem?_eq_getElem hi, e])
  simp [this]

/-! ### 16.3, 16.4 -/
theorem asgI_all {ms : List Int} {ps : List Plc} {os : List Own} {i : Nat} {p : Plc} (hp : ps[i]? = some p) :
    ∃ x, (asgI ms ps os)[i]? = some (p, x) ∧ (0 < ms.length → x ∈ ms) ∧ (ms.length = 0 → x = -1) := by
  obtain ⟨o, ho⟩ := get_some (l := outI ms ps os) (i := i) (by rw [out_len]; exact (List.getElem?_eq_some_iff.1 hp).1)
  refine ⟨_, asgI_at hp ho, fun hm => ?_, fun hm => ?_⟩
  · obtain ⟨k, hk, rfl⟩ := (asg_main hm (who_ok ms ps os)).all o (List.mem_of_getElem? ho)
    rw [idI_at hk]; exact List.getElem_mem hk
  · rcases out_ok ms ps os o (List.mem_of_getElem? ho) with rfl | ⟨k, hk, _⟩
    · rfl
    · omega
theorem of_cnt {ms : List Int} (hr : risI ms) {k : Nat} (hk : k < ms.length) : ∀ (ps : List Plc) (out : List (Option Nat)), okW ms.length out → ps.length = out.length →
    (ofI (List.zipWith (fun p o => (p, idI ms o)) ps out) ms[k]).length = cntO out k
  | [], [], _, _ => rfl
  | [], _ :: _, _, h => by simp at h
  | _ :: _, [], _, h => by simp at h
  | p :: ps, o :: out, ho, hl => by
    have ih := of_cnt hr hk ps out (okW_tail ho) (by simpa using hl)
    unfold ofI at ih ⊢
    rw [List.length_map] at ih ⊢
    rw [List.zipWith_cons_cons, List.filter_cons, cntO_cons]
    have hiff : idI ms o = ms[k] ↔ o = some k := by
      constructor
      · intro e
        rw [← idx_id hr (ho o (List.mem_cons_self ..)), e]; exact (idx_iff hr.2.2 hk).2 rfl
      · rintro rfl; exact idI_at hk
    by_cases h : o = some k
    · rw [if_pos (by simpa using hiff.2 h), if_pos h, List.length_cons, ih]; omega
    · rw [if_neg (by simpa using fun e => h (hiff.1 e)), if_neg h, ih]; omega
/-- What a member has. -/
theorem of_asg {ms : List Int} {ps : List Plc} {os : List Own} (hr : risI ms) {k : Nat} (hk : k < ms.length) : (ofI (asgI ms ps os) ms[k]).length = quoO ms.length (whoI ms ps os) k := by
  rw [← (asg_main (by omega) (who_ok ms ps os)).cnt k hk]
  exact of_cnt hr hk ps _ (out_ok ms ps os) (by rw [out_len])
theorem of_even {ms : List Int} {ps : List Plc} {os : List Own} (hr : risI ms) {k : Nat} (hk : k < ms.length) : ps.length / ms.length ≤ (ofI (asgI ms ps os) ms[k]).length ∧ (ofI (asgI ms ps os) ms[k]).length ≤ ps.length / ms.length + 1 := by
  rw [of_asg hr hk]
  have := quota_ge (whoI ms ps os).length ms.length (cntO (whoI ms ps os)) k
  rw [who_len] at this
  unfold quoO; rw [who_len]; exact this
end Go.Proofs.Ytdlkdagmaeapdaa
