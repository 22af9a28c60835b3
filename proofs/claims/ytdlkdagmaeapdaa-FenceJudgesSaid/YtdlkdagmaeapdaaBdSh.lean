import Derived.Test.YtdlkdagmaeapdaaBdShI
import Derived.RangeFuncNested
import Derived.RangeFuncBound
import Derived.RangeFuncCalls
import Derived.RangeFuncLeaves
import Derived.RangeFuncBox
import Derived.Shelf.Abstract
import Derived.OwnWalkIn
import Derived.TacticsInMore
import Derived.LoopNIn
import Derived.LoopIn
import Derived.Test.YtdlkdagmaeapdaaBdIter
import Derived.Deep.RegionHeld3
import Derived.Test.YtdlkdagmaeapdaaRowsT
import Derived.Maps.OwnIn
import Derived.Deep.DeepCutAuto
import Derived.Scope

/- Owners that are the first to tell of their places; how often a place is told of. No condition. -/
namespace Go.Proofs.Ytdlkdagmaeapdaa
open Go.RowKit
set_option linter.unusedVariables false

/-- How often a place stands in a list. -/
def timP (l : List Plc) (p : Plc) : Nat := (l.filter (fun q => decide (q = p))).length
theorem timP_snoc (l : List Plc) (q p : Plc) : timP (l ++ [q]) p = timP l p + if p = q then 1 else 0 := by
  unfold timP
  rw [List.filter_append, List.length_append, List.filter_cons, List.filter_nil]
  by_cases h : p = q
  · rw [if_pos h, if_pos (by simpa using h.symm)]; rfl
  · rw [if_neg h, if_neg (by simpa using fun e => h e.symm)]; rfl
theorem timP_zero {l : List Plc} {p : Plc} : timP l p = 0 ↔ p ∉ l := by
  unfold timP
  rw [List.length_eq_zero_iff, List.filter_eq_nil_iff]
  simp only [decide_eq_true_eq]
  exact ⟨fun h hm => h p hm rfl, fun h q hq e => h (e ▸ hq)⟩
theorem timP_le (l : List Plc) (p : Plc) : timP l p ≤ l.length := List.length_filter_le _ _
/-- What the map of times holds. -/
def tmsP (l : List Plc) (p : Plc) : Option Int := if timP l p = 0 then none else some ((timP l p : Nat) : Int)
theorem tmsP_get (l : List Plc) (p : Plc) : (tmsP l p).getD 0 = ((timP l p : Nat) : Int) := by
  unfold tmsP
  split
  · rename_i h; rw [h]; rfl
  · rfl
theorem tmsP_snoc (l : List Plc) (q c : Plc) : (if c = q then some (((timP l q : Nat) : Int) + 1) else tmsP l c) = tmsP (l ++ [q]) c := by
  unfold tmsP
  rw [timP_snoc]
  by_cases h : c = q
  · subst h
    rw [if_pos rfl, if_pos rfl, if_neg (by omega)]; rfl
  · rw [if_neg h, if_neg h, Nat.add_zero]
theorem tmsP_nil (p : Plc) : none = tmsP [] p := rfl

/-- The owners that are the first to tell of their places. -/
def frsG : List Plc → List Own → List Own
  | _, [] => []
  | s, o :: r => if o.1 ∈ s then frsG s r else o :: frsG (o.1 :: s) r
def frs (os : List Own) : List Own := frsG [] os
theorem frsG_snoc (o : Own) : ∀ (l : List Own) (s : List Plc), frsG s (l ++ [o]) = frsG s l ++ (if o.1 ∈ s ∨ o.1 ∈ l.map (·.1) then [] else [o])
  | [], s => by
    have e0 : frsG s [o] = if o.1 ∈ s then [] else [o] := by
      show (if o.1 ∈ s then frsG s [] else o :: frsG (o.1 :: s) []) = _
      rfl
    rw [List.nil_append, e0]
    by_cases h : o.1 ∈ s
    · rw [if_pos h, if_pos (.inl h)]; rfl
    · rw [if_neg h, if_neg (by rintro (h1 | h1); exact h h1; cases h1)]; rfl
  | x :: l, s => by
    rw [List.cons_append, frsG, frsG]
    by_cases h : x.1 ∈ s
    · rw [if_pos h, if_pos h, frsG_snoc o l s]
      congr 1
      by_cases h1 : o.1 ∈ s
      · rw [if_pos (.inl h1), if_pos (.inl h1)]
      · by_cases h2 : o.1 ∈ l.map (·.1)
        · rw [if_pos (.inr h2), if_pos (.inr (by rw [List.map_cons]; exact List.mem_cons_of_mem _ h2))]
        · rw [if_neg (fun h3 => h3.elim h1 h2), if_neg (fun h3 => h3.elim h1 (fun h4 => by
            rw [List.map_cons] at h4
            rcases List.mem_cons.1 h4 with h5 | h5
            · exact h1 (h5 ▸ h)
            · exact h2 h5))]
    · rw [if_neg h, if_neg h, frsG_snoc o l _, List.cons_append]
      congr 2
      by_cases h1 : o.1 ∈ x.1 :: s ∨ o.1 ∈ l.map (·.1)
      · rw [if_pos h1, if_pos]
        rw [List.map_cons]
        rcases h1 with h1 | h1
        · rcases List.mem_cons.1 h1 with h2 | h2
          · exact .inr (h2 ▸ List.mem_cons_self ..)
          · exact .inl h2
        · exact .inr (List.mem_cons_of_mem _ h1)
      · rw [if_neg h1, if_neg]
        rw [List.map_cons]
        rintro (h2 | h2)
        · exact h1 (.inl (List.mem_cons_of_mem _ h2))
        · rcases List.mem_cons.1 h2 with h3 | h3
          · exact h1 (.inl (h3 ▸ List.mem_cons_self ..))
          · exact h1 (.inr h3)
theorem frsG_app (m : List Own) : ∀ (l : List Own) (s : List Plc), ∃ r, frsG s (l ++ m) = frsG s l ++ r
  | [], s => ⟨_, rfl⟩
  | x :: l, s => by
    rw [List.cons_append, frsG, frsG]
    split
    · exact frsG_app m l s
    · obtain ⟨r, hr⟩ := frsG_app m l (x.1 :: s)
      exact ⟨r, by rw [hr]; rfl⟩
theorem frs_step {os : List Own} {k : Nat} {o : Own} (h : os[k]? = some o) : frs (os.take (k + 1)) = frs (os.take k) ++ if timP ((os.take k).map (·.1)) o.1 = 0 then [o] else [] := by
  have e : os.take (k + 1) = os.take k ++ [o] := by rw [List.take_add_one, h]; rfl
  unfold frs
  rw [e, frsG_snoc]
  congr 1
  by_cases hc : timP ((os.take k).map (·.1)) o.1 = 0
  · rw [if_pos hc, if_neg]
    rintro (h1 | h1)
    · cases h1
    · exact timP_zero.1 hc h1
  · rw [if_neg hc, if_pos (.inr (Classical.byContradiction fun h1 => hc (timP_zero.2 h1)))]
theorem frs_get {os : List Own} {k : Nat} {o : Own} (h : os[k]? = some o) (hc : timP ((os.take k).map (·.1)) o.1 = 0) : (frs os)[(frs (os.take k)).length]? = some o := by
  obtain ⟨r, hr⟩ := frsG_app (os.drop (k + 1)) (os.take (k + 1)) []
  rw [List.take_append_drop] at hr
  unfold frs
  rw [hr]
  have := frs_step h
  rw [if_pos hc] at this
  unfold frs at this
  rw [this, List.append_assoc, List.getElem?_append_right (Nat.le_refl _), Nat.sub_self]; rfl
theorem frs_nodup : ∀ {os : List Own} {s : List Plc}, (os.map (·.1)).Nodup → (∀ o ∈ os, o.1 ∉ s) → frsG s os = os
  | [], _, _, _ => rfl
  | o :: r, s, hn, hs => by
    rw [List.map_cons, List.nodup_cons] at hn
    rw [frsG, if_neg (hs o (List.mem_cons_self ..)), frs_nodup hn.2 (fun x hx hm => by
      rcases List.mem_cons.1 hm with h | h
      · exact hn.1 (List.mem_map.2 ⟨x, hx, h⟩)
      · exact hs x (List.mem_cons_of_mem _ hx) h)]
theorem frs_all {os : List Own} (h : (os.map (·.1)).Nodup) : frs os = os := frs_nodup h (fun _ _ h => by cases h)

/-- What the map of owners by places holds. -/
def whoF (l : List Own) (p : Plc) : Option Int := (l.find? (fun o => decide (o.1 = p))).map (·.2)
theorem whoF_had (l : List Own) (p : Plc) : (match whoF l p with | some x => x | none => -1) = hadI l p := by
  unfold whoF hadI
  cases l.find? (fun o => decide (o.1 = p)) <;> rfl
theorem find_frsG (p : Plc) : ∀ (l : List Own) (s : List Plc), p ∉ s → (frsG s l).find? (fun o => decide (o.1 = p)) = l.find? (fun o => decide (o.1 = p))
  | [], _, _ => rfl
  | o :: r, s, hp => by
    rw [frsG, List.find?_cons]
    by_cases h : o.1 ∈ s
    · rw [if_pos h, decide_eq_false (fun e : o.1 = p => hp (e ▸ h))]; exact find_frsG p r s hp
    · rw [if_neg h, List.find?_cons]
      by_cases e : o.1 = p
      · rw [decide_eq_true e]
      · rw [decide_eq_false e]
        exact find_frsG p r _ (fun hm => by
          rcases List.mem_cons.1 hm with h1 | h1
          · exact e h1.symm
          · exact hp h1)
theorem whoF_frs (l : List Own) (p : Plc) : whoF (frs l) p = whoF l p := by unfold whoF frs; rw [find_frsG p l [] (by simp)]
theorem frsG_nodup : ∀ (l : List Own) (s : List Plc), ((frsG s l).map (·.1)).Nodup ∧ ∀ o ∈ frsG s l, o.1 ∉ s
  | [], _ => ⟨List.nodup_nil, fun _ h => by cases h⟩
  | o :: r, s => by
    rw [frsG]
    by_cases h : o.1 ∈ s
    · rw [if_pos h]; exact frsG_nodup r s
    · rw [if_neg h]
      obtain ⟨h1, h2⟩ := frsG_nodup r (o.1 :: s)
      refine ⟨?_, fun x hx => ?_⟩
      · rw [List.map_cons, List.nodup_cons]
        refine ⟨fun hm => ?_, h1⟩
        obtain ⟨x, hx, e⟩ := List.mem_map.1 hm
        exact h2 x hx (e ▸ List.mem_cons_self ..)
      · rcases List.mem_cons.1 hx with rfl | hx
        · exact h
        · exact fun hm => h2 x hx (List.mem_cons_of_mem _ hm)
theorem whoF_snoc {l : List Own} {o : Own} (h : o.1 ∉ l.map (·.1)) (c : Plc) : (if c = o.1 then some o.2 else whoF l c) = whoF (l ++ [o]) c := by
  unfold whoF
  rw [List.find?_append]
  by_cases e : c = o.1
  · subst e
    have hn : l.find? (fun x => decide (x.1 = o.1)) = none := List.find?_eq_none.2 (fun x hx => by simpa using fun e => h (List.mem_map.2 ⟨x, hx, e⟩))
    rw [if_pos rfl, hn]
    simp
  · rw [if_neg e]
    cases l.find? (fun x => decide (x.1 = c)) with
    | some x => rfl
    | none => simp; exact fun e1 => e e1.symm
theorem frs_len (os : List Own) : ∀ s, (frsG s os).length ≤ os.length := by
  induction os with
  | nil => intro s; exact Nat.le_refl _
  | cons o r ih =>
    intro s
    rw [frsG]
    split
    · have := ih s; rw [List.length_cons]; omega
    · have := ih (o.1 :: s); rw [List.length_cons, List.length_cons]; omega
end Go.Proofs.Ytdlkdagmaeapdaa

/- The iterator of package share goes through the owners that are the first to tell of their places. No condition. -/
namespace Go.Proofs.Ytdlkdagmaeapdaa
open Go.RowKit Go.Shelf
attribute [local go_sem] Oper.semAt_some
set_option linter.unusedVariables false
set_option linter.unusedSimpArgs false
set_option maxRecDepth 100000

/-- Owners that can be read. -/
def readO (ao : Option Addr) (l : List Own) : Thing where
  at_ w W := OwAt w ao l ∧ ∀ k, W k ↔ l ≠ [] ∧ ∃ x, ao = some x ∧ x.block = k
  lt := by
    rintro w W ⟨h, hW⟩ k hk
    obtain ⟨hl, x, hx, rfl⟩ := (hW k).1 hk
    cases l with
    | nil => exact absurd rfl hl
    | cons y l =>
      obtain ⟨b, o, e, hc⟩ := h 0 y rfl
      rw [hx] at e
      obtain rfl := Option.some.inj e
      exact cell_lt (hc 0 _ rfl)
  keep := by
    rintro w w' W S ⟨h, hW⟩ ht hs
    refine ⟨fun i x hx => ?_, hW⟩
    obtain ⟨b, o, rfl, hc⟩ := h i x hx
    refine ⟨b, o, rfl, fun j v hv => ?_⟩
    have hl : l ≠ [] := fun e => by rw [e] at hx; cases hx
    rw [ht.cell (p := ⟨b, o + (i * 3 + j), none⟩) (cell_lt (hc j v hv)) (hs b ((hW b).2 ⟨hl, _, rfl, rfl⟩))]
    exact hc j v hv

/-- A map as a thing. -/
def mapT {κ : Type} [DecidableEq κ] (kv : κ → Value) (b : Nat) (f : κ → Option Int) : Thing where
  at_ w W := MapF kv w b f ∧ ∀ k, W k ↔ k = b
  lt := by
    rintro w W ⟨h, hW⟩ k hk
    obtain rfl := (hW k).1 hk
    exact h.lt
  keep := by
    rintro w w' W S ⟨h, hW⟩ ht hs
    exact ⟨h.keep ht (hs b ((hW b).2 rfl)), hW⟩

theorem shcount_any (ao : Option Addr) (n c : Nat) (w : World) : Calls Try.prog 99 #[.slice ao n c] w fun e w' => e = .returned (.func (.func 108) #[] #[.pointer (some ⟨w.heap.size, 0, none⟩)]) ∧
    w' = w.alloc (.cells #[.slice ao n c] 65) := by
  go_enter Try.func99, Try.ntmps99
  go_wp2
  go_ret
  exact ⟨rfl, rfl⟩

abbrev encO16 (x : Own) : Array Value := #[.agg #[.int .i64 x.1.1, .int .i64 x.1.2, .int .i64 x.2]]
/-- What the iterator reads: the owners, and the box that holds where they lie. -/
abbrev evO (B : Nat) (ao : Option Addr) (n c : Nat) (l : List Own) : Thing := (blkT B [.slice ao n c] 65).with_ (readO ao l)
theorem evO_new {ao : Option Addr} {n c : Nat} {l : List Own} {w : World} (h : OwAt w ao l) : (evO w.heap.size ao n c l).at_ (w.alloc (.cells #[.slice ao n c] 65)) (fun k => k = w.heap.size ∨ (l ≠ [] ∧ ∃ x, ao = some x ∧ x.block = k)) :=
  with_at (W1 := (· = w.heap.size)) ⟨Blk.new w [.slice ao n c] 65, fun _ => Iff.rfl⟩ ((readO ao l).keep (W := fun k => l ≠ [] ∧ ∃ x, ao = some x ∧ x.block = k) ⟨h, fun _ => Iff.rfl⟩ ((Turned.refl _ _).alloc _) (fun _ _ h => h))
theorem own_lt {w : World} {ao : Option Addr} {l : List Own} (h : OwAt w ao l) {k : Nat} (hk : l ≠ [] ∧ ∃ x, ao = some x ∧ x.block = k) : k < w.heap.size :=
  (readO ao l).lt (W := fun k => l ≠ [] ∧ ∃ x, ao = some x ∧ x.block = k) ⟨h, fun _ => Iff.rfl⟩ k hk

set_option maxHeartbeats 4000000 in
theorem shcount_it (ao : Option Addr) (n c : Nat) (os : List Own) (hn : n = os.length) (hn1 : n ≤ 1000) (B : Nat) :
    IterS 108 #[.pointer (some ⟨B, 0, none⟩)] encO16 (frs os) (evO B ao n c os) := by
  intro y J Jx W Q S hR h0 hd hY
  have HX := Lib.hid (fun V (h : ∃ Q', Since Q W Q' V) => show V.cell? ⟨B, 0, none⟩ = some (.slice ao n c) ∧ OwAt V ao os from by
    obtain ⟨Q', hs⟩ := h
    obtain ⟨U1, U2, ⟨u1, _⟩, ⟨u2, _⟩, _⟩ := (hs.stays (A := evO B ao n c os) hR hd).1
    exact ⟨u1.cell rfl, u2⟩)
  have HY := Lib.hid (fun k z W1 Q1 (hz : (frs os)[k]? = some z) (h1 : (J k).at_ W1 Q1) (h2 : Since Q W Q1 W1) => YieldAt.any 8 (hY k z W1 Q1 hz h1 h2))
  have HN := Lib.hid hn
  have HLt := Lib.hid ((J 0).lt h0)
  have hmk := MapF.made (kv := plV) W
  obtain ⟨mb, hmb⟩ : ∃ mb, mb = W.heap.size := ⟨_, rfl⟩
  have HM0 := Lib.hid (show MapF plV (W.alloc (.map #[] 0)) mb (tmsP (((os.take 0)).map (·.1))) from by rw [hmb]; exact hmk.congr (fun _ => rfl))
  have H0 := Lib.hid (show (J (frs (os.take 0)).length).at_ (W.alloc (.map #[] 0)) Q ∧ Since Q W Q (W.alloc (.map #[] 0)) ∧ ¬ Q mb from
    ⟨(J 0).keep h0 ((Turned.refl _ W).alloc _) (fun _ _ h => h), ⟨((Turned.refl _ W).alloc _), fun _ h => .inl h⟩, fun h => by have := HLt.out _ h; omega⟩)
  have HAll := Lib.hid (show os.take n = os from by rw [hn, List.take_length])
  have HMB := Lib.hid (show W.heap.size ≤ mb from by omega)
  have hmm : (Instr.makeMap 113 none).run Try.prog W = .ok (.map (some mb)) (W.alloc (.map #[] 0)) := by rw [hmb]; exact run_makeMap 113 W
  obtain ⟨e1, _⟩ := HX.out _ ⟨Q, H0.out.2.1⟩
  have hro : Fence.wide.round = none := rfl
  clear hR h0 hd hY hn hmk
  refine (callsIn_wide (n := 9)).1 (callsIn_of_wp Try.func108 rfl trivial ?_ rfl)
  simp only [Try.ntmps108, List.size_toArray, List.length_cons, List.length_nil, Nat.reduceAdd, Nat.reduceSub, Array.replicate_succ, Array.replicate_zero, List.push_toArray, List.append_toArray, List.nil_append, List.cons_append]
  clear hmb
  gi_wp2
  clear hmm
  gi_loopw [9] (fun i wr => ∃ (k : Nat) (Q' : Nat → Prop), k ≤ n ∧ i = .int .i64 k ∧ (J (frs (os.take k)).length).at_ wr Q' ∧ Since Q W Q' wr ∧ ¬ Q' mb ∧ MapF plV wr mb (tmsP ((os.take k).map (·.1)))) (fun i _ => n - (intOf i).toNat)
  case atStart => exact ⟨0, Q, Nat.zero_le _, rfl, H0.out.1, H0.out.2.1, H0.out.2.2, HM0.out⟩
  case round =>
    clear e1
    obtain ⟨k, Q', hk, rfl, hJk, hsi, hqm, hmp⟩ := hrel
    by_cases hlt : k < n
    · obtain ⟨⟨⟨p1, p2⟩, x⟩, hx⟩ := get_some (l := os) (i := k) (by rw [← HN.out]; exact hlt)
      obtain ⟨b, o, rfl, hc⟩ := (HX.out wr ⟨Q', hsi⟩).2 k _ hx
      have c0 : wr.cell? ⟨b, o + k * 3, none⟩ = some (.int .i64 p1) := hc 0 _ rfl
      have c1 : wr.cell? ⟨b, o + k * 3 + 1, none⟩ = some (.int .i64 p2) := by rw [Nat.add_assoc]; exact hc 1 _ rfl
      have c2 : wr.cell? ⟨b, o + k * 3 + 2, none⟩ = some (.int .i64 x) := by rw [Nat.add_assoc]; exact hc 2 _ rfl
      have hki : (k : Int) < (n : Int) := by omega
      obtain ⟨m, hm⟩ : ∃ m, m = timP ((os.take k).map (·.1)) (p1, p2) := ⟨_, rfl⟩
      have hm1 : m ≤ 1000 := by
        rw [hm]
        refine Nat.le_trans (timP_le _ _) ?_
        rw [List.length_map, List.length_take]; omega
      have hz0 : mb < wr.heap.size := hmp.lt
      obtain ⟨U, hU⟩ : ∃ U, U = (wr.alloc (.cells #[.int .i64 p1, .int .i64 p2, .int .i64 x] 99)).drew := ⟨_, rfl⟩
      have hsU : Still wr U := by rw [hU]; exact ((Turned.refl _ _).alloc _).drew
      have hb0 : Blk U wr.heap.size [.int .i64 p1, .int .i64 p2, .int .i64 x] 99 := by rw [hU]; exact (Blk.new wr _ _).turned (S := fun _ => False) ((Turned.refl _ _).drew) (fun h => h)
      have hmU := hmp.keep hsU (fun h => h)
      have hwr : IntKind.i64.wrap (((m : Nat) : Int) + 1) = ((m : Nat) : Int) + 1 := by simp [IntKind.wrap, IntKind.signed, IntKind.bits]; omega
      obtain ⟨U1, U2, st, hE, hm2, ht2, hS, hm3, ht3⟩ := MapF.entry keysPl hmU (p1, p2) (((m : Nat) : Int) + 1)
      rw [tmsP_get, ← hm] at hE hm2
      have hL0 := MapF.look keysPl hmU (p1, p2) false
      have hL1 := MapF.look keysPl hm2 (p1, p2) false
      have hL2 := MapF.look keysPl hm3 (p1, p2) false
      rw [tmsP_get, ← hm] at hL0
      simp only [if_true, Option.getD_some, plV] at hE hL0 hL1 hL2
      rw [if_neg Bool.false_ne_true] at hL0 hL1 hL2
      have hb1 := hb0.turned ht2 (by omega)
      have hb2 := hb1.turned ht3 (by omega)
      have c10 := hb1.cell (o := 0) rfl
      have c11 := hb1.cell (o := 1) rfl
      have c20 := hb2.cell (o := 0) rfl
      have c21 := hb2.cell (o := 1) rfl
      have c22 := hb2.cell (o := 2) rfl
      have HM3 := Lib.hid (show MapF plV U2 mb (tmsP ((os.take (k + 1)).map (·.1))) from by
        have e : (os.take (k + 1)).map (·.1) = (os.take k).map (·.1) ++ [(p1, p2)] := by rw [List.take_add_one, hx]; simp
        rw [e]
        exact hm3.congr (fun c => by rw [← tmsP_snoc, ← hm]))
      have HT := Lib.hid (show Turned (· = mb) wr U2 from (hsU.mono (fun _ _ h => h.elim)).trans (ht2.trans ht3))
      have HJ2 := Lib.hid (show (J (frs (os.take k)).length).at_ U2 Q' ∧ Since Q W Q' U2 from by
        have hT := HT.out
        refine ⟨(J _).keep hJk hT (fun j hj e => hqm (e ▸ hj)), ⟨hsi.turn.past hT (fun i e => .inr (by rw [e]; exact HMB.out)), hsi.grow⟩⟩)
      have HSt := Lib.hid (frs_step hx)
      have HG := Lib.hid (fun h => frs_get hx h)
      rw [← hm] at HSt HG
      have HQ := Lib.hid hqm
      have HU2 := Lib.hid (show mb < U2.heap.size from hm3.lt)
      rw [hU] at hE hL0
      clear hx hc hm hJk hsi hqm hmp hmU hm2 hm3 ht2 ht3 hb0 hb1 hb2 hsU hU
      gi_wp2
      refine wpIn_wide.2 ?_
      go_region
      clear hE hS hL0 hL1 c10 c11
      by_cases h0 : m = 0
      · subst h0
        have hg := HG.out rfl
        have hst := HSt.out
        rw [if_pos rfl] at hst
        have HNk := Lib.hid (show (frs (os.take (k + 1))).length = (frs (os.take k)).length + 1 from by rw [hst, List.length_append]; rfl)
        have HLt2 := Lib.hid (show (frs (os.take k)).length < (frs os).length from (List.getElem?_eq_some_iff.1 hg).1)
        obtain ⟨fn6, tm6, as6, bd6, hyy, hRo⟩ := HY.out _ _ U2 Q' hg HJ2.out.1 HJ2.out.2
        have HRo := Lib.hid hRo
        dsimp only [encO16] at hyy
        clear hRo hg hst HSt HG
        gi_wp2
        refine (RoundIn.any _ HRo.out).mono ?_
        rintro e W3 (⟨rfl, Q3, hJ3, hT3, hG3⟩ | ⟨rfl, hg3⟩)
        · have HM4 := Lib.hid (HM3.out.keep hT3 HQ.out)
          gi_wp2
          go_roundw
          case rel => exact ⟨k + 1, Q3, by omega, by go_num, by rw [HNk.out]; exact hJ3, HJ2.out.2.trans ⟨hT3, hG3⟩, fun h => by
            rcases hG3 _ h with h1 | h1
            · exact HQ.out h1
            · have := HU2.out; omega, HM4.out⟩
          case measure => simp [intOf]; omega
        · have HEnd := Lib.hid (show ∃ k, k < (frs os).length ∧ Goes (Jx k) Q W W3 from by
            refine ⟨_, HLt2.out, ?_⟩
            obtain ⟨Q3, h1, h2⟩ := hg3.since
            exact (HJ2.out.2.trans h2).goes h1)
          clear hg3
          gi_wp2
          refine bodyPost_ret (results_none rfl _ _ _) rfl ?_
          exact ⟨⟨_, rfl⟩, .inr HEnd.out⟩
      · have hm1' : ((((m : Nat) : Int) + 1) == 1) = false := by rw [beq_eq_false_iff_ne]; omega
        have hst := HSt.out
        rw [if_neg h0, List.append_nil] at hst
        have HNk := Lib.hid hst
        clear hst HSt HG
        gi_wp2
        refine ⟨fun f h => (by cases h), ?_⟩
        gi_wp2
        go_roundw
        case rel => exact ⟨k + 1, Q', by omega, by go_num, by rw [HNk.out]; exact HJ2.out.1, HJ2.out.2, HQ.out, HM3.out⟩
        case measure => simp [intOf]; omega
    · obtain rfl : k = n := by omega
      have HEnd := Lib.hid (show Goes (J (frs os).length) Q W wr from by
        have := hsi.goes hJk
        rwa [HAll.out] at this)
      clear hJk hsi hqm hmp
      gi_wp2
      go_end0
      exact ⟨⟨_, rfl⟩, .inl HEnd.out⟩
end Go.Proofs.Ytdlkdagmaeapdaa

/- Places in a box of one's own, one more and one more. No condition. -/
namespace Go.Proofs.Ytdlkdagmaeapdaa
open Go.RowKit
set_option linter.unusedVariables false
set_option linter.unusedSimpArgs false
set_option maxRecDepth 100000

theorem infoPlH : (Try.prog.info? 54).map (fun i => (i.zero, i.size, i.bytes)) = some (some (.agg #[.int .i64 0, .int .i64 0]), 2, 16) := by kernel_rfl
/-- Places in a box, made since: the box, and the row. -/
def shHand (b0 B : Nat) (l : List Plc) : Thing where
  at_ w W := ∃ a c, Blk w B [.slice a l.length c] 59 ∧ w.ownsRow b0 54 2 (.slice a l.length c) l.length (rowOf encPl l) ∧ (Value.slice a l.length c).ownBlock ≠ some B ∧ ∀ k, W k ↔ k = B ∨ (Value.slice a l.length c).ownBlock = some k
  lt := by
    rintro w W ⟨a, c, h1, h2, h3, hW⟩ k hk
    rcases (hW k).1 hk with rfl | hk
    · exact h1.lt
    · cases a with
      | none => cases hk
      | some z =>
        have h4 := (ow_lt h2 z rfl).2
        have h5 : z.block = k := by simpa [Value.ownBlock] using hk
        omega
  keep := by
    rintro w w' W S ⟨a, c, h1, h2, h3, hW⟩ ht hs
    exact ⟨a, c, h1.turned ht (hs _ ((hW B).2 (.inl rfl))), ow_turned h2 ht (fun b hb => hs b ((hW b).2 (.inr hb))), h3, hW⟩

/-- A place more. -/
theorem sh_app {b0 B : Nat} {l : List Plc} {V U w6 : World} {Q : Nat → Prop} {a a' : Option Addr} {c n c' : Nat} {x : Plc} (hn : n = l.length) (hB : Blk V B [.slice a n c] 59) (hne : (Value.slice a n c).ownBlock ≠ some B) (hQ : ∀ k, Q k ↔ k = B ∨ (Value.slice a n c).ownBlock = some k)
    (hU : Still V U) (hown : w6.ownsRow b0 54 2 (.slice a' (n + 1) c') (n + 1) (rowOf encPl l ++ encPl x)) (hg : U.grownBy w6 (Value.slice a n c).ownBlock) (hat : (Value.slice a' (n + 1) c').ownBlock = (Value.slice a n c).ownBlock ∨ (Value.slice a' (n + 1) c').ownBlock = some U.heap.size) :
    w6.cell? ⟨B, 0, none⟩ = some (.slice a n c) ∧ w6.frozen? ⟨B, 0, none⟩ = false ∧ Hid (Goes (shHand b0 B (l ++ [x])) Q V (w6.setCell ⟨B, 0, none⟩ (.slice a' (n + 1) c'))) := by
  subst hn
  have hBl := hB.lt
  have hUs := hU.size
  have hT : Turned (fun k => (Value.slice a l.length c).ownBlock = some k) V w6 := (hU.mono (fun _ _ h => h.elim)).grown hg (fun k hk => .inl hk)
  have hB6 : Blk w6 B [.slice a l.length c] 59 := hB.turned hT hne
  have hne' : (Value.slice a' (l.length + 1) c').ownBlock ≠ some B := fun e => by
    rcases hat with h | h
    · exact hne (h ▸ e)
    · rw [h] at e
      have := Option.some.inj e; omega
  refine ⟨hB6.cell rfl, hB6.free _, Lib.hid ?_⟩
  have hT2 : Turned (· = B) w6 (w6.setCell ⟨B, 0, none⟩ (.slice a' (l.length + 1) c')) := turned_set (Turned.refl _ _) 0 _
  have hlen : (l ++ [x]).length = l.length + 1 := by simp
  have hr : (shHand b0 B (l ++ [x])).at_ (w6.setCell ⟨B, 0, none⟩ (.slice a' (l.length + 1) c')) (fun k => k = B ∨ (Value.slice a' (l ++ [x]).length c').ownBlock = some k) := by
    refine ⟨a', c', ?_, ?_, ?_, fun _ => Iff.rfl⟩
    · rw [hlen]; have := hB6.set 0 (.slice a' (l.length + 1) c'); simpa using this
    · rw [hlen, show rowOf encPl (l ++ [x]) = rowOf encPl l ++ encPl x by rw [rowOf_append, rowOf_cons, rowOf_nil, List.append_nil]]
      exact ow_turned hown hT2 (fun b hb e => hne' (e ▸ hb))
    · rw [hlen]; exact hne'
  refine ⟨_, hr, ?_, fun k hk => ?_⟩
  · exact (hT.mono (fun k _ h => (hQ k).2 (.inr h))).trans (hT2.mono (fun k _ h => (hQ k).2 (.inl h)))
  · rcases hk with hk | hk
    · exact .inl ((hQ k).2 (.inl hk))
    · rw [hlen] at hk
      rcases hat with h | h
      · exact .inl ((hQ k).2 (.inr (h ▸ hk)))
      · rw [h] at hk
        have := Option.some.inj hk
        exact .inr (by omega)

end Go.Proofs.Ytdlkdagmaeapdaa

/- The places as nobody's: what the program answers. No condition. -/
namespace Go.Proofs.Ytdlkdagmaeapdaa
open Go.RowKit
set_option linter.unusedVariables false
set_option linter.unusedSimpArgs false
set_option maxRecDepth 100000

/-- Those that are told so far, of owners. -/
def mixO (a b : List Own) (i : Nat) : List Own := a.take i ++ b.drop i
theorem mixO_get {a b : List Own} (h : a.length = b.length) {i j : Nat} (hj : j < b.length) : (mixO a b i)[j]? = if j < i then a[j]? else b[j]? := by
  unfold mixO
  by_cases hji : j < i
  · rw [if_pos hji, List.getElem?_append_left (by rw [List.length_take]; omega), List.getElem?_take, if_pos hji]
  · rw [if_neg hji, List.getElem?_append_right (by rw [List.length_take]; omega), List.getElem?_drop]
    congr 1
    rw [List.length_take]; omega
theorem mixO_len {a b : List Own} (h : a.length = b.length) (i : Nat) : (mixO a b i).length = b.length := by
  unfold mixO; rw [List.length_append, List.length_take, List.length_drop]; omega
theorem mixO_set {a b : List Own} (h : a.length = b.length) {i : Nat} {x : Own} (hx : a[i]? = some x) : (mixO a b i).set i x = mixO a b (i + 1) := by
  have hi := (List.getElem?_eq_some_iff.1 hx).1
  apply List.ext_getElem?
  intro j
  by_cases hj : j < b.length
  · rw [mixO_get h hj]
    by_cases hji : j = i
    · subst hji
      rw [List.getElem?_set_self (by rw [mixO_len h]; omega), if_pos (by omega), hx]
    · rw [List.getElem?_set_ne (fun e => hji e.symm), mixO_get h hj]
      by_cases h1 : j < i
      · rw [if_pos h1, if_pos (by omega)]
      · rw [if_neg h1, if_neg (by omega)]
  · rw [List.getElem?_eq_none (by rw [List.length_set, mixO_len h]; omega), List.getElem?_eq_none (by rw [mixO_len h]; omega)]
theorem mixO_zero (a b : List Own) : mixO a b 0 = b := by unfold mixO; simp
theorem mixO_all {a b : List Own} (h : a.length = b.length) : mixO a b b.length = a := by unfold mixO; rw [List.take_of_length_le (by omega), List.drop_length, List.append_nil]

set_option maxHeartbeats 2000000 in
theorem shfree_any (w : World) (bo : Option Addr) (ps : List Plc) (n c1 : Nat) (hn : n = ps.length) (h1 : n ≤ 1000) (hB : PlAt w bo ps) :
    Calls Try.prog 80 #[.slice bo n c1] w (OutRow encOw 3 99 w (oL ps (List.replicate n (-1))) n) := by
  have HB := Lib.hid hB
  have HN := Lib.hid hn
  obtain ⟨Z, hZ⟩ : ∃ Z : List Own, Z = List.replicate n ((0, 0), 0) := ⟨_, rfl⟩
  obtain ⟨L, hL⟩ : ∃ L, L = oL ps (List.replicate n (-1)) := ⟨_, rfl⟩
  have hZl : Z.length = n := by rw [hZ, List.length_replicate]
  have HLl := Lib.hid (show L.length = Z.length from by rw [hL, oL_len (by rw [List.length_replicate, hn]), hZl, hn])
  have HLg := Lib.hid (fun (i : Nat) (p : Plc) (hp : ps[i]? = some p) => show L[i]? = some (p, -1) from by
    rw [hL]; exact oL_get hp (by rw [List.getElem?_replicate, if_pos (by rw [hn]; exact (List.getElem?_eq_some_iff.1 hp).1)]))
  have HZl := Lib.hid hZl
  rw [← hL]
  obtain ⟨ti, fi, hz0, hz1, hz2⟩ := info_parts infoOw17
  have hmk := fun W : World => run_make (P := Try.prog) W 65 99 ti _ Try.underlying65 fi hz0 .i64 .i64 (n : Int) (n : Int) (Int.natCast_nonneg n) (Int.le_refl _) (by rw [hz2]; omega) (by omega)
  simp only [hz1, Int.toNat_natCast, show Value.cells (.agg #[.int .i64 0, .int .i64 0, .int .i64 0]) = #[.int .i64 0, .int .i64 0, .int .i64 0] from rfl, madeO] at hmk
  rw [← hZ] at hmk
  have K0 := Lib.hid (lit_heldO (Held.start (Turned.refl _ w)) (l := Z) (n := n) hZl.symm (by omega)).swap
  obtain ⟨g, hg⟩ : ∃ g, g = w.heap.size := ⟨_, rfl⟩
  have K1 := Lib.hid (show Held w (w.alloc (.cells (rowOf encOw Z).toArray 99)) ((ownsT (some ⟨g, 0, none⟩) n n (mixO L Z 0)).sep Thing.none) from by
    rw [mixO_zero, hg]; exact K0.out)
  have hmk0 := hmk w
  rw [← hg] at hmk0
  clear hmk hg
  clear hB hn hL fi hz0 hz1 hz2 hZ hZl K0
  go_enter Try.func80, Try.ntmps80
  go_wp2_with fail
  go_loopw [11] (fun ix wq => ∃ i : Nat, i ≤ n ∧ ix = .int .i64 i ∧ Held w wq ((ownsT (some ⟨g, 0, none⟩) n n (mixO L Z i)).sep Thing.none)) (fun ix _ => n - (intOf ix).toNat)
  case atStart => exact ⟨0, Nat.zero_le _, rfl, K1.out⟩
  case round =>
    clear K1
    obtain ⟨i, hi, rfl, hH⟩ := hrel
    by_cases hlt : i < n
    · obtain ⟨⟨pf, pt⟩, hp⟩ := get_some (l := ps) (i := i) (by rw [← HN.out]; exact hlt)
      obtain ⟨bp, op, rfl, hc⟩ := row_still HB.out hH.ground i _ hp
      have c0 : wr.cell? ⟨bp, op + i * 2, none⟩ = some (.int .i64 pf) := hc 0 _ rfl
      have c1' : wr.cell? ⟨bp, op + i * 2 + 1, none⟩ = some (.int .i64 pt) := by rw [Nat.add_assoc]; exact hc 1 _ rfl
      have hx := HLg.out i _ hp
      have hii : (i : Int) < (n : Int) := by omega
      have hz := get_some (l := mixO L Z i) (i := i) (by rw [mixO_len HLl.out, HZl.out]; exact hlt)
      obtain ⟨zz, hz⟩ := hz
      have hHU := hH.still ((Turned.refl (fun _ => False) wr).alloc (.cells #[.int .i64 pf, .int .i64 pt] 54))
      obtain ⟨⟨u1, d1⟩, d2, ⟨u2, d3⟩, d4, ⟨u3, d5⟩, d6, d7⟩ := held_put3 hHU hz pf pt (-1)
      rw [mixO_set HLl.out hx] at d7
      have K2 := Lib.hid d7
      clear hH hHU hz d7 hx hp hc
      go_wp2_with fail
      go_roundw
      case rel => exact ⟨i + 1, by omega, by go_num, K2.out⟩
      case measure => simp [intOf]; omega
    · obtain rfl : i = n := by omega
      have hf := mixO_all HLl.out
      rw [HZl.out] at hf
      rw [hf] at hH
      have K2 := Lib.hid (ow_raise hH.drop)
      clear hH
      go_wp2_with fail
      go_ret
      exact ⟨_, _, rfl, K2.out⟩
end Go.Proofs.Ytdlkdagmaeapdaa

/- Owners by their places: the map that the program makes of them. No condition. -/
namespace Go.Proofs.Ytdlkdagmaeapdaa
open Go.RowKit Go.Shelf
attribute [local go_sem] Oper.semAt_some
set_option linter.unusedVariables false
set_option linter.unusedSimpArgs false
set_option maxRecDepth 100000

/-- A map of one's own, and the box that holds it. -/
abbrev boxM {κ : Type} [DecidableEq κ] (kv : κ → Value) (t : TypeId) (B b : Nat) (f : κ → Option Int) : Thing := (blkT B [.map (some b)] t).sep (mapT kv b f)

set_option maxHeartbeats 4000000 in
theorem shby_any (w : World) (ao : Option Addr) (n c : Nat) (os : List Own) (hn : n = os.length) (hn1 : n ≤ 1000) (h : OwAt w ao os) :
    Calls Try.prog 91 #[.slice ao n c] w fun e w' => ∃ mb, e = .returned (.map (some mb)) ∧ w.heap.size ≤ mb ∧ MapF plV w' mb (whoF os) ∧ Still w w' := by
  obtain ⟨mb, hmb⟩ : ∃ mb, mb = w.heap.size := ⟨_, rfl⟩
  obtain ⟨W1, hW1⟩ : ∃ W1, W1 = (w.alloc (.map #[] 0)).alloc (.cells #[.map (some mb)] 113) := ⟨_, rfl⟩
  have hs1 : Still w W1 := by rw [hW1]; exact ((Turned.refl _ _).alloc _).alloc _
  have hz1 : W1.heap.size = mb + 2 := by rw [hW1, hmb]; simp
  have hm1 : MapF plV W1 mb (whoF ((frs os).take 0)) := by
    have h0 := MapF.made (kv := plV) w
    rw [← hmb] at h0
    rw [hW1]
    exact (h0.keep (S := fun _ => False) ((Turned.refl _ _).alloc _) (fun h => h)).congr (fun _ => rfl)
  have hb1 : Blk W1 (mb + 1) [.map (some mb)] 113 := by
    have := Blk.new (w.alloc (.map #[] 0)) [.map (some mb)] 113
    rw [World.size_alloc, ← hmb] at this
    rw [hW1]; exact this
  have HIt := Lib.hid (shcount_it ao n c os hn hn1 W1.heap.size)
  have HE := Lib.hid (shcount_any ao n c W1)
  have hr1 := row_still h hs1
  have HR := Lib.hid (evO_new (n := n) (c := c) hr1)
  have ht2 : Still W1 (W1.alloc (.cells #[.slice ao n c] 65)) := (Turned.refl _ _).alloc _
  have HB := Lib.hid (show (boxM plV 113 (mb + 1) mb (whoF ((frs os).take 0))).at_ (W1.alloc (.cells #[.slice ao n c] 65)) (fun k => k = mb + 1 ∨ k = mb) from
    ⟨(· = mb + 1), (· = mb), ⟨hb1.turned ht2 (fun h => h), fun _ => Iff.rfl⟩, ⟨hm1.keep ht2 (fun h => h), fun _ => Iff.rfl⟩, fun k e1 e2 => by omega, fun _ => Iff.rfl⟩)
  have HD := Lib.hid (show ∀ k, (k = mb + 1 ∨ k = mb) → ¬ (k = W1.heap.size ∨ (os ≠ [] ∧ ∃ x, ao = some x ∧ x.block = k)) from by
    intro k hk hk2
    rcases hk2 with hk2 | hk2
    · omega
    · have := own_lt h hk2; omega)
  have HSt := Lib.hid (hs1.trans ht2)
  have HF := Lib.hid (show whoF ((frs os).take (frs os).length) = whoF os from by rw [List.take_length]; exact funext (whoF_frs os))
  have HNd := Lib.hid (show ((frs os).map (·.1)).Nodup from (frsG_nodup os []).1)
  have HZ := Lib.hid hz1
  have HMB := Lib.hid hmb
  have hmw : w.heap.size + 1 = mb + 1 := by rw [hmb]
  have hmm : (Instr.makeMap 113 none).run Try.prog w = .ok (.map (some mb)) (w.alloc (.map #[] 0)) := by rw [hmb]; exact run_makeMap 113 w
  clear h hr1 ht2 hb1 hm1 hs1 hn hn1 hz1
  refine (callsIn_wide (n := 9)).1 (callsIn_of_wp_marks Try.func91 rfl trivial ?_ rfl)
  simp only [Try.ntmps91, List.size_toArray, List.length_cons, List.length_nil, Nat.reduceAdd, Nat.reduceSub, Array.replicate_succ, Array.replicate_zero, List.push_toArray, List.append_toArray, List.nil_append, List.cons_append]
  have hf1 : Fence.wide.fn 99 := trivial
  clear hmb
  gi_wp2_with (gi_at_call 99; rw [← hW1]; ((with_reducible refine (callsIn_wide.2 HE.out).mono ?_)); rintro e w2 ⟨rfl, rfl⟩)
  rw [← hW1, show mb + 1 + 1 = W1.heap.size from by rw [HZ.out]]
  clear hW1
  refine loopA_outer rfl (enters_of Try.func108 (by kernel_rfl) rfl) HIt.out (by exact fun _ => rfl) (fun k => boxM plV 113 (mb + 1) mb (whoF ((frs os).take k))) (fun _ => noT) HR.out HB.out HD.out ?_ ?_ ?_
  · rintro ⟨⟨p1, p2⟩, x⟩ y k V Q' hr hl1 hx hI hQl hsk
    obtain ⟨rr, hrr⟩ := hr
    have hyV : y < V.heap.size := (Array.getElem?_eq_some_iff.1 hrr).1
    have hVb := Blk.new V [.int .i64 p1, .int .i64 p2, .int .i64 x] 99
    have HBx := Lib.hid (fun W2 (hT2 : Turned (· = y) (V.alloc (.cells #[.int .i64 p1, .int .i64 p2, .int .i64 x] 99)) W2) => show Blk W2 V.heap.size [.int .i64 p1, .int .i64 p2, .int .i64 x] 99 from hVb.turned hT2 (by omega))
    have HI2 := Lib.hid (fun W2 (hT2 : Turned (· = y) (V.alloc (.cells #[.int .i64 p1, .int .i64 p2, .int .i64 x] 99)) W2) => show (boxM plV 113 (mb + 1) mb (whoF ((frs os).take k))).at_ W2 Q' from
      Thing.keep _ (Thing.keep _ hI ((Turned.refl _ V).alloc _) (fun _ _ h => h)) hT2 (fun j hj e => hQl (e ▸ hj)))
    have HG := Lib.hid (show ∀ c, (if c = (p1, p2) then some x else whoF ((frs os).take k) c) = whoF ((frs os).take (k + 1)) c from fun c => by
      have e : (frs os).take (k + 1) = (frs os).take k ++ [((p1, p2), x)] := by rw [List.take_add_one, hx]; rfl
      rw [e]
      refine whoF_snoc (o := ((p1, p2), x)) (fun hm => ?_) c
      have hn := HNd.out
      rw [← List.take_append_drop (k + 1) (frs os), e, List.map_append, List.map_append] at hn
      have h2 := (List.nodup_append.1 (List.nodup_append.1 hn).1).2.2
      exact h2 _ hm _ (List.mem_singleton.2 rfl) rfl)
    clear hl1 hx hI hQl hsk hVb hrr hyV
    dsimp only [encO16]
    gi_wp2
    refine ⟨(Turned.refl _ _).alloc _, fun W2 _ hT2 => ?_⟩
    have hI2 := HI2.out W2 hT2
    have hbx := HBx.out W2 hT2
    have p0 := hbx.cell (o := 0) rfl
    have p1' := hbx.cell (o := 1) rfl
    have p2' := hbx.cell (o := 2) rfl
    obtain ⟨Q1, Q2, ⟨hB, hQ1⟩, ⟨hM, hQ2⟩, hdd, hQ⟩ := hI2
    have cc := hB.cell (o := 0) rfl
    obtain ⟨W3, hmu, hM3, hT3⟩ := MapF.put keysPl hM (p1, p2) x
    simp only [plV] at hmu
    have HFin := Lib.hid (show Goes (boxM plV 113 (mb + 1) mb (whoF ((frs os).take (k + 1)))) Q' W2 W3 from by
      refine ⟨Q', ⟨Q1, Q2, ⟨hB.turned hT3 (by omega), hQ1⟩, ⟨hM3.congr HG.out, hQ2⟩, hdd, hQ⟩, hT3.mono (fun i _ e => (hQ i).2 (.inr ((hQ2 i).2 e))), fun _ h => .inl h⟩)
    clear hB hM hM3 hT3 hQ hQ1 hQ2 hdd hbx hT2
    gi_wp2
    exact HFin.out
  · intro D V Q' hD hK hQD hI hsk
    obtain ⟨Q1, Q2, ⟨hB, hQ1⟩, ⟨hM, hQ2⟩, hdd, hQ⟩ := hI
    have cc := hB.cell (o := 0) rfl
    have hz := HMB.out
    have hz2 := HZ.out
    have hD1 : mb + 2 ≤ D := by
      have := ((Turned.refl (fun _ => False) W1).alloc (.cells #[.slice ao n c] 65)).size
      omega
    have hT0 : Turned (fun k => w.heap.size ≤ k) w V := (HSt.out.mono (fun _ _ h => h.elim)).trans (hsk.turn.mono (fun k _ h => by omega))
    have hp := putObj_since (.deferred none) (Array.getElem?_eq_some_iff.1 hK).1
    have HP := Lib.hid (show w.heap.size ≤ mb ∧ MapF plV (V.putObj D (.deferred none)) mb (whoF os) ∧ Still w (V.putObj D (.deferred none)) from by
      refine ⟨by omega, (hM.keep hp (by omega)).congr (fun c => by rw [HF.out]), ?_⟩
      exact (hT0.trans (hp.mono (fun k _ e => by rw [e]; omega))).mono (fun k hk hh => by omega))
    clear hB hM hQ hQ1 hQ2 hdd hT0 hsk hp hz hz2 hmw
    gi_wp2
    refine ⟨by simp, .inl ⟨_, _, rfl, run_takeDeferred hK, ?_⟩⟩
    refine ⟨_, results_tmp rfl _ _ _, ?_⟩
    exact ⟨mb, rfl, HP.out⟩
  · intro D k V Q' hD hK hQD hk hI hsk
    exact hI.elim
end Go.Proofs.Ytdlkdagmaeapdaa

/- The stable sort of members by how many places they had: plain lists, and the program's comparison. No condition. -/
namespace Go.Proofs.Ytdlkdagmaeapdaa
open Go.RowKit
set_option linter.unusedVariables false
set_option linter.unusedSimpArgs false
set_option maxRecDepth 100000

def rowS (l0 : List Nat) (i m : Nat) : List Int := (l0 ++ List.range' i (m - i)).map (fun (k : Nat) => (k : Int))
def insJ (l0 : List Nat) (i j : Nat) : List Nat := l0.take j ++ i :: l0.drop j
def rowJ (l0 : List Nat) (i j m : Nat) : List Int := rowS (insJ l0 i j) (i + 1) m
def Srt (h : Nat → Nat) (l : List Nat) : Prop := l.Pairwise (fun a b => bef h a b = true)
theorem rowS_zero (m : Nat) : rowS [] 0 m = (List.range m).map (fun (k : Nat) => (k : Int)) := by
  unfold rowS; rw [List.nil_append, Nat.sub_zero, List.range_eq_range']
theorem rowS_start {l0 : List Nat} {i m : Nat} (hl : l0.length = i) (hi : i < m) : rowS l0 i m = rowJ l0 i i m := by
  unfold rowJ rowS insJ
  rw [← hl, List.take_length, List.drop_length, List.append_assoc]
  congr 2
  rw [show m - l0.length = (m - (l0.length + 1)) + 1 by omega, List.range'_succ]
  rfl
theorem rowS_end {l : List Nat} {m : Nat} : rowS l m m = l.map (fun (k : Nat) => (k : Int)) := by
  unfold rowS; rw [Nat.sub_self]; simp
theorem insJ_len {l0 : List Nat} {i j : Nat} (hl : l0.length = i) (hj : j ≤ i) : (insJ l0 i j).length = i + 1 := by
  unfold insJ; rw [List.length_append, List.length_cons, List.length_take, List.length_drop]; omega
theorem insJ_at {l0 : List Nat} {i j : Nat} (hl : l0.length = i) (hj : j ≤ i) : (insJ l0 i j)[j]? = some i := by
  unfold insJ
  rw [List.getElem?_append_right (by rw [List.length_take]; omega), List.length_take, show j - min j l0.length = 0 by omega]; rfl
theorem insJ_prev {l0 : List Nat} {i j y : Nat} (hl : l0.length = i) (hj : j < i) (hy : l0[j]? = some y) : (insJ l0 i (j + 1))[j]? = some y := by
  unfold insJ
  rw [List.getElem?_append_left (by rw [List.length_take]; omega), List.getElem?_take, if_pos (by omega), hy]
theorem insJ_step {l0 : List Nat} {i j y : Nat} (hl : l0.length = i) (hj : j < i) (hy : l0[j]? = some y) : ((insJ l0 i (j + 1)).set (j + 1) y).set j i = insJ l0 i j := by
  have hd : l0.drop j = y :: l0.drop (j + 1) := by
    obtain ⟨h1, h2⟩ := List.getElem?_eq_some_iff.1 hy
    rw [List.drop_eq_getElem_cons h1, h2]
  have ht : l0.take (j + 1) = l0.take j ++ [y] := by rw [List.take_add_one, hy]; rfl
  unfold insJ
  have hlt : (l0.take j).length = j := by rw [List.length_take]; omega
  rw [hd, ht, List.append_assoc, List.set_append_right _ _ (by omega), List.set_append_right _ _ (by omega), hlt, show j + 1 - j = 1 by omega, Nat.sub_self]
  rfl
theorem rowS_get {l : List Nat} {i m j x : Nat} (h : l[j]? = some x) : (rowS l i m)[j]? = some (x : Int) := by
  unfold rowS
  rw [List.getElem?_map, List.getElem?_append_left (List.getElem?_eq_some_iff.1 h).1, h]; rfl
theorem rowS_set {l : List Nat} {i m j x : Nat} (h : j < l.length) : (rowS l i m).set j (x : Int) = rowS (l.set j x) i m := by
  unfold rowS
  rw [← List.set_append_left _ _ h, List.map_set]
theorem rowJ_step {l0 : List Nat} {i j y m : Nat} (hl : l0.length = i) (hj : j < i) (hy : l0[j]? = some y) : ((rowJ l0 i (j + 1) m).set (j + 1) (y : Int)).set j (i : Int) = rowJ l0 i j m := by
  unfold rowJ
  rw [rowS_set (by rw [insJ_len hl (by omega)]; omega), rowS_set (by rw [List.length_set, insJ_len hl (by omega)]; omega), insJ_step hl hj hy]
theorem insJ_perm {l0 : List Nat} {i j : Nat} (hp : l0.Perm (List.range i)) : (insJ l0 i j).Perm (List.range (i + 1)) := by
  unfold insJ
  refine List.perm_middle.trans ?_
  rw [List.take_append_drop, List.range_succ]
  exact (hp.cons i).trans (List.perm_append_singleton i (List.range i)).symm
theorem insJ_srt {h : Nat → Nat} {l0 : List Nat} {i j : Nat} (hs : Srt h l0) (hp : l0.Perm (List.range i)) (hd : ∀ y ∈ l0.drop j, h y < h i) (ht : j = 0 ∨ ∃ y, l0[j - 1]? = some y ∧ ¬ h y < h i) : Srt h (insJ l0 i j) := by
  have hlt : ∀ y ∈ l0, y < i := fun y hy => List.mem_range.1 (hp.mem_iff.1 hy)
  have hsp : Srt h (l0.take j ++ l0.drop j) := by rw [List.take_append_drop]; exact hs
  obtain ⟨s1, s2, s3⟩ := List.pairwise_append.1 hsp
  have hb : ∀ x ∈ l0.take j, bef h x i = true := by
    intro x hx
    have hxi := hlt x (List.mem_of_mem_take hx)
    rcases ht with rfl | ⟨y, hy, hn⟩
    · simp at hx
    · obtain ⟨p, hp1⟩ := List.getElem?_of_mem hx
      rw [List.getElem?_take] at hp1
      split at hp1
      · rename_i hpj
        have hyl := hlt y (List.mem_of_getElem? hy)
        by_cases e : p = j - 1
        · rw [e, hy] at hp1
          obtain rfl := Option.some.inj hp1
          exact bef_iff.2 (by omega)
        · obtain ⟨h1, e1⟩ := List.getElem?_eq_some_iff.1 hp1
          obtain ⟨h2, e2⟩ := List.getElem?_eq_some_iff.1 hy
          have := List.pairwise_iff_getElem.1 hs p (j - 1) h1 h2 (by omega)
          rw [e1, e2] at this
          have := bef_iff.1 this
          exact bef_iff.2 (by omega)
      · cases hp1
  unfold insJ Srt
  refine List.pairwise_append.2 ⟨s1, List.pairwise_cons.2 ⟨fun y hy => bef_iff.2 (.inl (hd y hy)), s2⟩, fun a ha b hb' => ?_⟩
  rcases List.mem_cons.1 hb' with rfl | hb'
  · exact hb a ha
  · exact s3 a ha b hb'
/-- Where each stands in what is sorted. -/
theorem srt_ahead {h : Nat → Nat} {l : List Nat} {m r k : Nat} (hs : Srt h l) (hp : l.Perm (List.range m)) (hr : l[r]? = some k) : k < m ∧ aheadN m h k = r := by
  refine ⟨List.mem_range.1 (hp.mem_iff.1 (List.mem_of_getElem? hr)), ?_⟩
  unfold aheadN
  rw [← (hp.filter (fun j => bef h j k)).length_eq]
  obtain ⟨h1, e1⟩ := List.getElem?_eq_some_iff.1 hr
  have hsplit : l = l.take r ++ k :: l.drop (r + 1) := by rw [← e1, ← List.drop_eq_getElem_cons h1, List.take_append_drop]
  have hs2 := hs
  unfold Srt at hs2
  rw [hsplit] at hs2
  obtain ⟨s1, s2, s3⟩ := List.pairwise_append.1 hs2
  obtain ⟨s4, s5⟩ := List.pairwise_cons.1 s2
  rw [hsplit, List.filter_append, List.filter_cons, List.length_append]
  rw [List.filter_eq_self.2 (fun x hx => s3 x hx k (List.mem_cons_self ..)), if_neg (by
    intro hb; have := bef_iff.1 hb; omega), List.filter_eq_nil_iff.2 (fun x hx hb => by
      have a := bef_iff.1 (s4 x hx)
      have b := bef_iff.1 hb
      omega)]
  rw [List.length_take]
  simp; omega

set_option maxHeartbeats 1000000 in
theorem shcmp_any (V : World) (Bc gc : Nat) (m c a b ha hb : Nat) (hab : a < m ∧ b < m) (hm : m ≤ 1000) (hh : ha ≤ 1000 ∧ hb ≤ 1000) (c0 : V.cell? ⟨Bc, 0, none⟩ = some (.slice (some ⟨gc, 0, none⟩) m c)) (c1 : V.cell? ⟨gc, a, none⟩ = some (.int .i64 (ha : Int))) (c2 : V.cell? ⟨gc, b, none⟩ = some (.int .i64 (hb : Int))) :
    Calls Try.prog 101 #[.int .i64 (a : Int), .int .i64 (b : Int), .pointer (some ⟨Bc, 0, none⟩)] V fun e w' => e = .returned (.int .i64 ((hb : Int) - (ha : Int))) ∧ Still V w' := by
  have h1 : (a : Int) < (m : Int) := by omega
  have h2 : (b : Int) < (m : Int) := by omega
  obtain ⟨h3, h4⟩ := hh
  clear hab
  go_enter Try.func101, Try.ntmps101
  go_wp2_with fail
  go_region
  go_wp2_with fail
  go_ret
  exact ⟨by first | rfl | simp, by first | exact (Turned.refl _ _).drew | exact (Turned.refl _ _).drewN _⟩
end Go.Proofs.Ytdlkdagmaeapdaa

/- The insertion sort of members, and the stable sort, of few. No condition. -/
namespace Go.Proofs.Ytdlkdagmaeapdaa
open Go.RowKit
set_option linter.unusedVariables false
set_option linter.unusedSimpArgs false
set_option maxRecDepth 100000

set_option maxHeartbeats 4000000 in
theorem shins_any {w0 w : World} {g Bc m c : Nat} {h : Nat → Nat} {R : Thing} (hm : m ≤ 8) (hh : ∀ j, h j ≤ 1000) (H : Held w0 w ((intsT (some ⟨g, 0, none⟩) m c (rowS [] 0 m)).sep R))
    (HC : ∀ V xs, Held w0 V ((intsT (some ⟨g, 0, none⟩) m c xs).sep R) → ∀ a b, a < m → b < m → Calls Try.prog 101 #[.int .i64 ((a : Nat) : Int), .int .i64 ((b : Nat) : Int), .pointer (some ⟨Bc, 0, none⟩)] V fun e w' => e = .returned (.int .i64 (((h b : Nat) : Int) - ((h a : Nat) : Int))) ∧ Still V w') :
    Calls Try.prog 112 #[.slice (some ⟨g, 0, none⟩) m c, .int .i64 0, .int .i64 (m : Int), .func (.func 101) #[] #[.pointer (some ⟨Bc, 0, none⟩)]] w fun e w' => e = .returned (.tuple #[]) ∧ ∃ l : List Nat, Srt h l ∧ l.Perm (List.range m) ∧ Held w0 w' ((intsT (some ⟨g, 0, none⟩) m c (l.map (fun (k : Nat) => (k : Int)))).sep R) := by
  have HC := Lib.hid HC
  have HH := Lib.hid hh
  by_cases h0 : m = 0
  · subst h0
    have K0 := Lib.hid H
    clear H hh
    go_enter Try.func112, Try.ntmps112
    go_wp2_with fail
    go_loopw [8] (fun ix wq => ix = .int .i64 1 ∧ wq = w) (fun ix _ => 0)
    case atStart => exact ⟨rfl, rfl⟩
    case round =>
      obtain ⟨rfl, rfl⟩ := hrel
      go_wp2_with fail
      go_end0
      exact ⟨rfl, [], List.Pairwise.nil, List.Perm.refl _, K0.out⟩
  · have K0 := Lib.hid (show Held w0 w ((intsT (some ⟨g, 0, none⟩) m c (rowS [0] 1 m)).sep R) from by
      have e := rowS_start (l0 := []) (i := 0) (m := m) rfl (by omega)
      rw [e] at H; exact H)
    clear H hh
    go_enter Try.func112, Try.ntmps112
    go_wp2_with fail
    go_loopw [8] (fun ix wq => ∃ (i : Nat) (l0 : List Nat), i ≤ m ∧ ix = .int .i64 i ∧ l0.length = i ∧ Srt h l0 ∧ l0.Perm (List.range i) ∧ Held w0 wq ((intsT (some ⟨g, 0, none⟩) m c (rowS l0 i m)).sep R)) (fun ix _ => m - (intOf ix).toNat)
    case atStart => exact ⟨1, [0], by omega, rfl, rfl, List.pairwise_singleton _ _, List.Perm.refl _, K0.out⟩
    case round =>
      clear K0
      obtain ⟨i, l0, hi, rfl, hl, hs, hp, hH⟩ := hrel
      by_cases hlt : i < m
      · have hii : (i : Int) < (m : Int) := by omega
        rw [rowS_start hl hlt] at hH
        have K1 := Lib.hid hH
        have HS := Lib.hid hs
        have HP := Lib.hid hp
        have HL := Lib.hid hl
        have h64 : (i : Int) < 100 := by omega
        have HDr := Lib.hid (show ∀ y ∈ l0.drop i, h y < h i from fun y hy => by rw [List.drop_of_length_le (by rw [hl]; exact Nat.le_refl _)] at hy; cases hy)
        clear hH hs hp hl
        go_wp2_with fail
        go_loopw [9] (fun jx wq => ∃ j : Nat, j ≤ i ∧ jx = .int .i64 j ∧ (∀ y ∈ l0.drop j, h y < h i) ∧ Held w0 wq ((intsT (some ⟨g, 0, none⟩) m c (rowJ l0 i j m)).sep R)) (fun jx _ => (intOf jx).toNat)
        case atStart => exact ⟨i, Nat.le_refl _, rfl, HDr.out, K1.out⟩
        case round =>
          clear K1
          obtain ⟨j, hj, rfl, hd, hH⟩ := hrel
          by_cases hj0 : j = 0
          · subst hj0
            have K2 := Lib.hid (show Held w0 wr.drew ((intsT (some ⟨g, 0, none⟩) m c (rowS (insJ l0 i 0) (i + 1) m)).sep R) from hH.still (Turned.refl _ _).drew)
            have HS2 := Lib.hid (insJ_srt HS.out HP.out hd (.inl rfl))
            clear hH hd
            go_wp2_with fail
            go_region
            go_wp2_with fail
            go_roundw
            case rel => exact ⟨i + 1, insJ l0 i 0, by omega, by go_num, insJ_len HL.out (by omega), HS2.out, insJ_perm HP.out, K2.out⟩
            case measure => simp [intOf]; omega
          · obtain ⟨q, hq⟩ : ∃ q, j = q + 1 := ⟨j - 1, by omega⟩
            obtain ⟨y, hy⟩ := get_some (l := l0) (i := q) (by rw [HL.out]; omega)
            have hym : y < m := by have := List.mem_range.1 (HP.out.mem_iff.1 (List.mem_of_getElem? hy)); omega
            have KD := Lib.hid (hH.still (Turned.refl _ _).drew)
            have hj1 : 0 < j := by omega
            have hjj : (0 : Int) < (j : Int) := by omega
            have hj00 : (0 : Int) ≤ (j : Int) := by omega
            have hjm : (j : Int) < (m : Int) := by omega
            have hqm : (q : Int) < (m : Int) := by omega
            have hqz : (0 : Int) ≤ (q : Int) := by omega
            have hwr : IntKind.i64.wrap ((j : Int) - 1) = (q : Int) := by simp [IntKind.wrap, IntKind.signed, IntKind.bits]; omega
            have g1 : (rowJ l0 i j m)[j]? = some ((i : Nat) : Int) := rowS_get (insJ_at HL.out hj)
            have g2 : (rowJ l0 i j m)[q]? = some ((y : Nat) : Int) := by rw [hq]; exact rowS_get (insJ_prev HL.out (by omega) hy)
            have HG := Lib.hid (fun V (k : Held w0 V ((intsT (some ⟨g, 0, none⟩) m c (rowJ l0 i j m)).sep R)) => And.intro (held_put k g1) (held_put k g2))
            have d1 := (HG.out _ KD.out).1.1
            have d2 := (HG.out _ KD.out).2.1
            have HY := Lib.hid hy
            have HD := Lib.hid hd
            have y1 := HH.out y
            have y2 := HH.out i
            have HCm := Lib.hid (HC.out _ _ KD.out i y hlt hym)
            have HQ := Lib.hid hq
            obtain ⟨vi, hvi⟩ : ∃ v, v = h i := ⟨_, rfl⟩
            obtain ⟨vy, hvy⟩ : ∃ v, v = h y := ⟨_, rfl⟩
            have HVi := Lib.hid hvi
            have HVy := Lib.hid hvy
            rw [← hvi] at y2 HCm
            rw [← hvy] at y1 HCm
            clear hH hd hy g1 g2 hvi hvy hq
            go_wp2_with fail
            go_region_held3 (fun V => V.cell? ⟨g, j, none⟩ = some (.int .i64 ((i : Nat) : Int)) ∧ V.cell? ⟨g, q, none⟩ = some (.int .i64 ((y : Nat) : Int))) (first | exact ⟨by assumption, by assumption⟩ | go_keep)
              (first | (go_at_call 101; ((with_reducible refine HCm.out.mono ?_)); rintro e w5 ⟨rfl, hs⟩; have K5 := Lib.hid (KD.out.still hs); have d3 := (HG.out _ K5.out).1.1; have d4 := (HG.out _ K5.out).2.1; clear hs KD))
            by_cases hv : vy < vi
            · have hvv : (vy : Int) - (vi : Int) < 0 := by omega
              have K6 := Lib.hid (K5.out.still (Turned.refl _ _).drew)
              obtain ⟨⟨x1, x2, x3⟩, x4, x5, x6⟩ := HG.out _ K6.out
              have hset : ((rowJ l0 i j m).set j ((y : Nat) : Int))[q]? = some ((y : Nat) : Int) := by
                rw [List.getElem?_set_ne (by have := HQ.out; omega), HQ.out]
                exact rowS_get (insJ_prev HL.out (by have := HQ.out; omega) HY.out)
              obtain ⟨z1, z2, z3⟩ := held_put (x3 ((y : Nat) : Int)) hset
              have K7 := Lib.hid (show Held w0 ((w5.drew.setCell ⟨g, j, none⟩ (.int .i64 (y : Int))).setCell ⟨g, q, none⟩ (.int .i64 (i : Int))) ((intsT (some ⟨g, 0, none⟩) m c (rowJ l0 i q m)).sep R) from by
                have := z3 ((i : Nat) : Int)
                rw [HQ.out] at this
                rw [rowJ_step HL.out (by have := HQ.out; omega) HY.out] at this
                rw [HQ.out]
                exact this)
              have HD2 := Lib.hid (show ∀ y' ∈ l0.drop q, h y' < h i from by
                obtain ⟨h1, h2⟩ := List.getElem?_eq_some_iff.1 HY.out
                rw [List.drop_eq_getElem_cons h1, h2]
                intro y' hy'
                rcases List.mem_cons.1 hy' with rfl | hy'
                · rw [← HVi.out, ← HVy.out]; exact hv
                · exact HD.out y' (by rw [HQ.out]; exact hy'))
              have hne : j ≠ q := by have := HQ.out; omega
              have f1 := (HG.out _ K5.out).1.2.1
              have f2 := (HG.out _ K5.out).2.2.1
              clear x3 x6 z3 hset K6
              go_wp2_with fail
              go_region
              go_wp2_with fail
              go_roundw
              case rel => exact ⟨q, by have := HQ.out; omega, by go_num, HD2.out, K7.out⟩
              case measure => have := HQ.out; simp [intOf]; omega
            · have hvv : ¬ (vy : Int) - (vi : Int) < 0 := by omega
              have HS2 := Lib.hid (insJ_srt HS.out HP.out HD.out (.inr ⟨y, by rw [HQ.out, Nat.add_sub_cancel]; exact HY.out, by rw [← HVi.out, ← HVy.out]; exact hv⟩))
              go_wp2_with fail
              go_roundw
              case rel => exact ⟨i + 1, insJ l0 i j, by omega, by go_num, insJ_len HL.out hj, HS2.out, insJ_perm HP.out, K5.out⟩
              case measure => simp [intOf]; omega
      · obtain rfl : i = m := by omega
        have hf := rowS_end (l := l0) (m := i)
        rw [hf] at hH
        have K2 := Lib.hid hH
        have HS := Lib.hid hs
        have HP := Lib.hid hp
        clear hH hs hp
        go_wp2_with fail
        go_end0
        exact ⟨rfl, l0, HS.out, HP.out, K2.out⟩
end Go.Proofs.Ytdlkdagmaeapdaa

/- The stable sort, of few. No condition. -/
namespace Go.Proofs.Ytdlkdagmaeapdaa
open Go.RowKit
set_option linter.unusedVariables false
set_option linter.unusedSimpArgs false
set_option maxRecDepth 100000

set_option maxHeartbeats 2000000 in
theorem shstc_any {w0 w : World} {g Bc m c : Nat} {h : Nat → Nat} {R : Thing} (hm : m ≤ 8) (hh : ∀ j, h j ≤ 1000) (H : Held w0 w ((intsT (some ⟨g, 0, none⟩) m c (rowS [] 0 m)).sep R))
    (HC : ∀ V xs, Held w0 V ((intsT (some ⟨g, 0, none⟩) m c xs).sep R) → ∀ a b, a < m → b < m → Calls Try.prog 101 #[.int .i64 ((a : Nat) : Int), .int .i64 ((b : Nat) : Int), .pointer (some ⟨Bc, 0, none⟩)] V fun e w' => e = .returned (.int .i64 (((h b : Nat) : Int) - ((h a : Nat) : Int))) ∧ Still V w') :
    Calls Try.prog 109 #[.slice (some ⟨g, 0, none⟩) m c, .int .i64 (m : Int), .func (.func 101) #[] #[.pointer (some ⟨Bc, 0, none⟩)]] w fun e w' => e = .returned (.tuple #[]) ∧ ∃ l : List Nat, Srt h l ∧ l.Perm (List.range m) ∧ Held w0 w' ((intsT (some ⟨g, 0, none⟩) m c (l.map (fun (k : Nat) => (k : Int)))).sep R) := by
  have HI := Lib.hid (shins_any hm hh H HC)
  have h1 : ¬ (20 : Int) ≤ (m : Int) := by omega
  have h2 : ¬ (20 : Int) < (m : Int) := by omega
  clear H HC
  go_enter Try.func109, Try.ntmps109
  go_wp2_with fail
  go_loopw [7, 8] (fun ax bx wq => ax = .int .i64 0 ∧ bx = .int .i64 20 ∧ wq = w) (fun _ _ _ => 0)
  case atStart => exact ⟨rfl, rfl, rfl⟩
  case round =>
    obtain ⟨rfl, rfl, rfl⟩ := hrel
    go_wp2_with (go_at_call 112; ((with_reducible refine HI.out.mono ?_)); rintro e w5 ⟨rfl, hl⟩; have HL := Lib.hid hl; clear hl)
    go_loopw [6] (fun bx wq => bx = .int .i64 20 ∧ wq = w5) (fun _ _ => 0)
    case atStart => exact ⟨rfl, rfl⟩
    case round =>
      obtain ⟨rfl, rfl⟩ := hrel
      go_wp2_with fail
      go_end0
      exact ⟨rfl, HL.out⟩
set_option maxHeartbeats 2000000 in
theorem shsort_any {w0 w : World} {g Bc m c : Nat} {h : Nat → Nat} {R : Thing} (hm : m ≤ 8) (hh : ∀ j, h j ≤ 1000) (H : Held w0 w ((intsT (some ⟨g, 0, none⟩) m c (rowS [] 0 m)).sep R))
    (HC : ∀ V xs, Held w0 V ((intsT (some ⟨g, 0, none⟩) m c xs).sep R) → ∀ a b, a < m → b < m → Calls Try.prog 101 #[.int .i64 ((a : Nat) : Int), .int .i64 ((b : Nat) : Int), .pointer (some ⟨Bc, 0, none⟩)] V fun e w' => e = .returned (.int .i64 (((h b : Nat) : Int) - ((h a : Nat) : Int))) ∧ Still V w') :
    Calls Try.prog 100 #[.slice (some ⟨g, 0, none⟩) m c, .func (.func 101) #[] #[.pointer (some ⟨Bc, 0, none⟩)]] w fun e w' => e = .returned (.tuple #[]) ∧ ∃ l : List Nat, Srt h l ∧ l.Perm (List.range m) ∧ Held w0 w' ((intsT (some ⟨g, 0, none⟩) m c (l.map (fun (k : Nat) => (k : Int)))).sep R) := by
  have HI := Lib.hid (shstc_any hm hh H HC)
  clear H HC
  go_enter Try.func100, Try.ntmps100
  go_wp2_with (go_at_call 109; ((with_reducible refine HI.out.mono ?_)); rintro e w5 ⟨rfl, hl⟩; have HL := Lib.hid hl; clear hl)
  go_end0
  exact ⟨rfl, HL.out⟩
end Go.Proofs.Ytdlkdagmaeapdaa

/- The iterator of package share over where the places stand that a member had. No condition. -/
namespace Go.Proofs.Ytdlkdagmaeapdaa
open Go.RowKit Go.Shelf
attribute [local go_sem] Oper.semAt_some
set_option linter.unusedVariables false
set_option linter.unusedSimpArgs false
set_option maxRecDepth 100000

/-- Where a number stands among the first k. -/
def hadTo (F : List Int) (x : Int) (k : Nat) : List Nat := (List.range k).filter (fun i => decide (F[i]? = some x))
theorem hadTo_succ (F : List Int) (x : Int) (k : Nat) : hadTo F x (k + 1) = hadTo F x k ++ if F[k]? = some x then [k] else [] := by
  unfold hadTo
  rw [List.range_succ, List.filter_append, List.filter_cons, List.filter_nil]
  by_cases h : F[k]? = some x
  · rw [if_pos h, if_pos (by simpa using h)]
  · rw [if_neg h, if_neg (by simpa using h)]
theorem hadTo_split (F : List Int) (x : Int) (k : Nat) : ∀ d : Nat, ∃ r, hadTo F x (k + d) = hadTo F x k ++ r
  | 0 => ⟨[], by simp⟩
  | d + 1 => by
    obtain ⟨r, hr⟩ := hadTo_split F x k d
    exact ⟨_, by rw [show k + (d + 1) = (k + d) + 1 by omega, hadTo_succ, hr, List.append_assoc]⟩
theorem hadTo_get {F : List Int} {x : Int} {k n : Nat} (hk : k < n) (h : F[k]? = some x) : (hadTo F x n)[(hadTo F x k).length]? = some k := by
  obtain ⟨r, hr⟩ := hadTo_split F x (k + 1) (n - (k + 1))
  rw [show k + 1 + (n - (k + 1)) = n by omega] at hr
  rw [hr, hadTo_succ, if_pos h, List.append_assoc, List.getElem?_append_right (Nat.le_refl _), Nat.sub_self]; rfl
theorem hadTo_le (F : List Int) (x : Int) (k : Nat) : (hadTo F x k).length ≤ k := by
  unfold hadTo
  have := List.length_filter_le (fun i => decide (F[i]? = some x)) (List.range k)
  rwa [List.length_range] at this
theorem hadTo_mem {F : List Int} {x : Int} {n j i : Nat} (h : (hadTo F x n)[j]? = some i) : i < n ∧ F[i]? = some x := by
  have hm := List.mem_filter.1 (List.mem_of_getElem? h)
  exact ⟨List.mem_range.1 hm.1, by simpa using hm.2⟩

theorem shhad_any (ao : Option Addr) (n c : Nat) (x : Int) (w : World) : Calls Try.prog 93 #[.slice ao n c, .int .i64 x] w fun e w' => e = .returned (.func (.func 102) #[] #[.pointer (some ⟨w.heap.size, 0, none⟩), .pointer (some ⟨w.heap.size + 1, 0, none⟩)]) ∧
    w' = (w.alloc (.cells #[.slice ao n c] 44)).alloc (.cells #[.int .i64 x] 3) := by
  go_enter Try.func93, Try.ntmps93
  go_wp2
  go_ret
  exact ⟨by first | rfl | simp, rfl⟩

abbrev encH16 (i : Nat) : Array Value := #[.int .i64 ((i : Nat) : Int)]
/-- What the iterator reads: the numbers, where they lie, and the one that is looked for. -/
abbrev evH (Bs Bx : Nat) (ao : Option Addr) (n c : Nat) (F : List Int) (x : Int) : Thing := (blkT Bs [.slice ao n c] 44).with_ ((blkT Bx [.int .i64 x] 3).with_ (readT ao F))
theorem evH_new {ao : Option Addr} {n c : Nat} {F : List Int} {x : Int} {w : World} (h : NumsAt w ao F) : (evH w.heap.size (w.heap.size + 1) ao n c F x).at_ ((w.alloc (.cells #[.slice ao n c] 44)).alloc (.cells #[.int .i64 x] 3)) (fun k => k = w.heap.size ∨ k = w.heap.size + 1 ∨ (F ≠ [] ∧ ∃ x, ao = some x ∧ x.block = k)) := by
  have b2 := Blk.new (w.alloc (.cells #[.slice ao n c] 44)) [.int .i64 x] 3
  rw [World.size_alloc] at b2
  exact with_at (W1 := (· = w.heap.size)) ⟨(Blk.new w [.slice ao n c] 44).alloc _, fun _ => Iff.rfl⟩ (with_at (W1 := (· = w.heap.size + 1)) ⟨b2, fun _ => Iff.rfl⟩
    ((readT ao F).keep (W := fun k => F ≠ [] ∧ ∃ x, ao = some x ∧ x.block = k) ⟨h, fun _ => Iff.rfl⟩ (((Turned.refl _ _).alloc _).alloc _) (fun _ _ h => h)))

set_option maxHeartbeats 4000000 in
theorem shhad_it (ao : Option Addr) (n c : Nat) (F : List Int) (x : Int) (hn : n = F.length) (hn1 : n ≤ 1000) (Bs Bx : Nat) :
    IterS 102 #[.pointer (some ⟨Bs, 0, none⟩), .pointer (some ⟨Bx, 0, none⟩)] encH16 (hadTo F x n) (evH Bs Bx ao n c F x) := by
  intro y J Jx W Q S hR h0 hd hY
  have HX := Lib.hid (fun V (h : ∃ Q', Since Q W Q' V) => show V.cell? ⟨Bs, 0, none⟩ = some (.slice ao n c) ∧ V.cell? ⟨Bx, 0, none⟩ = some (.int .i64 x) ∧ NumsAt V ao F from by
    obtain ⟨Q', hs⟩ := h
    obtain ⟨U1, U2, ⟨u1, _⟩, ⟨U3, U4, ⟨u3, _⟩, ⟨u2, _⟩, _⟩, _⟩ := (hs.stays (A := evH Bs Bx ao n c F x) hR hd).1
    exact ⟨u1.cell rfl, u3.cell rfl, u2⟩)
  have HY := Lib.hid (fun k z W1 Q1 (hz : (hadTo F x n)[k]? = some z) (h1 : (J k).at_ W1 Q1) (h2 : Since Q W Q1 W1) => YieldAt.any 8 (hY k z W1 Q1 hz h1 h2))
  have HN := Lib.hid hn
  have H0 := Lib.hid (show (J (hadTo F x 0).length).at_ W Q from h0)
  obtain ⟨e1, _, _⟩ := HX.out _ ⟨Q, Since.refl _ _⟩
  have hro : Fence.wide.round = none := rfl
  clear hR h0 hd hY hn
  refine (callsIn_wide (n := 9)).1 (callsIn_of_wp Try.func102 rfl trivial ?_ rfl)
  simp only [Try.ntmps102, List.size_toArray, List.length_cons, List.length_nil, Nat.reduceAdd, Nat.reduceSub, Array.replicate_succ, Array.replicate_zero, List.push_toArray, List.append_toArray, List.nil_append, List.cons_append]
  gi_wp2
  gi_loopw [8] (fun i wr => ∃ (k : Nat) (Q' : Nat → Prop), k ≤ n ∧ i = .int .i64 k ∧ (J (hadTo F x k).length).at_ wr Q' ∧ Since Q W Q' wr) (fun i _ => n - (intOf i).toNat)
  case atStart => exact ⟨0, Q, Nat.zero_le _, rfl, H0.out, Since.refl _ _⟩
  case round =>
    clear e1
    obtain ⟨k, Q', hk, rfl, hJk, hsi⟩ := hrel
    by_cases hlt : k < n
    · obtain ⟨z, hz⟩ := get_some (l := F) (i := k) (by rw [← HN.out]; exact hlt)
      obtain ⟨g1, g2, g3⟩ := HX.out wr ⟨Q', hsi⟩
      obtain ⟨b, o, rfl, hc⟩ := g3 k z hz
      have hki : (k : Int) < (n : Int) := by omega
      have hst := hadTo_succ F x k
      rw [hz] at hst
      by_cases hzx : z = x
      · subst hzx
        have hg := hadTo_get hlt hz
        rw [if_pos rfl] at hst
        have HNk := Lib.hid (show (hadTo F z (k + 1)).length = (hadTo F z k).length + 1 from by rw [hst, List.length_append]; rfl)
        have HLt2 := Lib.hid (show (hadTo F z k).length < (hadTo F z n).length from (List.getElem?_eq_some_iff.1 hg).1)
        obtain ⟨fn6, tm6, as6, bd6, hyy, hRo⟩ := HY.out _ _ wr Q' hg hJk hsi
        have HRo := Lib.hid hRo
        have HSi := Lib.hid hsi
        dsimp only [encH16] at hyy
        clear hRo hg hst hJk hsi g3 hz
        gi_wp2
        refine (RoundIn.any _ HRo.out).mono ?_
        rintro e W3 (⟨rfl, Q3, hJ3, hT3, hG3⟩ | ⟨rfl, hg3⟩)
        · gi_wp2
          go_roundw
          case rel => exact ⟨k + 1, Q3, by omega, by go_num, by rw [HNk.out]; exact hJ3, HSi.out.trans ⟨hT3, hG3⟩⟩
          case measure => simp [intOf]; omega
        · have HEnd := Lib.hid (show ∃ k, k < (hadTo F z n).length ∧ Goes (Jx k) Q W W3 from by
            refine ⟨_, HLt2.out, ?_⟩
            obtain ⟨Q3, h1, h2⟩ := hg3.since
            exact (HSi.out.trans h2).goes h1)
          clear hg3
          gi_wp2
          refine bodyPost_ret (results_none rfl _ _ _) rfl ?_
          exact ⟨⟨_, rfl⟩, .inr HEnd.out⟩
      · have hzb : (z == x) = false := by rw [beq_eq_false_iff_ne]; exact hzx
        rw [if_neg (fun e => hzx (Option.some.inj e)), List.append_nil] at hst
        have HNk := Lib.hid hst
        have HJ := Lib.hid hJk
        have HSi := Lib.hid hsi
        clear hst hJk hsi g3 hz
        gi_wp2
        refine ⟨fun f h => (by cases h), ?_⟩
        gi_wp2
        go_roundw
        case rel => exact ⟨k + 1, Q', by omega, by go_num, by rw [HNk.out]; exact HJ.out, HSi.out⟩
        case measure => simp [intOf]; omega
    · obtain rfl : k = n := by omega
      have HEnd := Lib.hid (show Goes (J (hadTo F x k).length) Q W wr from hsi.goes hJk)
      clear hJk hsi
      gi_wp2
      go_end0
      exact ⟨⟨_, rfl⟩, .inl HEnd.out⟩
end Go.Proofs.Ytdlkdagmaeapdaa

/- Loops over iterators inside loops: the marks that they leave, one behind the other, as a thing; they are taken back at the end. No condition. -/
namespace Go.Proofs.Ytdlkdagmaeapdaa
open Go.RowKit
set_option linter.unusedVariables false

def mkD (D : Nat) : Deferred := { target := .collected D, args := #[] }
/-- The marks. -/
def markT (Ds : List Nat) : Thing where
  at_ w W := Ds.Nodup ∧ (∀ D ∈ Ds, w.heap[D]? = some (.deferred (some []))) ∧ ∀ k, W k ↔ k ∈ Ds
  lt := by
    rintro w W ⟨_, h, hW⟩ k hk
    exact (Array.getElem?_eq_some_iff.1 (h k ((hW k).1 hk))).1
  keep := by
    rintro w w' W S ⟨hn, h, hW⟩ ht hs
    exact ⟨hn, fun D hD => (ht.block D (Array.getElem?_eq_some_iff.1 (h D hD)).1 (hs D ((hW D).2 hD))).trans (h D hD), hW⟩
theorem Held.mark {w0 w : World} {A : Thing} (h : Held w0 w A) : Held w0 w (A.sep (markT [])) := by
  obtain ⟨W, h1, h2, h3⟩ := h
  exact ⟨W, ⟨W, fun _ => False, h1, ⟨List.nodup_nil, (fun _ h => nomatch h), fun k => ⟨fun h => h.elim, fun h => nomatch h⟩⟩, fun _ _ h => h, fun k => ⟨.inl, fun h => h.elim id (fun h => h.elim)⟩⟩, h2, h3⟩
/-- What a loop leaves: one mark more. -/
theorem mark_more {A : Thing} {Ds : List Nat} {W : World} {Q : Nat → Prop} {D : Nat} (h : (A.sep (markT Ds)).at_ W Q) (hK : W.heap[D]? = some (.deferred (some []))) (hQ : ¬ Q D) : (A.sep (markT (D :: Ds))).at_ W (fun k => Q k ∨ k = D) := by
  obtain ⟨Q1, Q2, h1, ⟨hn, h2, hW⟩, hd, hQ2⟩ := h
  have hD : D ∉ Ds := fun hm => hQ ((hQ2 D).2 (.inr ((hW D).2 hm)))
  refine ⟨Q1, fun k => Q2 k ∨ k = D, h1, ⟨List.nodup_cons.2 ⟨hD, hn⟩, fun E hE => ?_, fun k => ?_⟩, fun k hk hk2 => ?_, fun k => ?_⟩
  · rcases List.mem_cons.1 hE with rfl | hE
    · exact hK
    · exact h2 E hE
  · show Q2 k ∨ k = D ↔ k ∈ D :: Ds
    rw [List.mem_cons, hW k]; exact Or.comm
  · rcases hk2 with h | rfl
    · exact hd k hk h
    · exact hQ ((hQ2 _).2 (.inl hk))
  · show Q k ∨ k = D ↔ Q1 k ∨ (Q2 k ∨ k = D)
    rw [hQ2 k, or_assoc]
/-- Behind a loop, told of what was held ahead of it. -/
theorem Held.loop {w0 w W' : World} {A : Thing} {Ds : List Nat} {Q0 Q : Nat → Prop} {D : Nat} (hlo : ∀ k, Q0 k → w0.heap.size ≤ k) (hst : Still w0 w) (hs : Since Q0 w Q W') (hw : w.heap.size ≤ D) (hK : W'.heap[D]? = some (.deferred (some []))) (hQ : ¬ Q D) (h : (A.sep (markT Ds)).at_ W' Q) : Held w0 W' (A.sep (markT (D :: Ds))) := by
  have hz := hst.size
  refine ⟨_, mark_more h hK hQ, fun k hk => ?_, ?_⟩
  · rcases hk with hk | rfl
    · rcases hs.grow k hk with h1 | h1
      · exact hlo k h1
      · omega
    · omega
  · have : Turned (fun k => w0.heap.size ≤ k) w0 W' := (hst.mono (fun _ _ h => h.elim)).trans (hs.turn.mono (fun k _ h => hlo k h))
    exact this.mono (fun k hk h => by omega)
theorem leaves_marks {F : Fence} {n : Nat} {fn : Func} {tmps : Array Value} {R : Ending → World → Prop} {u : FrameMode} {w0 : World} {A : Thing} (hu : u ≠ .run) : ∀ {Ds : List Nat} {w : World}, Held w0 w (A.sep (markT Ds)) →
    (∀ w', Held w0 w' A → LeavesIn F n Try.prog fn tmps R [] u w') → LeavesInM F n Try.prog fn tmps R (Ds.map mkD) u w := by
  intro Ds
  induction Ds with
  | nil => intro w h hf; exact hf w h.drop
  | cons D Ds ih =>
    rintro w ⟨W, ⟨Q1, Q2, h1, ⟨hn, h2, hW⟩, hd, hQ⟩, hlo, hst⟩ hf
    have hDW : Q2 D := (hW D).2 (List.mem_cons_self ..)
    rw [List.nodup_cons] at hn
    have hp := putObj_since (.deferred none) (Array.getElem?_eq_some_iff.1 (h2 D (List.mem_cons_self ..))).1
    refine ⟨hu, .inl ⟨D, _, rfl, run_takeDeferred (h2 D (List.mem_cons_self ..)), ih ⟨fun k => Q1 k ∨ k ∈ Ds, ⟨Q1, (· ∈ Ds), A.keep h1 hp (fun k hk e => hd k hk (e ▸ hDW)), ⟨hn.2, fun E hE => ?_, fun _ => Iff.rfl⟩, fun k hk hm => hd k hk ((hW k).2 (List.mem_cons_of_mem _ hm)), fun _ => Iff.rfl⟩, fun k hk => ?_, ?_⟩ hf⟩⟩
    · have hne : D ≠ E := fun e => hn.1 (by rw [e]; exact hE)
      exact (World.putObj_heap_other (by omega)).trans (h2 E (List.mem_cons_of_mem _ hE))
    · rcases hk with hk | hk
      · exact hlo k ((hQ k).2 (.inl hk))
      · exact hlo k ((hQ k).2 (.inr ((hW k).2 (List.mem_cons_of_mem _ hk))))
    · have hD := hlo D ((hQ D).2 (.inr hDW))
      have : Turned (fun k => w0.heap.size ≤ k) w0 (w.putObj D (.deferred none)) := (hst.mono (fun _ _ h => h.elim)).trans (hp.mono (fun k _ e => by rw [e]; exact hD))
      exact this.mono (fun k hk h => by omega)
/-- The same, of what changes one of two things. -/
theorem goes_loop {w W' : World} {A : Thing} {Ds : List Nat} {Q0 Q : Nat → Prop} {D : Nat} (hs : Since Q0 w Q W') (hw : w.heap.size ≤ D) (hK : W'.heap[D]? = some (.deferred (some []))) (hQ : ¬ Q D) (h : ((markT Ds).sep A).at_ W' Q) : Goes ((markT (D :: Ds)).sep A) Q0 w W' :=
  ⟨_, sep_swap (mark_more (sep_swap h) hK hQ), hs.turn, fun k hk => hk.elim (hs.grow k) (fun e => .inr (by omega))⟩
theorem held_again {w0 w W' : World} {A' B : Thing} {Q0 QB W : Nat → Prop} (hB : B.at_ w QB) (hd : ∀ k, Q0 k → ¬ QB k) (hW : ∀ k, W k ↔ Q0 k ∨ QB k) (hlo : ∀ k, W k → w0.heap.size ≤ k) (hst : Still w0 w) (hg : Goes A' Q0 w W') : Held w0 W' (A'.sep B) := by
  obtain ⟨Q', h1, h2, h3⟩ := hg
  have hz := hst.size
  refine ⟨fun k => Q' k ∨ QB k, ⟨Q', QB, h1, B.keep hB h2 (fun k hk hq => hd k hq hk), fun k hk hk2 => ?_, fun _ => Iff.rfl⟩, fun k hk => ?_, ?_⟩
  · rcases h3 k hk with h | h
    · exact hd k h hk2
    · have := B.lt hB k hk2; omega
  · rcases hk with hk | hk
    · rcases h3 k hk with h | h
      · exact hlo k ((hW k).2 (.inl h))
      · omega
    · exact hlo k ((hW k).2 (.inr hk))
  · have : Turned (fun k => w0.heap.size ≤ k) w0 W' := (hst.mono (fun _ _ h => h.elim)).trans (h2.mono (fun k _ h => hlo k ((hW k).2 (.inl h))))
    exact this.mono (fun k hk h => by omega)
/-- A thing, where something holds. -/
def Thing.and_ (p : Prop) (A : Thing) : Thing where
  at_ w W := p ∧ A.at_ w W
  lt := fun h => A.lt h.2
  keep := fun h ht hs => ⟨h.1, A.keep h.2 ht hs⟩
theorem Goes.and_ {p : Prop} {A : Thing} {W : Nat → Prop} {w w' : World} (hp : p) (h : Goes A W w w') : Goes (Thing.and_ p A) W w w' := by
  obtain ⟨Q, h1, h2⟩ := h
  exact ⟨Q, ⟨hp, h1⟩, h2⟩
theorem Held.im {w0 w : World} {A B : Thing} (h : Held w0 w A) (f : ∀ {w : World} {W : Nat → Prop}, A.at_ w W → B.at_ w W) : Held w0 w B := by
  obtain ⟨W, h1, h2⟩ := h
  exact ⟨W, f h1, h2⟩
theorem un1 {A B C D : Thing} {w : World} {W : Nat → Prop} (h : (A.sep (B.sep (C.sep D))).at_ w W) : (A.sep (C.sep (B.sep D))).at_ w W := sep_imp2 (fun h => h) sep_turn h
theorem un2 {A B C D E : Thing} {w : World} {W : Nat → Prop} (h : (A.sep (B.sep (C.sep (D.sep E)))).at_ w W) : (A.sep (B.sep (D.sep (C.sep E)))).at_ w W := sep_imp2 (fun h => h) (sep_imp2 (fun h => h) sep_turn) h
theorem Held.loop' {w0 w W' : World} {A : Thing} {Ds : List Nat} {Q0 Q : Nat → Prop} {D : Nat} (hlo : ∀ k, Q0 k → w0.heap.size ≤ k) (hst : Still w0 w) (hs : Since Q0 w Q W') (hw : w.heap.size ≤ D) (hK : W'.heap[D]? = some (.deferred (some []))) (hQ : ¬ Q D) (h : ((markT Ds).sep A).at_ W' Q) : Held w0 W' ((markT (D :: Ds)).sep A) :=
  (Held.loop hlo hst hs hw hK hQ (sep_swap h)).swap
theorem sit_ints {Q0 : Nat → Prop} {w0 V : World} {g n c j : Nat} {l : List Int} {u : Int} {R : Thing} (H : Sit Q0 w0 V ((intsT (some ⟨g, 0, none⟩) n c l).sep R)) (hj : l[j]? = some u) :
    V.cell? ⟨g, j, none⟩ = some (.int .i64 u) ∧ V.frozen? ⟨g, j, none⟩ = false ∧ ∀ v : Int, Sit Q0 w0 (V.setCell ⟨g, j, none⟩ (.int .i64 v)) ((intsT (some ⟨g, 0, none⟩) n c (l.set j v)).sep R) := by
  obtain ⟨U, h1, h2⟩ := H.fst
  have hc := owm_cell h1.1 (ints_get hj)
  refine ⟨hc.1, hc.2, fun v => ?_⟩
  have := h2 _ _ (ownM_set h1 (by rw [ints_length]; exact (List.getElem?_eq_some_iff.1 hj).1) (.int .i64 v))
  rwa [ints_set] at this
theorem Held.flip {w0 w : World} {A B C : Thing} (h : Held w0 w ((A.sep B).sep C)) : Held w0 w ((A.sep C).sep B) := (h.assoc.im (sep_imp2 (fun h => h) sep_swap)).assoc'
theorem ap3 {A B C D E : Thing} {w : World} {W : Nat → Prop} (h : ((A.sep (B.sep (C.sep D))).sep E).at_ w W) : (A.sep (B.sep (C.sep (D.sep E)))).at_ w W :=
  sep_imp2 (fun h => h) (sep_imp2 (fun h => h) sep_assoc) (sep_imp2 (fun h => h) sep_assoc (sep_assoc h))
theorem ap3' {A B C D E : Thing} {w : World} {W : Nat → Prop} (h : (A.sep (B.sep (C.sep (D.sep E)))).at_ w W) : ((A.sep (B.sep (C.sep D))).sep E).at_ w W :=
  sep_assoc' (sep_imp2 (fun h => h) sep_assoc' (sep_imp2 (fun h => h) (sep_imp2 (fun h => h) sep_assoc') h))
theorem sit_own {Q0 : Nat → Prop} {w0 V : World} {g n c i : Nat} {ps : List Plc} {xs : List Int} {p : Plc} {x : Int} {R : Thing} (H : Sit Q0 w0 V ((ownsT (some ⟨g, 0, none⟩) n c (oL ps xs)).sep R)) (hp : ps[i]? = some p) (hx : xs[i]? = some x) :
    V.cell? ⟨g, i * 3 + 2, none⟩ = some (.int .i64 x) ∧ V.frozen? ⟨g, i * 3 + 2, none⟩ = false ∧ ∀ v : Int, Sit Q0 w0 (V.setCell ⟨g, i * 3 + 2, none⟩ (.int .i64 v)) ((ownsT (some ⟨g, 0, none⟩) n c (oL ps (xs.set i v))).sep R) := by
  obtain ⟨U, h1, h2⟩ := H.fst
  have hl := oL_get hp hx
  have hr : (rowOf encOw (oL ps xs))[i * 3 + 2]? = some (.int .i64 x) := rowOf_get encOw_len hl (j := 2) rfl
  have hc := owm_cell h1.1 hr
  refine ⟨hc.1, hc.2, fun v => ?_⟩
  have := h2 _ _ (ownM_set h1 (List.getElem?_eq_some_iff.1 hr).1 (.int .i64 v))
  rwa [rowOf_set encOw_len hl (j := 2) (b := (p, v)) (by omega) rfl, oL_set hp] at this
end Go.Proofs.Ytdlkdagmaeapdaa

/- Members by how many places they had: what the program answers. No condition but that there are few. -/
namespace Go.Proofs.Ytdlkdagmaeapdaa
open Go.RowKit Go.Shelf
attribute [local go_sem] Oper.semAt_some
set_option linter.unusedVariables false
set_option linter.unusedSimpArgs false
set_option maxRecDepth 100000

/-- How many places the member that stands at k had. -/
def hadN (F ms : List Int) (k : Nat) : Nat := (hadTo F (ms.getD k 0) F.length).length
def OutMost (w : World) (h : Nat → Nat) (m : Nat) (e : Ending) (w' : World) : Prop := ∃ a c, ∃ l : List Nat, e = .returned (.slice a m c) ∧ Srt h l ∧ l.Perm (List.range m) ∧ w'.ownsRow w.heap.size 3 1 (.slice a m c) m (ints (l.map (fun (k : Nat) => (k : Int)))) ∧ Still w w'

theorem blk3 (w : World) (xs ys zs : List Value) (tx ty tz : TypeId) :
    Blk (((w.alloc (.cells xs.toArray tx)).alloc (.cells ys.toArray ty)).alloc (.cells zs.toArray tz)).drew w.heap.size xs tx ∧ Blk (((w.alloc (.cells xs.toArray tx)).alloc (.cells ys.toArray ty)).alloc (.cells zs.toArray tz)).drew (w.heap.size + 1) ys ty ∧
    Blk (((w.alloc (.cells xs.toArray tx)).alloc (.cells ys.toArray ty)).alloc (.cells zs.toArray tz)).drew (w.heap.size + 1 + 1) zs tz ∧ Still w (((w.alloc (.cells xs.toArray tx)).alloc (.cells ys.toArray ty)).alloc (.cells zs.toArray tz)).drew := by
  have h2 := (Blk.new (w.alloc (.cells xs.toArray tx)) ys ty).alloc (.cells zs.toArray tz)
  have h3 := Blk.new ((w.alloc (.cells xs.toArray tx)).alloc (.cells ys.toArray ty)) zs tz
  rw [World.size_alloc] at h2 h3
  rw [World.size_alloc] at h3
  have hd : ∀ V : World, Turned (fun _ => False) V V.drew := fun V => (Turned.refl _ _).drew
  exact ⟨(((Blk.new w xs tx).alloc _).alloc _).turned (hd _) (fun h => h), h2.turned (hd _) (fun h => h), h3.turned (hd _) (fun h => h), ((((Turned.refl _ _).alloc _).alloc _).alloc _).drew⟩
theorem most_held {w V : World} {g gc B m : Nat} (hm : m ≤ 1000) (hs : Still w V) (b1 : Blk V g (ints (List.replicate m 0)) 3) (b2 : Blk V gc (ints (List.replicate m 0)) 3) (b3 : Blk V B [.slice (some ⟨gc, 0, none⟩) m m] 44)
    (n1 : g ≠ gc) (n2 : g ≠ B) (n3 : gc ≠ B) (l1 : w.heap.size ≤ g) (l2 : w.heap.size ≤ gc) (l3 : w.heap.size ≤ B) :
    Held w V ((intsT (some ⟨g, 0, none⟩) m m (List.replicate m 0)).sep ((intsT (some ⟨gc, 0, none⟩) m m (List.replicate m 0)).sep (blkT B [.slice (some ⟨gc, 0, none⟩) m m] 44))) := by
  have row : ∀ {x : Nat}, Blk V x (ints (List.replicate m 0)) 3 → (intsT (some ⟨x, 0, none⟩) m m (List.replicate m 0)).at_ V (· = x) := fun hb =>
    ⟨owm_of_parts (xs := ints (List.replicate m 0)) (r := []) (by rw [List.append_nil]; exact hb) (by rw [ints_length]; simp) (by rw [List.append_nil, ints_length]; simp) (Nat.le_refl _) (by unfold maxLen; omega) (Nat.zero_le _),
      fun k => ⟨fun h => by rw [h]; rfl, fun h => by cases h; rfl⟩⟩
  refine ⟨fun k => k = g ∨ (k = gc ∨ k = B), ⟨(· = g), fun k => k = gc ∨ k = B, row b1, ⟨(· = gc), (· = B), row b2, ⟨b3, fun _ => Iff.rfl⟩, fun k e1 e2 => n3 (by omega), fun _ => Iff.rfl⟩, fun k e1 e2 => by omega, fun _ => Iff.rfl⟩, fun k hk => by omega, hs⟩

def hC (h : Nat → Nat) (i e : Nat) : Nat → Nat := fun j => if j < i then h j else if j = i then e else 0
/-- What lies in memory when i members have been looked at, and the next one's e places. -/
abbrev MT (g gc B m : Nat) (h : Nat → Nat) (i e : Nat) (Ds : List Nat) : Thing := (markT Ds).sep ((intsT (some ⟨g, 0, none⟩) m m (mix ((List.range m).map (fun (k : Nat) => (k : Int))) (List.replicate m 0) i)).sep ((intsT (some ⟨gc, 0, none⟩) m m (cL m (hC h i e))).sep (blkT B [.slice (some ⟨gc, 0, none⟩) m m] 44)))
abbrev MI (g gc B bi m : Nat) (h : Nat → Nat) (i e : Nat) (Ds : List Nat) : Thing := (markT Ds).sep ((intsT (some ⟨gc, 0, none⟩) m m (cL m (hC h i e))).sep ((intsT (some ⟨g, 0, none⟩) m m (mix ((List.range m).map (fun (k : Nat) => (k : Int))) (List.replicate m 0) (i + 1))).sep ((blkT bi [.int .i64 (i : Int)] 3).sep (blkT B [.slice (some ⟨gc, 0, none⟩) m m] 44))))
theorem mt_zero {w V : World} {g gc B m : Nat} {h : Nat → Nat} (H : Held w V ((intsT (some ⟨g, 0, none⟩) m m (List.replicate m 0)).sep ((intsT (some ⟨gc, 0, none⟩) m m (List.replicate m 0)).sep (blkT B [.slice (some ⟨gc, 0, none⟩) m m] 44)))) : Held w V (MT g gc B m h 0 0 []) := by
  have e : hC h 0 0 = fun _ => 0 := by
    funext j; unfold hC
    rw [if_neg (by omega)]; split <;> rfl
  have := H.mark.swap
  unfold MT
  rw [mix_zero, e, cL_zero]
  exact this

set_option maxHeartbeats 4000000 in
theorem shmost_any (w : World) (ao bo : Option Addr) (ms F : List Int) (m n c1 c2 : Nat) (hm : m = ms.length) (hn : n = F.length) (h1 : m ≤ 8) (h2 : n ≤ 1000) (hA : NumsAt w ao ms) (hB : NumsAt w bo F) :
    Calls Try.prog 92 #[.slice ao m c1, .slice bo n c2] w (OutMost w (hadN F ms) m) := by
  have HA := Lib.hid hA
  have HB := Lib.hid hB
  have HM := Lib.hid hm
  have HN := Lib.hid hn
  obtain ⟨ti, fi, hz0, hz1, hz2⟩ := info_parts infoIntW
  have hmk := fun W : World => run_make (P := Try.prog) W 44 3 ti _ Try.underlying44 fi hz0 .i64 .i64 (m : Int) (m : Int) (Int.natCast_nonneg m) (Int.le_refl _) (by rw [hz2]; omega) (by omega)
  simp only [hz1, Int.toNat_natCast, Nat.mul_one, show Value.cells (.int .i64 0) = #[.int .i64 0] from rfl, madeN] at hmk
  clear hA hB hm hn fi hz0 hz1 hz2
  refine (callsIn_wide (n := 9)).1 (callsIn_of_wp_marks Try.func92 rfl trivial ?_ rfl)
  simp only [Try.ntmps92, List.size_toArray, List.length_cons, List.length_nil, Nat.reduceAdd, Nat.reduceSub, Array.replicate_succ, Array.replicate_zero, List.push_toArray, List.append_toArray, List.nil_append, List.cons_append]
  refine wpIn_wide.2 ?_
  go_upto_region 1 with fail
  go_cut [5, 6] from 9 to 14 (fun s5 s6 wx => ∃ g gc B, s5 = .slice (some ⟨g, 0, none⟩) m m ∧ s6 = .pointer (some ⟨B, 0, none⟩) ∧ Held w wx ((intsT (some ⟨g, 0, none⟩) m m (List.replicate m 0)).sep ((intsT (some ⟨gc, 0, none⟩) m m (List.replicate m 0)).sep (blkT B [.slice (some ⟨gc, 0, none⟩) m m] 44))))
  case first =>
    go_region
    all_goals (go_wp2_with fail; go_meet)
    · obtain ⟨b1, b2, b3, hs⟩ := blk3 w (ints (List.replicate m 0)) (ints (List.replicate m 0)) [.slice (some ⟨w.heap.size + 1, 0, none⟩) m m] 3 3 44
      exact ⟨_, _, _, rfl, rfl, most_held (by omega) hs b1 b2 b3 (by omega) (by omega) (by omega) (by omega) (by omega) (by omega)⟩
    · obtain ⟨b1, b2, b3, hs⟩ := blk3 w (ints (List.replicate m 0)) [.slice (some ⟨w.heap.size + 1 + 1, 0, none⟩) m m] (ints (List.replicate m 0)) 3 44 3
      exact ⟨_, _, _, rfl, rfl, most_held (by omega) hs b1 b3 b2 (by omega) (by omega) (by omega) (by omega) (by omega) (by omega)⟩
    · obtain ⟨b1, b2, b3, hs⟩ := blk3 w (ints (List.replicate m 0)) (ints (List.replicate m 0)) [.slice (some ⟨w.heap.size, 0, none⟩) m m] 3 3 44
      exact ⟨_, _, _, rfl, rfl, most_held (by omega) hs b2 b1 b3 (by omega) (by omega) (by omega) (by omega) (by omega) (by omega)⟩
    · obtain ⟨b1, b2, b3, hs⟩ := blk3 w (ints (List.replicate m 0)) [.slice (some ⟨w.heap.size, 0, none⟩) m m] (ints (List.replicate m 0)) 3 44 3
      exact ⟨_, _, _, rfl, rfl, most_held (by omega) hs b3 b1 b2 (by omega) (by omega) (by omega) (by omega) (by omega) (by omega)⟩
    · obtain ⟨b1, b2, b3, hs⟩ := blk3 w [.slice (some ⟨w.heap.size + 1 + 1, 0, none⟩) m m] (ints (List.replicate m 0)) (ints (List.replicate m 0)) 44 3 3
      exact ⟨_, _, _, rfl, rfl, most_held (by omega) hs b2 b3 b1 (by omega) (by omega) (by omega) (by omega) (by omega) (by omega)⟩
    · obtain ⟨b1, b2, b3, hs⟩ := blk3 w [.slice (some ⟨w.heap.size + 1, 0, none⟩) m m] (ints (List.replicate m 0)) (ints (List.replicate m 0)) 44 3 3
      exact ⟨_, _, _, rfl, rfl, most_held (by omega) hs b3 b2 b1 (by omega) (by omega) (by omega) (by omega) (by omega) (by omega)⟩
  case rest =>
    rename_i K aK
    obtain ⟨g, gc, B, rfl, rfl, hK⟩ := hcut
    have KH := Lib.hid (mt_zero (h := hadN F ms) hK)
    clear hK hmk
    refine aK _ _ ((wpIn_wide (n := 9)).1 ?_)
    clear aK
    gi_wp2
    refine wpIn_loop (fun a wq => ∃ (i : Nat) (Ds : List Nat) (v7 v8 v18 v19 v20 v21 v22 v23 v24 v25 v26 v27 v28 v29 v30 v31 v32 v33 v34 v35 v36 : Value), a = { tmps := #[.slice ao m c1, .slice bo n c2, undef, undef, .slice none 0 0, .slice (some ⟨g, 0, none⟩) m m, .pointer (some ⟨B, 0, none⟩), v7, v8, u9, u10, u11, u12, u13, u14, .slice ao m c1, .int .i64 (m : Int), .int .i64 (i : Int), v18, v19, v20, v21, v22, v23, v24, v25, v26, v27, v28, v29, v30, v31, v32, v33, v34, v35, v36, undef, undef, undef, undef], defers := Ds.map mkD } ∧ i ≤ m ∧ Held w wq (MT g gc B m (hadN F ms) i 0 Ds)) (fun a _ => m - (intOf (a.tmps.getD 17 undef)).toNat) ?_ ?_
    · exact ⟨0, [], _, _, _, _, _, _, _, _, _, _, _, _, _, _, _, _, _, _, _, _, _, rfl, Nat.zero_le _, KH.out⟩
    · rintro a wq ⟨i, Ds, v7, v8, v18, v19, v20, v21, v22, v23, v24, v25, v26, v27, v28, v29, v30, v31, v32, v33, v34, v35, v36, rfl, hi, hH⟩
      clear KH
      dsimp only
      by_cases hlt : i < m
      · obtain ⟨mk, hmk⟩ := get_some (l := ms) (i := i) (by rw [← HM.out]; exact hlt)
        obtain ⟨ba, oa, rfl, ca⟩ := (HA.out.still hH.ground) i mk hmk
        have hii : (i : Int) < (m : Int) := by omega
        have hgd : ms.getD i 0 = mk := by rw [List.getD_eq_getElem?_getD, hmk]; rfl
        obtain ⟨V1, hV1⟩ : ∃ V1, V1 = wq.alloc (.cells #[.int .i64 (i : Int)] 3) := ⟨_, rfl⟩
        obtain ⟨bi, hbi⟩ : ∃ bi, bi = wq.heap.size := ⟨_, rfl⟩
        have K1 : Held w V1 ((MT g gc B m (hadN F ms) i 0 Ds).sep (blkT bi [.int .i64 (i : Int)] 3)) := by rw [hV1, hbi]; exact hH.box [.int .i64 (i : Int)] 3
        have K2 := ((K1.swap.im un1).turn)
        obtain ⟨s1, s2, s3⟩ := held_put K2 (u := 0) (j := i) (by rw [mix_get (by simp) (by simp; exact hlt), if_neg (Nat.lt_irrefl _), List.getElem?_replicate, if_pos hlt])
        have K3 := s3 (i : Int)
        rw [mix_set (by simp) (by rw [List.getElem?_map, List.getElem?_range hlt]; rfl)] at K3
        have cb := K1.snd.blk.cell (o := 0) (v := .int .i64 (i : Int)) rfl
        obtain ⟨V2, hV2⟩ : ∃ V2, V2 = V1.setCell ⟨g, i, none⟩ (.int .i64 (i : Int)) := ⟨_, rfl⟩
        rw [← hV2] at K3
        have HE := Lib.hid (shhad_any bo n c2 mk V2)
        have hB2 := HB.out.still K3.ground
        have HR := Lib.hid (evH_new (n := n) (c := c2) (x := mk) hB2)
        have HIt := Lib.hid (shhad_it bo n c2 F mk HN.out h2 V2.heap.size (V2.heap.size + 1)).all
        have HGl := Lib.hid hgd
        have hf1 : Fence.wide.fn 93 := trivial
        have ht3 : Still V2 ((V2.alloc (.cells #[.slice bo n c2] 44)).alloc (.cells #[.int .i64 mk] 3)) := ((Turned.refl _ _).alloc _).alloc _
        have K3' : Held w V2 (MI g gc B bi m (hadN F ms) i 0 Ds) := (((K3.im un1).turn).im un2).im un1
        obtain ⟨Q0, hI0, hlo, hst2⟩ := K3'
        have hlt0 := Thing.lt _ hI0
        have HI0 := Lib.hid (Thing.keep _ hI0 ht3 (fun _ _ h => h))
        have HLo := Lib.hid hlo
        have HSt := Lib.hid (hst2.trans ht3)
        have HD := Lib.hid (show ∀ k, Q0 k → ¬ (k = V2.heap.size ∨ k = V2.heap.size + 1 ∨ (F ≠ [] ∧ ∃ x, bo = some x ∧ x.block = k)) from by
          intro k hk hk2
          have hkl := hlt0 k hk
          have hkb := hlo k hk
          rcases hk2 with h | h | h
          · omega
          · omega
          · have := nums_lt HB.out h; omega)
        rw [hV1] at s1 s2 cb hV2
        have HV2 := Lib.hid hV2
        rw [hbi] at cb
        have HBi := Lib.hid hbi
        clear hH K1 K2 K3 s3 hV1 hV2 ht3 hbi hB2 hI0 hlo hst2 hlt0 hgd hmk
        gi_wp2_with (gi_at_call 93; rw [← HV2.out]; ((with_reducible refine (callsIn_wide.2 HE.out).mono ?_)); rintro e w2 ⟨rfl, rfl⟩)
        rw [← HBi.out]
        clear HV2 s1 s2 cb ca
        refine loopT_outerE rfl (enters_of Try.func102 (by kernel_rfl) rfl) HIt.out (by exact fun _ => rfl) (fun e => MI g gc B bi m (hadN F ms) i e Ds) HR.out HI0.out HD.out ?_ ?_
        · rintro x
          apply Exists.intro
          apply And.intro
          · intro l1 V K hK
            dsimp only [encH16]
            gi_wp2
            exact hK
          · intro l1 e V Q' hr hl1 hx hI hQl hsk
            have hen : e ≤ 1000 := by
              have := (List.getElem?_eq_some_iff.1 hx).1
              have := hadTo_le F mk n
              omega
            have S0 := Sit.start hI
            have cB := (S0.snd.snd.snd.snd.imp (B := blkT B [.slice (some ⟨gc, 0, none⟩) m m] 44) (fun h => h))
            obtain ⟨U1, ⟨cB, _⟩, _⟩ := cB
            have cB := cB.cell (o := 0) (v := .slice (some ⟨gc, 0, none⟩) m m) rfl
            obtain ⟨U2, ⟨cI, _⟩, _⟩ := S0.snd.snd.snd.drop
            have cI := cI.cell (o := 0) (v := .int .i64 (i : Int)) rfl
            obtain ⟨s1, s2, s3⟩ := sit_ints S0.turn (u := (e : Int)) (j := i) (by rw [cL_get _ hlt]; unfold hC; rw [if_neg (Nat.lt_irrefl _), if_pos rfl])
            have HF := Lib.hid (show Goes (MI g gc B bi m (hadN F ms) i (e + 1) Ds) Q' V (V.setCell ⟨gc, i, none⟩ (.int .i64 ((e : Int) + 1))) from by
              have h := s3 ((e : Int) + 1)
              rw [show ((e : Int) + 1) = ((hC (hadN F ms) i (e + 1) i : Nat) : Int) from by unfold hC; rw [if_neg (Nat.lt_irrefl _), if_pos rfl]; rfl, cL_set hlt (d := hC (hadN F ms) i (e + 1)) (fun j _ hj => by unfold hC; simp [hj])] at h
              rw [show ((hC (hadN F ms) i (e + 1) i : Nat) : Int) = (e : Int) + 1 from by unfold hC; rw [if_neg (Nat.lt_irrefl _), if_pos rfl]; rfl] at h
              exact h.turn.goes)
            clear hr hl1 hx hI hQl hsk S0 s3
            gi_wp2
            exact HF.out
        · intro D V Q' hD hK hQD hI hsk
          have K7 := Held.loop' HLo.out HSt.out hsk hD hK hQD hI
          have K8 := Lib.hid (show Held w V (MT g gc B m (hadN F ms) (i + 1) 0 (D :: Ds)) from by
            have e : cL m (hC (hadN F ms) i (hadTo F mk n).length) = cL m (hC (hadN F ms) (i + 1) 0) := cL_congr fun j _ => by
              unfold hC
              by_cases h1 : j < i
              · rw [if_pos h1, if_pos (by omega)]
              · rw [if_neg h1]
                by_cases h2 : j = i
                · subst h2
                  rw [if_pos rfl, if_pos (by omega)]
                  unfold hadN
                  rw [HGl.out, HN.out]
                · rw [if_neg h2, if_neg (by omega)]; split <;> rfl
            have := (((((K7.im un2).im un1).turn).snd).im un1)
            rw [e] at this
            exact this)
          clear hK hQD hI hsk K7
          gi_wp2
          refine ⟨⟨i + 1, D :: Ds, _, _, _, _, _, _, _, _, _, _, _, _, _, _, _, _, _, _, _, _, _, rfl, by omega, K8.out⟩, ?_⟩
          simp [intOf]; omega
      · obtain rfl : i = m := by omega
        have hh : ∀ j, hadN F ms j ≤ 1000 := fun j => by
          unfold hadN
          have := hadTo_le F (ms.getD j 0) F.length
          have := HN.out
          omega
        have H0 : Held w wq ((intsT (some ⟨g, 0, none⟩) i i (rowS [] 0 i)).sep ((markT Ds).sep ((intsT (some ⟨gc, 0, none⟩) i i (cL i (hadN F ms))).sep (blkT B [.slice (some ⟨gc, 0, none⟩) i i] 44)))) := by
          have e : cL i (hC (hadN F ms) i 0) = cL i (hadN F ms) := cL_congr fun j hj => by unfold hC; rw [if_pos hj]
          have e2 := mix_all (a := (List.range i).map (fun (k : Nat) => (k : Int))) (b := List.replicate i (0 : Int)) (by simp)
          rw [List.length_replicate] at e2
          unfold MT at hH
          rw [e, e2] at hH
          rw [rowS_zero]
          exact hH.turn
        have HSo := Lib.hid (shsort_any h1 hh H0 (fun V xs hV a b ha hb => by
          have hr := hV.snd.snd
          obtain ⟨_, _, _⟩ := held_put hr (cL_get (hadN F ms) ha)
          exact shcmp_any V B gc i i a b (hadN F ms a) (hadN F ms b) ⟨ha, hb⟩ (by omega) ⟨hh a, hh b⟩ (hr.snd.blk.cell rfl) (held_put hr (cL_get (hadN F ms) ha)).1 (held_put hr (cL_get (hadN F ms) hb)).1))
        have hf2 : Fence.wide.fn 100 := trivial
        clear hH H0 hh
        gi_wp2_with (gi_at_call 100; ((with_reducible refine (callsIn_wide.2 HSo.out).mono ?_)); rintro e w5 ⟨rfl, l, hs, hp, hK⟩; have HS := Lib.hid hs; have HP := Lib.hid hp; have K9 := Lib.hid (show Held w w5 (((intsT (some ⟨g, 0, none⟩) i i (l.map (fun (k : Nat) => (k : Int)))).sep ((intsT (some ⟨gc, 0, none⟩) i i (cL i (hadN F ms))).sep (blkT B [.slice (some ⟨gc, 0, none⟩) i i] 44))).sep (markT Ds)) from hK.turn.swap); clear hs hp hK)
        refine leaves_marks (by simp) K9.out (fun w' hw => ⟨_, results_tmp rfl _ _ _, ?_⟩)
        obtain ⟨h3, h4⟩ := ow_raise hw.drop
        exact ⟨_, _, l, rfl, HS.out, HP.out, h3, h4⟩
end Go.Proofs.Ytdlkdagmaeapdaa

/- Quotas: what the program answers. No condition but that there are few members. -/
namespace Go.Proofs.Ytdlkdagmaeapdaa
open Go.RowKit
set_option linter.unusedVariables false
set_option linter.unusedSimpArgs false
set_option maxRecDepth 100000

def qC (q : Nat → Nat) (l : List Nat) (r : Nat) : Nat → Nat := fun j => if j ∈ l.take r then q j else 0
theorem qC_zero (q : Nat → Nat) (l : List Nat) : qC q l 0 = fun _ => 0 := by funext j; unfold qC; rw [if_neg (by simp)]
theorem qC_step {q : Nat → Nat} {l : List Nat} {r k j : Nat} (h : l[r]? = some k) (hj : j ≠ k) : qC q l r j = qC q l (r + 1) j := by
  unfold qC
  have e : l.take (r + 1) = l.take r ++ [k] := by rw [List.take_add_one, h]; rfl
  by_cases hm : j ∈ l.take r
  · rw [if_pos hm, if_pos (by rw [e]; exact List.mem_append.2 (.inl hm))]
  · rw [if_neg hm, if_neg (by rw [e]; intro h1; rcases List.mem_append.1 h1 with h1 | h1; exact hm h1; exact hj (List.mem_singleton.1 h1))]
theorem qC_at {q : Nat → Nat} {l : List Nat} {r k : Nat} (h : l[r]? = some k) : qC q l (r + 1) k = q k := by
  unfold qC
  rw [if_pos]
  rw [List.take_add_one, h]
  exact List.mem_append.2 (.inr (List.mem_singleton.2 rfl))

set_option maxHeartbeats 2000000 in
theorem shquo_any (w : World) (ao bo : Option Addr) (ms F : List Int) (m n c1 c2 : Nat) (hm : m = ms.length) (hn : n = F.length) (h1 : m ≤ 8) (h2 : n ≤ 1000) (hA : NumsAt w ao ms) (hB : NumsAt w bo F) :
    Calls Try.prog 79 #[.slice ao m c1, .slice bo n c2] w (OutNums w (cL m (quotaN n m (hadN F ms))) m) := by
  have HMo := Lib.hid (fun V (hs : Still w V) => shmost_any V ao bo ms F m n c1 c2 hm hn h1 h2 (hA.still hs) (hB.still hs))
  obtain ⟨h, hh⟩ : ∃ h, h = hadN F ms := ⟨_, rfl⟩
  rw [← hh] at HMo
  rw [← hh]
  obtain ⟨ti, fi, hz0, hz1, hz2⟩ := info_parts infoIntW
  have hmk := fun W : World => run_make (P := Try.prog) W 44 3 ti _ Try.underlying44 fi hz0 .i64 .i64 (m : Int) (m : Int) (Int.natCast_nonneg m) (Int.le_refl _) (by rw [hz2]; omega) (by omega)
  simp only [hz1, Int.toNat_natCast, Nat.mul_one, show Value.cells (.int .i64 0) = #[.int .i64 0] from rfl, madeN] at hmk
  have hmk0 := hmk w
  have K0 := Lib.hid (lit_held (Held.start (Turned.refl _ w)) (l := List.replicate m 0) (n := m) (by simp) (by omega)).swap
  obtain ⟨g, hg⟩ : ∃ g, g = w.heap.size := ⟨_, rfl⟩
  rw [← hg] at K0 hmk0
  obtain ⟨V0, hV0⟩ : ∃ V0, V0 = w.alloc (.cells (ints (List.replicate m 0)).toArray 3) := ⟨_, rfl⟩
  rw [← hV0] at K0 hmk0
  have HMo := Lib.hid (HMo.out V0 K0.out.ground)
  clear hA hB hm hn hmk fi hz0 hz1 hz2 hg hV0 hh
  go_enter Try.func79, Try.ntmps79
  go_wp2_with (go_at_call 92; ((with_reducible refine HMo.out.mono ?_)); rintro e w1 ⟨a2, cc, l, rfl, hs, hp, ho, hst⟩; have HS := Lib.hid hs; have HP := Lib.hid hp; have K1 := Lib.hid (K0.out.got ho hst); clear hs hp ho hst K0)
  have HLl := Lib.hid (show l.length = m from by rw [HP.out.length_eq, List.length_range])
  have K2 := Lib.hid (show Held w w1 ((intsT (some ⟨g, 0, none⟩) m m (cL m (qC (quotaN n m h) l 0))).sep (intsT a2 m cc (l.map (fun (k : Nat) => (k : Int))))) from by
    rw [qC_zero, cL_zero]
    exact K1.out.swap.assoc'.drop.swap)
  clear K1
  go_loopw [15] (fun ix wq => ∃ r : Nat, r ≤ m ∧ ix = .int .i64 r ∧ Held w wq ((intsT (some ⟨g, 0, none⟩) m m (cL m (qC (quotaN n m h) l r))).sep (intsT a2 m cc (l.map (fun (k : Nat) => (k : Int)))))) (fun ix _ => m - (intOf ix).toNat)
  case atStart => exact ⟨0, Nat.zero_le _, rfl, K2.out⟩
  case round =>
    clear K2
    obtain ⟨r, hr, rfl, hH⟩ := hrel
    by_cases hlt : r < m
    · obtain ⟨k, hk⟩ := get_some (l := l) (i := r) (by rw [HLl.out]; exact hlt)
      obtain ⟨hkm, hah⟩ := srt_ahead HS.out HP.out hk
      obtain ⟨bo2, oo2, rfl, co⟩ := ints_at hH.snd (by rw [List.length_map, HLl.out]) r _ (by rw [List.getElem?_map, hk]; rfl)
      have hri : (r : Int) < (m : Int) := by omega
      have hki : (k : Int) < (m : Int) := by omega
      have hk0 : (0 : Int) ≤ (k : Int) := by omega
      obtain ⟨s1, s2, s3⟩ := held_put hH (cL_get _ hkm)
      obtain ⟨q, hq⟩ : ∃ q, q = n / m := ⟨_, rfl⟩
      obtain ⟨d, hd⟩ : ∃ d, d = n % m := ⟨_, rfl⟩
      have hmz : ¬ (m : Int) = 0 := by omega
      have hmb : ((m : Int) == 0) = false := by simpa using hmz
      have hq2 : q ≤ 1000 := by rw [hq]; have := Nat.div_le_self n m; omega
      have hwq : (n : Int) / (m : Int) = (q : Int) := by rw [hq]; rfl
      have hwr : (n : Int) % (m : Int) = (d : Int) := by rw [hd]; rfl
      have HQk := Lib.hid (show quotaN n m h k = q + if r < d then 1 else 0 from by unfold quotaN; rw [hah, hq, hd])
      have K3 := Lib.hid (show Held w (wr.setCell ⟨g, k, none⟩ (.int .i64 (q : Int))) ((intsT (some ⟨g, 0, none⟩) m m ((cL m (qC (quotaN n m h) l r)).set k (q : Int))).sep (intsT (some ⟨bo2, oo2, none⟩) m cc (l.map (fun (k : Nat) => (k : Int))))) from s3 (q : Int))
      have HSet := Lib.hid (show ((cL m (qC (quotaN n m h) l r)).set k ((quotaN n m h k : Nat) : Int)) = cL m (qC (quotaN n m h) l (r + 1)) from by
        have := cL_set hkm (c := qC (quotaN n m h) l r) (d := qC (quotaN n m h) l (r + 1)) (fun j _ hj => qC_step hk hj)
        rwa [qC_at hk] at this)
      have HSl := Lib.hid (show k < (cL m (qC (quotaN n m h) l r)).length from by rw [cL_len]; exact hkm)
      clear hq hd hah hk hH s3
      by_cases hrd : r < d
      · have hrdi : (r : Int) < (d : Int) := by omega
        obtain ⟨t1, t2, t3⟩ := held_put K3.out (u := (q : Int)) (j := k) (List.getElem?_set_self HSl.out)
        have K4 := Lib.hid (show Held w ((wr.setCell ⟨g, k, none⟩ (.int .i64 (q : Int))).setCell ⟨g, k, none⟩ (.int .i64 ((q : Int) + 1))) ((intsT (some ⟨g, 0, none⟩) m m (cL m (qC (quotaN n m h) l (r + 1)))).sep (intsT (some ⟨bo2, oo2, none⟩) m cc (l.map (fun (k : Nat) => (k : Int))))) from by
          have := t3 ((q : Int) + 1)
          rw [List.set_set] at this
          have e := HSet.out
          rw [HQk.out, if_pos hrd] at e
          rw [show ((q : Int) + 1) = ((q + 1 : Nat) : Int) from rfl] at this ⊢
          rw [e] at this
          exact this)
        clear t3 K3
        go_wp2_with fail
        go_roundw
        case rel => exact ⟨r + 1, by omega, by go_num, K4.out⟩
        case measure => simp [intOf]; omega
      · have hrdi : ¬ (r : Int) < (d : Int) := by omega
        have K4 := Lib.hid (show Held w (wr.setCell ⟨g, k, none⟩ (.int .i64 (q : Int))) ((intsT (some ⟨g, 0, none⟩) m m (cL m (qC (quotaN n m h) l (r + 1)))).sep (intsT (some ⟨bo2, oo2, none⟩) m cc (l.map (fun (k : Nat) => (k : Int))))) from by
          have := K3.out
          have e := HSet.out
          rw [HQk.out, if_neg hrd, Nat.add_zero] at e
          rw [e] at this
          exact this)
        clear K3
        go_wp2_with fail
        go_roundw
        case rel => exact ⟨r + 1, by omega, by go_num, K4.out⟩
        case measure => simp [intOf]; omega
    · obtain rfl : r = m := by omega
      have e : cL r (qC (quotaN n r h) l r) = cL r (quotaN n r h) := cL_congr fun j hj => by
        unfold qC
        rw [if_pos]
        rw [List.take_of_length_le (by rw [HLl.out]; exact Nat.le_refl _)]
        exact HP.out.mem_iff.2 (List.mem_range.2 hj)
      rw [e] at hH
      have K5 := Lib.hid (ow_raise hH.drop)
      clear hH e
      go_wp2_with fail
      go_ret
      exact ⟨_, _, rfl, K5.out⟩
end Go.Proofs.Ytdlkdagmaeapdaa

/- Who gets the places that nobody has: what the program leaves. No condition but that members rise. -/
namespace Go.Proofs.Ytdlkdagmaeapdaa
open Go.RowKit
set_option linter.unusedVariables false
set_option linter.unusedSimpArgs false
set_option maxRecDepth 100000

/-- A place's owner, in owners of one's own. -/
theorem held_own {w0 w : World} {a : Option Addr} {n c i : Nat} {ps : List Plc} {xs : List Int} {p : Plc} {x : Int} {B : Thing} (H : Held w0 w ((ownsT a n c (oL ps xs)).sep B)) (hn : n = ps.length) (hp : ps[i]? = some p) (hx : xs[i]? = some x) :
    ∃ g, a = some ⟨g, 0, none⟩ := by
  obtain ⟨W, h, _⟩ := H.fst
  exact owm_addr h.1 (by have := (List.getElem?_eq_some_iff.1 hp).1; omega)
theorem held_int {w0 w : World} {a : Option Addr} {n c i : Nat} {l : List Int} {x : Int} {B : Thing} (H : Held w0 w ((intsT a n c l).sep B)) (hn : n = l.length) (hx : l[i]? = some x) :
    ∃ g, a = some ⟨g, 0, none⟩ := by
  obtain ⟨W, h, _⟩ := H.fst
  exact owm_addr h.1 (by have := (List.getElem?_eq_some_iff.1 hx).1; omega)
/-- What is left of the quotas. -/
def lftC (q c : Nat → Nat) : Nat → Nat := fun k => q k - c k
theorem lft_upd {m k : Nat} {q c : Nat → Nat} (hk : k < m) (h : c k < q k) : (cL m (lftC q c)).set k (((lftC q c k : Nat) : Int) - 1) = cL m (lftC q (upd c k)) := by
  have := cL_set (m := m) (k := k) (c := lftC q c) (d := lftC q (upd c k)) hk (fun j _ hj => by unfold lftC upd; rw [if_neg hj])
  rw [← this]
  congr 1
  unfold lftC upd
  rw [if_pos rfl]
  omega

set_option maxHeartbeats 4000000 in
theorem shgive_any (w0 w : World) (an ao al : Option Addr) (ps : List Plc) (ms : List Int) (l : List (Option Nat)) (q c : Nat → Nat) (n m cn cm cl : Nat) (hn : n = ps.length) (hl : n = l.length) (hm : m = ms.length) (h1 : n ≤ 1000) (h2 : m ≤ 1000) (hq : ∀ k, q k ≤ 1000)
    (hok : okW m l) (hms : ∀ x ∈ ms, 0 ≤ x) (hA : NumsAt w0 ao ms) (H : Held w0 w ((ownsT an n cn (oL ps (l.map (idI ms)))).sep (intsT al m cl (cL m (lftC q c))))) :
    Calls Try.prog 82 #[.slice an n cn, .slice ao m cm, .slice al m cl] w fun e w' => e = .returned (.tuple #[]) ∧ Held w0 w' ((ownsT an n cn (oL ps ((fillL m q c l).map (idI ms)))).sep (intsT al m cl (cL m (lftC q (stF m q c l n))))) := by
  have HN := Lib.hid hn
  have HL := Lib.hid hl
  have HM := Lib.hid hm
  have HA := Lib.hid hA
  have HMs := Lib.hid hms
  have HOk := Lib.hid hok
  have HQ := Lib.hid hq
  obtain ⟨F, hF⟩ : ∃ F, F = fillL m q c l := ⟨_, rfl⟩
  obtain ⟨X, hX⟩ : ∃ X, X = F.map (idI ms) := ⟨_, rfl⟩
  obtain ⟨X0, hX0⟩ : ∃ X0, X0 = l.map (idI ms) := ⟨_, rfl⟩
  have HXl := Lib.hid (show X.length = X0.length from by rw [hX, hX0, hF, List.length_map, List.length_map, fill_len])
  have HX0l := Lib.hid (show X0.length = n from by rw [hX0, List.length_map, hl])
  have HX0g := Lib.hid (fun i o (ho : l[i]? = some o) => show X0[i]? = some (idI ms o) from by rw [hX0, List.getElem?_map, ho]; rfl)
  have HXg := Lib.hid (fun i o (ho : F[i]? = some o) => show X[i]? = some (idI ms o) from by rw [hX, List.getElem?_map, ho]; rfl)
  have HFs := Lib.hid (fun i k (ho : l[i]? = some (some k)) => show F[i]? = some (some k) from by rw [hF]; exact fill_keep m q l c i k ho)
  have HFn := Lib.hid (fun i (ho : l[i]? = some none) => show F[i]? = some (roomK m q (stF m q c l i)) from by rw [hF]; exact fill_none ho)
  rw [← hF, ← hX]
  have K0 := Lib.hid (show Held w0 w ((ownsT an n cn (oL ps (mix X X0 0))).sep (intsT al m cl (cL m (lftC q (stF m q c l 0))))) from by
    rw [mix_zero, stF_zero, hX0]; exact H)
  clear H hn hl hm hA hms hok hq hF hX hX0
  go_enter Try.func82, Try.ntmps82
  go_wp2_with fail
  refine wp_scope_straight ?_
  go_wp2_with fail
  refine (wpIn_wide (n := 9)).1 (wpIn_label ?_)
  go_wp2_with fail
  go_loopw [11] (fun ix wq => ∃ i : Nat, i ≤ n ∧ ix = .int .i64 i ∧ Held w0 wq ((ownsT an n cn (oL ps (mix X X0 i))).sep (intsT al m cl (cL m (lftC q (stF m q c l i)))))) (fun ix _ => n - (intOf ix).toNat)
  case atStart => exact ⟨0, Nat.zero_le _, rfl, K0.out⟩
  case round =>
    clear K0
    obtain ⟨i, hi, rfl, hH⟩ := hrel
    by_cases hlt : i < n
    · obtain ⟨o, ho⟩ := get_some (l := l) (i := i) (by rw [← HL.out]; exact hlt)
      obtain ⟨p, hp⟩ := get_some (l := ps) (i := i) (by rw [← HN.out]; exact hlt)
      have hx0 := HX0g.out i o ho
      have hmx : (mix X X0 i)[i]? = some (idI ms o) := by rw [mix_get HXl.out (by rw [HX0l.out]; exact hlt), if_neg (Nat.lt_irrefl _), hx0]
      obtain ⟨gn, rfl⟩ := held_own hH HN.out hp hmx
      obtain ⟨s1, s2, s3⟩ := held_putO hH hp hmx
      have hii : (i : Int) < (n : Int) := by omega
      cases o with
      | some k =>
        have hkm : k < m := by
          rcases HOk.out _ (List.mem_of_getElem? ho) with h | ⟨k', h, e⟩
          · cases h
          · obtain rfl := Option.some.inj e; exact h
        obtain ⟨y, hy⟩ := get_some (l := ms) (i := k) (by rw [← HM.out]; exact hkm)
        have hid : idI ms (some k) = y := by unfold idI; simp [List.getD, hy]
        have hy0 := HMs.out y (List.mem_of_getElem? hy)
        have hne : (y != -1) = true := by simp; omega
        rw [hid] at s1
        have K2 := Lib.hid (show Held w0 wr ((ownsT (some ⟨gn, 0, none⟩) n cn (oL ps (mix X X0 (i + 1)))).sep (intsT al m cl (cL m (lftC q (stF m q c l (i + 1)))))) from by
          rw [stF_some ho, mix_same HXl.out (by rw [hx0, HXg.out i _ (HFs.out i k ho)])]
          exact hH)
        clear hH s2 s3 ho hp hx0 hmx hy hid
        go_wp2_with fail
        go_roundw
        case rel => exact ⟨i + 1, by omega, by go_num, K2.out⟩
        case measure => simp [intOf]; omega
      | none =>
        have hid : idI ms none = -1 := rfl
        rw [hid] at s1 hmx hx0
        have hF := HFn.out i ho
        have hstn := stF_none (m := m) (q := q) (c := c) ho
        obtain ⟨ci, hci⟩ : ∃ ci, ci = stF m q c l i := ⟨_, rfl⟩
        rw [← hci] at hH hF hstn
        have K2 := Lib.hid hH
        have HStn := Lib.hid hstn
        have HF := Lib.hid hF
        have HP := Lib.hid hp
        have HMx := Lib.hid hmx
        have HX0i := Lib.hid hx0
        clear hH s2 s3 ho hp hx0 hmx hF hstn hci hid
        go_wp2_with fail
        go_loopw [22] (fun kx wq => ∃ k : Nat, k ≤ m ∧ kx = .int .i64 k ∧ wq = wr ∧ ∀ j, j < k → ¬ ci j < q j) (fun kx _ => m - (intOf kx).toNat)
        case atStart => exact ⟨0, Nat.zero_le _, rfl, rfl, fun j hj => by omega⟩
        case round =>
          obtain ⟨k, hk, rfl, rfl, hall⟩ := hrel
          have HAll := Lib.hid hall
          clear hall
          by_cases hkm : k < m
          · obtain ⟨y, hy⟩ := get_some (l := ms) (i := k) (by rw [← HM.out]; exact hkm)
            obtain ⟨ba, oa, rfl, ca⟩ := (HA.out.still K2.out.ground) k y hy
            obtain ⟨gl, rfl⟩ := held_int K2.out.swap (cL_len _ _).symm (cL_get (lftC q ci) hkm)
            obtain ⟨t1, t2, t3⟩ := held_put K2.out.swap (cL_get (lftC q ci) hkm)
            have hki : (k : Int) < (m : Int) := by omega
            have hlq : lftC q ci k ≤ 1000 := by unfold lftC; have := HQ.out k; omega
            obtain ⟨v, hv⟩ : ∃ v, v = lftC q ci k := ⟨_, rfl⟩
            rw [← hv] at t1 hlq
            by_cases hc : ci k < q k
            · have hvp : (0 : Int) < (v : Int) := by rw [hv]; unfold lftC; omega
              obtain ⟨_, x2, x3⟩ := held_putO K2.out HP.out HMx.out
              have K3 := (x3 y).swap
              obtain ⟨z1, z2, z3⟩ := held_put K3 (cL_get (lftC q ci) hkm)
              have hroom := room_is hkm hc HAll.out
              have K4 := Lib.hid (show Held w0 ((wr.setCell ⟨gn, i * 3 + 2, none⟩ (.int .i64 y)).setCell ⟨gl, k, none⟩ (.int .i64 ((v : Int) - 1))) ((ownsT (some ⟨gn, 0, none⟩) n cn (oL ps (mix X X0 (i + 1)))).sep (intsT (some ⟨gl, 0, none⟩) m cl (cL m (lftC q (stF m q c l (i + 1)))))) from by
                have h := z3 ((v : Int) - 1)
                rw [hv, lft_upd hkm hc] at h
                have e1 := HStn.out
                rw [hroom] at e1
                have e2 := HXg.out i _ HF.out
                rw [hroom, show idI ms (some k) = y from by unfold idI; simp [List.getD, hy]] at e2
                rw [mix_set HXl.out e2] at h
                rw [e1, hv]
                exact h.swap)
              rw [← hv] at z1
              clear hv t3 x3 K3 z3 hroom hy K2
              go_wp2_with fail
              go_roundw
              case rel => exact ⟨i + 1, by omega, by go_num, K4.out⟩
              case measure => simp [intOf]; omega
            · have hvp : ¬ (0 : Int) < (v : Int) := by rw [hv]; unfold lftC; omega
              have HA2 := Lib.hid (show ∀ j, j < k + 1 → ¬ ci j < q j from fun j hj => by
                by_cases e : j = k
                · rw [e]; exact hc
                · exact HAll.out j (by omega))
              clear hv t3 hy
              go_wp2_with fail
              go_roundw
              case rel => exact ⟨k + 1, by omega, by go_num, by first | rfl | trivial, HA2.out⟩
              case measure => simp [intOf]; omega
          · obtain rfl : k = m := by omega
            have hroom := room_no HAll.out
            have K4 := Lib.hid (show Held w0 wr ((ownsT (some ⟨gn, 0, none⟩) n cn (oL ps (mix X X0 (i + 1)))).sep (intsT al k cl (cL k (lftC q (stF k q c l (i + 1)))))) from by
              have e1 := HStn.out
              rw [hroom] at e1
              have e2 := HXg.out i _ HF.out
              rw [hroom] at e2
              rw [e1, mix_same HXl.out (by rw [e2, HX0i.out]; rfl)]
              exact K2.out)
            clear hroom K2
            go_wp2_with fail
            go_roundw
            case rel => exact ⟨i + 1, by omega, by go_num, K4.out⟩
            case measure => simp [intOf]; omega
    · obtain rfl : i = n := by omega
      have e := mix_all HXl.out
      rw [HX0l.out] at e
      rw [e] at hH
      have K5 := Lib.hid hH
      clear hH e
      go_wp2_with fail
      dsimp only [Exit.noGoto]
      trace_state
      go_end0
      exact ⟨rfl, K5.out⟩
end Go.Proofs.Ytdlkdagmaeapdaa

/- Who keeps what, member by member: plain lists. No condition but that members rise. -/
namespace Go.Proofs.Ytdlkdagmaeapdaa
open Go.RowKit
set_option linter.unusedVariables false

theorem stK_min {q : Nat → Nat} {who : List (Option Nat)} (k : Nat) : ∀ p, p ≤ who.length → stK q (fun _ => 0) who p k = min (q k) (cntO (who.take p) k)
  | 0, _ => by rw [stK_zero]; simp [cntO]
  | p + 1, hp => by
    have ih := fun k => stK_min (q := q) (who := who) k p (by omega)
    obtain ⟨o, ho⟩ := get_some (l := who) (i := p) hp
    rw [cnt_take ho]
    cases o with
    | none => rw [stK_none ho, ih k, if_neg (by simp), Nat.add_zero]
    | some k' =>
      rw [stK_some ho]
      by_cases hk : k' = k
      · subst hk
        rw [if_pos rfl]
        have h1 := ih k'
        split
        · rename_i h; unfold upd; rw [if_pos rfl, h1]; omega
        · rename_i h; rw [h1]; omega
      · rw [if_neg (fun e => hk (Option.some.inj e)), Nat.add_zero]
        split
        · unfold upd; rw [if_neg (fun e => hk e.symm), ih k]
        · rw [ih k]
def kpO (q : Nat → Nat) (who : List (Option Nat)) (p : Nat) : Option Nat → Option Nat
  | some k => if cntO (who.take p) k < q k then some k else none
  | none => none
theorem kept_at {q : Nat → Nat} {who : List (Option Nat)} {p : Nat} {o : Option Nat} (h : who[p]? = some o) : (keepL q (fun _ => 0) who)[p]? = some (kpO q who p o) := by
  cases o with
  | none => exact keep_none h
  | some k =>
    rw [keep_some h, stK_min k p (by have := (List.getElem?_eq_some_iff.1 h).1; omega)]
    congr 1
    show _ = if cntO (who.take p) k < q k then some k else none
    by_cases hc : cntO (who.take p) k < q k
    · rw [if_pos hc, if_pos (by omega)]
    · rw [if_neg hc, if_neg (by omega)]
theorem cnt_mono (who : List (Option Nat)) (k p : Nat) : ∀ d, cntO (who.take p) k ≤ cntO (who.take (p + d)) k
  | 0 => Nat.le_refl _
  | d + 1 => by
    refine Nat.le_trans (cnt_mono who k p d) ?_
    cases h : who[p + d]? with
    | none =>
      have : who.take (p + d + 1) = who.take (p + d) := by rw [List.take_add_one, h]; simp
      rw [show p + (d + 1) = p + d + 1 by omega, this]; exact Nat.le_refl _
    | some o =>
      rw [show p + (d + 1) = p + d + 1 by omega, cnt_take h]; omega
theorem cnt_lt {who : List (Option Nat)} {k j p : Nat} (h : who[j]? = some (some k)) (hjp : j < p) : cntO (who.take j) k < cntO (who.take p) k := by
  have h1 := cnt_mono who k (j + 1) (p - (j + 1))
  rw [cnt_take h, if_pos rfl, show j + 1 + (p - (j + 1)) = p by omega] at h1
  omega
theorem kept_cnt (q : Nat → Nat) (who : List (Option Nat)) (k : Nat) : cntO (keepL q (fun _ => 0) who) k = min (q k) (cntO who k) := by
  have h1 := stK_all (q := q) who (fun _ => 0) k
  rw [stK_min k who.length (Nat.le_refl _), List.take_length, Nat.zero_add] at h1
  exact h1.symm

/-- Who has the places, when i members have kept theirs, and the next one e of its own. -/
def idK (ms : List Int) (q : Nat → Nat) (who : List (Option Nat)) (i e p : Nat) : Int := match who[p]? with
  | some (some k) => if k < i then (if cntO (who.take p) k < q k then ms.getD k (-1) else -1) else if k = i ∧ cntO (who.take p) k < e then ms.getD k (-1) else -1
  | _ => -1
def XK (ms : List Int) (q : Nat → Nat) (who : List (Option Nat)) (n i e : Nat) : List Int := (List.range n).map (idK ms q who i e)
theorem XK_len (ms : List Int) (q : Nat → Nat) (who : List (Option Nat)) (n i e : Nat) : (XK ms q who n i e).length = n := by simp [XK]
theorem XK_get {ms : List Int} {q : Nat → Nat} {who : List (Option Nat)} {n i e p : Nat} (hp : p < n) : (XK ms q who n i e)[p]? = some (idK ms q who i e p) := by
  unfold XK; rw [List.getElem?_map, List.getElem?_range hp]; rfl
theorem XK_zero (ms : List Int) (q : Nat → Nat) (who : List (Option Nat)) (n : Nat) : XK ms q who n 0 0 = List.replicate n (-1) := by
  apply List.ext_getElem?
  intro p
  by_cases hp : p < n
  · rw [XK_get hp, List.getElem?_replicate, if_pos hp]
    unfold idK
    split
    · rw [if_neg (by omega), if_neg (by omega)]
    · rfl
  · rw [List.getElem?_eq_none (by rw [XK_len]; omega), List.getElem?_eq_none (by simp; omega)]
theorem XK_step {ms : List Int} {q : Nat → Nat} {who : List (Option Nat)} {n i e p : Nat} (hw : who.length = n) (h : who[p]? = some (some i)) (he : cntO (who.take p) i = e) : (XK ms q who n i e).set p (ms.getD i (-1)) = XK ms q who n i (e + 1) := by
  have hpn : p < n := by rw [← hw]; exact (List.getElem?_eq_some_iff.1 h).1
  apply List.ext_getElem?
  intro j
  by_cases hj : j < n
  · rw [XK_get hj]
    by_cases hjp : j = p
    · subst hjp
      rw [List.getElem?_set_self (by rw [XK_len]; exact hj)]
      unfold idK
      rw [h]
      simp only
      rw [if_neg (Nat.lt_irrefl _), if_pos (by constructor; trivial; omega)]
    · rw [List.getElem?_set_ne (fun e => hjp e.symm), XK_get hj]
      congr 1
      unfold idK
      cases hwj : who[j]? with
      | none => rfl
      | some o =>
        cases o with
        | none => rfl
        | some k =>
          simp only
          by_cases hki : k < i
          · rw [if_pos hki, if_pos hki]
          · rw [if_neg hki, if_neg hki]
            by_cases hk : k = i
            · subst hk
              have hne : cntO (who.take j) k ≠ e := by
                intro h2
                rcases Nat.lt_or_gt_of_ne hjp with h3 | h3
                · have := cnt_lt hwj h3; omega
                · have := cnt_lt h h3; omega
              by_cases h5 : cntO (who.take j) k < e
              · rw [if_pos (by constructor; trivial; exact h5), if_pos (by constructor; trivial; omega)]
              · rw [if_neg (fun h6 => h5 h6.2), if_neg (fun h6 => by omega)]
            · rw [if_neg (fun h6 => hk h6.1), if_neg (fun h6 => hk h6.1)]
  · rw [List.getElem?_eq_none (by rw [List.length_set, XK_len]; omega), List.getElem?_eq_none (by rw [XK_len]; omega)]
theorem XK_next {ms : List Int} {q : Nat → Nat} {who : List (Option Nat)} {n i e : Nat} (h1 : e ≤ q i) (h2 : e = q i ∨ e = cntO who i) : XK ms q who n i e = XK ms q who n (i + 1) 0 := by
  apply List.ext_getElem?
  intro j
  by_cases hj : j < n
  · rw [XK_get hj, XK_get hj]
    congr 1
    unfold idK
    cases hwj : who[j]? with
    | none => rfl
    | some o =>
      cases o with
      | none => rfl
      | some k =>
        simp only
        by_cases hki : k < i
        · rw [if_pos hki, if_pos (show k < i + 1 by omega)]
        · rw [if_neg hki]
          by_cases hk : k = i
          · subst hk
            rw [if_pos (show k < k + 1 by omega)]
            have h3 : cntO (who.take j) k < cntO who k := by
              have := cnt_lt hwj (List.getElem?_eq_some_iff.1 hwj).1
              rwa [List.take_length] at this
            by_cases h5 : cntO (who.take j) k < e
            · rw [if_pos (by constructor; trivial; exact h5), if_pos (by omega)]
            · rw [if_neg (fun h6 => h5 h6.2), if_neg (by omega)]
          · rw [if_neg (fun h6 => hk h6.1), if_neg (by omega), if_neg (fun h6 => by omega)]
  · rw [List.getElem?_eq_none (by rw [XK_len]; omega), List.getElem?_eq_none (by rw [XK_len]; omega)]
theorem XK_all {ms : List Int} {q : Nat → Nat} {who : List (Option Nat)} {n m : Nat} (hw : who.length = n) (hm : m = ms.length) (hok : okW m who) : XK ms q who n m 0 = (keepL q (fun _ => 0) who).map (idI ms) := by
  apply List.ext_getElem?
  intro j
  by_cases hj : j < n
  · obtain ⟨o, ho⟩ := get_some (l := who) (i := j) (by rw [hw]; exact hj)
    rw [XK_get hj, List.getElem?_map, kept_at ho]
    congr 1
    unfold idK
    rw [ho]
    cases o with
    | none => rfl
    | some k =>
      simp only
      have hk : k < m := by
        rcases hok _ (List.mem_of_getElem? ho) with h | ⟨k', h, e⟩
        · cases h
        · obtain rfl := Option.some.inj e; exact h
      rw [if_pos hk]
      show _ = idI ms (if cntO (who.take j) k < q k then some k else none)
      split <;> rfl
  · rw [List.getElem?_eq_none (by rw [XK_len]; omega), List.getElem?_eq_none (by rw [List.length_map, keep_len, hw]; omega)]
def cK (q : Nat → Nat) (who : List (Option Nat)) (i e : Nat) : Nat → Nat := fun j => if j < i then min (q j) (cntO who j) else if j = i then e else 0
theorem cK_next {q : Nat → Nat} {who : List (Option Nat)} {i e : Nat} (h1 : e ≤ q i) (h2 : e = q i ∨ e = cntO who i) (h3 : e ≤ cntO who i) : cK q who i e = cK q who (i + 1) 0 := by
  funext j
  unfold cK
  by_cases h : j < i
  · rw [if_pos h, if_pos (by omega)]
  · rw [if_neg h]
    by_cases hj : j = i
    · subst hj; rw [if_pos rfl, if_pos (by omega)]; omega
    · rw [if_neg hj, if_neg (by omega)]; split <;> rfl
theorem cK_zero (q : Nat → Nat) (who : List (Option Nat)) : cK q who 0 0 = fun _ => 0 := by
  funext j; unfold cK
  rw [if_neg (by omega)]; split <;> rfl
theorem cK_all (q : Nat → Nat) (who : List (Option Nat)) (m : Nat) : ∀ j, j < m → cK q who m 0 j = cntO (keepL q (fun _ => 0) who) j := fun j hj => by
  unfold cK; rw [if_pos hj, kept_cnt]
theorem cK_at (q : Nat → Nat) (who : List (Option Nat)) (i e : Nat) : cK q who i e i = e := by unfold cK; rw [if_neg (Nat.lt_irrefl _), if_pos rfl]
theorem cK_other {q : Nat → Nat} {who : List (Option Nat)} {i e e' j : Nat} (h : j ≠ i) : cK q who i e j = cK q who i e' j := by unfold cK; rw [if_neg h, if_neg h]

/-! ### What a member had, and whose the places were -/
theorem had_who {ms F : List Int} {i : Nat} {mk : Int} (hr : ms.Pairwise (· < ·)) (hi : ms[i]? = some mk) : ∀ p, p ≤ F.length → (hadTo F mk p).length = cntO ((F.map (idxI ms)).take p) i
  | 0, _ => by simp [hadTo, cntO]
  | p + 1, hp => by
    obtain ⟨x, hx⟩ := get_some (l := F) (i := p) hp
    have ho : (F.map (idxI ms))[p]? = some (idxI ms x) := by rw [List.getElem?_map, hx]; rfl
    obtain ⟨hil, hie⟩ := List.getElem?_eq_some_iff.1 hi
    have hix := idx_iff hr hil (x := x)
    rw [hadTo_succ, cnt_take ho, List.length_append, had_who hr hi p (by omega), hx]
    congr 1
    by_cases h : x = mk
    · rw [if_pos (by rw [h]), if_pos (hix.2 (by rw [hie]; exact h))]; rfl
    · rw [if_neg (fun e => h (Option.some.inj e)), if_neg (fun e => h (by rw [← hie]; exact hix.1 e))]; rfl
theorem hadTo_nodup (F : List Int) (x : Int) (n : Nat) : (hadTo F x n).Nodup := List.Pairwise.filter _ List.nodup_range
theorem had_event {F : List Int} {x : Int} {n e p : Nat} (h : (hadTo F x n)[e]? = some p) : (hadTo F x p).length = e := by
  obtain ⟨h1, h2⟩ := hadTo_mem h
  have h3 := hadTo_get h1 h2
  obtain ⟨a, e1⟩ := List.getElem?_eq_some_iff.1 h
  obtain ⟨b, e2⟩ := List.getElem?_eq_some_iff.1 h3
  exact (List.getElem_inj (hadTo_nodup F x n)).1 (e2.trans e1.symm)
end Go.Proofs.Ytdlkdagmaeapdaa

/- Each member keeps the first of its places: what the program leaves. No condition but that members rise. -/
namespace Go.Proofs.Ytdlkdagmaeapdaa
open Go.RowKit Go.Shelf
attribute [local go_sem] Oper.semAt_some
set_option linter.unusedVariables false
set_option linter.unusedSimpArgs false
set_option maxRecDepth 100000

abbrev bxK (an al : Option Addr) (Bn Bl n m cn cl : Nat) : Thing := (blkT Bn [.slice an n cn] 65).sep (blkT Bl [.slice al m cl] 44)
abbrev KO (an al : Option Addr) (Bn Bl : Nat) (ps : List Plc) (ms : List Int) (q : Nat → Nat) (who : List (Option Nat)) (n m cn cl i e : Nat) (Ds : List Nat) : Thing :=
  (markT Ds).sep ((ownsT an n cn (oL ps (XK ms q who n i e))).sep ((intsT al m cl (cL m (lftC q (cK q who i e)))).sep (bxK an al Bn Bl n m cn cl)))
abbrev KI (an al : Option Addr) (Bn Bl Bi Bk : Nat) (ps : List Plc) (ms : List Int) (q : Nat → Nat) (who : List (Option Nat)) (n m cn cl i e : Nat) (mk : Int) (Ds : List Nat) : Thing :=
  (markT Ds).sep ((ownsT an n cn (oL ps (XK ms q who n i e))).sep ((intsT al m cl (cL m (lftC q (cK q who i e)))).sep ((bxK an al Bn Bl n m cn cl).sep ((blkT Bi [.int .i64 (i : Int)] 3).sep (blkT Bk [.int .i64 mk] 3)))))

set_option maxHeartbeats 4000000 in
theorem shkeep_any (w0 w : World) (an ao al af : Option Addr) (ps : List Plc) (ms F : List Int) (q : Nat → Nat) (n m cn cm cl cf : Nat) (hn : n = ps.length) (hF : n = F.length) (hm : m = ms.length) (h1 : n ≤ 1000) (h2 : m ≤ 1000) (hq : ∀ k, q k ≤ 1000)
    (hr : ms.Pairwise (· < ·)) (hA : NumsAt w0 ao ms) (H : Held w0 w (((ownsT an n cn (oL ps (List.replicate n (-1)))).sep (intsT al m cl (cL m q))).sep (intsT af n cf F))) :
    Calls Try.prog 81 #[.slice an n cn, .slice ao m cm, .slice al m cl, .slice af n cf] w fun e w' => e = .returned (.tuple #[]) ∧
      Held w0 w' ((((ownsT an n cn (oL ps ((keepL q (fun _ => 0) (F.map (idxI ms))).map (idI ms)))).sep (intsT al m cl (cL m (lftC q (cntO (keepL q (fun _ => 0) (F.map (idxI ms)))))))).sep (intsT af n cf F))) := by
  have HA := Lib.hid hA
  have HM := Lib.hid hm
  have HN := Lib.hid hn
  have HFl := Lib.hid hF
  have HR := Lib.hid hr
  have HQ := Lib.hid hq
  obtain ⟨who, hwho⟩ : ∃ who, who = F.map (idxI ms) := ⟨_, rfl⟩
  have HWl := Lib.hid (show who.length = n from by rw [hwho, List.length_map, hF])
  have HWg := Lib.hid (fun p x (hx : F[p]? = some x) => show who[p]? = some (idxI ms x) from by rw [hwho, List.getElem?_map, hx]; rfl)
  have HWh := Lib.hid (fun i mk (hi : ms[i]? = some mk) p (hp : p ≤ F.length) => show (hadTo F mk p).length = cntO (who.take p) i from by rw [hwho]; exact had_who hr hi p hp)
  have HOk := Lib.hid (show okW m who from by
    rw [hwho]
    intro o ho
    obtain ⟨x, _, rfl⟩ := List.mem_map.1 ho
    cases hx : idxI ms x with
    | none => exact .inl rfl
    | some k => exact .inr ⟨k, by rw [hm]; exact idx_lt hx, rfl⟩)
  rw [← hwho]
  obtain ⟨Bn, hBn⟩ : ∃ b, b = w.heap.size := ⟨_, rfl⟩
  obtain ⟨Bl, hBl⟩ : ∃ b, b = w.heap.size + 1 := ⟨_, rfl⟩
  have K0 := Lib.hid (show Held w0 ((w.alloc (.cells #[.slice an n cn] 65)).alloc (.cells #[.slice al m cl] 44)) ((KO an al Bn Bl ps ms q who n m cn cl 0 0 []).sep (intsT af n cf F)) from by
    have h := (H.box [.slice an n cn] 65).box [.slice al m cl] 44
    rw [World.size_alloc, ← hBn] at h
    rw [show Bn + 1 = Bl from by omega] at h
    have h2 := ((h.assoc.flip.im (sep_imp2 sep_assoc (fun h => h))).mark.flip.im (sep_imp2 sep_swap (fun h => h)))
    unfold KO
    rw [XK_zero, cK_zero]
    exact h2)
  clear H hA hm hn hF hr hq hwho
  refine (callsIn_wide (n := 9)).1 (callsIn_of_wp_marks Try.func81 rfl trivial ?_ rfl)
  simp only [Try.ntmps81, List.size_toArray, List.length_cons, List.length_nil, Nat.reduceAdd, Nat.reduceSub, Array.replicate_succ, Array.replicate_zero, List.push_toArray, List.append_toArray, List.nil_append, List.cons_append]
  gi_wp2
  rw [← hBl, ← hBn]
  clear hBl hBn
  refine wpIn_loop (fun a wq => ∃ (i : Nat) (Ds : List Nat) (v8 v9 v10 v14 v15 v16 v17 v18 v19 v20 v21 v22 v23 v24 v25 v26 v27 v28 v29 v30 v31 v32 v33 v34 v35 v36 v37 v38 : Value), a = { tmps := #[.slice an n cn, .slice ao m cm, .slice al m cl, .slice af n cf, .pointer (some ⟨Bn, 0, none⟩), undef, .pointer (some ⟨Bl, 0, none⟩), undef, v8, v9, v10, .slice ao m cm, .int .i64 (m : Int), .int .i64 (i : Int), v14, v15, v16, v17, v18, v19, v20, v21, v22, v23, v24, v25, v26, v27, v28, v29, v30, v31, v32, v33, v34, v35, v36, v37, v38], defers := Ds.map mkD } ∧ i ≤ m ∧ Held w0 wq ((KO an al Bn Bl ps ms q who n m cn cl i 0 Ds).sep (intsT af n cf F))) (fun a _ => m - (intOf (a.tmps.getD 13 undef)).toNat) ?_ ?_
  · exact ⟨0, [], _, _, _, _, _, _, _, _, _, _, _, _, _, _, _, _, _, _, _, _, _, _, _, _, _, _, _, _, rfl, Nat.zero_le _, K0.out⟩
  · rintro a wq ⟨i, Ds, v8, v9, v10, v14, v15, v16, v17, v18, v19, v20, v21, v22, v23, v24, v25, v26, v27, v28, v29, v30, v31, v32, v33, v34, v35, v36, v37, v38, rfl, hi, hH⟩
    clear K0
    dsimp only
    by_cases hlt : i < m
    · obtain ⟨mk, hmk⟩ := get_some (l := ms) (i := i) (by rw [← HM.out]; exact hlt)
      obtain ⟨ba, oa, rfl, ca⟩ := (HA.out.still hH.ground) i mk hmk
      have hii : (i : Int) < (m : Int) := by omega
      have hgd : ms.getD i (-1) = mk := by rw [List.getD_eq_getElem?_getD, hmk]; rfl
      obtain ⟨gl, rfl⟩ : ∃ gl, al = some ⟨gl, 0, none⟩ := by
        have := (hH.drop.im un1).turn.im un1
        obtain ⟨W, h, _⟩ := ((hH.drop.im un1).turn).fst
        exact owm_addr h.1 (by omega)
      obtain ⟨V2, hV2⟩ : ∃ V2, V2 = (wq.alloc (.cells #[.int .i64 (i : Int)] 3)).alloc (.cells #[.int .i64 mk] 3) := ⟨_, rfl⟩
      obtain ⟨Bi, hBi⟩ : ∃ b, b = wq.heap.size := ⟨_, rfl⟩
      obtain ⟨Bk, hBk⟩ : ∃ b, b = wq.heap.size + 1 := ⟨_, rfl⟩
      have K2 : Held w0 V2 ((KI an (some ⟨gl, 0, none⟩) Bn Bl Bi Bk ps ms q who n m cn cl i 0 mk Ds).sep (intsT af n cf F)) := by
        have h := (hH.box [.int .i64 (i : Int)] 3).box [.int .i64 mk] 3
        rw [World.size_alloc, ← hBi] at h
        rw [show Bi + 1 = Bk from by omega] at h
        rw [hV2]
        exact h.assoc.flip.im (sep_imp2 ap3 (fun h => h))
      obtain ⟨WW, ⟨Q0, QF, hI0, hFt, hd0, hWW⟩, hlo, hst2⟩ := K2
      have ck : V2.cell? ⟨Bk, 0, none⟩ = some (.int .i64 mk) := by
        obtain ⟨_, ⟨cK, _⟩, _⟩ := (Sit.start hI0).snd.snd.snd.snd.snd
        exact cK.cell rfl
      have hB2 : NumsAt V2 af F := NumsAt.of_own hFt.1 HFl.out
      have HE := Lib.hid (shhad_any af n cf mk V2)
      have HR2 := Lib.hid (evH_new (n := n) (c := cf) (x := mk) hB2)
      have HIt := Lib.hid (shhad_it af n cf F mk HFl.out h1 V2.heap.size (V2.heap.size + 1))
      have ht3 : Still V2 ((V2.alloc (.cells #[.slice af n cf] 44)).alloc (.cells #[.int .i64 mk] 3)) := ((Turned.refl _ _).alloc _).alloc _
      have hlt0 := Thing.lt _ hI0
      have HI0 := Lib.hid (show (Thing.and_ (0 ≤ q i) (KI an (some ⟨gl, 0, none⟩) Bn Bl Bi Bk ps ms q who n m cn cl i 0 mk Ds)).at_ ((V2.alloc (.cells #[.slice af n cf] 44)).alloc (.cells #[.int .i64 mk] 3)) Q0 from ⟨Nat.zero_le _, Thing.keep _ hI0 ht3 (fun _ _ h => h)⟩)
      have HFt := Lib.hid (Thing.keep _ hFt ht3 (fun _ _ h => h))
      have HSt := Lib.hid (hst2.trans ht3)
      have HLo := Lib.hid hlo
      have HWW := Lib.hid hWW
      have HD0 := Lib.hid hd0
      have HD := Lib.hid (show ∀ k, Q0 k → ¬ (k = V2.heap.size ∨ k = V2.heap.size + 1 ∨ (F ≠ [] ∧ ∃ x, af = some x ∧ x.block = k)) from by
        intro k hk hk2
        have hkl := hlt0 k hk
        rcases hk2 with h | h | ⟨_, x, hx, h⟩
        · omega
        · omega
        · exact hd0 k hk ((hFt.2 k).2 (by rw [hx, ← h]; rfl)))
      have HV2 := Lib.hid hV2
      have HBi := Lib.hid hBi
      have HBk := Lib.hid hBk
      have HGd := Lib.hid hgd
      have HMk := Lib.hid hmk
      have hf1 : Fence.wide.fn 93 := trivial
      have HEnd := Lib.hid (fun (e D : Nat) (V : World) (Q' : Nat → Prop) (h0 : e ≤ q i) (h1 : e = q i ∨ e = cntO who i) (h2 : e ≤ cntO who i) (hD : ((V2.alloc (.cells #[.slice af n cf] 44)).alloc (.cells #[.int .i64 mk] 3)).heap.size ≤ D) (hK : V.heap[D]? = some (.deferred (some []))) (hQD : ¬ Q' D)
          (hI : (KI an (some ⟨gl, 0, none⟩) Bn Bl Bi Bk ps ms q who n m cn cl i e mk Ds).at_ V Q') (hsk : Since Q0 ((V2.alloc (.cells #[.slice af n cf] 44)).alloc (.cells #[.int .i64 mk] 3)) Q' V) =>
        show Held w0 V ((KO an (some ⟨gl, 0, none⟩) Bn Bl ps ms q who n m cn cl (i + 1) 0 (D :: Ds)).sep (intsT af n cf F)) from by
          have h := held_again HFt.out HD0.out HWW.out HLo.out HSt.out (goes_loop hsk hD hK hQD hI)
          rw [XK_next h0 h1, cK_next h0 h1 h2] at h
          exact (h.im (sep_imp2 ap3' (fun h => h))).flip.drop)
      clear hH hI0 hFt hd0 hWW hlo hst2 hB2 ht3 hlt0 hV2 hBi hBk hgd hmk
      rw [HV2.out] at ck
      gi_wp2_with (gi_at_call 93; rw [← HV2.out]; ((with_reducible refine (callsIn_wide.2 HE.out).mono ?_)); rintro e w2 ⟨rfl, rfl⟩)
      rw [← HBk.out, ← HBi.out]
      clear HV2 ca ck
      refine loopX_outer (i0 := 2) rfl (enters_of Try.func102 (by kernel_rfl) rfl) HIt.out (by exact fun _ => rfl) (fun e => Thing.and_ (e ≤ q i) (KI an (some ⟨gl, 0, none⟩) Bn Bl Bi Bk ps ms q who n m cn cl i e mk Ds)) (fun e => Thing.and_ (e = q i) (KI an (some ⟨gl, 0, none⟩) Bn Bl Bi Bk ps ms q who n m cn cl i e mk Ds)) HR2.out HI0.out HD.out ?_ ?_ ?_
      · rintro x
        apply Exists.intro
        apply And.intro
        · intro l1 V K hK
          dsimp only [encH16]
          gi_wp2
          exact hK
        · intro l1 e V Q' hr hl1 hx hI hQl hsk
          obtain ⟨hxn, hxF⟩ := hadTo_mem hx
          have hev := had_event hx
          have hwi : who[x]? = some (some i) := by rw [HWg.out x mk hxF, idx_at HR.out HMk.out]
          have hce : cntO (who.take x) i = e := by rw [← HWh.out i mk HMk.out x (by have := HFl.out; omega)]; exact hev
          obtain ⟨p, hp⟩ := get_some (l := ps) (i := x) (by rw [← HN.out]; exact hxn)
          obtain ⟨hpe, hI⟩ := hI
          obtain ⟨gn, rfl⟩ : ∃ gn, an = some ⟨gn, 0, none⟩ := by
            obtain ⟨W, h, _⟩ := (Sit.start hI).turn.fst
            exact owm_addr h.1 (by omega)
          have S0 := Sit.start hI
          have hlv : lftC q (cK q who i e) i = q i - e := by unfold lftC; rw [cK_at]
          have hq1 := HQ.out i
          have HC := Lib.hid (fun (V1 : World) (xs : List Int) (S : Sit Q' V V1 ((markT Ds).sep ((ownsT (some ⟨gn, 0, none⟩) n cn (oL ps xs)).sep ((intsT (some ⟨gl, 0, none⟩) m cl (cL m (lftC q (cK q who i e)))).sep ((bxK (some ⟨gn, 0, none⟩) (some ⟨gl, 0, none⟩) Bn Bl n m cn cl).sep ((blkT Bi [.int .i64 (i : Int)] 3).sep (blkT Bk [.int .i64 mk] 3))))))) =>
            show V1.cell? ⟨Bn, 0, none⟩ = some (.slice (some ⟨gn, 0, none⟩) n cn) ∧ V1.cell? ⟨Bl, 0, none⟩ = some (.slice (some ⟨gl, 0, none⟩) m cl) ∧ V1.cell? ⟨Bi, 0, none⟩ = some (.int .i64 (i : Int)) ∧ V1.cell? ⟨Bk, 0, none⟩ = some (.int .i64 mk) from by
              have hb := S.snd.snd.snd
              obtain ⟨_, ⟨b1, _⟩, _⟩ := hb.drop.drop
              obtain ⟨_, ⟨b2, _⟩, _⟩ := hb.drop.snd
              obtain ⟨_, ⟨b3, _⟩, _⟩ := hb.snd.drop
              obtain ⟨_, ⟨b4, _⟩, _⟩ := hb.snd.snd
              exact ⟨b1.cell rfl, b2.cell rfl, b3.cell rfl, b4.cell rfl⟩)
          obtain ⟨d1, d2, d3, d4⟩ := HC.out _ _ S0
          obtain ⟨t1, t2, t3⟩ := sit_own S0.turn hp (XK_get hxn)
          obtain ⟨s1, s2, s3⟩ := sit_ints (S0.imp un1).turn (cL_get (lftC q (cK q who i e)) hlt)
          rw [hlv] at s1
          have hxi : (x : Int) < (n : Int) := by omega
          by_cases hv : e = q i
          · have hvz : q i - e = 0 := by omega
            rw [hvz] at s1
            have HF := Lib.hid (show Goes (Thing.and_ (e = q i) (KI (some ⟨gn, 0, none⟩) (some ⟨gl, 0, none⟩) Bn Bl Bi Bk ps ms q who n m cn cl i e mk Ds)) Q' V V from Goes.and_ hv S0.goes)
            clear hr hl1 hx hI hQl hsk S0 s3 t3 hv
            gi_wp2
            exact ⟨rfl, HF.out⟩
          · obtain ⟨v, hvv⟩ : ∃ v, v = q i - e := ⟨_, rfl⟩
            rw [← hvv] at s1
            have hvz : ((v : Int) == 0) = false := by rw [beq_eq_false_iff_ne]; omega
            have hv1 : v ≤ 1000 := by omega
            have S1 := (t3 mk).turn
            obtain ⟨f1, f2, f3, f4⟩ := HC.out _ _ S1
            obtain ⟨z1, z2, z3⟩ := sit_ints (S1.imp un1).turn (cL_get (lftC q (cK q who i e)) hlt)
            rw [hlv, ← hvv] at z1
            have HF := Lib.hid (show Goes (Thing.and_ (e + 1 ≤ q i) (KI (some ⟨gn, 0, none⟩) (some ⟨gl, 0, none⟩) Bn Bl Bi Bk ps ms q who n m cn cl i (e + 1) mk Ds)) Q' V ((V.setCell ⟨gn, x * 3 + 2, none⟩ (.int .i64 mk)).setCell ⟨gl, i, none⟩ (.int .i64 ((v : Int) - 1))) from by
              have h := ((z3 ((v : Int) - 1)).turn).imp un1
              have e1 := cL_set (m := m) (k := i) (c := lftC q (cK q who i e)) (d := lftC q (cK q who i (e + 1))) hlt (fun j _ hj => by unfold lftC; rw [cK_other hj])
              have e2 : ((lftC q (cK q who i (e + 1)) i : Nat) : Int) = (v : Int) - 1 := by unfold lftC; rw [cK_at]; omega
              rw [e2] at e1
              have e3 := XK_step (ms := ms) (q := q) HWl.out hwi hce
              rw [HGd.out] at e3
              rw [e1, e3] at h
              exact Goes.and_ (by omega) h.goes)
            clear hr hl1 hx hI hQl hsk S0 s3 t3 hv S1 z3 hlv hvv
            gi_wp2
            exact HF.out
      · intro D V Q' hD hK hQD hI hsk
        have hlen : (hadTo F mk n).length = cntO who i := by
          have := HWh.out i mk HMk.out n (by rw [HFl.out]; exact Nat.le_refl _)
          rwa [List.take_of_length_le (by rw [HWl.out]; exact Nat.le_refl _)] at this
        have K8 := Lib.hid (HEnd.out _ D V Q' hI.1 (.inr hlen) (by rw [hlen]; exact Nat.le_refl _) hD hK hQD hI.2 hsk)
        clear hK hQD hI hsk hlen
        gi_wp2
        refine ⟨⟨i + 1, D :: Ds, _, _, _, _, _, _, _, _, _, _, _, _, _, _, _, _, _, _, _, _, _, _, _, _, _, _, _, _, rfl, by omega, K8.out⟩, ?_⟩
        simp [intOf]; omega
      · intro D e V Q' hD hK hQD hel hI hsk
        have hlen : (hadTo F mk n).length = cntO who i := by
          have := HWh.out i mk HMk.out n (by rw [HFl.out]; exact Nat.le_refl _)
          rwa [List.take_of_length_le (by rw [HWl.out]; exact Nat.le_refl _)] at this
        have K8 := Lib.hid (HEnd.out _ D V Q' (by rw [hI.1]; exact Nat.le_refl _) (.inl hI.1) (by omega) hD hK hQD hI.2 hsk)
        clear hK hQD hI hsk hlen
        gi_wp2
        refine ⟨⟨i + 1, D :: Ds, _, _, _, _, _, _, _, _, _, _, _, _, _, _, _, _, _, _, _, _, _, _, _, _, _, _, _, _, rfl, by omega, K8.out⟩, ?_⟩
        simp [intOf]; omega
    · obtain rfl : i = m := by omega
      have K9 := Lib.hid (show Held w0 wq ((((ownsT an n cn (oL ps ((keepL q (fun _ => 0) who).map (idI ms)))).sep (intsT al i cl (cL i (lftC q (cntO (keepL q (fun _ => 0) who)))))).sep (intsT af n cf F)).sep (markT Ds)) from by
        have e1 := XK_all (ms := ms) (q := q) HWl.out HM.out HOk.out
        have e2 : cL i (lftC q (cK q who i 0)) = cL i (lftC q (cntO (keepL q (fun _ => 0) who))) := cL_congr fun j hj => by unfold lftC; rw [cK_all q who i j hj]
        unfold KO at hH
        rw [e1, e2] at hH
        exact ((hH.assoc.swap.assoc.im (sep_imp2 sep_assoc' (fun h => h))).flip.drop).assoc')
      clear hH
      gi_wp2
      exact leaves_marks (by simp) K9.out (fun w' hw => ⟨_, results_none rfl _ _ _, rfl, hw⟩)
end Go.Proofs.Ytdlkdagmaeapdaa

/- Who had each of the places: what the program answers. No condition. -/
namespace Go.Proofs.Ytdlkdagmaeapdaa
open Go.RowKit
set_option linter.unusedVariables false
set_option linter.unusedSimpArgs false
set_option maxRecDepth 100000

set_option maxHeartbeats 2000000 in
theorem shform_any (w : World) (bo co : Option Addr) (ps : List Plc) (os : List Own) (n k c1 c2 : Nat) (hn : n = ps.length) (hk : k = os.length) (h1 : n ≤ 1000) (h2 : k ≤ 1000) (hB : PlAt w bo ps) (hC : OwAt w co os) :
    Calls Try.prog 78 #[.slice bo n c1, .slice co k c2] w (OutNums w (ps.map (hadI os)) n) := by
  have HBy := Lib.hid (shby_any w co k c2 os hk h2 hC)
  have HB := Lib.hid hB
  have HN := Lib.hid hn
  obtain ⟨L, hL⟩ : ∃ L, L = ps.map (hadI os) := ⟨_, rfl⟩
  have HLl := Lib.hid (show L.length = (List.replicate n (0 : Int)).length from by rw [hL, List.length_map, List.length_replicate, hn])
  have HLg := Lib.hid (fun (i : Nat) (p : Plc) (hp : ps[i]? = some p) => show L[i]? = some (hadI os p) from by rw [hL, List.getElem?_map, hp]; rfl)
  rw [← hL]
  obtain ⟨ti, fi, hz0, hz1, hz2⟩ := info_parts infoIntW
  have hmk := fun W : World => run_make (P := Try.prog) W 44 3 ti _ Try.underlying44 fi hz0 .i64 .i64 (n : Int) (n : Int) (Int.natCast_nonneg n) (Int.le_refl _) (by rw [hz2]; omega) (by omega)
  simp only [hz1, Int.toNat_natCast, Nat.mul_one, show Value.cells (.int .i64 0) = #[.int .i64 0] from rfl, madeN] at hmk
  clear hB hC hn hk hL fi hz0 hz1 hz2
  go_enter Try.func78, Try.ntmps78
  go_wp2_with (go_at_call 91; ((with_reducible refine HBy.out.mono ?_)); rintro e w1 ⟨mb, rfl, hlo, hm, hs⟩; have K0 := Lib.hid (show Held w w1 (mapT plV mb (whoF os)) from ⟨(· = mb), ⟨hm, fun _ => Iff.rfl⟩, fun k e => by omega, hs⟩); clear hlo hm hs)
  have K1 := Lib.hid (lit_held K0.out (l := List.replicate n 0) (n := n) (by simp) (by omega)).swap
  obtain ⟨g, hg⟩ : ∃ g, g = w1.heap.size := ⟨_, rfl⟩
  have K1 := Lib.hid (show Held w (w1.alloc (.cells (ints (List.replicate n 0)).toArray 3)) ((intsT (some ⟨g, 0, none⟩) n n (mix L (List.replicate n 0) 0)).sep (mapT plV mb (whoF os))) from by
    rw [mix_zero, hg]; exact K1.out)
  rw [← hg]
  clear hg K0
  go_loopw [18] (fun ix wq => ∃ i : Nat, i ≤ n ∧ ix = .int .i64 i ∧ Held w wq ((intsT (some ⟨g, 0, none⟩) n n (mix L (List.replicate n 0) i)).sep (mapT plV mb (whoF os)))) (fun ix _ => n - (intOf ix).toNat)
  case atStart => exact ⟨0, Nat.zero_le _, rfl, K1.out⟩
  case round =>
    clear K1
    obtain ⟨i, hi, rfl, hH⟩ := hrel
    by_cases hlt : i < n
    · obtain ⟨⟨pf, pt⟩, hp⟩ := get_some (l := ps) (i := i) (by rw [← HN.out]; exact hlt)
      obtain ⟨bp, op, rfl, hc⟩ := row_still HB.out hH.ground i _ hp
      have c0 : wr.cell? ⟨bp, op + i * 2, none⟩ = some (.int .i64 pf) := hc 0 _ rfl
      have c1' : wr.cell? ⟨bp, op + i * 2 + 1, none⟩ = some (.int .i64 pt) := by rw [Nat.add_assoc]; exact hc 1 _ rfl
      have hx := HLg.out i _ hp
      have hii : (i : Int) < (n : Int) := by omega
      obtain ⟨U, hU⟩ : ∃ U, U = wr.alloc (.cells #[.int .i64 pf, .int .i64 pt] 54) := ⟨_, rfl⟩
      have hHU := hH.still (show Still wr U from by rw [hU]; exact (Turned.refl _ _).alloc _)
      obtain ⟨_, ⟨hmf, _⟩, _⟩ := hHU.snd
      have hlk := MapF.look keysPl hmf (pf, pt) true
      rw [if_pos rfl] at hlk
      simp only [plV] at hlk
      obtain ⟨s1, s2, s3⟩ := held_put hHU (u := 0) (j := i) (by rw [mix_get HLl.out (by simp; exact hlt), if_neg (Nat.lt_irrefl _), List.getElem?_replicate, if_pos hlt])
      have KP := Lib.hid (fun v (hv : L[i]? = some v) => show Held w (U.setCell ⟨g, i, none⟩ (.int .i64 v)) ((intsT (some ⟨g, 0, none⟩) n n (mix L (List.replicate n 0) (i + 1))).sep (mapT plV mb (whoF os))) from by
        have := s3 v
        rwa [mix_set HLl.out hv] at this)
      have hwf := whoF_had os (pf, pt)
      rw [← hwf] at hx
      cases hwo : whoF os (pf, pt) with
      | none =>
        rw [hwo] at hx hlk
        have KP := Lib.hid (KP.out _ hx)
        clear hH hHU hp hc hx hmf hwf s3
        rw [hU] at hlk s1 s2 KP
        clear hU
        go_wp2_with fail
        go_roundw
        case rel => exact ⟨i + 1, by omega, by go_num, KP.out⟩
        case measure => simp [intOf]; omega
      | some x =>
        rw [hwo] at hx hlk
        have KP := Lib.hid (KP.out _ hx)
        clear hH hHU hp hc hx hmf hwf s3
        rw [hU] at hlk s1 s2 KP
        clear hU
        go_wp2_with fail
        go_roundw
        case rel => exact ⟨i + 1, by omega, by go_num, KP.out⟩
        case measure => simp [intOf]; omega
    · obtain rfl : i = n := by omega
      have hf := mix_all HLl.out
      rw [List.length_replicate] at hf
      rw [hf] at hH
      have K2 := Lib.hid (ow_raise hH.drop)
      clear hH
      go_wp2_with fail
      go_ret
      exact ⟨_, _, rfl, K2.out⟩
end Go.Proofs.Ytdlkdagmaeapdaa

/- Why shares may not be assigned: what the program answers. No condition. -/
namespace Go.Proofs.Ytdlkdagmaeapdaa
open Go.RowKit
set_option linter.unusedVariables false
set_option linter.unusedSimpArgs false
set_option maxRecDepth 100000

/-- The first i members may be so; the next one is to be least at least. -/
def risToP (ms : List Int) (i : Nat) (least : Int) : Prop := 0 ≤ least ∧ least ≤ 16 ∧ (∀ x ∈ ms.take i, 0 ≤ x ∧ x < least) ∧ (ms.take i).Pairwise (· < ·) ∧ (least = 0 ∨ least - 1 ∈ ms.take i)
theorem risToP_step {ms : List Int} {i : Nat} {least x : Int} (h : risToP ms i least) (hx : ms[i]? = some x) (h1 : least ≤ x) (h2 : x < 16) : risToP ms (i + 1) (x + 1) := by
  obtain ⟨a, b, c, d, e⟩ := h
  have ht : ms.take (i + 1) = ms.take i ++ [x] := by rw [List.take_add_one, hx]; rfl
  refine ⟨by omega, by omega, fun y hy => ?_, ?_, .inr ?_⟩
  · rw [ht] at hy
    rcases List.mem_append.1 hy with hy | hy
    · have := c y hy; omega
    · have := List.mem_singleton.1 hy; omega
  · rw [ht]
    exact List.pairwise_append.2 ⟨d, List.pairwise_singleton _ _, fun y hy z hz => by
      have := c y hy
      have := List.mem_singleton.1 hz
      omega⟩
  · rw [ht, show x + 1 - 1 = x by omega]
    exact List.mem_append.2 (.inr (List.mem_singleton.2 rfl))
theorem risTo_bad {ms : List Int} {i : Nat} {least x : Int} (h : risToP ms i least) (hx : ms[i]? = some x) (hb : x < least ∨ 16 ≤ x) : ¬ risI ms := by
  rintro ⟨_, r1, r2⟩
  obtain ⟨a, b, c, d, e⟩ := h
  have h1 := r1 x (List.mem_of_getElem? hx)
  rcases hb with hb | hb
  · rcases e with e | e
    · omega
    · have ht : ms = ms.take i ++ x :: ms.drop (i + 1) := by
        obtain ⟨h1, h2⟩ := List.getElem?_eq_some_iff.1 hx
        rw [← h2, ← List.drop_eq_getElem_cons h1, List.take_append_drop]
      rw [ht] at r2
      have := (List.pairwise_append.1 r2).2.2 _ e x (List.mem_cons_self ..)
      omega
  · omega
theorem risToP_all {ms : List Int} {least : Int} (h : risToP ms ms.length least) : risI ms ↔ ms.length ≤ 8 := by
  obtain ⟨a, b, c, d, e⟩ := h
  rw [List.take_length] at c d
  exact ⟨fun h => h.1, fun h => ⟨h, fun x hx => by have := c x hx; omega, d⟩⟩

set_option maxHeartbeats 1000000 in
theorem shris_any (w : World) (ao : Option Addr) (ms : List Int) (m c : Nat) (hm : m = ms.length) (h1 : m ≤ 1000) (hA : NumsAt w ao ms) :
    Calls Try.prog 89 #[.slice ao m c] w fun e w' => e = .returned (.bool (decide (risI ms))) ∧ Still w w' := by
  have HA := Lib.hid hA
  have HM := Lib.hid hm
  clear hA hm
  go_enter Try.func89, Try.ntmps89
  go_wp2_with fail
  go_loopw [3, 8] (fun lx ix wq => ∃ (i : Nat) (least : Int), i ≤ m ∧ ix = .int .i64 i ∧ lx = .int .i64 least ∧ risToP ms i least ∧ wq = w) (fun _ ix _ => m - (intOf ix).toNat)
  case atStart => exact ⟨0, 0, Nat.zero_le _, rfl, rfl, ⟨by omega, by omega, fun x hx => by simp at hx, List.Pairwise.nil, .inl rfl⟩, rfl⟩
  case round =>
    obtain ⟨i, least, hi, rfl, rfl, hR, rfl⟩ := hrel
    have HR := Lib.hid hR
    obtain ⟨l0, l1⟩ : 0 ≤ least ∧ least ≤ 16 := ⟨hR.1, hR.2.1⟩
    clear hR
    by_cases hlt : i < m
    · obtain ⟨x, hx⟩ := get_some (l := ms) (i := i) (by rw [← HM.out]; exact hlt)
      obtain ⟨ba, oa, rfl, ca⟩ := HA.out i x hx
      have HX := Lib.hid hx
      have hii : (i : Int) < (m : Int) := by omega
      clear hx
      by_cases c1 : x < least
      · have HB := Lib.hid (show decide (risI ms) = false from decide_eq_false (risTo_bad HR.out HX.out (.inl c1)))
        go_wp2_with fail
        go_ret
        exact ⟨by rw [HB.out]; rfl, Turned.refl _ _⟩
      · by_cases c2 : 16 ≤ x
        · have HB := Lib.hid (show decide (risI ms) = false from decide_eq_false (risTo_bad HR.out HX.out (.inr c2)))
          go_wp2_with fail
          go_ret
          exact ⟨by rw [HB.out]; rfl, Turned.refl _ _⟩
        · have HS := Lib.hid (risToP_step HR.out HX.out (by omega) (by omega))
          go_wp2_with fail
          go_roundw
          case rel => exact ⟨i + 1, x + 1, by omega, by go_num, rfl, HS.out, by first | rfl | trivial⟩
          case measure => simp [intOf]; omega
    · obtain rfl : i = m := by omega
      have HB := Lib.hid (show decide (risI ms) = decide (i ≤ 8) from by
        have h := HR.out
        rw [HM.out] at h
        have := risToP_all h
        rw [HM.out]
        exact decide_eq_decide.2 this)
      go_wp2_with fail
      go_ret
      exact ⟨by rw [HB.out]; by_cases h : i ≤ 8 <;> simp [h] <;> omega, Turned.refl _ _⟩

def disToP (ps : List Plc) (i : Nat) : Prop := (∀ p ∈ ps.take i, 0 ≤ p.1 ∧ 0 ≤ p.2) ∧ (ps.take i).Nodup
theorem disToP_step {ps : List Plc} {i : Nat} {p : Plc} (h : disToP ps i) (hp : ps[i]? = some p) (h1 : 0 ≤ p.1) (h2 : 0 ≤ p.2) (h3 : timP (ps.take i) p = 0) : disToP ps (i + 1) := by
  have ht : ps.take (i + 1) = ps.take i ++ [p] := by rw [List.take_add_one, hp]; rfl
  refine ⟨fun y hy => ?_, ?_⟩
  · rw [ht] at hy
    rcases List.mem_append.1 hy with hy | hy
    · exact h.1 y hy
    · rw [List.mem_singleton.1 hy]; exact ⟨h1, h2⟩
  · rw [ht]
    refine List.nodup_append.2 ⟨h.2, by simp, fun a ha b hb e => ?_⟩
    rw [List.mem_singleton] at hb
    rw [e, hb] at ha
    exact timP_zero.1 h3 ha
theorem dis_bad {ps : List Plc} {i : Nat} {p : Plc} (hp : ps[i]? = some p) (h : p.1 < 0 ∨ p.2 < 0 ∨ timP (ps.take i) p ≠ 0) : ¬ disI ps := by
  rintro ⟨r1, r2⟩
  have h1 := r1 p (List.mem_of_getElem? hp)
  rcases h with h | h | h
  · omega
  · omega
  · have hm : p ∈ ps.take i := Classical.byContradiction fun hn => h (timP_zero.2 hn)
    have ht : ps = ps.take i ++ p :: ps.drop (i + 1) := by
      obtain ⟨h1, h2⟩ := List.getElem?_eq_some_iff.1 hp
      rw [← h2, ← List.drop_eq_getElem_cons h1, List.take_append_drop]
    rw [ht] at r2
    exact (List.nodup_append.1 r2).2.2 _ hm _ (List.mem_cons_self ..) rfl

set_option maxHeartbeats 2000000 in
theorem shdis_any (w : World) (ao : Option Addr) (ps : List Plc) (n c : Nat) (hn : n = ps.length) (h1 : n ≤ 1000) (hA : PlAt w ao ps) :
    Calls Try.prog 90 #[.slice ao n c] w fun e w' => e = .returned (.bool (decide (disI ps))) ∧ Still w w' := by
  have HA := Lib.hid hA
  have HN := Lib.hid hn
  have hmk := MapF.made (kv := plV) w
  obtain ⟨mb, hmb⟩ : ∃ mb, mb = w.heap.size := ⟨_, rfl⟩
  rw [← hmb] at hmk
  have HM0 := Lib.hid (hmk.congr (g := tmsP (ps.take 0)) (fun _ => rfl))
  have hmm : (Instr.makeMap 113 none).run Try.prog w = .ok (.map (some mb)) (w.alloc (.map #[] 0)) := by rw [hmb]; exact run_makeMap 113 w
  have HMB := Lib.hid (show w.heap.size ≤ mb from by omega)
  clear hA hn hmk hmb
  go_enter Try.func90, Try.ntmps90
  go_wp2_with fail
  clear hmm
  go_loopw [9] (fun ix wq => ∃ i : Nat, i ≤ n ∧ ix = .int .i64 i ∧ disToP ps i ∧ MapF plV wq mb (tmsP (ps.take i)) ∧ Still w wq) (fun ix _ => n - (intOf ix).toNat)
  case atStart => exact ⟨0, Nat.zero_le _, rfl, ⟨fun p hp => by simp at hp, by simp⟩, HM0.out, (Turned.refl _ _).alloc _⟩
  case round =>
    clear HM0
    obtain ⟨i, hi, rfl, hD, hmp, hst⟩ := hrel
    have HD := Lib.hid hD
    clear hD
    by_cases hlt : i < n
    · obtain ⟨⟨p1, p2⟩, hp⟩ := get_some (l := ps) (i := i) (by rw [← HN.out]; exact hlt)
      obtain ⟨b, o, rfl, hc⟩ := row_still HA.out hst i _ hp
      have c0 : wr.cell? ⟨b, o + i * 2, none⟩ = some (.int .i64 p1) := hc 0 _ rfl
      have c1 : wr.cell? ⟨b, o + i * 2 + 1, none⟩ = some (.int .i64 p2) := by rw [Nat.add_assoc]; exact hc 1 _ rfl
      have hii : (i : Int) < (n : Int) := by omega
      have HP := Lib.hid hp
      obtain ⟨m, hm⟩ : ∃ m, m = timP (ps.take i) (p1, p2) := ⟨_, rfl⟩
      have hm1 : m ≤ 1000 := by
        rw [hm]
        refine Nat.le_trans (timP_le _ _) ?_
        rw [List.length_take]; omega
      have hz0 : mb < wr.heap.size := hmp.lt
      obtain ⟨U, hU⟩ : ∃ U, U = (wr.alloc (.cells #[.int .i64 p1, .int .i64 p2] 54)).drew := ⟨_, rfl⟩
      have hsU : Still wr U := by rw [hU]; exact ((Turned.refl _ _).alloc _).drew
      have hb0 : Blk U wr.heap.size [.int .i64 p1, .int .i64 p2] 54 := by rw [hU]; exact (Blk.new wr _ _).turned (S := fun _ => False) ((Turned.refl _ _).drew) (fun h => h)
      have hmU := hmp.keep hsU (fun h => h)
      have hwr : IntKind.i64.wrap (((m : Nat) : Int) + 1) = ((m : Nat) : Int) + 1 := by simp [IntKind.wrap, IntKind.signed, IntKind.bits]; omega
      obtain ⟨U1, U2, st, hE, hm2, ht2, hS, hm3, ht3⟩ := MapF.entry keysPl hmU (p1, p2) (((m : Nat) : Int) + 1)
      rw [tmsP_get, ← hm] at hE hm2
      have hL0 := MapF.look keysPl hmU (p1, p2) false
      have hL1 := MapF.look keysPl hm2 (p1, p2) false
      have hL2 := MapF.look keysPl hm3 (p1, p2) false
      rw [tmsP_get, ← hm] at hL0
      simp only [if_true, Option.getD_some, plV] at hE hL0 hL1 hL2
      rw [if_neg Bool.false_ne_true] at hL0 hL1 hL2
      have hb1 := hb0.turned ht2 (by omega)
      have hb2 := hb1.turned ht3 (by omega)
      have c10 := hb1.cell (o := 0) rfl
      have c11 := hb1.cell (o := 1) rfl
      have c20 := hb2.cell (o := 0) rfl
      have c21 := hb2.cell (o := 1) rfl
      have HM3 := Lib.hid (show MapF plV U2 mb (tmsP (ps.take (i + 1))) from by
        have e : ps.take (i + 1) = ps.take i ++ [(p1, p2)] := by rw [List.take_add_one, hp]; rfl
        rw [e]
        exact hm3.congr (fun c => by rw [← tmsP_snoc, ← hm]))
      have HT := Lib.hid (show Still w U2 from by
        have h2 : Turned (fun k => w.heap.size ≤ k) w U2 := ((hst.trans hsU).mono (fun _ _ h => h.elim)).trans ((ht2.trans ht3).mono (fun k _ e => by rw [e]; exact HMB.out))
        exact h2.mono (fun k hk h => by omega))
      have HMz := Lib.hid hm
      rw [hU] at hE hL0
      clear hp hc hm hmp hst hmU hm2 hm3 ht2 ht3 hb0 hb1 hb2 hsU hU
      go_wp2_with fail
      go_region
      clear hE hS hL0 hL1 c10 c11
      by_cases d1 : p1 < 0
      · have HB := Lib.hid (show decide (disI ps) = false from decide_eq_false (dis_bad HP.out (.inl d1)))
        go_wp2_with fail
        go_ret
        exact ⟨by rw [HB.out]; rfl, HT.out⟩
      · by_cases d2 : p2 < 0
        · have HB := Lib.hid (show decide (disI ps) = false from decide_eq_false (dis_bad HP.out (.inr (.inl d2))))
          go_wp2_with fail
          go_ret
          exact ⟨by rw [HB.out]; rfl, HT.out⟩
        · by_cases d3 : m = 0
          · subst d3
            have HD2 := Lib.hid (disToP_step HD.out HP.out (show (0 : Int) ≤ p1 by omega) (show (0 : Int) ≤ p2 by omega) HMz.out.symm)
            go_wp2_with fail
            go_roundw
            case rel => exact ⟨i + 1, by omega, by go_num, HD2.out, HM3.out, HT.out⟩
            case measure => simp [intOf]; omega
          · have d4 : (1 : Int) < (m : Int) + 1 := by omega
            have HB := Lib.hid (show decide (disI ps) = false from decide_eq_false (dis_bad HP.out (.inr (.inr (by rw [← HMz.out]; exact d3)))))
            go_wp2_with fail
            go_ret
            exact ⟨by rw [HB.out]; rfl, HT.out⟩
    · obtain rfl : i = n := by omega
      have HB := Lib.hid (show decide (disI ps) = true from decide_eq_true (by
        have h := HD.out
        unfold disToP at h
        rw [HN.out, List.take_length] at h
        exact h))
      have HT := Lib.hid hst
      clear hst hmp
      go_wp2_with fail
      go_ret
      exact ⟨by rw [HB.out]; rfl, HT.out⟩

set_option maxHeartbeats 1000000 in
theorem shref_any (w : World) (ao bo co : Option Addr) (ms : List Int) (ps : List Plc) (os : List Own) (m n k c1 c2 c3 : Nat) (hm : m = ms.length) (hn : n = ps.length) (hk : k = os.length) (h1 : m ≤ 1000) (h2 : n ≤ 1000) (h3 : k ≤ 1000) (hA : NumsAt w ao ms) (hB : PlAt w bo ps) :
    Calls Try.prog 77 #[.slice ao m c1, .slice bo n c2, .slice co k c3] w fun e w' => e = .returned (.int .i64 (asgE ms ps os)) ∧ Still w w' := by
  have HR := Lib.hid (shris_any w ao ms m c1 hm h1 hA)
  have HD := Lib.hid (fun V (hs : Still w V) => shdis_any V bo ps n c2 hn h2 (row_still hB hs))
  have HE := Lib.hid (show asgE ms ps os = if 256 < n ∨ 256 < k then 3 else if risI ms ∧ disI ps then 0 else 2 from by unfold asgE; rw [hn, hk])
  clear hm hn hk hA hB
  by_cases hn : 256 < n
  · have hni : (256 : Int) < (n : Int) := by omega
    go_enter Try.func77, Try.ntmps77
    go_wp2_with fail
    go_ret
    exact ⟨by rw [HE.out, if_pos (.inl hn)]; rfl, Turned.refl _ _⟩
  · have hni : ¬ (256 : Int) < (n : Int) := by omega
    by_cases hk : 256 < k
    · have hki : (256 : Int) < (k : Int) := by omega
      go_enter Try.func77, Try.ntmps77
      go_wp2_with fail
      go_ret
      exact ⟨by rw [HE.out, if_pos (.inr hk)]; rfl, Turned.refl _ _⟩
    · have hki : ¬ (256 : Int) < (k : Int) := by omega
      rw [if_neg (fun h => h.elim hn hk)] at HE
      by_cases hr : risI ms
      · rw [decide_eq_true hr] at HR
        by_cases hd : disI ps
        · rw [decide_eq_true hd] at HD
          rw [if_pos ⟨hr, hd⟩] at HE
          clear hr hd
          go_enter Try.func77, Try.ntmps77
          go_wp2_with (first | (go_at_call 89; ((with_reducible refine HR.out.mono ?_)); rintro e w1 ⟨rfl, hs⟩; have S1 := Lib.hid hs; clear hs) | (go_at_call 90; ((with_reducible refine (HD.out _ S1.out).mono ?_)); rintro e w2 ⟨rfl, hs⟩; have S2 := Lib.hid (S1.out.trans hs); clear hs))
          go_ret
          exact ⟨by rw [HE.out]; rfl, S2.out⟩
        · rw [decide_eq_false hd] at HD
          rw [if_neg (fun h => hd h.2)] at HE
          clear hr hd
          go_enter Try.func77, Try.ntmps77
          go_wp2_with (first | (go_at_call 89; ((with_reducible refine HR.out.mono ?_)); rintro e w1 ⟨rfl, hs⟩; have S1 := Lib.hid hs; clear hs) | (go_at_call 90; ((with_reducible refine (HD.out _ S1.out).mono ?_)); rintro e w2 ⟨rfl, hs⟩; have S2 := Lib.hid (S1.out.trans hs); clear hs))
          go_ret
          exact ⟨by rw [HE.out]; rfl, S2.out⟩
      · rw [decide_eq_false hr] at HR
        rw [if_neg (fun h => hr h.1)] at HE
        clear hr HD
        go_enter Try.func77, Try.ntmps77
        go_wp2_with (go_at_call 89; ((with_reducible refine HR.out.mono ?_)); rintro e w1 ⟨rfl, hs⟩; have S1 := Lib.hid hs; clear hs)
        go_ret
        exact ⟨by rw [HE.out]; rfl, S1.out⟩
end Go.Proofs.Ytdlkdagmaeapdaa

/- Assign of the program's shares. No condition. -/
namespace Go.Proofs.Ytdlkdagmaeapdaa
open Go.RowKit
set_option linter.unusedVariables false
set_option linter.unusedSimpArgs false
set_option maxRecDepth 100000

theorem asgI_oL (ms : List Int) (ps : List Plc) (os : List Own) : asgI ms ps os = oL ps ((outI ms ps os).map (idI ms)) := by
  unfold asgI oL
  rw [List.zipWith_map_right]

set_option maxHeartbeats 2000000 in
theorem shasg_any (w : World) (ao bo co : Option Addr) (ms : List Int) (ps : List Plc) (os : List Own) (m n k c1 c2 c3 r : Nat) (hm : m = ms.length) (hn : n = ps.length) (hk : k = os.length) (h1 : m ≤ 1000) (h2 : n ≤ 1000) (h3 : k ≤ 1000)
    (hA : NumsAt w ao ms) (hB : PlAt w bo ps) (hC : OwAt w co os) (hr : r = (asgV ms ps os).length) :
    Calls Try.prog 56 #[.slice ao m c1, .slice bo n c2, .slice co k c3] w (OutAsg w (asgV ms ps os) r (asgE ms ps os)) := by
  have HRf := Lib.hid (shref_any w ao bo co ms ps os m n k c1 c2 c3 hm hn hk h1 h2 h3 hA hB)
  by_cases hE : asgE ms ps os = 0
  · obtain ⟨_, _, hri, hdi⟩ := asgE_ok hE
    have hV := asgV_ok hE
    rw [hV] at hr ⊢
    rw [hE] at HRf ⊢
    have hrn : r = n := by rw [hr, asgI_len, hn]
    subst hrn
    have hm8 : m ≤ 8 := by rw [hm]; exact hri.1
    obtain ⟨F, hF⟩ : ∃ F, F = ps.map (hadI os) := ⟨_, rfl⟩
    have HFl := Lib.hid (show r = F.length from by rw [hF, List.length_map, hn])
    obtain ⟨who, hwho⟩ : ∃ who, who = F.map (idxI ms) := ⟨_, rfl⟩
    have hw2 : who = whoI ms ps os := by rw [hwho, hF]; unfold whoI; rw [List.map_map]; rfl
    have hwl : who.length = r := by rw [hw2, who_len, hn]
    obtain ⟨q, hq⟩ : ∃ q, q = quoO m who := ⟨_, rfl⟩
    have HQ := Lib.hid (show cL m (quotaN r m (hadN F ms)) = cL m q from by
      rw [hq]
      unfold quoO
      rw [hwl]
      refine cL_congr fun j hj => quota_congr (fun i hi => ?_) hj
      unfold hadN
      obtain ⟨y, hy⟩ := get_some (l := ms) (i := i) (by rw [← hm]; exact hi)
      have hg : ms.getD i 0 = y := by rw [List.getD_eq_getElem?_getD, hy]; rfl
      rw [hg, had_who hri.2.2 hy F.length (Nat.le_refl _), ← hwho, List.take_of_length_le (by rw [hwl, HFl.out]; exact Nat.le_refl _)])
    have HQl := Lib.hid (show ∀ j, q j ≤ 1000 from fun j => by
      rw [hq]
      have := (quota_ge who.length m (cntO who) j).2
      unfold quoO
      have := Nat.div_le_self who.length m
      have := (asgE_ok hE).1
      omega)
    have HFin := Lib.hid (show asgI ms ps os = oL ps ((fillL m q (cntO (keepL q (fun _ => 0) who)) (keepL q (fun _ => 0) who)).map (idI ms)) from by
      rw [asgI_oL]
      unfold outI asgO keptO
      rw [← hw2, ← hm, ← hq])
    have HOk := Lib.hid (show okW m (keepL q (fun _ => 0) who) from keep_ok (by rw [hw2, hm]; exact who_ok ms ps os))
    have HKl := Lib.hid (show r = (keepL q (fun _ => 0) who).length from by rw [keep_len, hwl])
    have HFo := Lib.hid (fun V (hs : Still w V) => shform_any V bo co ps os r k c2 c3 hn hk h2 h3 (row_still hB hs) (row_still hC hs))
    have HFr := Lib.hid (fun V (hs : Still w V) => shfree_any V bo ps r c2 hn h2 (row_still hB hs))
    have HA := Lib.hid hA
    have HM := Lib.hid hm
    have HN := Lib.hid hn
    have HRi := Lib.hid hri
    have HWh := Lib.hid hwho
    rw [← hF] at HFo
    rw [HFin.out]
    clear hA hB hC hm hn hk hri hdi hE hV hr hF hwho hw2 hwl hq HFin
    go_enter Try.func56, Try.ntmps56
    go_wp2_with (go_at_call 77; ((with_reducible refine HRf.out.mono ?_)); rintro e w1 ⟨rfl, hs⟩; have S1 := Lib.hid hs; clear hs)
    go_wp2_with (go_at_call 78; ((with_reducible refine (HFo.out _ S1.out).mono ?_)); rintro e w2 hO; obtain ⟨af, cf, rfl, hK⟩ := (Held.start S1.out).outs hO; have K2 := Lib.hid hK; have HQu := Lib.hid (fun (c : Nat) => shquo_any w2 ao af ms F m r c cf HM.out HFl.out hm8 h2 (HA.out.still hK.ground) (ints_at hK.snd HFl.out)); clear hO hK S1)
    go_wp2_with (go_at_call 79; ((with_reducible refine (HQu.out _).mono ?_)); rintro e w3 hO; rw [HQ.out] at hO; obtain ⟨al, cl, rfl, hK⟩ := K2.out.outs hO; have K3 := Lib.hid hK; clear hO hK K2)
    go_wp2_with (go_at_call 80; ((with_reducible refine (HFr.out _ K3.out.ground).mono ?_)); rintro e w4 hO; obtain ⟨an, cn, rfl, hK⟩ := K3.out.row hO; have K4 := Lib.hid (((hK.assoc.swap.im (sep_imp2 sep_swap sep_swap)).assoc').drop); have HKe := Lib.hid (fun c => shkeep_any w w4 an ao al af ps ms F q r m cn c cl cf HN.out HFl.out HM.out h2 h1 HQl.out HRi.out.2.2 HA.out K4.out); rw [← HWh.out] at HKe; clear hO hK K3 K4)
    go_wp2_with (go_at_call 81; ((with_reducible refine (HKe.out _).mono ?_)); rintro e w5 ⟨rfl, hK⟩; have HGi := Lib.hid (fun c => shgive_any w w5 an ao al ps ms (keepL q (fun _ => 0) who) q (cntO (keepL q (fun _ => 0) who)) r m cn c cl HN.out HKl.out HM.out h2 h1 HQl.out HOk.out (fun x hx => (HRi.out.2.1 x hx).1) HA.out hK.drop); clear hK HKe)
    go_wp2_with (go_at_call 82; ((with_reducible refine (HGi.out _).mono ?_)); rintro e w6 ⟨rfl, hK⟩; have K6 := Lib.hid (ow_raise hK.drop); clear hK HGi)
    go_ret2
    exact ⟨_, _, rfl, K6.out⟩
  · have hV := asgV_no hE
    rw [hV] at hr ⊢
    obtain rfl : r = 0 := hr
    obtain ⟨E, hEE⟩ : ∃ E, E = asgE ms ps os := ⟨_, rfl⟩
    rw [← hEE] at HRf hE ⊢
    have hne : (E != 0) = true := by simpa using hE
    clear hA hB hC hm hn hk hV hEE
    go_enter Try.func56, Try.ntmps56
    go_wp2_with (go_at_call 77; ((with_reducible refine HRf.out.mono ?_)); rintro e w1 ⟨rfl, hs⟩; have S1 := Lib.hid hs; clear hs)
    go_ret2
    exact ⟨none, 0, rfl, World.ownsRow_nil _ _ _ _, S1.out⟩
end Go.Proofs.Ytdlkdagmaeapdaa
