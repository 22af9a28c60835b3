import Derived.Test.YtdlkdagmaeapdaaBdRbM
import Derived.Test.YtdlkdagmaeapdaaBdMb
import Derived.Test.YtdlkdagmaeapdaaBdSh
import Derived.Test.YtdlkdagmaeapdaaRowsT
import Derived.Deep.RegionHeld3
import Derived.RangeFuncNested
import Derived.RangeFuncBound
import Derived.RangeFuncCalls
import Derived.RangeFuncLeaves
import Derived.RangeFuncBox
import Derived.Maps.AppendAt
import Derived.Shelf.Abstract
import Derived.Shelf.RegionOpen
import Derived.OwnWalkIn
import Derived.TacticsInMore
import Derived.LoopNIn
import Derived.LoopIn
import Derived.Test.YtdlkdagmaeapdaaBdIter
import Derived.Test.YtdlkdagmaeapdaaSit
import Derived.Maps.OwnIn
import Derived.Deep.CutBlock
import Derived.Test.YtdlkdagmaeapdaaSameOw
import Derived.Test.YtdlkdagmaeapdaaReadInts
import Derived.Lib.SliceRun
import Derived.BigQuiet

/- The plain table: who must acknowledge is told by its owners and its target alone, rising. No condition. -/
namespace Go.Proofs.Ytdlkdagmaeapdaa
open Go.RowKit
set_option linter.unusedVariables false

theorem inc_ext : ∀ {a b : List Int}, a.Pairwise (· < ·) → b.Pairwise (· < ·) → (∀ x, x ∈ a ↔ x ∈ b) → a = b
  | [], [], _, _, _ => rfl
  | [], y :: b, _, _, h => by have := (h y).2 (List.mem_cons_self ..); cases this
  | x :: a, [], _, _, h => by have := (h x).1 (List.mem_cons_self ..); cases this
  | x :: a, y :: b, ha, hb, h => by
    obtain ⟨ha1, ha2⟩ := List.pairwise_cons.1 ha
    obtain ⟨hb1, hb2⟩ := List.pairwise_cons.1 hb
    have hxy : x = y := by
      rcases List.mem_cons.1 ((h x).1 (List.mem_cons_self ..)) with e | e
      · exact e
      · rcases List.mem_cons.1 ((h y).2 (List.mem_cons_self ..)) with e2 | e2
        · exact e2.symm
        · have := hb1 x e; have := ha1 y e2; omega
    subst hxy
    rw [inc_ext ha2 hb2 (fun z => ⟨fun hz => by
      rcases List.mem_cons.1 ((h z).1 (List.mem_cons_of_mem _ hz)) with e | e
      · have := ha1 z hz; omega
      · exact e, fun hz => by
      rcases List.mem_cons.1 ((h z).2 (List.mem_cons_of_mem _ hz)) with e | e
      · have := hb1 z hz; omega
      · exact e⟩)]

/-- Of whom a place is revoked. -/
def revN (O T : List Own) (i : Nat) : Bool := decide (0 < (revI O T (i : Int)).length)
def allN (O T : List Own) : List Nat := (List.range 16).filter (revN O T)
theorem rev_pos {O T : List Own} {id : Int} : 0 < (revI O T id).length ↔ ∃ x, x ∈ O.zip T ∧ isRev id x = true := by
  unfold revI
  rw [List.length_map]
  constructor
  · intro h
    obtain ⟨x, hx⟩ := List.exists_mem_of_length_pos h
    exact ⟨x, List.mem_filter.1 hx⟩
  · rintro ⟨x, h1, h2⟩
    exact List.length_pos_of_mem (List.mem_filter.2 ⟨h1, h2⟩)
theorem isRev_is {id : Int} {x : Own × Own} : isRev id x = true ↔ x.1.2 = id ∧ 0 ≤ id ∧ x.2.2 ≠ id := by unfold isRev; exact decide_eq_true_iff
theorem mem_allN {O T : List Own} {i : Nat} : i ∈ allN O T ↔ i < 16 ∧ 0 < (revI O T (i : Int)).length := by
  unfold allN revN; rw [List.mem_filter, List.mem_range, decide_eq_true_iff]
theorem allN_pw (O T : List Own) : (intsN (allN O T)).Pairwise (· < ·) := by
  unfold intsN allN
  rw [List.pairwise_map]
  exact (List.pairwise_lt_range.filter _).imp (fun h => by omega)
theorem mem_intsN {l : List Nat} {x : Int} : x ∈ intsN l ↔ ∃ i, i ∈ l ∧ (i : Int) = x := by unfold intsN; exact List.mem_map
theorem wait_all {ms : List Int} {O T : List Own} (hr : risI ms) (hO : ∀ o, o ∈ O → o.2 = -1 ∨ o.2 ∈ ms) : waitI ms O T = intsN (allN O T) := by
  refine inc_ext (hr.2.2.filter _) (allN_pw O T) (fun x => ?_)
  unfold waitI
  rw [List.mem_filter, mem_intsN, decide_eq_true_iff]
  constructor
  · rintro ⟨h1, h2⟩
    have := hr.2.1 x h1
    refine ⟨x.toNat, mem_allN.2 ⟨by omega, ?_⟩, by omega⟩
    rw [Int.toNat_of_nonneg this.1]; exact h2
  · rintro ⟨i, h1, rfl⟩
    obtain ⟨h2, h3⟩ := mem_allN.1 h1
    refine ⟨?_, h3⟩
    obtain ⟨x, hx, hi⟩ := rev_pos.1 h3
    obtain ⟨e1, e2, _⟩ := isRev_is.1 hi
    rcases hO x.1 (List.of_mem_zip hx).1 with e | e
    · omega
    · rw [← e1]; exact e
theorem now_ids {ms : List Int} {ps : List Plc} {O : List Own} {o : Own} (h : o ∈ nowI ms ps O) : o.2 = -1 ∨ o.2 ∈ ms := by
  unfold nowI at h
  obtain ⟨p, _, rfl⟩ := List.mem_map.1 h
  by_cases hm : hadI O p ∈ ms
  · dsimp only; rw [if_pos hm]; exact .inr hm
  · dsimp only; rw [if_neg hm]; exact .inl rfl
theorem asg_ids {ms : List Int} {ps : List Plc} {O : List Own} {o : Own} (h : o ∈ asgI ms ps O) : o.2 = -1 ∨ o.2 ∈ ms := by
  obtain ⟨i, hi, e⟩ := List.getElem_of_mem h
  have hil : i < ps.length := by rw [asgI_len] at hi; exact hi
  obtain ⟨x, hx, h1, h2⟩ := asgI_all (ms := ms) (os := O) (List.getElem?_eq_getElem hil)
  rw [List.getElem?_eq_getElem hi, e] at hx
  have e2 := Option.some.inj hx
  rw [e2]
  rcases Nat.eq_zero_or_pos ms.length with h | h
  · exact .inl (h2 h)
  · exact .inr (h1 h)
theorem idx_no {ms : List Int} {x : Int} (h : x ∉ ms) : idxI ms x = none := by
  cases hi : idxI ms x with
  | none => rfl
  | some k => exact absurd (List.mem_of_getElem? (idx_some hi)) h
theorem had_now {ms : List Int} {ps : List Plc} {O : List Own} (hd : ps.Nodup) {p : Plc} (hp : p ∈ ps) : hadI (nowI ms ps O) p = if hadI O p ∈ ms then hadI O p else -1 := by
  obtain ⟨i, hi, e⟩ := List.getElem_of_mem hp
  have : (nowI ms ps O)[i]? = some (p, if hadI O p ∈ ms then hadI O p else -1) := by
    unfold nowI
    rw [List.getElem?_map, List.getElem?_eq_getElem hi, e]; rfl
  exact had_at (by rw [now_places]; exact hd) this
/-- Whom the target gives the places is as of those who have them still. -/
theorem asg_now {ms : List Int} {ps : List Plc} {O : List Own} (hr : risI ms) (hd : disI ps) : asgI ms ps (nowI ms ps O) = asgI ms ps O := by
  have h : whoI ms ps (nowI ms ps O) = whoI ms ps O := by
    unfold whoI
    refine List.map_congr_left (fun p hp => ?_)
    rw [had_now hd.2 hp]
    by_cases hm : hadI O p ∈ ms
    · rw [if_pos hm]
    · rw [if_neg hm, idx_no hm, idx_no (fun h => by have := hr.2.1 _ h; omega)]
  unfold asgI outI
  rw [h]
theorem asgE_owners {ms : List Int} {ps : List Plc} {O : List Own} (h : O.length ≤ 256) : asgE ms ps O = begE ps ms := by
  unfold begE asgE
  have : (256 < ps.length ∨ 256 < O.length) ↔ (256 < ps.length ∨ 256 < ([] : List Own).length) := by simp; omega
  simp only [this]

structure TbM.Inv (M : TbM) : Prop where
  w : M.W = intsN (allN M.O M.T)
  lo : ∀ o, o ∈ M.O → -1 ≤ o.2
  lt : ∀ o, o ∈ M.T → -1 ≤ o.2
theorem inv_new : TbM.new.Inv := ⟨by decide, (fun _ h => by cases h), (fun _ h => by cases h)⟩
theorem rev_same (T : List Own) (id : Int) : revI T T id = [] := by
  unfold revI
  rw [List.map_eq_nil_iff, List.filter_eq_nil_iff]
  intro x hx h
  obtain ⟨h1, h2, h3⟩ := isRev_is.1 h
  obtain ⟨i, hi⟩ := List.mem_iff_getElem?.1 hx
  obtain ⟨e1, e2⟩ := List.getElem?_zip_eq_some.1 hi
  rw [e1] at e2
  exact h3 (by rw [← Option.some.inj e2]; exact h1)
theorem allN_same (T : List Own) : allN T T = [] := by
  unfold allN
  rw [List.filter_eq_nil_iff]
  intro i _
  unfold revN
  rw [rev_same]; simp
theorem TbM.Inv.settle {M : TbM} (h : M.Inv) : M.settle.Inv := by
  unfold TbM.settle
  by_cases hw : M.W = []
  · rw [if_pos hw]; exact ⟨by rw [allN_same]; rfl, h.lt, h.lt⟩
  · rw [if_neg hw]; exact h
theorem mem_lo {ms : List Int} (hr : risI ms) {o : Own} (h : o.2 = -1 ∨ o.2 ∈ ms) : -1 ≤ o.2 := by
  rcases h with h | h
  · omega
  · have := hr.2.1 _ h; omega
theorem begun_inv {M : TbM} {ps : List Plc} {ms : List Int} (hb : begE ps ms = 0) : (M.begun ps ms).Inv := by
  obtain ⟨_, hr, hd⟩ := begE_ok hb
  exact ⟨wait_all hr (fun o ho => now_ids ho), fun o ho => mem_lo hr (now_ids ho), fun o ho => mem_lo hr (asg_ids ho)⟩
theorem TbM.Inv.begin_ {M : TbM} (h : M.Inv) (ps : List Plc) (ms : List Int) : (M.begin_ ps ms).Inv := by
  unfold TbM.begin_
  by_cases hb : begE ps ms = 0
  · rw [if_pos hb]; exact (begun_inv hb).settle
  · rw [if_neg hb]; exact h
/-- What is revoked once a member has acknowledged. -/
theorem rev_off {O T : List Own} (hl : O.length = T.length) (id m : Int) (hm : 0 ≤ m) : revI ((O.zip T).map (offI id)) T m = if m = id then [] else revI O T m := by
  have hz : ((O.zip T).map (offI id)).zip T = (O.zip T).map (fun x => (offI id x, x.2)) := by
    apply List.ext_getElem?
    intro i
    rw [List.getElem?_map]
    cases hx : (O.zip T)[i]? with
    | none =>
      have h1 := List.getElem?_eq_none_iff.1 hx
      refine List.getElem?_eq_none ?_
      rw [List.length_zip, List.length_map]
      rw [List.length_zip] at h1 ⊢
      omega
    | some x =>
      obtain ⟨e1, e2⟩ := List.getElem?_zip_eq_some.1 hx
      exact List.getElem?_zip_eq_some.2 ⟨by rw [List.getElem?_map, hx]; rfl, e2⟩
  unfold revI
  rw [hz, List.filter_map, List.map_map]
  by_cases hmi : m = id
  · rw [if_pos hmi]
    subst hmi
    rw [List.map_eq_nil_iff, List.filter_eq_nil_iff]
    intro x _ h
    obtain ⟨h1, h2, h3⟩ := isRev_is.1 h
    dsimp only at h1 h3
    unfold offI at h1
    by_cases hr : isRev m x = true
    · rw [if_pos hr] at h1; dsimp only at h1; omega
    · rw [if_neg hr] at h1; exact hr (isRev_is.2 ⟨h1, h2, h3⟩)
  · rw [if_neg hmi]
    have e : (isRev m ∘ fun x : Own × Own => (offI id x, x.2)) = isRev m := by
      funext x
      rw [Bool.eq_iff_iff]
      show isRev m (offI id x, x.2) = true ↔ _
      unfold offI
      by_cases hr : isRev id x = true
      · rw [if_pos hr, isRev_is, isRev_is]
        obtain ⟨h1, h2, h3⟩ := isRev_is.1 hr
        dsimp only
        constructor
        · rintro ⟨h, _⟩; omega
        · rintro ⟨h, _⟩; omega
      · rw [if_neg hr]
    rw [e]
    refine List.map_congr_left (fun x _ => ?_)
    exact off_fst id x
theorem acked_inv {M : TbM} {K : Nat} (hM : M.Ok K) (h : M.Inv) {id : Int} (hi : id ∈ M.W) : (M.acked id).Inv := by
  refine ⟨?_, fun o ho => ?_, h.lt⟩
  · show M.W.filter (fun m => decide (m ≠ id)) = intsN (allN ((M.O.zip M.T).map (offI id)) M.T)
    rw [h.w]
    refine inc_ext ((allN_pw _ _).filter _) (allN_pw _ _) (fun x => ?_)
    rw [List.mem_filter, mem_intsN, mem_intsN, decide_eq_true_iff]
    constructor
    · rintro ⟨⟨i, h1, rfl⟩, h2⟩
      refine ⟨i, mem_allN.2 ⟨(mem_allN.1 h1).1, ?_⟩, rfl⟩
      rw [rev_off hM.len2 id _ (Int.natCast_nonneg i), if_neg h2]
      exact (mem_allN.1 h1).2
    · rintro ⟨i, h1, rfl⟩
      obtain ⟨h2, h3⟩ := mem_allN.1 h1
      rw [rev_off hM.len2 id _ (Int.natCast_nonneg i)] at h3
      by_cases hx : (i : Int) = id
      · rw [if_pos hx] at h3; exact absurd h3 (by simp)
      · rw [if_neg hx] at h3
        exact ⟨⟨i, mem_allN.2 ⟨h2, h3⟩, rfl⟩, hx⟩
  · obtain ⟨x, hx, rfl⟩ := List.mem_map.1 ho
    unfold offI
    split
    · exact Int.le_refl _
    · exact h.lo _ (List.of_mem_zip hx).1
theorem TbM.Inv.ack {M : TbM} {K : Nat} (h : M.Inv) (hM : M.Ok K) (id : Int) : (M.ack id).Inv := by
  unfold TbM.ack
  by_cases hi : id ∈ M.W
  · rw [if_pos hi]; exact (acked_inv hM h hi).settle
  · rw [if_neg hi]; exact h
/-- Who must acknowledge is of whom something is revoked. -/
theorem wait_iff {M : TbM} {K : Nat} (hM : M.Pre K) (h : M.Inv) (id : Int) : id ∈ M.W ↔ 0 < (revI M.O M.T id).length := by
  constructor
  · intro hi
    rw [h.w] at hi
    obtain ⟨i, h1, rfl⟩ := mem_intsN.1 hi
    exact (mem_allN.1 h1).2
  · intro hp
    obtain ⟨x, hx, hr⟩ := rev_pos.1 hp
    obtain ⟨e1, e2, e3⟩ := isRev_is.1 hr
    obtain ⟨i, hi⟩ := List.mem_iff_getElem?.1 hx
    obtain ⟨q1, q2⟩ := List.getElem?_zip_eq_some.1 hi
    have := hM.wait i x.1 x.2 q1 q2 (by omega) (by rw [e1]; exact e3)
    rw [e1] at this; exact this
theorem wait_len {M : TbM} {K : Nat} (hM : M.Pre K) (h : M.Inv) : (allN M.O M.T).length ≤ 8 := by
  have := hM.wl
  rw [h.w, intsN_len] at this
  exact this
theorem wait_nil {M : TbM} (h : M.Inv) : M.W = [] ↔ allN M.O M.T = [] := by
  rw [h.w]; unfold intsN; exact List.map_eq_nil_iff
theorem settled_is {M : TbM} {K : Nat} (hM : M.Ok K) (h : M.Inv) : decide (M.W = []) = decide (M.O = M.T) := by
  refine decide_eq_decide.2 ⟨hM.fin, fun e => ?_⟩
  rw [wait_nil h, e]
  exact allN_same _
/-- One more that fits makes a strictly longer row. -/
theorem cnt_ltN {a : Nat} {p q : Nat → Bool} : ∀ {l : List Nat}, (∀ i, p i = true → q i = true) → a ∈ l → p a = false → q a = true → (l.filter p).length < (l.filter q).length
  | [], _, h, _, _ => by cases h
  | x :: l, h, hm, h1, h2 => by
    have hle : (l.filter p).length ≤ (l.filter q).length := cnt_le h
    rw [List.filter_cons, List.filter_cons]
    rcases List.mem_cons.1 hm with rfl | hm
    · rw [h1, h2]; simp; omega
    · have ih := cnt_ltN h hm h1 h2
      by_cases hx : p x = true
      · rw [if_pos hx, if_pos (h x hx)]; simp; exact ih
      · rw [if_neg hx]
        split
        · simp; omega
        · exact ih
end Go.Proofs.Ytdlkdagmaeapdaa

/- The program's table, as it lies in memory: owners and target, which may be the same row; what it says of itself. No condition but that it is one. -/
namespace Go.Proofs.Ytdlkdagmaeapdaa
open Go.RowKit Go.Shelf
set_option linter.unusedVariables false
set_option linter.unusedSimpArgs false
set_option maxRecDepth 100000

abbrev rbY (q n : Nat) (a : Option Addr) (c : Nat) (b : Option Addr) (d : Nat) (O T : List Own) (G : Nat) : Thing :=
  (blkT q [.slice a n c, .slice b n d, .int .i64 ((G : Nat) : Int), .bool true] 93).sep ((readO a O).with_ (readO b T))
/-- Owners, a target, and a generation. -/
def rbX (q : Nat) (O T : List Own) (G : Nat) : Thing where
  at_ w W := ∃ a c b d, (rbY q O.length a c b d O T G).at_ w W
  lt := by rintro w W ⟨a, c, b, d, h⟩; exact Thing.lt _ h
  keep := by rintro w w' W S ⟨a, c, b, d, h⟩ ht hs; exact ⟨a, c, b, d, Thing.keep _ h ht hs⟩
/-- The program's table. -/
def rbT (q : Nat) (M : TbM) : Thing where
  at_ w W := M.Inv ∧ (rbX q M.O M.T M.G).at_ w W
  lt := by rintro w W ⟨_, h⟩; exact Thing.lt _ h
  keep := by rintro w w' W S ⟨hi, h⟩ ht hs; exact ⟨hi, Thing.keep _ h ht hs⟩

/-- What is asked of owners and a target. -/
structure TOk (O T : List Own) : Prop where
  len : O.length = T.length
  le : O.length ≤ 256
  lo : ∀ o, o ∈ O → -1 ≤ o.2
  w8 : (allN O T).length ≤ 8
  nd : (O.map (·.1)).Nodup
theorem tok_of {M : TbM} {K : Nat} (hM : M.Pre K) (h : M.Inv) : TOk M.O M.T := ⟨hM.len2, hM.len, h.lo, wait_len hM h, hM.dis⟩

structure RbRd (q n : Nat) (a : Option Addr) (c : Nat) (b : Option Addr) (d : Nat) (O T : List Own) (G : Nat) (w : World) : Prop where
  c0 : w.cell? ⟨q, 0, none⟩ = some (.slice a n c)
  c1 : w.cell? ⟨q, 1, none⟩ = some (.slice b n d)
  c2 : w.cell? ⟨q, 2, none⟩ = some (.int .i64 ((G : Nat) : Int))
  c3 : w.cell? ⟨q, 3, none⟩ = some (.bool true)
  o : OwAt w a O
  t : OwAt w b T
section
variable {q n c d G : Nat} {a b : Option Addr} {O T : List Own} {w V w' : World} {W : Nat → Prop}
theorem rbY_rd (h : (rbY q n a c b d O T G).at_ w W) : RbRd q n a c b d O T G w := by
  obtain ⟨W1, W2, ⟨h1, _⟩, ⟨W3, W4, ⟨h3, _⟩, ⟨h4, _⟩, _⟩, _⟩ := h
  exact ⟨h1.cell rfl, h1.cell rfl, h1.cell rfl, h1.cell rfl, h3, h4⟩
theorem RbRd.still (h : RbRd q n a c b d O T G w) (ht : Still w w') : RbRd q n a c b d O T G w' :=
  ⟨still_cell ht h.c0 rfl, still_cell ht h.c1 rfl, still_cell ht h.c2 rfl, still_cell ht h.c3 rfl, row_still h.o ht, row_still h.t ht⟩

theorem rbmade_any (c3 : w.cell? ⟨q, 3, none⟩ = some (.bool true)) : Calls Try.prog 55 #[.pointer (some ⟨q, 0, none⟩)] w fun e w' => e = .returned (.bool true) ∧ w = w' := by
  go_enter Try.func55, Try.ntmps55
  go_wp2_with fail
  go_ret
  exact ⟨by first | rfl | simp, rfl⟩
theorem rbhand_any (p : Option Addr) (w : World) : Calls Try.prog 83 #[.pointer p] w fun e w' => e = .returned (.func (.func 94) #[] #[.pointer (some ⟨w.heap.size, 0, none⟩)]) ∧
    w' = w.alloc (.cells #[.pointer p] 55) := by
  go_enter Try.func83, Try.ntmps83
  go_wp2
  go_ret
  exact ⟨rfl, rfl⟩
theorem rbrevd_any (w : World) (p1 p2 x tg : Int) : Calls Try.prog 87 #[.agg #[.int .i64 p1, .int .i64 p2, .int .i64 x], .int .i64 tg] w fun e w' => e = .returned (.bool (decide (x ≠ -1 ∧ x ≠ tg))) ∧ Still w w' := by
  have HS := Lib.hid (show Still w (w.alloc (.cells #[.int .i64 p1, .int .i64 p2, .int .i64 x] 99)) from (Turned.refl _ _).alloc _)
  by_cases h1 : x = -1
  · subst h1
    go_enter Try.func87, Try.ntmps87
    go_wp2_with fail
    go_ret
    exact ⟨by first | rfl | simp, HS.out⟩
  · have hb : (x != -1) = true := by simpa using h1
    by_cases h2 : x = tg
    · subst h2
      have hd : decide (x ≠ -1 ∧ x ≠ x) = false := by simp
      rw [hd]
      clear h1 hd
      go_enter Try.func87, Try.ntmps87
      go_wp2_with fail
      go_ret
      exact ⟨by first | rfl | simp, HS.out⟩
    · have hb2 : (x != tg) = true := by simpa using h2
      have hd : decide (x ≠ -1 ∧ x ≠ tg) = true := by simp [h1, h2]
      rw [hd]
      clear h1 h2 hd
      go_enter Try.func87, Try.ntmps87
      go_wp2_with fail
      go_ret
      exact ⟨by first | rfl | simp, HS.out⟩
/-- What judge answers. -/
def jdgV (id x tg : Int) : Int := if x = -1 ∨ x ≠ id then 180 else if x ≠ tg then 170 else 0
theorem rbjudge_any (w : World) (id p1 p2 x tg : Int) : Calls Try.prog 88 #[.int .i64 id, .agg #[.int .i64 p1, .int .i64 p2, .int .i64 x], .int .i64 tg] w fun e w' => e = .returned (.int .i64 (jdgV id x tg)) ∧ Still w w' := by
  have HS := Lib.hid (show Still w (w.alloc (.cells #[.int .i64 p1, .int .i64 p2, .int .i64 x] 99)) from (Turned.refl _ _).alloc _)
  have HRv := Lib.hid (rbrevd_any (w.alloc (.cells #[.int .i64 p1, .int .i64 p2, .int .i64 x] 99)) p1 p2 x tg)
  by_cases h1 : x = -1
  · have he : jdgV id x tg = 180 := by unfold jdgV; rw [if_pos (.inl h1)]
    rw [he]
    subst h1
    clear he HRv
    go_enter Try.func88, Try.ntmps88
    go_wp2_with fail
    go_ret
    exact ⟨rfl, HS.out⟩
  · have hb : (x == -1) = false := by simpa using h1
    by_cases h2 : x = id
    · have hb2 : (x != id) = false := by simp [h2]
      by_cases h3 : x = tg
      · have he : jdgV id x tg = 0 := by unfold jdgV; rw [if_neg (fun h => h.elim h1 (fun h => h h2)), if_neg (fun h => h h3)]
        rw [show decide (x ≠ -1 ∧ x ≠ tg) = false by simp [h3]] at HRv
        rw [he]
        clear he h1 h2 h3
        go_enter Try.func88, Try.ntmps88
        go_wp2_with (go_at_call 87; ((with_reducible refine HRv.out.mono ?_)); rintro e w3 ⟨rfl, hs⟩; have H3 := Lib.hid hs; clear hs)
        go_ret
        exact ⟨rfl, HS.out.trans H3.out⟩
      · have he : jdgV id x tg = 170 := by unfold jdgV; rw [if_neg (fun h => h.elim h1 (fun h => h h2)), if_pos h3]
        rw [show decide (x ≠ -1 ∧ x ≠ tg) = true by simp [h1, h3]] at HRv
        rw [he]
        clear he h1 h2 h3
        go_enter Try.func88, Try.ntmps88
        go_wp2_with (go_at_call 87; ((with_reducible refine HRv.out.mono ?_)); rintro e w3 ⟨rfl, hs⟩; have H3 := Lib.hid hs; clear hs)
        go_ret
        exact ⟨rfl, HS.out.trans H3.out⟩
    · have hb2 : (x != id) = true := by simpa using h2
      have he : jdgV id x tg = 180 := by unfold jdgV; rw [if_pos (.inr h2)]
      rw [he]
      clear he h1 h2 HRv
      go_enter Try.func88, Try.ntmps88
      go_wp2_with fail
      go_ret
      exact ⟨rfl, HS.out⟩
theorem rbmake_any (w : World) : Calls Try.prog 31 #[] w fun e w' => ∃ q, e = .returned (.pointer (some ⟨q, 0, none⟩)) ∧ ∃ W, (rbT q TbM.new).at_ w' W ∧ Still w w' ∧ ∀ k, W k → w.heap.size ≤ k := by
  have HN := Lib.hid (show ∃ W, (rbT w.heap.size TbM.new).at_ (w.alloc (.cells #[.slice none 0 0, .slice none 0 0, .int .i64 0, .bool true] 93)) W ∧ Still w (w.alloc (.cells #[.slice none 0 0, .slice none 0 0, .int .i64 0, .bool true] 93)) ∧ ∀ k, W k → w.heap.size ≤ k from by
    have hr : ∀ (V : World), (readO none []).at_ V (fun _ => False) := fun V => ⟨(fun i x hx => by cases hx), fun k => ⟨fun h => h.elim, fun h => h.1 rfl⟩⟩
    exact ⟨fun k => k = w.heap.size ∨ (False ∨ False), ⟨inv_new, none, 0, none, 0, (· = w.heap.size), fun _ => False ∨ False, ⟨Blk.new w [.slice none 0 0, .slice none 0 0, .int .i64 0, .bool true] 93, fun _ => Iff.rfl⟩, with_at (hr _) (hr _), fun k _ h => h.elim id id, fun _ => Iff.rfl⟩,
      (Turned.refl _ _).alloc _, fun k hk => by
        rcases hk with hk | hk
        · omega
        · exact hk.elim (fun h => h.elim) (fun h => h.elim)⟩)
  go_enter Try.func31, Try.ntmps31
  go_wp2_with fail
  go_ret
  exact ⟨_, rfl, HN.out⟩
end
end Go.Proofs.Ytdlkdagmaeapdaa

/- The iterator of the program's table goes through the places, each with its owner, and whom the target gives it to. No condition but that there are as many owners as targets. -/
namespace Go.Proofs.Ytdlkdagmaeapdaa
open Go.RowKit Go.Shelf
attribute [local go_sem] Oper.semAt_some
set_option linter.unusedVariables false
set_option linter.unusedSimpArgs false
set_option maxRecDepth 100000

abbrev encT17 (x : Own × Own) : Array Value := #[.agg #[.int .i64 x.1.1.1, .int .i64 x.1.1.2, .int .i64 x.1.2], .int .i64 x.2.2]
/-- What the iterator reads: the table, and the box that holds where it lies. -/
abbrev evT (B q n : Nat) (a : Option Addr) (c : Nat) (b : Option Addr) (d : Nat) (O T : List Own) (G : Nat) : Thing := (blkT B [.pointer (some ⟨q, 0, none⟩)] 55).sep (rbY q n a c b d O T G)
section
variable {q n c d G : Nat} {a b : Option Addr} {O T : List Own} {w : World} {W : Nat → Prop}
theorem evT_new (h : (rbY q n a c b d O T G).at_ w W) : (evT w.heap.size q n a c b d O T G).at_ (w.alloc (.cells #[.pointer (some ⟨q, 0, none⟩)] 55)) (fun k => k = w.heap.size ∨ W k) :=
  ⟨(· = w.heap.size), W, ⟨Blk.new w [.pointer (some ⟨q, 0, none⟩)] 55, fun _ => Iff.rfl⟩, Thing.keep _ h ((Turned.refl _ _).alloc _) (fun _ _ h => h), fun k e hk => by have := Thing.lt _ h k hk; omega, fun _ => Iff.rfl⟩

set_option maxHeartbeats 4000000 in
theorem rbhand_it (hn : n = O.length) (hl : O.length = T.length) (hn1 : n ≤ 1000) (B : Nat) :
    IterS 94 #[.pointer (some ⟨B, 0, none⟩)] encT17 (O.zip T) (evT B q n a c b d O T G) := by
  intro l J Jx W Q S hR h0 hd hY
  have HX := Lib.hid (fun V (h : ∃ Q', Since Q W Q' V) => show V.cell? ⟨B, 0, none⟩ = some (.pointer (some ⟨q, 0, none⟩)) ∧ RbRd q n a c b d O T G V from by
    obtain ⟨Q', hs⟩ := h
    obtain ⟨U1, U2, ⟨u1, _⟩, u2, _⟩ := (hs.stays (A := evT B q n a c b d O T G) hR hd).1
    exact ⟨u1.cell rfl, rbY_rd u2⟩)
  have HY := Lib.hid (fun k z W1 Q1 (hz : (O.zip T)[k]? = some z) (h1 : (J k).at_ W1 Q1) (h2 : Since Q W Q1 W1) => YieldAt.any 8 (hY k z W1 Q1 hz h1 h2))
  have HG := Lib.hid (fun (k : Nat) (hk : k < n) => show ∃ z : Own × Own, (O.zip T)[k]? = some z ∧ O[k]? = some z.1 ∧ T[k]? = some z.2 from by
    obtain ⟨x, hx⟩ := get_some (l := O) (i := k) (by omega)
    obtain ⟨y, hy⟩ := get_some (l := T) (i := k) (by omega)
    exact ⟨(x, y), List.getElem?_zip_eq_some.2 ⟨hx, hy⟩, hx, hy⟩)
  have HL := Lib.hid (show (O.zip T).length = n from by rw [List.length_zip]; omega)
  obtain ⟨e1, hx1⟩ := HX.out W ⟨Q, Since.refl _ _⟩
  have HMd := Lib.hid (rbmade_any hx1.c3)
  have e2 := hx1.c0
  have H0 := Lib.hid h0
  have hro : Fence.wide.round = none := rfl
  have hf1 : Fence.wide.fn 55 := trivial
  clear hR h0 hd hY hx1 hn hl
  refine (callsIn_wide (n := 9)).1 (callsIn_of_wp Try.func94 rfl trivial ?_ rfl)
  simp only [Try.ntmps94, List.size_toArray, List.length_cons, List.length_nil, Nat.reduceAdd, Nat.reduceSub, Array.replicate_succ, Array.replicate_zero, List.push_toArray, List.append_toArray, List.nil_append, List.cons_append]
  gi_wp2_with (gi_at_call 55; ((with_reducible refine (callsIn_wide.2 HMd.out).mono ?_)); rintro e w4 ⟨rfl, rfl⟩)
  gi_loopw [13] (fun i wr => ∃ (k : Nat) (Q' : Nat → Prop), k ≤ n ∧ i = .int .i64 k ∧ (J k).at_ wr Q' ∧ Since Q W Q' wr) (fun i _ => n - (intOf i).toNat)
  case atStart => exact ⟨0, Q, Nat.zero_le _, rfl, H0.out, Since.refl _ _⟩
  case round =>
    clear e1 e2
    obtain ⟨k, Q', hk, rfl, hJk, hsi⟩ := hrel
    by_cases hlt : k < n
    · obtain ⟨⟨⟨⟨p1, p2⟩, x⟩, ⟨⟨t1, t2⟩, y⟩⟩, hz, hxo, hxt⟩ := HG.out k hlt
      obtain ⟨bo, oo, rfl, hc⟩ := (HX.out wr ⟨Q', hsi⟩).2.o k _ hxo
      have c0 : wr.cell? ⟨bo, oo + k * 3, none⟩ = some (.int .i64 p1) := hc 0 _ rfl
      have c1 : wr.cell? ⟨bo, oo + k * 3 + 1, none⟩ = some (.int .i64 p2) := by rw [Nat.add_assoc]; exact hc 1 _ rfl
      have c2 : wr.cell? ⟨bo, oo + k * 3 + 2, none⟩ = some (.int .i64 x) := by rw [Nat.add_assoc]; exact hc 2 _ rfl
      obtain ⟨U, hU⟩ : ∃ U, U = (wr.alloc (.cells #[.int .i64 p1, .int .i64 p2, .int .i64 x] 99)).drew := ⟨_, rfl⟩
      have hsU : Still wr U := by rw [hU]; exact ((Turned.refl _ _).alloc _).drew
      have hb0 : Blk U wr.heap.size [.int .i64 p1, .int .i64 p2, .int .i64 x] 99 := by rw [hU]; exact (Blk.new wr _ _).turned (S := fun _ => False) ((Turned.refl _ _).drew) (fun h => h)
      have hdr : Since Q' wr Q' U := ⟨hsU.mono (fun _ _ h => h.elim), fun _ h => .inl h⟩
      obtain ⟨d0, hrd⟩ := HX.out U ⟨Q', hsi.trans hdr⟩
      have d1 := hrd.c1
      obtain ⟨bt, ot, rfl, hct⟩ := hrd.t k _ hxt
      have d2 : U.cell? ⟨bt, ot + k * 3 + 2, none⟩ = some (.int .i64 y) := by rw [Nat.add_assoc]; exact hct 2 _ rfl
      have b0 := hb0.cell (o := 0) rfl
      have b1 := hb0.cell (o := 1) rfl
      have b2 := hb0.cell (o := 2) rfl
      have hki : (k : Int) < (n : Int) := by omega
      obtain ⟨fn, tmps, assign, body, hy, hR⟩ := HY.out _ _ U Q' hz (Thing.keep _ hJk hsU (fun _ _ h => h)) (hsi.trans hdr)
      have HSi := Lib.hid (hsi.trans hdr)
      have HLen := Lib.hid (show k < (O.zip T).length from by rw [HL.out]; exact hlt)
      have hR2 : RoundIn Fence.wide 8 Try.prog l fn tmps assign body U fun e W' => ∃ b, e = .returned (.bool b) ∧ ((b = true ∧ Goes (J (k + 1)) Q' U W') ∨ (b = false ∧ Goes (Jx k) Q' U W')) := by
        refine hR.mono ?_
        rintro e W3 (⟨rfl, h1⟩ | ⟨rfl, h1⟩)
        · exact ⟨true, rfl, .inl ⟨rfl, h1⟩⟩
        · exact ⟨false, rfl, .inr ⟨rfl, h1⟩⟩
      dsimp only [encT17] at hy
      rw [hU] at d0 d1 d2 b0 b1 b2 hy hR2
      have HU := Lib.hid hU
      clear hR hJk hsi hdr hrd hb0 hsU hz hxo hxt hc hct hU HY HX HG
      gi_wp2
      refine region_reads 10 (by kernel_rfl) ?_
      refine reads_take (i := 0) (v := ?_) rfl (by kernel_rfl) (by kernel_rfl) (by kernel_rfl) (by decide) (by kernel_rfl) (by kernel_rfl) (fun _ _ _ h => h) (by rfl) (fun _ => by rfl) ?_ ?_
      rotate_left
      · go_simp
        try with_reducible rfl
      try simp only [Act.put, List.setIfInBounds_toArray, List.set_cons_zero, List.set_cons_succ]
      refine reads_take (i := 1) (v := ?_) rfl (by kernel_rfl) (by kernel_rfl) (by kernel_rfl) (by decide) (by kernel_rfl) (by kernel_rfl) (fun _ _ _ h => h) (by rfl) (fun _ => by rfl) ?_ ?_
      rotate_left
      · go_simp
        try with_reducible rfl
      try simp only [Act.put, List.setIfInBounds_toArray, List.set_cons_zero, List.set_cons_succ]
      refine reads_take (i := 2) (v := ?_) rfl (by kernel_rfl) (by kernel_rfl) (by kernel_rfl) (by decide) (by kernel_rfl) (by kernel_rfl) (fun _ _ _ h => h) (by rfl) (fun _ => by rfl) ?_ ?_
      rotate_left
      · go_simp
        try with_reducible rfl
      try simp only [Act.put, List.setIfInBounds_toArray, List.set_cons_zero, List.set_cons_succ]
      refine reads_take (i := 3) (v := ?_) rfl (by kernel_rfl) (by kernel_rfl) (by kernel_rfl) (by decide) (by kernel_rfl) (by kernel_rfl) (fun _ _ _ h => h) (by rfl) (fun _ => by rfl) ?_ ?_
      rotate_left
      · go_simp
        try with_reducible rfl
      try simp only [Act.put, List.setIfInBounds_toArray, List.set_cons_zero, List.set_cons_succ]
      refine reads_take (i := 4) (v := ?_) rfl (by kernel_rfl) (by kernel_rfl) (by kernel_rfl) (by decide) (by kernel_rfl) (by kernel_rfl) (fun _ _ _ h => h) (by rfl) (fun _ => by rfl) ?_ ?_
      rotate_left
      · go_simp
        try with_reducible rfl
      try simp only [Act.put, List.setIfInBounds_toArray, List.set_cons_zero, List.set_cons_succ]
      refine reads_take (i := 5) (v := ?_) rfl (by kernel_rfl) (by kernel_rfl) (by kernel_rfl) (by decide) (by kernel_rfl) (by kernel_rfl) (fun _ _ _ h => h) (by rfl) (fun _ => by rfl) ?_ ?_
      rotate_left
      · go_simp
        try with_reducible rfl
      try simp only [Act.put, List.setIfInBounds_toArray, List.set_cons_zero, List.set_cons_succ]
      refine reads_take (i := 6) (v := ?_) rfl (by kernel_rfl) (by kernel_rfl) (by kernel_rfl) (by decide) (by kernel_rfl) (by kernel_rfl) (fun _ _ _ h => h) (by rfl) (fun _ => by rfl) ?_ ?_
      rotate_left
      · go_simp
        try with_reducible rfl
      try simp only [Act.put, List.setIfInBounds_toArray, List.set_cons_zero, List.set_cons_succ]
      refine reads_take (i := 7) (v := ?_) rfl (by kernel_rfl) (by kernel_rfl) (by kernel_rfl) (by decide) (by kernel_rfl) (by kernel_rfl) (fun _ _ _ h => h) (by rfl) (fun _ => by rfl) ?_ ?_
      rotate_left
      · go_simp
        try with_reducible rfl
      try simp only [Act.put, List.setIfInBounds_toArray, List.set_cons_zero, List.set_cons_succ]
      refine reads_take (i := 8) (v := ?_) rfl (by kernel_rfl) (by kernel_rfl) (by kernel_rfl) (by decide) (by kernel_rfl) (by kernel_rfl) (fun _ _ _ h => h) (by rfl) (fun _ => by rfl) ?_ ?_
      rotate_left
      · go_simp
        try with_reducible rfl
      try simp only [Act.put, List.setIfInBounds_toArray, List.set_cons_zero, List.set_cons_succ]
      refine reads_take (i := 9) (v := ?_) rfl (by kernel_rfl) (by kernel_rfl) (by kernel_rfl) (by decide) (by kernel_rfl) (by kernel_rfl) (fun _ _ _ h => h) (by rfl) (fun _ => by rfl) ?_ ?_
      rotate_left
      · go_simp
        try with_reducible rfl
      try simp only [Act.put, List.setIfInBounds_toArray, List.set_cons_zero, List.set_cons_succ]
      refine reads_call (i := 10) (by kernel_rfl) (by decide) rfl (fun K hK => ?_)
      go_simp
      gi_wp2_with (refine hR2.mono ?_; rintro e W3 ⟨b, rfl, hX⟩)
      try simp only [Act.put, List.setIfInBounds_toArray, List.set_cons_zero, List.set_cons_succ]
      refine wpAnyIn_ready (rs := [11]) (by kernel_rfl) (by simp) ?_
      refine AllReadyIn.cons rfl (fun K hK => ?_) AllReadyIn.nil
      go_simp
      refine hK _ _ ?_
      clear hK K
      try simp only [Act.put, List.setIfInBounds_toArray, List.set_cons_zero, List.set_cons_succ]
      refine wpAnyIn_done (by kernel_rfl) ?_ _
      clear hy hR2
      rw [← HU.out] at hX
      rcases hX with ⟨rfl, hJ3⟩ | ⟨rfl, hJx3⟩
      · simp only [Bool.not_true]
        gi_wp2
        go_roundw
        case rel =>
          obtain ⟨Q3, hJ4, hs4⟩ := hJ3.since
          exact ⟨k + 1, Q3, by omega, by go_num, hJ4, HSi.out.trans hs4⟩
        case measure => simp [intOf]; omega
      · have HEnd := Lib.hid (show ∃ k', k' < (O.zip T).length ∧ Goes (Jx k') Q W W3 from by
          obtain ⟨Q3, hJ4, hs4⟩ := hJx3.since
          exact ⟨k, HLen.out, (HSi.out.trans hs4).goes hJ4⟩)
        clear hJx3
        simp only [Bool.not_false]
        gi_wp2
        refine bodyPost_ret (results_none rfl _ _ _) rfl ?_
        exact ⟨⟨_, rfl⟩, .inr HEnd.out⟩
    · obtain rfl : k = n := by omega
      have HEnd := Lib.hid (show Goes (J (O.zip T).length) Q W wr from by rw [HL.out]; exact hsi.goes hJk)
      clear hJk hsi
      gi_wp2
      go_end0
      exact ⟨⟨_, rfl⟩, .inl HEnd.out⟩
end
end Go.Proofs.Ytdlkdagmaeapdaa

/- Revoked of the program's table: the places that are taken from a member. No condition but that the table is one. -/
namespace Go.Proofs.Ytdlkdagmaeapdaa
open Go.RowKit Go.Shelf
attribute [local go_sem] Oper.semAt_some
set_option linter.unusedVariables false
set_option linter.unusedSimpArgs false
set_option maxRecDepth 100000

/-- What is revoked, among those that are told. -/
def revZ (Z : List (Own × Own)) (id : Int) : List Plc := (Z.filter (isRev id)).map (·.1.1)
theorem revZ_all (O T : List Own) (id : Int) : revZ (O.zip T) id = revI O T id := rfl
theorem revZ_step {Z : List (Own × Own)} {k : Nat} {z : Own × Own} (h : Z[k]? = some z) (x : Int) : revZ (Z.take (k + 1)) x = revZ (Z.take k) x ++ if isRev x z = true then [z.1.1] else [] := by
  have e : Z.take (k + 1) = Z.take k ++ [z] := by rw [List.take_add_one, h]; rfl
  unfold revZ
  rw [e, List.filter_append, List.map_append, List.filter_cons, List.filter_nil]
  by_cases hx : isRev x z = true
  · rw [if_pos hx, if_pos hx]; rfl
  · rw [if_neg hx, if_neg hx]; rfl
theorem revZ_le (Z : List (Own × Own)) (x : Int) : (revZ Z x).length ≤ Z.length := by
  unfold revZ; rw [List.length_map]; exact List.length_filter_le _ _
theorem zip_lo {O T : List Own} (h : TOk O T) {k : Nat} {z : Own × Own} (hz : (O.zip T)[k]? = some z) : -1 ≤ z.1.2 := h.lo _ (List.of_mem_zip (List.mem_of_getElem? hz)).1

/-- A table through which one can go, in a world: by an iterator that reads what lies in it. -/
structure ItAt (w : World) (p : Option Addr) (Z : List (Own × Own)) (R : Nat → Thing) : Prop where
  it : ∀ B, IterS 94 #[.pointer (some ⟨B, 0, none⟩)] encT17 Z (R B)
  new_ : ∀ V, Still w V → ∃ S, (R V.heap.size).at_ (V.alloc (.cells #[.pointer p] 55)) S ∧ ∀ k, S k → k = V.heap.size ∨ k < w.heap.size
theorem itAt_of {q n c d G : Nat} {a b : Option Addr} {O T : List Own} {w : World} {W : Nat → Prop} (h : (rbY q n a c b d O T G).at_ w W) (hn : n = O.length) (hO : TOk O T) : ItAt w (some ⟨q, 0, none⟩) (O.zip T) (fun B => evT B q n a c b d O T G) where
  it B := rbhand_it hn hO.len (by have := hO.le; omega) B
  new_ V hs := ⟨_, evT_new (Thing.keep _ h hs (fun _ _ h => h)), fun k hk => hk.imp id (Thing.lt _ h k)⟩

set_option maxHeartbeats 4000000 in
theorem rbrevk_it {p : Option Addr} {R : Nat → Thing} {O T : List Own} {w : World} (h : ItAt w p (O.zip T) R) (hO : TOk O T) (x : Int) (r : Nat) (hr : r = (revI O T x).length) :
    Calls Try.prog 64 #[.pointer p, .int .i64 x] w (OutRow encPl 2 54 w (revI O T x) r) := by
  obtain ⟨i0, hi, hz0, hz1, hz2⟩ := info_parts infoPlH
  obtain ⟨Z, hZ⟩ : ∃ Z, Z = O.zip T := ⟨_, rfl⟩
  have hlen := hO.len
  have hle := hO.le
  have hZl : Z.length ≤ 256 := by rw [hZ, List.length_zip]; omega
  obtain ⟨Bx, hBx⟩ : ∃ b, b = w.heap.size := ⟨_, rfl⟩
  obtain ⟨B, hB⟩ : ∃ b, b = w.heap.size + 1 := ⟨_, rfl⟩
  obtain ⟨W1, hW1⟩ : ∃ W1, W1 = (w.alloc (.cells #[.int .i64 x] 3)).alloc (.cells #[.slice none 0 0] 59) := ⟨_, rfl⟩
  have hs1 : Still w W1 := by rw [hW1]; exact ((Turned.refl _ _).alloc _).alloc _
  have hz1' : W1.heap.size = B + 1 := by rw [hW1, hB]; simp
  have hbx : Blk W1 Bx [.int .i64 x] 3 := by rw [hW1, hBx]; exact (Blk.new w [.int .i64 x] 3).alloc _
  have hbb : Blk W1 B [.slice none 0 0] 59 := by
    have := Blk.new (w.alloc (.cells #[.int .i64 x] 3)) [.slice none 0 0] 59
    rw [World.size_alloc] at this
    rw [hW1, hB]; exact this
  have HIt0 := h.it W1.heap.size
  rw [← hZ] at HIt0
  have HIt := Lib.hid HIt0
  have HE := Lib.hid (rbhand_any p W1)
  obtain ⟨S1, hR1, hS1⟩ := h.new_ W1 hs1
  have HR := Lib.hid hR1
  have ht2 : Still W1 (W1.alloc (.cells #[.pointer p] 55)) := (Turned.refl _ _).alloc _
  have HBs := Lib.hid (show ((shHand w.heap.size B (revZ (Z.take 0) x)).sep (blkT Bx [.int .i64 x] 3)).at_ (W1.alloc (.cells #[.pointer p] 55)) (fun k => (k = B ∨ (Value.slice none 0 0).ownBlock = some k) ∨ k = Bx) from
    ⟨fun k => k = B ∨ (Value.slice none 0 0).ownBlock = some k, (· = Bx), ⟨none, 0, hbb.turned ht2 (fun h => h), World.ownsRow_nil _ _ _ _, by simp [Value.ownBlock], fun _ => Iff.rfl⟩, ⟨hbx.turned ht2 (fun h => h), fun _ => Iff.rfl⟩, fun k hk e => by
      rcases hk with hk | hk
      · omega
      · simp [Value.ownBlock] at hk, fun _ => Iff.rfl⟩)
  have hD' : ∀ k, ((k = B ∨ (Value.slice none 0 0).ownBlock = some k) ∨ k = Bx) → k = B ∨ k = Bx := fun k hk => by
    rcases hk with (hk | hk) | hk
    · exact .inl hk
    · simp [Value.ownBlock] at hk
    · exact .inr hk
  have HD := Lib.hid (show ∀ k, ((k = B ∨ (Value.slice none 0 0).ownBlock = some k) ∨ k = Bx) → ¬ S1 k from by
    intro k hk hk2
    have hk := hD' k hk
    rcases hS1 k hk2 with hk2 | hk2
    · omega
    · omega)
  have HD2 := Lib.hid hD'
  have HSt := Lib.hid (hs1.trans ht2)
  have HZ := Lib.hid hz1'
  have HAll := Lib.hid (show revZ (Z.take Z.length) x = revI O T x from by rw [List.take_length, hZ]; rfl)
  have HRl := Lib.hid hr
  have HLk := Lib.hid (fun k => show (revZ (Z.take k) x).length ≤ 1000 from by
    have := revZ_le (Z.take k) x
    rw [List.length_take] at this
    omega)
  have HLo := Lib.hid (fun (k : Nat) (z : Own × Own) (hz : Z[k]? = some z) => show -1 ≤ z.1.2 from zip_lo hO (by rw [← hZ]; exact hz))
  have HBx' := Lib.hid hBx
  have HB' := Lib.hid hB
  clear h hR1 hS1 ht2 hbx hbb hs1 hz1' HIt0 hr hD' hlen hle hZl hO hZ
  refine (callsIn_wide (n := 9)).1 (callsIn_of_wp_marks Try.func64 rfl trivial ?_ rfl)
  simp only [Try.ntmps64, List.size_toArray, List.length_cons, List.length_nil, Nat.reduceAdd, Nat.reduceSub, Array.replicate_succ, Array.replicate_zero, List.push_toArray, List.append_toArray, List.nil_append, List.cons_append]
  have hf1 : Fence.wide.fn 83 := trivial
  have hf2 : Fence.wide.fn 87 := trivial
  clear hBx hB
  gi_wp2_with (gi_at_call 83; rw [← hW1]; ((with_reducible refine (callsIn_wide.2 HE.out).mono ?_)); rintro e w2 ⟨rfl, rfl⟩)
  rw [← hW1, ← HB'.out, ← HBx'.out, show B + 1 = W1.heap.size from HZ.out.symm]
  clear hW1
  refine loopA_outer rfl (enters_of Try.func94 (by kernel_rfl) rfl) HIt.out (by exact fun _ => rfl) (fun k => (shHand w.heap.size B (revZ (Z.take k) x)).sep (blkT Bx [.int .i64 x] 3)) (fun _ => noT) HR.out HBs.out HD.out ?_ ?_ ?_
  · rintro ⟨⟨⟨p1, p2⟩, z⟩, ⟨tp, t⟩⟩ y k V Q' hr hl1 hx hI hQl hsk
    obtain ⟨rr, hrr⟩ := hr
    have hyV : y < V.heap.size := (Array.getElem?_eq_some_iff.1 hrr).1
    have hVb := Blk.new V [.int .i64 p1, .int .i64 p2, .int .i64 z] 99
    have HBw := Lib.hid (fun W2 (hT2 : Turned (· = y) (V.alloc (.cells #[.int .i64 p1, .int .i64 p2, .int .i64 z] 99)) W2) => show Blk W2 V.heap.size [.int .i64 p1, .int .i64 p2, .int .i64 z] 99 from hVb.turned hT2 (by omega))
    have HI2 := Lib.hid (fun W2 (hT2 : Turned (· = y) (V.alloc (.cells #[.int .i64 p1, .int .i64 p2, .int .i64 z] 99)) W2) => show ((shHand w.heap.size B (revZ (Z.take k) x)).sep (blkT Bx [.int .i64 x] 3)).at_ W2 Q' ∧ V.heap.size < W2.heap.size from
      ⟨Thing.keep _ (Thing.keep _ hI ((Turned.refl _ V).alloc _) (fun _ _ h => h)) hT2 (fun j hj e => hQl (e ▸ hj)), by have := hT2.size; rw [World.size_alloc] at this; omega⟩)
    have hsz : w.heap.size ≤ V.heap.size := by
      have := hsk.turn.size
      have := HSt.out.size
      omega
    have HSp := Lib.hid (revZ_step hx x)
    have hlo := HLo.out k _ hx
    have hln := HLk.out k
    have HRv := Lib.hid (fun V => rbrevd_any V p1 p2 z t)
    clear hl1 hx hI hQl hsk hVb hrr hyV
    dsimp only [encT17]
    dsimp only at hlo
    gi_wp2
    refine ⟨(Turned.refl _ _).alloc _, fun W2 _ hT2 => ?_⟩
    obtain ⟨hI2, hlt2⟩ := HI2.out W2 hT2
    have hbw := HBw.out W2 hT2
    have q0 := hbw.cell (o := 0) rfl
    have q1 := hbw.cell (o := 1) rfl
    have q2 := hbw.cell (o := 2) rfl
    have hI3 := hI2
    obtain ⟨_, ⟨h2, _⟩, _⟩ := (Sit.start hI2).snd
    have cx := h2.cell (o := 0) rfl
    have HNo := Lib.hid (fun V' (hs : Still W2 V') (hno : ¬ isRev x ((((p1, p2), z), (tp, t))) = true) => show Goes ((shHand w.heap.size B (revZ (Z.take (k + 1)) x)).sep (blkT Bx [.int .i64 x] 3)) Q' W2 V' from by
      rw [HSp.out, if_neg hno, List.append_nil]
      exact Goes.still hI3 hs)
    by_cases hzx : z = x
    · subst hzx
      by_cases hrv : z ≠ -1 ∧ z ≠ t
      · rw [decide_eq_true hrv] at HRv
        have hir : isRev z ((((p1, p2), z), (tp, t))) = true := isRev_is.2 ⟨rfl, by omega, fun e => hrv.2 e.symm⟩
        have HSp2 := Lib.hid (show revZ (Z.take (k + 1)) z = revZ (Z.take k) z ++ [(p1, p2)] from by rw [HSp.out, if_pos hir])
        have HI3 := Lib.hid (fun V' (hs : Still W2 V') => show ((shHand w.heap.size B (revZ (Z.take k) z)).sep (blkT Bx [.int .i64 z] 3)).at_ V' Q' ∧ Blk V' V.heap.size [.int .i64 p1, .int .i64 p2, .int .i64 z] 99 ∧ W2.heap.size ≤ V'.heap.size from
          ⟨Thing.keep _ hI3 hs (fun _ _ h => h), hbw.turned hs (fun h => h), hs.size⟩)
        clear hI2 hI3 hbw hT2 h2 hrv hir HSp HNo
        gi_wp2_with (first
          | (gi_at_call 87; ((with_reducible refine (CallsIn.inRound y (callsIn_wide.2 (HRv.out _))).mono ?_)); rintro e W3 ⟨rfl, hs3⟩; obtain ⟨hI3, hbw3, hsz3⟩ := HI3.out _ hs3; have HS3 := Lib.hid hs3; have r0 := hbw3.cell (o := 0) rfl; have r1 := hbw3.cell (o := 1) rfl; obtain ⟨U1, ⟨a1, c1, hB, hrow, hne, hQ⟩, _, hgo⟩ := goes_fst hI3; have cc := hB.cell (o := 0) rfl; have HF := Lib.hid (fun V' (hg : Goes (shHand w.heap.size B (revZ (Z.take k) z ++ [(p1, p2)])) U1 W3 V') => show Goes ((shHand w.heap.size B (revZ (Z.take (k + 1)) z)).sep (blkT Bx [.int .i64 z] 3)) Q' W2 V' from (by
          rw [HSp2.out]
          obtain ⟨Q3, g1, g2⟩ := (hgo _ _ hg).since
          obtain ⟨g3, g4⟩ := g2
          exact ⟨Q3, g1, (HS3.out.mono (fun _ _ h => h.elim)).trans g3, fun i hi => (g4 i hi).imp id (fun h => Nat.le_trans hsz3 h)⟩)); have HAp := Lib.hid (fun U hU w6 a' c' hown hg hat => sh_app (b0 := w.heap.size) (U := U) (w6 := w6) (a' := a') (c' := c') (x := (p1, p2)) rfl hB hne hQ hU hown hg hat); have HRow := Lib.hid hrow; obtain ⟨m, hm⟩ : ∃ m, m = (revZ (Z.take k) z).length := ⟨_, rfl⟩; rw [← hm] at HAp HRow cc hln; have hsz2 : w.heap.size ≤ W3.heap.size := (by omega); clear hB hQ hrow hne hm hbw3 hI3 hgo hs3)
          | (gi_at_builtin; refine wpListIn_append_own_at _ rfl _ _ 59 rfl w.heap.size 54 i0 (.agg #[.int .i64 0, .int .i64 0]) 2 16 Try.underlying59 hi hz0 hz1 hz2 rfl (by decide) _ _ _ rfl (HRow.out.alloc _) ⟨W3.heap.size, 0, none⟩ 1 1 [.int .i64 p1, .int .i64 p2] rfl rfl (ow_cells W3 [.int .i64 p1, .int .i64 p2] 54) (ow_ints rfl) (by unfold maxLen; omega) (by omega) (by simp; omega) ?_; intro v' w6 hown6 hg6 _ hat6; obtain ⟨a6, c6, rfl⟩ := ow_slice hown6; obtain ⟨hc6, hf6, HG6⟩ := HAp.out _ ((Turned.refl _ _).alloc _) w6 a6 c6 hown6 hg6 hat6; clear hown6 hg6 hat6))
        exact HF.out _ HG6.out
      · rw [decide_eq_false hrv] at HRv
        have hir : ¬ isRev z ((((p1, p2), z), (tp, t))) = true := fun h => by
          obtain ⟨_, h2, h3⟩ := isRev_is.1 h
          dsimp only at h2 h3
          exact hrv ⟨by omega, fun e => h3 e.symm⟩
        have HNo := Lib.hid (fun V' hs => HNo.out V' hs hir)
        clear hI2 hI3 hbw hT2 h2 hrv hir HSp
        gi_wp2_with (gi_at_call 87; ((with_reducible refine (CallsIn.inRound y (callsIn_wide.2 (HRv.out _))).mono ?_)); rintro e W3 ⟨rfl, hs3⟩; have HF := Lib.hid (HNo.out _ hs3); clear hs3)
        exact HF.out
    · have hzb : (z == x) = false := by rw [beq_eq_false_iff_ne]; exact hzx
      have hir : ¬ isRev x ((((p1, p2), z), (tp, t))) = true := fun h => hzx (isRev_is.1 h).1
      have HF := Lib.hid (HNo.out _ (Turned.refl _ _) hir)
      clear hI2 hI3 hbw hT2 h2 hir HSp HNo
      gi_wp2
      exact HF.out
  · intro D V Q' hD hK hQD hI hsk
    rw [HAll.out] at hI
    obtain ⟨U1, U2, ⟨a1, c1, hB, hrow, hne, hQ1⟩, _, hdd, hQ⟩ := hI
    have cc := hB.cell (o := 0) rfl
    rw [← HRl.out] at cc hrow
    have hz2 := HZ.out
    have hz3 := HB'.out
    have hz4 := HBx'.out
    have hD1 : w.heap.size ≤ D := Nat.le_trans HSt.out.size hD
    have hT0 : Turned (fun k => w.heap.size ≤ k) w V := (HSt.out.mono (fun _ _ h => h.elim)).trans (hsk.turn.mono (fun k _ h => by have := HD2.out k h; omega))
    have hp := putObj_since (.deferred none) (Array.getElem?_eq_some_iff.1 hK).1
    have HP := Lib.hid (show OutRow encPl 2 54 w (revI O T x) r (.returned (.slice a1 r c1)) (V.putObj D (.deferred none)) from by
      refine ⟨a1, c1, rfl, ow_turned hrow hp (fun b hb e => ?_), ?_⟩
      · obtain rfl := e
        exact hQD ((hQ _).2 (.inl ((hQ1 _).2 (.inr (by rw [← HRl.out]; exact hb)))))
      · exact (hT0.trans (hp.mono (fun k _ e => by rw [e]; exact hD1))).mono (fun k hk hh => by omega))
    clear hB hrow hne hQ hQ1 hdd hT0 hsk hp hz2 hz3 hz4
    gi_wp2
    refine ⟨by simp, .inl ⟨_, _, rfl, run_takeDeferred hK, ?_⟩⟩
    refine ⟨_, results_tmp rfl _ _ _, ?_⟩
    exact HP.out
  · intro D k V Q' hD hK hQD hk hI hsk
    exact hI.elim
theorem rbrevk_any {q n c d G : Nat} {a b : Option Addr} {O T : List Own} {w : World} {W : Nat → Prop} (h : (rbY q n a c b d O T G).at_ w W) (hn : n = O.length) (hO : TOk O T) (x : Int) (r : Nat) (hr : r = (revI O T x).length) :
    Calls Try.prog 64 #[.pointer (some ⟨q, 0, none⟩), .int .i64 x] w (OutRow encPl 2 54 w (revI O T x) r) := rbrevk_it (itAt_of h hn hO) hO x r hr
end Go.Proofs.Ytdlkdagmaeapdaa

/- Waits of the program's table: who must acknowledge, by a list of members. No condition but that the table is one. -/
namespace Go.Proofs.Ytdlkdagmaeapdaa
open Go.RowKit Go.Shelf
attribute [local go_sem] Oper.semAt_some
set_option linter.unusedVariables false
set_option linter.unusedSimpArgs false
set_option maxRecDepth 100000

def jzS (M : MbM) (z : Own × Own) : MbM := if z.1.2 ≠ -1 ∧ z.1.2 ≠ z.2.2 then M.join z.1.2 else M
/-- The list that gathers them. -/
def jz (Z : List (Own × Own)) : MbM := Z.foldl jzS MbM.new
theorem jz_step {Z : List (Own × Own)} {k : Nat} {z : Own × Own} (h : Z[k]? = some z) : jz (Z.take (k + 1)) = jzS (jz (Z.take k)) z := by
  have e : Z.take (k + 1) = Z.take k ++ [z] := by rw [List.take_add_one, h]; rfl
  unfold jz
  rw [e, List.foldl_append]; rfl
theorem revZ_take {Z : List (Own × Own)} {k : Nat} {x : Int} (h : 0 < (revZ (Z.take k) x).length) : 0 < (revZ Z x).length := by
  have e : revZ Z x = revZ (Z.take k) x ++ revZ (Z.drop k) x := by
    unfold revZ
    rw [← List.map_append, ← List.filter_append, List.take_append_drop]
  rw [e, List.length_append]; omega
theorem jz_inv {O T : List Own} (hO : TOk O T) : ∀ k, k ≤ (O.zip T).length → (jz ((O.zip T).take k)).Ok k ∧ ∀ i, 0 < (jz ((O.zip T).take k)).at i ↔ i < 16 ∧ 0 < (revZ ((O.zip T).take k) (i : Int)).length
  | 0, _ => ⟨MbM.new_ok, fun i => by
      have : MbM.new.at i = 0 := by have := MbM.new_ok.le i; have h2 : MbM.new.T = 0 := rfl; omega
      rw [show (O.zip T).take 0 = [] from rfl]
      show 0 < MbM.new.at i ↔ _
      rw [this]; simp [revZ]⟩
  | k + 1, hk => by
    obtain ⟨h1, h2⟩ := jz_inv hO k (by omega)
    obtain ⟨z, hz⟩ := get_some (l := O.zip T) (i := k) (by omega)
    have hlo := zip_lo hO hz
    have hst := fun x => revZ_step hz x
    rw [jz_step hz]
    have hmem := List.mem_of_getElem? hz
    generalize hJ : jz ((O.zip T).take k) = J at *
    unfold jzS
    by_cases hr : z.1.2 ≠ -1 ∧ z.1.2 ≠ z.2.2
    · rw [if_pos hr]
      have hir : ∀ i : Nat, isRev (i : Int) z = true ↔ z.1.2 = i := fun i => isRev_is.trans ⟨fun h => h.1, fun h => ⟨h, by omega, fun e => hr.2 (by omega)⟩⟩
      obtain ⟨x, hx⟩ : ∃ x : Nat, z.1.2 = x := ⟨z.1.2.toNat, by omega⟩
      rw [hx]
      have hother : ∀ i : Nat, i ≠ x → revZ ((O.zip T).take (k + 1)) (i : Int) = revZ ((O.zip T).take k) (i : Int) := fun i hi => by
        rw [hst, if_neg (fun h => hi (by have := (hir i).1 h; omega)), List.append_nil]
      have hself : 0 < (revZ ((O.zip T).take (k + 1)) (x : Int)).length := by
        rw [hst, if_pos ((hir x).2 hx), List.length_append]; simp
      by_cases hx16 : x < 16
      · by_cases ha : J.at x = 0
        · have hlt : J.memb.length < 8 := by
            refine Nat.lt_of_lt_of_le ?_ hO.w8
            refine cnt_ltN (a := x) (fun i hi => ?_) (List.mem_range.2 hx16) (by simp [ha]) ?_
            · have := (h2 i).1 (by simpa using hi)
              unfold revN
              rw [decide_eq_true_iff, ← revZ_all]
              exact revZ_take this.2
            · unfold revN
              rw [decide_eq_true_iff, ← revZ_all]
              exact revZ_take hself
          have he := joinE_0 hx16 ha hlt
          obtain ⟨_, _, hat⟩ := memb_join h1 he
          refine ⟨h1.join _, fun i => ?_⟩
          rw [hat, Int.toNat_natCast]
          by_cases hi : i = x
          · subst hi
            rw [if_pos rfl]
            exact ⟨fun _ => ⟨hx16, hself⟩, fun _ => Nat.succ_pos _⟩
          · rw [if_neg hi, hother i hi]
            exact h2 i
        · have he : J.joinE (x : Int) = 6 := joinE_6 hx16 (by omega)
          rw [(join_no he (by decide)).1]
          refine ⟨h1.mono (Nat.le_succ _), fun i => ?_⟩
          by_cases hi : i = x
          · subst hi
            exact ⟨fun _ => ⟨hx16, hself⟩, fun _ => by omega⟩
          · rw [hother i hi]; exact h2 i
      · have he : J.joinE (x : Int) = 2 := by unfold MbM.joinE; rw [if_neg (by omega)]
        rw [(join_no he (by decide)).1]
        refine ⟨h1.mono (Nat.le_succ _), fun i => ?_⟩
        by_cases hi : i = x
        · subst hi
          exact ⟨fun h => by have := ((h2 i).1 h).1; omega, fun h => by omega⟩
        · rw [hother i hi]; exact h2 i
    · rw [if_neg hr]
      refine ⟨h1.mono (Nat.le_succ _), fun i => ?_⟩
      have : isRev (i : Int) z ≠ true := fun h => by
        obtain ⟨e1, e2, e3⟩ := isRev_is.1 h
        exact hr ⟨by omega, fun e => e3 (by omega)⟩
      rw [hst, if_neg this, List.append_nil]
      exact h2 i
theorem jz_all {O T : List Own} (hO : TOk O T) : (jz (O.zip T)).memb = allN O T := by
  obtain ⟨_, h⟩ := jz_inv hO (O.zip T).length (Nat.le_refl _)
  rw [List.take_length] at h
  refine List.filter_congr (fun i hi => ?_)
  have := h i
  unfold revN
  rw [decide_eq_decide]
  rw [revZ_all] at this
  exact ⟨fun x => (this.1 x).2, fun x => this.2 ⟨List.mem_range.1 hi, x⟩⟩

set_option maxHeartbeats 4000000 in
theorem rbwaits_it {p : Option Addr} {R : Nat → Thing} {O T : List Own} {w : World} (h : ItAt w p (O.zip T) R) (hO : TOk O T) (r : Nat) (hr : r = (allN O T).length) :
    Calls Try.prog 85 #[.pointer p] w (OutNums w (intsN (allN O T)) r) := by
  have hall := jz_all hO
  have hinv := jz_inv hO
  obtain ⟨Z, hZ⟩ : ∃ Z, Z = O.zip T := ⟨_, rfl⟩
  rw [← hZ] at hall hinv
  have hlen := hO.len
  have hle := hO.le
  have hZl : Z.length ≤ 256 := by rw [hZ, List.length_zip]; omega
  have HIt0 := fun (W1 : World) => h.it W1.heap.size
  rw [← hZ] at HIt0
  have HIt := Lib.hid HIt0
  have HMk := Lib.hid (mbmake_any w)
  have HE := Lib.hid (fun W1 => rbhand_any p W1)
  have HT := Lib.hid h.new_
  have HOk := Lib.hid (fun k (hk : k ≤ Z.length) => (hinv k hk).1)
  have HZl := Lib.hid (show Z.length ≤ 1000 by omega)
  have HLo := Lib.hid (fun (k : Nat) (z : Own × Own) (hz : Z[k]? = some z) => show -1 ≤ z.1.2 from zip_lo hO (by rw [← hZ]; exact hz))
  have HRl := Lib.hid hr
  have HAl := Lib.hid hall
  clear h hO hr hall hinv hlen hle hZl HIt0 hZ
  refine (callsIn_wide (n := 9)).1 (callsIn_of_wp_marks Try.func85 rfl trivial ?_ rfl)
  simp only [Try.ntmps85, List.size_toArray, List.length_cons, List.length_nil, Nat.reduceAdd, Nat.reduceSub, Array.replicate_succ, Array.replicate_zero, List.push_toArray, List.append_toArray, List.nil_append, List.cons_append]
  have hf1 : Fence.wide.fn 83 := trivial
  have hf2 : Fence.wide.fn 87 := trivial
  have hf3 : Fence.wide.fn 97 := trivial
  have hf4 : Fence.wide.fn 98 := trivial
  have hf5 : Fence.wide.fn 96 := trivial
  gi_wp2_with (first
    | (gi_at_call 96; ((with_reducible refine (callsIn_wide.2 HMk.out).mono ?_)); rintro e w1 ⟨qm, rfl, hm⟩; have HM := Lib.hid hm; clear hm)
    | (gi_at_call 83; ((with_reducible refine (callsIn_wide.2 (HE.out _)).mono ?_)); rintro e w2 ⟨rfl, rfl⟩))
  obtain ⟨Wm, hWm, hs1, hWlo⟩ := HM.out
  obtain ⟨W1, hW1⟩ : ∃ W1, W1 = w1.alloc (.cells #[.pointer (some ⟨qm, 0, none⟩)] 129) := ⟨_, rfl⟩
  obtain ⟨B, hB⟩ : ∃ b, b = w1.heap.size := ⟨_, rfl⟩
  have hs2 : Still w1 W1 := by rw [hW1]; exact (Turned.refl _ _).alloc _
  have hz1 : W1.heap.size = B + 1 := by rw [hW1, hB]; simp
  have hbb : Blk W1 B [.pointer (some ⟨qm, 0, none⟩)] 129 := by rw [hW1, hB]; exact Blk.new w1 [.pointer (some ⟨qm, 0, none⟩)] 129
  obtain ⟨S1, hR1, hS1⟩ := HT.out _ (hs1.trans hs2)
  have HR := Lib.hid hR1
  have ht2 : Still W1 (W1.alloc (.cells #[.pointer p] 55)) := (Turned.refl _ _).alloc _
  have hlt := Thing.lt _ hWm
  have hs1z := hs1.size
  have HBs := Lib.hid (show ((mbT qm (jz (Z.take 0))).sep (blkT B [.pointer (some ⟨qm, 0, none⟩)] 129)).at_ (W1.alloc (.cells #[.pointer p] 55)) (fun k => Wm k ∨ k = B) from
    ⟨Wm, (· = B), Thing.keep _ hWm (hs2.trans ht2) (fun _ _ h => h), ⟨hbb.turned ht2 (fun h => h), fun _ => Iff.rfl⟩, fun k hk e => by have := hlt k hk; omega, fun _ => Iff.rfl⟩)
  have HD := Lib.hid (show ∀ k, (Wm k ∨ k = B) → ¬ S1 k from by
    intro k hk hk2
    rcases hS1 k hk2 with hk2 | hk2
    · rcases hk with hk | hk
      · have := hlt k hk; omega
      · omega
    · rcases hk with hk | hk
      · have := hWlo k hk; omega
      · omega)
  have HD2 := Lib.hid (show ∀ k, (Wm k ∨ k = B) → w.heap.size ≤ k from fun k hk => by
    rcases hk with hk | hk
    · exact hWlo k hk
    · omega)
  have HSt := Lib.hid ((hs1.trans hs2).trans ht2)
  have HIk := Lib.hid (HIt.out W1)
  rw [← hW1, ← hB, show B + 1 = W1.heap.size from hz1.symm]
  clear hW1 hB hs2 hs1 hz1 hbb hlt hs1z ht2 hR1 hS1 hWlo hWm
  refine loopA_outer rfl (enters_of Try.func94 (by kernel_rfl) rfl) HIk.out (by exact fun _ => rfl) (fun k => (mbT qm (jz (Z.take k))).sep (blkT B [.pointer (some ⟨qm, 0, none⟩)] 129)) (fun _ => noT) HR.out HBs.out HD.out ?_ ?_ ?_
  · rintro ⟨⟨⟨p1, p2⟩, z⟩, ⟨tp, t⟩⟩ y k V Q' hr hl1 hx hI hQl hsk
    obtain ⟨rr, hrr⟩ := hr
    have hyV : y < V.heap.size := (Array.getElem?_eq_some_iff.1 hrr).1
    have hVb := Blk.new V [.int .i64 p1, .int .i64 p2, .int .i64 z] 99
    have hkl : k < Z.length := (List.getElem?_eq_some_iff.1 hx).1
    have hok := HOk.out k (by omega)
    have hk1 : k < 1000000 := by have := HZl.out; omega
    have HBw := Lib.hid (fun W2 (hT2 : Turned (· = y) (V.alloc (.cells #[.int .i64 p1, .int .i64 p2, .int .i64 z] 99)) W2) => show Blk W2 V.heap.size [.int .i64 p1, .int .i64 p2, .int .i64 z] 99 from hVb.turned hT2 (by omega))
    have HI2 := Lib.hid (fun W2 (hT2 : Turned (· = y) (V.alloc (.cells #[.int .i64 p1, .int .i64 p2, .int .i64 z] 99)) W2) => show ((mbT qm (jz (Z.take k))).sep (blkT B [.pointer (some ⟨qm, 0, none⟩)] 129)).at_ W2 Q' from
      Thing.keep _ (Thing.keep _ hI ((Turned.refl _ V).alloc _) (fun _ _ h => h)) hT2 (fun j hj e => hQl (e ▸ hj)))
    have HSp := Lib.hid (jz_step hx)
    have HRv := Lib.hid (fun V => rbrevd_any V p1 p2 z t)
    have HOkk := Lib.hid hok
    have HKk := Lib.hid hk1
    clear hl1 hx hI hQl hsk hVb hrr hyV hkl hok hk1
    dsimp only [encT17]
    gi_wp2
    refine ⟨(Turned.refl _ _).alloc _, fun W2 _ hT2 => ?_⟩
    have hI2 := HI2.out W2 hT2
    have hbw := HBw.out W2 hT2
    have q0 := hbw.cell (o := 0) rfl
    have q1 := hbw.cell (o := 1) rfl
    have q2 := hbw.cell (o := 2) rfl
    have HI3 := Lib.hid (fun V' (hs : Still W2 V') => show ((mbT qm (jz (Z.take k))).sep (blkT B [.pointer (some ⟨qm, 0, none⟩)] 129)).at_ V' Q' ∧ Blk V' V.heap.size [.int .i64 p1, .int .i64 p2, .int .i64 z] 99 ∧ W2.heap.size ≤ V'.heap.size from
      ⟨Thing.keep _ hI2 hs (fun _ _ h => h), hbw.turned hs (fun h => h), hs.size⟩)
    by_cases hrv : z ≠ -1 ∧ z ≠ t
    · rw [decide_eq_true hrv] at HRv
      have HSp2 := Lib.hid (show jz (Z.take (k + 1)) = (jz (Z.take k)).join z from by rw [HSp.out]; unfold jzS; rw [if_pos hrv])
      clear hI2 hbw hT2 hrv HSp
      gi_wp2_with (first
        | (gi_at_call 87; ((with_reducible refine (CallsIn.inRound y (callsIn_wide.2 (HRv.out _))).mono ?_)); rintro e W3 ⟨rfl, hs3⟩; obtain ⟨hI3, hbw3, hsz3⟩ := HI3.out _ hs3; have HS3 := Lib.hid hs3; have r2 := hbw3.cell (o := 2) rfl; obtain ⟨_, ⟨h2, _⟩, _⟩ := (Sit.start hI3).snd; have cx := h2.cell (o := 0) rfl; obtain ⟨U1, hm1, _, hgo⟩ := goes_fst hI3; have HJn := Lib.hid (mbjoin_any hm1 HOkk.out HKk.out z); have HF := Lib.hid (fun V' (hg : Goes (mbT qm ((jz (Z.take k)).join z)) U1 W3 V') => show Goes ((mbT qm (jz (Z.take (k + 1)))).sep (blkT B [.pointer (some ⟨qm, 0, none⟩)] 129)) Q' W2 V' from (by
          rw [HSp2.out]
          obtain ⟨Q3, g1, g2⟩ := (hgo _ _ hg).since
          obtain ⟨g3, g4⟩ := g2
          exact ⟨Q3, g1, (HS3.out.mono (fun _ _ h => h.elim)).trans g3, fun i hi => (g4 i hi).imp id (fun h => Nat.le_trans hsz3 h)⟩)); clear hbw3 hI3 hgo hs3 h2 hm1)
        | (gi_at_call 97; ((with_reducible refine (CallsIn.inRound y (callsIn_wide.2 HJn.out)).mono ?_)); rintro e W4 ⟨rfl, hg4⟩; have HG4 := Lib.hid (HF.out _ hg4); clear hg4))
      exact HG4.out
    · rw [decide_eq_false hrv] at HRv
      have HSp2 := Lib.hid (show jz (Z.take (k + 1)) = jz (Z.take k) from by rw [HSp.out]; unfold jzS; rw [if_neg hrv])
      have HF := Lib.hid (fun V' (hs : Still W2 V') => show Goes ((mbT qm (jz (Z.take (k + 1)))).sep (blkT B [.pointer (some ⟨qm, 0, none⟩)] 129)) Q' W2 V' from by
        rw [HSp2.out]
        exact Goes.still hI2 hs)
      clear hI2 hbw hT2 hrv HSp
      gi_wp2_with (gi_at_call 87; ((with_reducible refine (CallsIn.inRound y (callsIn_wide.2 (HRv.out _))).mono ?_)); rintro e W3 ⟨rfl, hs3⟩; have HG := Lib.hid (HF.out _ hs3); clear hs3)
      exact HG.out
  · intro D V Q' hD hK hQD hI hsk
    rw [List.take_length] at hI
    have hok := HOk.out Z.length (Nat.le_refl _)
    rw [List.take_length] at hok
    obtain ⟨U1, U2, hm1, ⟨hB, hU2⟩, hdd, hQ⟩ := hI
    have cc := hB.cell (o := 0) rfl
    have HA := Lib.hid (mball_any hm1 hok r (by rw [HAl.out]; exact HRl.out))
    rw [HAl.out] at HA
    have hD1 : w.heap.size ≤ D := Nat.le_trans HSt.out.size hD
    have hT0 : Turned (fun k => w.heap.size ≤ k) w V := (HSt.out.mono (fun _ _ h => h.elim)).trans (hsk.turn.mono (fun k _ h => HD2.out k h))
    have hDl := (Array.getElem?_eq_some_iff.1 hK).1
    have HP := Lib.hid (fun e V3 (ho : OutNums V (intsN (allN O T)) r e V3) => show V3.heap[D]? = some (.deferred (some [])) ∧ OutNums w (intsN (allN O T)) r e (V3.putObj D (.deferred none)) from by
      obtain ⟨a3, c3, he, hrow, hs3⟩ := ho
      have hK3 := (hs3.block D hDl (fun h => h)).trans hK
      have hp := putObj_since (.deferred none) (Array.getElem?_eq_some_iff.1 hK3).1
      refine ⟨hK3, a3, c3, he, ow_turned (ow_base hrow (by omega)) hp (fun b hb e => ?_), ?_⟩
      · cases a3 with
        | none => simp [Value.ownBlock] at hb
        | some z =>
          have := (ow_lt hrow z rfl).1
          have e2 : z.block = b := by simpa [Value.ownBlock] using hb
          omega
      · exact (hT0.trans ((hs3.mono (fun _ _ h => h.elim)).trans (hp.mono (fun k _ e => by rw [e]; exact hD1)))).mono (fun k hk hh => by omega))
    clear hB hQ hdd hT0 hsk hm1 hU2 hok
    gi_wp2_with (gi_at_call 98; ((with_reducible refine (callsIn_wide.2 HA.out).mono ?_)); intro e V3 ho; obtain ⟨hK3, hF3⟩ := HP.out _ _ ho; obtain ⟨a3, c3, rfl, _⟩ := ho; have HF3 := Lib.hid hF3; clear hF3)
    refine ⟨by simp, .inl ⟨_, _, rfl, run_takeDeferred hK3, ?_⟩⟩
    refine ⟨_, results_tmp rfl _ _ _, ?_⟩
    exact HF3.out
  · intro D k V Q' hD hK hQD hk hI hsk
    exact hI.elim
theorem rbwaits_any {q n c d G : Nat} {a b : Option Addr} {O T : List Own} {w : World} {W : Nat → Prop} (h : (rbY q n a c b d O T G).at_ w W) (hn : n = O.length) (hO : TOk O T) (r : Nat) (hr : r = (allN O T).length) :
    Calls Try.prog 85 #[.pointer (some ⟨q, 0, none⟩)] w (OutNums w (intsN (allN O T)) r) := rbwaits_it (itAt_of h hn hO) hO r hr
end Go.Proofs.Ytdlkdagmaeapdaa

/- Has of the program's table: whether a member has a place, and it is not revoked. No condition but that the table is one. -/
namespace Go.Proofs.Ytdlkdagmaeapdaa
open Go.RowKit Go.Shelf
attribute [local go_sem] Oper.semAt_some
set_option linter.unusedVariables false
set_option linter.unusedSimpArgs false
set_option maxRecDepth 100000

def hasZ (Z : List (Own × Own)) (id : Int) (p : Plc) : Int := match Z.find? (fun x => decide (x.1.1 = p)) with
  | none => 5
  | some x => if id < 0 ∨ x.1.2 ≠ id then 180 else if x.2.2 ≠ id then 170 else 0
theorem hasZ_no {Z : List (Own × Own)} {id : Int} {p : Plc} (h : ∀ (j : Nat) (z : Own × Own), j < Z.length → Z[j]? = some z → z.1.1 ≠ p) : hasZ Z id p = 5 := by
  unfold hasZ
  have : Z.find? (fun x => decide (x.1.1 = p)) = none := by
    rw [List.find?_eq_none]
    intro x hx
    obtain ⟨j, hj⟩ := List.mem_iff_getElem?.1 hx
    have := h j x (List.getElem?_eq_some_iff.1 hj).1 hj
    simpa using this
  rw [this]
theorem hasZ_yes {Z : List (Own × Own)} {id : Int} {p : Plc} {k : Nat} {z : Own × Own} (h : ∀ (j : Nat) (z : Own × Own), j < k → Z[j]? = some z → z.1.1 ≠ p) (hz : Z[k]? = some z) (hp : z.1.1 = p) (hlo : -1 ≤ z.1.2) : hasZ Z id p = jdgV id z.1.2 z.2.2 := by
  have : Z.find? (fun x => decide (x.1.1 = p)) = some z := by
    obtain ⟨hk, e⟩ := List.getElem?_eq_some_iff.1 hz
    rw [List.find?_eq_some_iff_getElem]
    refine ⟨by simpa using hp, k, hk, e, fun j hj => ?_⟩
    have := h j Z[j] hj (List.getElem?_eq_getElem (by omega))
    simpa using this
  unfold hasZ jdgV
  rw [this]
  dsimp only
  by_cases h1 : z.1.2 = id
  · by_cases h2 : id < 0
    · have e2 : z.1.2 = -1 := by omega
      rw [if_pos (Or.inl h2), if_pos (Or.inl e2)]
    · have e1 : ¬ (id < 0 ∨ z.1.2 ≠ id) := by omega
      have e2 : ¬ (z.1.2 = -1 ∨ z.1.2 ≠ id) := by omega
      rw [if_neg e1, if_neg e2]
      by_cases h3 : z.2.2 = id
      · have e3 : ¬ (z.2.2 ≠ id) := by omega
        have e4 : ¬ (z.1.2 ≠ z.2.2) := by omega
        rw [if_neg e3, if_neg e4]
      · have e4 : z.1.2 ≠ z.2.2 := by omega
        rw [if_pos h3, if_pos e4]
  · rw [if_pos (.inr h1), if_pos (.inr h1)]

/-- What holds between two rounds; and where one has left. -/
def hsI (B : Nat) (Z : List (Own × Own)) (p : Plc) (k : Nat) : Thing where
  at_ w W := (blkT B [.int .i64 0] 24).at_ w W ∧ ∀ (j : Nat) (z : Own × Own), j < k → Z[j]? = some z → z.1.1 ≠ p
  lt := fun h => (blkT B [.int .i64 0] 24).lt h.1
  keep := fun h ht hs => ⟨(blkT B [.int .i64 0] 24).keep h.1 ht hs, h.2⟩
def hsX (B : Nat) (Z : List (Own × Own)) (id : Int) (p : Plc) (k : Nat) : Thing where
  at_ w W := (blkT B [.int .i64 (hasZ Z id p)] 24).at_ w W
  lt := fun h => Thing.lt _ h
  keep := fun h ht hs => Thing.keep _ h ht hs

theorem results_cellE {fn : Func} {p : Tmp} {t : TypeId} (h : fn.results = #[.cell p t]) (tmps : Array Value) (P : Program) (w : World) :
    (results fn tmps).run P w = ((asAddr (tmps.getD p undef)).run P w).andThen fun a w₁ => (loadVar t a).run P w₁ := by
  simp only [results, h]
  simp [Sem.run_bind, Result.andThen]
/-- How a function ends whose result, an error, lies in a cell, where a loop lies behind it. -/
theorem cell_endE {F : Fence} {n : Nat} {V : World} {D B : Nat} {y : Int} {p : Tmp} {a : Act} {fn : Func} {R : Ending → World → Prop} (hfn : fn.results = #[.cell p 24])
    (h4 : a.tmps.getD p undef = .pointer (some ⟨B, 0, none⟩)) (hd : a.defers = [{ target := .collected D, args := #[] }]) (hB : Blk V B [.int .i64 y] 24) (hne : B ≠ D) (hK : V.heap[D]? = some (.deferred (some [])))
    (hR : ∀ W', Turned (· = D) V W' → R (.returned (.int .i64 y)) W') : bodyPostM F n Try.prog fn R .ret a V := by
  show LeavesInM F n Try.prog fn a.tmps R a.defers .returning V
  rw [hd]
  refine ⟨by simp, .inl ⟨_, _, rfl, run_takeDeferred hK, ?_⟩⟩
  have hP : Turned (· = D) V (V.putObj D (.deferred none)) := putObj_since _ (Array.getElem?_eq_some_iff.1 hK).1
  have b1 : (V.putObj D (.deferred none)).cell? ⟨B, 0, none⟩ = some (.int .i64 y) := (hB.turned hP hne).cell rfl
  refine ⟨.int .i64 y, ?_, hR _ hP⟩
  rw [results_cellE hfn, h4]
  go_simp

set_option maxHeartbeats 2000000 in
theorem rbhas_any {q n c d G : Nat} {a b : Option Addr} {O T : List Own} {w : World} {W : Nat → Prop} (h : (rbY q n a c b d O T G).at_ w W) (hn : n = O.length) (hO : TOk O T) (x f t : Int) :
    Calls Try.prog 66 #[.pointer (some ⟨q, 0, none⟩), .int .i64 x, .agg #[.int .i64 f, .int .i64 t]] w fun e w' => e = .returned (.int .i64 (hasZ (O.zip T) x (f, t))) ∧ Still w w' := by
  obtain ⟨W1, hW1⟩ : ∃ W1, W1 = ((w.alloc (.cells #[.int .i64 x] 3)).alloc (.cells #[.int .i64 f, .int .i64 t] 54)).alloc (.cells #[.int .i64 0] 24) := ⟨_, rfl⟩
  obtain ⟨Bx, hBx⟩ : ∃ b, b = w.heap.size := ⟨_, rfl⟩
  obtain ⟨Bp, hBp⟩ : ∃ b, b = w.heap.size + 1 := ⟨_, rfl⟩
  obtain ⟨B, hB⟩ : ∃ b, b = w.heap.size + 2 := ⟨_, rfl⟩
  have hs1 : Still w W1 := by rw [hW1]; exact (((Turned.refl _ _).alloc _).alloc _).alloc _
  have hz1 : W1.heap.size = B + 1 := by rw [hW1, hB]; simp
  have hb0 : Blk W1 Bx [.int .i64 x] 3 := by rw [hW1, hBx]; exact ((Blk.new w [.int .i64 x] 3).alloc _).alloc _
  have hb1 : Blk W1 Bp [.int .i64 f, .int .i64 t] 54 := by
    have := (Blk.new (w.alloc (.cells #[.int .i64 x] 3)) [.int .i64 f, .int .i64 t] 54).alloc (.cells #[.int .i64 0] 24)
    rw [World.size_alloc] at this
    rw [hW1, hBp]; exact this
  have hb2 : Blk W1 B [.int .i64 0] 24 := by
    have := Blk.new ((w.alloc (.cells #[.int .i64 x] 3)).alloc (.cells #[.int .i64 f, .int .i64 t] 54)) [.int .i64 0] 24
    rw [World.size_alloc, World.size_alloc] at this
    rw [hW1, hB]; exact this
  obtain ⟨Z, hZ⟩ : ∃ Z, Z = O.zip T := ⟨_, rfl⟩
  have hlen := hO.len
  have hle := hO.le
  have HIt0 := rbhand_it (q := q) (n := n) (c := c) (d := d) (G := G) (a := a) (b := b) hn hlen (by omega) W1.heap.size
  rw [← hZ] at HIt0
  have HIt := Lib.hid HIt0
  have HLo := Lib.hid (fun (k : Nat) (z : Own × Own) (hz : Z[k]? = some z) => show -1 ≤ z.1.2 from zip_lo hO (by rw [← hZ]; exact hz))
  have HYes := Lib.hid (fun (k : Nat) (z : Own × Own) (hno : ∀ (j : Nat) (z : Own × Own), j < k → Z[j]? = some z → z.1.1 ≠ (f, t)) (hz : Z[k]? = some z) (hp : z.1.1 = (f, t)) => show hasZ Z x (f, t) = jdgV x z.1.2 z.2.2 from hasZ_yes hno hz hp (HLo.out k z hz))
  have HNo := Lib.hid (fun (hno : ∀ (j : Nat) (z : Own × Own), j < Z.length → Z[j]? = some z → z.1.1 ≠ (f, t)) => show hasZ Z x (f, t) = 5 from hasZ_no hno)
  have hx1 : (rbY q n a c b d O T G).at_ W1 W := Thing.keep _ h hs1 (fun _ _ h => h)
  have hSl := Thing.lt _ h
  have HE := Lib.hid (rbhand_any (some ⟨q, 0, none⟩) W1)
  have HMd := Lib.hid (rbmade_any (rbY_rd hx1).c3)
  have HR := Lib.hid (evT_new hx1)
  rw [← hZ]
  have ht2 : Still W1 (W1.alloc (.cells #[.pointer (some ⟨q, 0, none⟩)] 55)) := (Turned.refl _ _).alloc _
  have HBs := Lib.hid (show (hsI B Z (f, t) 0).at_ (W1.alloc (.cells #[.pointer (some ⟨q, 0, none⟩)] 55)) (fun k => k = B) from
    ⟨⟨hb2.turned ht2 (fun h => h), fun _ => Iff.rfl⟩, fun j _ hj => by omega⟩)
  have HD := Lib.hid (show ∀ k, k = B → ¬ (k = W1.heap.size ∨ W k) from by
    rintro k rfl (hk | hk)
    · omega
    · have := hSl _ hk; omega)
  have HA := Lib.hid (fun V Q' (hS : Since (fun k => k = B) (W1.alloc (.cells #[.pointer (some ⟨q, 0, none⟩)] 55)) Q' V) => show Blk V Bx [.int .i64 x] 3 ∧ Blk V Bp [.int .i64 f, .int .i64 t] 54 ∧ B < V.heap.size from
    ⟨(hb0.turned ht2 (fun h => h)).turned hS.turn (by omega), (hb1.turned ht2 (fun h => h)).turned hS.turn (by omega), by have := ht2.size; have := hS.turn.size; omega⟩)
  have HSt := Lib.hid (hs1.trans ht2)
  have HZ := Lib.hid hz1
  have HNe := Lib.hid (show Bx = w.heap.size ∧ Bp = w.heap.size + 1 ∧ B = w.heap.size + 2 from ⟨hBx, hBp, hB⟩)
  clear h hSl ht2 hb0 hb1 hb2 hx1 hn hO hlen hle HIt0 hZ hs1 hz1
  refine (callsIn_wide (n := 9)).1 (callsIn_of_wp_marks Try.func66 rfl trivial ?_ rfl)
  simp only [Try.ntmps66, List.size_toArray, List.length_cons, List.length_nil, Nat.reduceAdd, Nat.reduceSub, Array.replicate_succ, Array.replicate_zero, List.push_toArray, List.append_toArray, List.nil_append, List.cons_append]
  have hf1 : Fence.wide.fn 83 := trivial
  have hf2 : Fence.wide.fn 55 := trivial
  have hf3 : Fence.wide.fn 88 := trivial
  clear hBx hBp hB
  gi_wp2_with (first
    | (gi_at_call 55; rw [← hW1]; ((with_reducible refine (callsIn_wide.2 HMd.out).mono ?_)); rintro e w2 ⟨rfl, rfl⟩)
    | (gi_at_call 83; rw [← hW1]; ((with_reducible refine (callsIn_wide.2 HE.out).mono ?_)); rintro e w2 ⟨rfl, rfl⟩))
  obtain ⟨e1, e2, e3⟩ := HNe.out
  rw [← hW1, ← e1, show Bx + 1 = Bp by omega, show Bp + 1 = B by omega, show B + 1 = W1.heap.size from HZ.out.symm]
  clear hW1 e1 e2 e3
  refine loopA_outer rfl (enters_of Try.func94 (by kernel_rfl) rfl) HIt.out (by exact fun _ => rfl) (hsI B Z (f, t)) (hsX B Z x (f, t)) HR.out HBs.out HD.out ?_ ?_ ?_
  · rintro ⟨⟨⟨p1, p2⟩, z⟩, ⟨tp, tg⟩⟩ y k V Q' hr hl1 hx hI hQl hsk
    obtain ⟨rr, hrr⟩ := hr
    have hyV : y < V.heap.size := (Array.getElem?_eq_some_iff.1 hrr).1
    have hVb := Blk.new V [.int .i64 p1, .int .i64 p2, .int .i64 z] 99
    obtain ⟨hbx, hbp, hBV⟩ := HA.out V Q' hsk
    have HBw := Lib.hid (fun W2 (hT2 : Turned (· = y) (V.alloc (.cells #[.int .i64 p1, .int .i64 p2, .int .i64 z] 99)) W2) => show Blk W2 V.heap.size [.int .i64 p1, .int .i64 p2, .int .i64 z] 99 from hVb.turned hT2 (by omega))
    have hl2 := hl1
    rw [World.size_alloc] at hl2
    have hzz := HZ.out
    have HI2 := Lib.hid (fun W2 (hT2 : Turned (· = y) (V.alloc (.cells #[.int .i64 p1, .int .i64 p2, .int .i64 z] 99)) W2) => show (hsI B Z (f, t) k).at_ W2 Q' ∧ Blk W2 Bx [.int .i64 x] 3 ∧ Blk W2 Bp [.int .i64 f, .int .i64 t] 54 from
      ⟨Thing.keep _ (Thing.keep _ hI ((Turned.refl _ V).alloc _) (fun _ _ h => h)) hT2 (fun j hj e => hQl (e ▸ hj)), (hbx.alloc _).turned hT2 (by obtain ⟨e1, e2, e3⟩ := HNe.out; omega), (hbp.alloc _).turned hT2 (by obtain ⟨e1, e2, e3⟩ := HNe.out; omega)⟩)
    have HX := Lib.hid hx
    have HJd := Lib.hid (fun V => rbjudge_any V x p1 p2 z tg)
    clear hl1 hl2 hx hI hQl hsk hVb hrr hyV hbx hbp hBV hzz
    dsimp only [encT17]
    gi_wp2
    refine ⟨(Turned.refl _ _).alloc _, fun W2 _ hT2 => ?_⟩
    obtain ⟨⟨⟨hb2, hQ⟩, hno⟩, hbx, hbp⟩ := HI2.out W2 hT2
    have hbw := HBw.out W2 hT2
    have q0 := hbw.cell (o := 0) rfl
    have q1 := hbw.cell (o := 1) rfl
    have q2 := hbw.cell (o := 2) rfl
    have x0 := hbx.cell (o := 0) rfl
    have y0 := hbp.cell (o := 0) rfl
    have y1 := hbp.cell (o := 1) rfl
    by_cases hpp : p1 = f ∧ p2 = t
    · obtain ⟨rfl, rfl⟩ := hpp
      have HV := Lib.hid (HYes.out k _ hno HX.out rfl)
      have HG := Lib.hid (fun W3 (hs : Still W2 W3) => show (W3.cell? ⟨B, 0, none⟩ = some (.int .i64 0) ∧ W3.frozen? ⟨B, 0, none⟩ = false) ∧ Goes (hsX B Z x (p1, p2) k) Q' W2 (W3.setCell ⟨B, 0, none⟩ (.int .i64 (jdgV x z tg))) from by
        have h3 := hb2.turned hs (fun h => h)
        refine ⟨⟨h3.cell rfl, h3.free 0⟩, Q', ⟨?_, hQ⟩, ((hs.mono (fun _ _ h => h.elim)).trans ((Turned.refl _ W3).setCell (p := ⟨B, 0, none⟩) (.inl ((hQ _).2 rfl)) _)), fun _ h => .inl h⟩
        rw [HV.out]
        exact h3.set 0 _)
      generalize jdgV x z tg = jv at *
      clear hb2 hQ hno hbx hbp hbw hT2
      gi_wp2_with (gi_at_call 88; ((with_reducible refine (CallsIn.inRound y (callsIn_wide.2 (HJd.out _))).mono ?_)); rintro e W3 ⟨rfl, hs3⟩; obtain ⟨⟨z1, z2⟩, hg3⟩ := HG.out _ hs3; have HG3 := Lib.hid hg3; clear hs3 hg3)
      exact HG3.out
    · have hxy' : p1 ≠ f ∨ (p1 = f ∧ p2 ≠ t) := by
        by_cases h1 : p1 = f
        · exact .inr ⟨h1, fun h2 => hpp ⟨h1, h2⟩⟩
        · exact .inl h1
      have HG := Lib.hid (show Goes (hsI B Z (f, t) (k + 1)) Q' W2 W2 from
        ⟨Q', ⟨⟨hb2, hQ⟩, fun j z' hj hz' => by
          rcases Nat.lt_succ_iff_lt_or_eq.1 hj with hj | rfl
          · exact hno j z' hj hz'
          · rw [HX.out] at hz'
            obtain rfl := Option.some.inj hz'
            intro e
            injection e with e1 e2
            exact hpp ⟨e1, e2⟩⟩, Turned.refl _ _, fun _ h => .inl h⟩)
      clear hb2 hQ hno hbx hbp hbw hT2 hpp
      rcases hxy' with h1 | ⟨rfl, h1⟩
      all_goals (
        gi_wp2
        exact HG.out)
  · intro D V Q' hD hK hQD hI hsk
    obtain ⟨⟨hB, hQ⟩, hn⟩ := hI
    have HAns := Lib.hid (HNo.out hn)
    have cF := hB.free 0
    have cB := hB.cell (o := 0) rfl
    have hDw : B ≠ D := fun e => hQD ((hQ D).2 e.symm)
    have HK := Lib.hid (show (V.setCell ⟨B, 0, none⟩ (.int .i64 5)).heap[D]? = some (.deferred (some [])) from by rw [Below.heap_setCell _ _ _ _ (fun e => hDw e.symm)]; exact hK)
    have HB2 := Lib.hid (show Blk (V.setCell ⟨B, 0, none⟩ (.int .i64 5)) B [.int .i64 5] 24 from hB.set 0 _)
    have HT := Lib.hid (fun W' (ht : Turned (· = D) (V.setCell ⟨B, 0, none⟩ (.int .i64 5)) W') => show Still w W' from by
      obtain ⟨h1, h2, h3⟩ := HNe.out
      have h0 := HZ.out
      rw [World.size_alloc] at hD
      have t1 : Turned (fun k => w.heap.size ≤ k) w V := (HSt.out.mono (fun _ _ h => h.elim)).trans (hsk.turn.mono (fun k _ e => by omega))
      have t2 : Turned (fun k => w.heap.size ≤ k) V (V.setCell ⟨B, 0, none⟩ (.int .i64 5)) := (Turned.refl _ V).setCell (p := ⟨B, 0, none⟩) (.inl (by show w.heap.size ≤ B; omega)) _
      exact ((t1.trans t2).trans (ht.mono (fun k _ e => by omega))).mono (fun k hk hh => by omega))
    clear hB hQ hn hsk hK hQD
    gi_wp2
    exact cell_endE rfl rfl rfl HB2.out hDw HK.out (fun W' ht => ⟨by rw [HAns.out], HT.out W' ht⟩)
  · intro D k V Q' hD hK hQD hk hI hsk
    obtain ⟨hB, hQ⟩ := hI
    have hDw : B ≠ D := fun e => hQD ((hQ D).2 e.symm)
    have HB2 := Lib.hid hB
    have HK := Lib.hid hK
    have HT := Lib.hid (fun W' (ht : Turned (· = D) V W') => show Still w W' from by
      obtain ⟨h1, h2, h3⟩ := HNe.out
      have h0 := HZ.out
      rw [World.size_alloc] at hD
      have t1 : Turned (fun k => w.heap.size ≤ k) w V := (HSt.out.mono (fun _ _ h => h.elim)).trans (hsk.turn.mono (fun k _ e => by omega))
      exact (t1.trans (ht.mono (fun k _ e => by omega))).mono (fun k hk hh => by omega))
    clear hB hQ hsk hK hQD
    gi_wp2
    try rw [Exit.noGoto_ret]
    exact cell_endE rfl rfl rfl HB2.out hDw HK.out (fun W' ht => ⟨rfl, HT.out W' ht⟩)
end Go.Proofs.Ytdlkdagmaeapdaa

/- The base's Clone and Equal over owners, Contains over numbers. No condition. -/
namespace Go.Proofs.Ytdlkdagmaeapdaa
open Go.RowKit
set_option linter.unusedVariables false
set_option linter.unusedSimpArgs false
set_option maxRecDepth 100000

theorem row_cellsO {w : World} {b o : Nat} {xs : List Own} (h : RowAt encOw 3 w (some ⟨b, o, none⟩) xs) : ∀ (j : Nat) (u : Value), (rowOf encOw xs)[j]? = some u → w.cell? ((⟨b, o, none⟩ : Addr).add j) = some u := by
  intro j u hj
  have hl : j < xs.length * 3 := by
    have := (List.getElem?_eq_some_iff.1 hj).1
    rwa [rowOf_length encOw_len] at this
  obtain ⟨x, hx⟩ := get_some (l := xs) (i := j / 3) (by omega)
  obtain ⟨b', o', e, hc⟩ := h (j / 3) x hx
  cases e
  obtain ⟨v, hv⟩ := get_some (l := encOw x) (i := j % 3) (by rw [encOw_len]; omega)
  have h1 := rowOf_get encOw_len hx hv
  rw [show j / 3 * 3 + j % 3 = j by omega, hj] at h1
  obtain rfl := Option.some.inj h1
  have h2 := hc (j % 3) u hv
  rw [Addr.add_lit]
  rw [show o + (j / 3 * 3 + j % 3) = o + j by omega] at h2
  exact h2
theorem oneOwn17 (l : List Own) : ∀ u ∈ rowOf encOw l, u.oneCell' = true := by
  intro u hu
  unfold rowOf at hu
  obtain ⟨x, _, hx⟩ := List.mem_flatMap.1 hu
  unfold encOw encPl encI at hx
  simp at hx
  rcases hx with rfl | rfl | rfl <;> rfl
/-- slices.Index over numbers: whether there is one. -/
theorem idxN_any (w : World) (ao : Option Addr) (l : List Int) (n cap : Nat) (x : Int) (hn : n = l.length) (hmax : n ≤ 1000) (hA : NumsAt w ao l) :
    Calls Try.prog 95 #[.slice ao n cap, .int .i64 x] w fun e w' => ∃ k : Int, e = .returned (.int .i64 k) ∧ (0 ≤ k ↔ x ∈ l) ∧ w = w' := by
  have HA := Lib.hid hA
  have HN := Lib.hid hn
  clear hA hn
  go_enter Try.func95, Try.ntmps95
  go_wp2
  go_loopw [8] (fun i wr => ∃ k : Nat, k ≤ n ∧ i = .int .i64 k ∧ x ∉ l.take k ∧ w = wr) (fun i _ => n - (intOf i).toNat)
  case atStart => exact ⟨0, Nat.zero_le _, rfl, by simp, rfl⟩
  case round =>
    obtain ⟨k, hk, rfl, hno, hw⟩ := hrel
    subst hw
    have HNO := Lib.hid hno
    clear hno
    by_cases hlt : k < n
    · obtain ⟨y, hy⟩ := get_some (l := l) (i := k) (by rw [← HN.out]; exact hlt)
      obtain ⟨b, o, rfl, hc⟩ := HA.out k y hy
      have HY := Lib.hid hy
      clear hy
      by_cases hxy : x = y
      · have HR := Lib.hid (show (0 : Int) ≤ (k : Int) ↔ x ∈ l from ⟨fun _ => by rw [hxy]; exact List.mem_of_getElem? HY.out, fun _ => Int.natCast_nonneg k⟩)
        subst hxy
        go_wp2
        go_ret
        exact ⟨_, rfl, HR.out, rfl⟩
      · have hb : (x == y) = false := by rw [beq_eq_false_iff_ne]; exact hxy
        have HXY := Lib.hid hxy
        clear hxy
        go_wp2
        go_roundw
        case rel =>
          refine ⟨k + 1, by omega, by go_num, ?_, trivial⟩
          rw [take_step HY.out]
          simp only [List.mem_append, List.mem_singleton, not_or]
          exact ⟨HNO.out, HXY.out⟩
        case measure => simp [intOf]; omega
    · obtain rfl : k = n := by omega
      have HR := Lib.hid (show (0 : Int) ≤ -1 ↔ x ∈ l from ⟨fun h => by omega, fun h => by
        have := HNO.out
        rw [List.take_of_length_le (by rw [HN.out]; exact Nat.le_refl _)] at this
        exact absurd h this⟩)
      go_wp2
      go_ret
      exact ⟨_, rfl, HR.out, rfl⟩
theorem contN_any (w : World) (ao : Option Addr) (l : List Int) (n cap : Nat) (x : Int) (hn : n = l.length) (hmax : n ≤ 1000) (hA : NumsAt w ao l) :
    Calls Try.prog 84 #[.slice ao n cap, .int .i64 x] w fun e w' => e = .returned (.bool (decide (x ∈ l))) ∧ w = w' := by
  have HI := Lib.hid (idxN_any w ao l n cap x hn hmax hA)
  clear hA hn
  go_enter Try.func84, Try.ntmps84
  go_wp2_with (go_at_call 95; ((with_reducible refine HI.out.mono ?_)); rintro e w1 ⟨k, rfl, hk, rfl⟩; have HK := Lib.hid (show decide (0 ≤ k) = decide (x ∈ l) from decide_eq_decide.2 hk); clear hk)
  go_ret
  exact ⟨by rw [← HK.out]; first | rfl | simp, rfl⟩
end Go.Proofs.Ytdlkdagmaeapdaa

/- stay of the program's table: the places with their owners as they are, where these are members. No condition but that the table is one. -/
namespace Go.Proofs.Ytdlkdagmaeapdaa
open Go.RowKit Go.Shelf
attribute [local go_sem] Oper.semAt_some
set_option linter.unusedVariables false
set_option linter.unusedSimpArgs false
set_option maxRecDepth 100000

theorem nums_keep {w w' : World} {S : Nat → Prop} {ao : Option Addr} {l : List Int} (h : NumsAt w ao l) (ht : Turned S w w') (hs : ∀ k, k < w.heap.size → ¬ S k) : NumsAt w' ao l :=
  ((readT ao l).keep (W := fun k => l ≠ [] ∧ ∃ x, ao = some x ∧ x.block = k) ⟨h, fun _ => Iff.rfl⟩ ht (fun k hk => hs k (nums_lt h hk))).1
/-- Who has a place still: what the map holds. -/
def ownF (ms : List Int) (Z : List (Own × Own)) (p : Plc) : Option Int := (Z.find? (fun z => decide (z.1.1 = p ∧ z.1.2 ∈ ms))).map (·.1.2)
theorem ownF_step {ms : List Int} {Z : List (Own × Own)} {k : Nat} {z : Own × Own} (hz : Z[k]? = some z) (hnd : ∀ (j : Nat) (y : Own × Own), j < k → Z[j]? = some y → y.1.1 ≠ z.1.1) (c : Plc) :
    ownF ms (Z.take (k + 1)) c = if z.1.2 ∈ ms then (if c = z.1.1 then some z.1.2 else ownF ms (Z.take k) c) else ownF ms (Z.take k) c := by
  have e : Z.take (k + 1) = Z.take k ++ [z] := by rw [List.take_add_one, hz]; rfl
  unfold ownF
  rw [e, List.find?_append]
  cases hf : (Z.take k).find? (fun z => decide (z.1.1 = c ∧ z.1.2 ∈ ms)) with
  | some y =>
    have hy := List.find?_some hf
    rw [decide_eq_true_iff] at hy
    obtain ⟨j, hj⟩ := List.mem_iff_getElem?.1 (List.mem_of_find?_eq_some hf)
    rw [List.getElem?_take] at hj
    by_cases hjk : j < k
    · rw [if_pos hjk] at hj
      have hne := hnd j y hjk hj
      have hcz : c ≠ z.1.1 := fun e => hne (hy.1.trans e)
      rw [if_neg hcz]
      simp
    · rw [if_neg hjk] at hj; cases hj
  | none =>
    rw [Option.none_or, List.find?_cons]
    by_cases hm : z.1.2 ∈ ms
    · rw [if_pos hm]
      by_cases hc : c = z.1.1
      · rw [if_pos hc, decide_eq_true ⟨hc.symm, hm⟩]; rfl
      · rw [if_neg hc, decide_eq_false (fun h => hc h.1.symm)]; rfl
    · rw [if_neg hm, decide_eq_false (fun h => hm h.2)]; rfl
theorem zip_nd {O T : List Own} (h : TOk O T) {k : Nat} {z : Own × Own} (hz : (O.zip T)[k]? = some z) : ∀ (j : Nat) (y : Own × Own), j < k → (O.zip T)[j]? = some y → y.1.1 ≠ z.1.1 := by
  intro j y hj hy e
  obtain ⟨h1, _⟩ := List.getElem?_zip_eq_some.1 hz
  obtain ⟨h2, _⟩ := List.getElem?_zip_eq_some.1 hy
  have := nodup_pos h.nd h2 h1 e
  omega
theorem ownF_end {ms : List Int} {O T : List Own} (h : TOk O T) (p : Plc) : (ownF ms (O.zip T) p).getD (-1) = if hadI O p ∈ ms then hadI O p else -1 := by
  unfold ownF
  by_cases hex : ∃ (i : Nat) (x : Int), O[i]? = some (p, x)
  · obtain ⟨i, x, hi⟩ := hex
    rw [had_at h.nd hi]
    cases hf : (O.zip T).find? (fun z => decide (z.1.1 = p ∧ z.1.2 ∈ ms)) with
    | some y =>
      have hy := List.find?_some hf
      rw [decide_eq_true_iff] at hy
      obtain ⟨j, hj⟩ := List.mem_iff_getElem?.1 (List.mem_of_find?_eq_some hf)
      obtain ⟨h1, _⟩ := List.getElem?_zip_eq_some.1 hj
      have e := nodup_pos h.nd h1 hi hy.1
      subst e
      rw [hi] at h1
      have e1 := Option.some.inj h1
      have e2 : x = y.1.2 := congrArg Prod.snd e1
      rw [e2, if_pos hy.2]; rfl
    | none =>
      obtain ⟨t, ht⟩ := get_some (l := T) (i := i) (by rw [← h.len]; exact (List.getElem?_eq_some_iff.1 hi).1)
      have hn := List.find?_eq_none.1 hf _ (List.mem_of_getElem? (List.getElem?_zip_eq_some.2 ⟨hi, ht⟩ : (O.zip T)[i]? = some ((p, x), t)))
      have hx : x ∉ ms := fun hx => hn (decide_eq_true (show p = p ∧ x ∈ ms from ⟨rfl, hx⟩))
      rw [if_neg hx]; rfl
  · have h1 : hadI O p = -1 := by
      unfold hadI
      have : O.find? (fun o => decide (o.1 = p)) = none := by
        rw [List.find?_eq_none]
        intro o ho hd
        obtain ⟨i, hi⟩ := List.mem_iff_getElem?.1 ho
        have e : o.1 = p := of_decide_eq_true hd
        exact hex ⟨i, o.2, by rw [hi, ← e]⟩
      rw [this]
    have h2 : (O.zip T).find? (fun z => decide (z.1.1 = p ∧ z.1.2 ∈ ms)) = none := by
      rw [List.find?_eq_none]
      intro z hz hd
      have e := (of_decide_eq_true hd).1
      obtain ⟨i, hi⟩ := List.mem_iff_getElem?.1 (List.of_mem_zip hz).1
      exact hex ⟨i, z.1.2, by rw [hi, ← e]⟩
    rw [h2, h1]
    split <;> rfl

set_option maxHeartbeats 8000000 in
theorem rbstay_any {q n c d G : Nat} {a b : Option Addr} {O T : List Own} {w : World} {W : Nat → Prop} (h : (rbY q n a c b d O T G).at_ w W) (hn : n = O.length) (hO : TOk O T)
    (bo ao : Option Addr) (ps : List Plc) (ms : List Int) (r m c1 c2 : Nat) (hr : r = ps.length) (hm : m = ms.length) (hr1 : r ≤ 1000) (hm1 : m ≤ 1000) (hB : PlAt w bo ps) (hA : NumsAt w ao ms) :
    Calls Try.prog 57 #[.pointer (some ⟨q, 0, none⟩), .slice bo r c1, .slice ao m c2] w (OutRow encOw 3 99 w (nowI ms ps O) r) := by
  have hend := fun p => ownF_end (ms := ms) hO p
  have hstep := fun (k : Nat) (z : Own × Own) (hz : (O.zip T)[k]? = some z) => ownF_step (ms := ms) hz (zip_nd hO hz)
  obtain ⟨Z, hZ⟩ : ∃ Z, Z = O.zip T := ⟨_, rfl⟩
  rw [← hZ] at hend hstep
  have hlen := hO.len
  have hle := hO.le
  -- what it leaves
  obtain ⟨L, hL⟩ : ∃ L, L = nowI ms ps O := ⟨_, rfl⟩
  have HEnd := Lib.hid (fun (i : Nat) (p : Plc) (hp : ps[i]? = some p) => show L[i]? = some (p, (ownF ms Z p).getD (-1)) from by
    rw [hL, hend p]; unfold nowI; rw [List.getElem?_map, hp]; rfl)
  obtain ⟨Z0, hZ0⟩ : ∃ Z0 : List Own, Z0 = List.replicate r ((0, 0), 0) := ⟨_, rfl⟩
  have hZ0l : Z0.length = r := by rw [hZ0, List.length_replicate]
  have HLl := Lib.hid (show L.length = Z0.length from by rw [hL, now_len, hZ0l, hr])
  have HZl := Lib.hid hZ0l
  rw [← hL]
  obtain ⟨ti, fi, hz0, hz1, hz2⟩ := info_parts infoOw17
  have hmk := fun W : World => run_make (P := Try.prog) W 65 99 ti _ Try.underlying65 fi hz0 .i64 .i64 (r : Int) (r : Int) (Int.natCast_nonneg r) (Int.le_refl _) (by rw [hz2]; omega) (by omega)
  simp only [hz1, Int.toNat_natCast, show Value.cells (.agg #[.int .i64 0, .int .i64 0, .int .i64 0]) = #[.int .i64 0, .int .i64 0, .int .i64 0] from rfl, madeO] at hmk
  rw [← hZ0] at hmk
  -- the boxes
  obtain ⟨Bn, hBn⟩ : ∃ b, b = w.heap.size := ⟨_, rfl⟩
  obtain ⟨mb, hmb⟩ : ∃ b, b = w.heap.size + 1 := ⟨_, rfl⟩
  obtain ⟨Bm, hBm⟩ : ∃ b, b = w.heap.size + 2 := ⟨_, rfl⟩
  obtain ⟨W0, hW0⟩ : ∃ W0, W0 = w.alloc (.cells #[.slice ao m c2] 44) := ⟨_, rfl⟩
  have hz0' : W0.heap.size = mb := by rw [hW0, hmb]; simp
  obtain ⟨W1, hW1⟩ : ∃ W1, W1 = (W0.alloc (.map #[] 0)).alloc (.cells #[.map (some mb)] 113) := ⟨_, rfl⟩
  have hs0 : Still w W0 := by rw [hW0]; exact (Turned.refl _ _).alloc _
  have hs01 : Still W0 W1 := by rw [hW1]; exact ((Turned.refl _ _).alloc _).alloc _
  have hs1 := hs0.trans hs01
  have hz1' : W1.heap.size = Bm + 1 := by rw [hW1, hBm]; simp; omega
  have hbn : Blk W1 Bn [.slice ao m c2] 44 := by
    have : Blk W0 Bn [.slice ao m c2] 44 := by rw [hW0, hBn]; exact Blk.new w [.slice ao m c2] 44
    exact this.turned hs01 (fun h => h)
  have hmp : MapF plV W1 mb (ownF ms (Z.take 0)) := by
    have h0 := MapF.made (kv := plV) W0
    rw [hz0'] at h0
    rw [hW1]
    exact (h0.keep (S := fun _ => False) ((Turned.refl _ _).alloc _) (fun h => h)).congr (fun _ => rfl)
  have hbm : Blk W1 Bm [.map (some mb)] 113 := by
    have := Blk.new (W0.alloc (.map #[] 0)) [.map (some mb)] 113
    rw [World.size_alloc, hz0', show mb + 1 = Bm by omega] at this
    rw [hW1]; exact this
  have HIt0 := rbhand_it (q := q) (n := n) (c := c) (d := d) (G := G) (a := a) (b := b) hn hlen (by omega) W1.heap.size
  rw [← hZ] at HIt0
  have HIt := Lib.hid HIt0
  have HE := Lib.hid (rbhand_any (some ⟨q, 0, none⟩) W1)
  have hx1 : (rbY q n a c b d O T G).at_ W1 W := Thing.keep _ h hs1 (fun _ _ h => h)
  have hSl := Thing.lt _ h
  have HR := Lib.hid (evT_new hx1)
  have ht2 : Still W1 (W1.alloc (.cells #[.pointer (some ⟨q, 0, none⟩)] 55)) := (Turned.refl _ _).alloc _
  have HBs := Lib.hid (show (boxM plV 113 Bm mb (ownF ms (Z.take 0))).at_ (W1.alloc (.cells #[.pointer (some ⟨q, 0, none⟩)] 55)) (fun k => k = Bm ∨ k = mb) from
    ⟨(· = Bm), (· = mb), ⟨hbm.turned ht2 (fun h => h), fun _ => Iff.rfl⟩, ⟨hmp.keep ht2 (fun h => h), fun _ => Iff.rfl⟩, fun k e1 e2 => by omega, fun _ => Iff.rfl⟩)
  have HD := Lib.hid (show ∀ k, (k = Bm ∨ k = mb) → ¬ (k = W1.heap.size ∨ W k) from by
    intro k hk hk2
    rcases hk2 with hk2 | hk2
    · omega
    · have := hSl k hk2; omega)
  have HD2 := Lib.hid (show ∀ k, (k = Bm ∨ k = mb) → w.heap.size ≤ k from fun k hk => by omega)
  have HSt := Lib.hid (hs1.trans ht2)
  have HZ := Lib.hid hz1'
  have HNm := Lib.hid (show Bn = w.heap.size ∧ mb = Bn + 1 ∧ Bm = mb + 1 ∧ W1.heap.size = Bm + 1 ∧ w.heap.size + 1 = mb from by omega)
  have HA := Lib.hid (fun V Q' (hS : Since (fun k => k = Bm ∨ k = mb) (W1.alloc (.cells #[.pointer (some ⟨q, 0, none⟩)] 55)) Q' V) => show Blk V Bn [.slice ao m c2] 44 ∧ NumsAt V ao ms ∧ Bm < V.heap.size from
    ⟨(hbn.turned ht2 (fun h => h)).turned hS.turn (by omega), nums_keep hA ((hs1.trans ht2).mono (fun _ _ h => h.elim) |>.trans hS.turn) (fun k hk hh => by omega), by have := ht2.size; have := hS.turn.size; omega⟩)
  have HSp := Lib.hid hstep
  have HNl := Lib.hid (fun (k : Nat) (hk : ms ≠ [] ∧ ∃ x, ao = some x ∧ x.block = k) => show k < w.heap.size from nums_lt hA hk)
  have HPl := Lib.hid hB
  have HMn := Lib.hid hm
  have HRn := Lib.hid hr
  have hmm : (Instr.makeMap 113 none).run Try.prog W0 = .ok (.map (some mb)) (W0.alloc (.map #[] 0)) := by rw [← hz0']; exact run_makeMap 113 W0
  clear h hn hO hend hstep hlen hle hL hZ hx1 hSl ht2 hbn hbm hmp hs0 hs01 hs1 hz1' HIt0 hB hA hm hr hZ0 hZ0l fi hz0 hz1 hz2
  refine (callsIn_wide (n := 9)).1 (callsIn_of_wp_marks Try.func57 rfl trivial ?_ rfl)
  simp only [Try.ntmps57, List.size_toArray, List.length_cons, List.length_nil, Nat.reduceAdd, Nat.reduceSub, Array.replicate_succ, Array.replicate_zero, List.push_toArray, List.append_toArray, List.nil_append, List.cons_append]
  have hf1 : Fence.wide.fn 83 := trivial
  have hf2 : Fence.wide.fn 84 := trivial
  clear hBn hmb hBm
  rw [hW0] at hmm hW1
  clear hW0 hz0'
  gi_wp2_with (gi_at_call 83; rw [← hW1]; ((with_reducible refine (callsIn_wide.2 HE.out).mono ?_)); rintro e w2 ⟨rfl, rfl⟩)
  obtain ⟨e1, e2, e3, e4, e5⟩ := HNm.out
  rw [← hW1, ← e1, show Bn + 1 + 1 = Bm by omega, show Bm + 1 = W1.heap.size from e4.symm]
  clear hW1 hmm e1 e2 e3 e4 e5
  refine loopA_outer rfl (enters_of Try.func94 (by kernel_rfl) rfl) HIt.out (by exact fun _ => rfl) (fun k => boxM plV 113 Bm mb (ownF ms (Z.take k))) (fun _ => noT) HR.out HBs.out HD.out ?_ ?_ ?_
  · rintro ⟨⟨⟨p1, p2⟩, z⟩, ⟨tp, tg⟩⟩ y k V Q' hr hl1 hx hI hQl hsk
    obtain ⟨rr, hrr⟩ := hr
    have hyV : y < V.heap.size := (Array.getElem?_eq_some_iff.1 hrr).1
    have hVb := Blk.new V [.int .i64 p1, .int .i64 p2, .int .i64 z] 99
    obtain ⟨hbn, hnm, hBV⟩ := HA.out V Q' hsk
    have hl2 := hl1
    rw [World.size_alloc] at hl2
    have HBw := Lib.hid (fun W2 (hT2 : Turned (· = y) (V.alloc (.cells #[.int .i64 p1, .int .i64 p2, .int .i64 z] 99)) W2) => show Blk W2 V.heap.size [.int .i64 p1, .int .i64 p2, .int .i64 z] 99 ∧ Blk W2 Bn [.slice ao m c2] 44 ∧ NumsAt W2 ao ms from by
      obtain ⟨e1, e2, e3, e4, e5⟩ := HNm.out
      refine ⟨hVb.turned hT2 (by omega), (hbn.alloc _).turned hT2 (by omega), ?_⟩
      exact ((readT ao ms).keep (W := fun k => ms ≠ [] ∧ ∃ x, ao = some x ∧ x.block = k) ⟨hnm, fun _ => Iff.rfl⟩ (((Turned.refl (· = y) V).alloc _).trans hT2) (fun k hk e => by have := HNl.out k hk; omega)).1)
    have HI2 := Lib.hid (fun W2 (hT2 : Turned (· = y) (V.alloc (.cells #[.int .i64 p1, .int .i64 p2, .int .i64 z] 99)) W2) => show (boxM plV 113 Bm mb (ownF ms (Z.take k))).at_ W2 Q' from
      Thing.keep _ (Thing.keep _ hI ((Turned.refl _ V).alloc _) (fun _ _ h => h)) hT2 (fun j hj e => hQl (e ▸ hj)))
    have HG := Lib.hid (HSp.out k _ hx)
    have hmn := HMn.out
    have HCt := Lib.hid (fun W2 (h : NumsAt W2 ao ms) => contN_any W2 ao ms m c2 z HMn.out hm1 h)
    clear hl1 hl2 hx hI hQl hsk hVb hrr hyV hbn hnm hBV hmn
    dsimp only [encT17]
    gi_wp2
    refine ⟨(Turned.refl _ _).alloc _, fun W2 _ hT2 => ?_⟩
    have hI2 := HI2.out W2 hT2
    obtain ⟨hbx, hbn, hnm⟩ := HBw.out W2 hT2
    have HCt2 := Lib.hid (HCt.out W2 hnm)
    have p0 := hbx.cell (o := 0) rfl
    have p1' := hbx.cell (o := 1) rfl
    have p2' := hbx.cell (o := 2) rfl
    have n0 := hbn.cell (o := 0) rfl
    by_cases hzm : z ∈ ms
    · rw [decide_eq_true hzm] at HCt2
      obtain ⟨Q1, Q2, ⟨hB, hQ1⟩, ⟨hM, hQ2⟩, hdd, hQ⟩ := hI2
      have cc := hB.cell (o := 0) rfl
      obtain ⟨W3, hmu, hM3, hT3⟩ := MapF.put keysPl hM (p1, p2) z
      simp only [plV] at hmu
      have HFin := Lib.hid (show Goes (boxM plV 113 Bm mb (ownF ms (Z.take (k + 1)))) Q' W2 W3 from by
        refine ⟨Q', ⟨Q1, Q2, ⟨hB.turned hT3 (by obtain ⟨e1, e2, e3, e4, e5⟩ := HNm.out; omega), hQ1⟩, ⟨hM3.congr (fun c => by rw [HG.out c, if_pos hzm]), hQ2⟩, hdd, hQ⟩, hT3.mono (fun i _ e => (hQ i).2 (.inr ((hQ2 i).2 e))), fun _ h => .inl h⟩)
      clear hB hM hM3 hT3 hQ hQ1 hQ2 hdd hbx hbn hnm hT2 hzm
      gi_wp2_with (gi_at_call 84; ((with_reducible refine (CallsIn.inRound y (callsIn_wide.2 HCt2.out)).mono ?_)); rintro e w4 ⟨rfl, rfl⟩)
      exact HFin.out
    · rw [decide_eq_false hzm] at HCt2
      have HFin := Lib.hid (show Goes (boxM plV 113 Bm mb (ownF ms (Z.take (k + 1)))) Q' W2 W2 from by
        obtain ⟨Q1, Q2, hB, ⟨hM, hQ2⟩, hdd, hQ⟩ := hI2
        exact ⟨Q', ⟨Q1, Q2, hB, ⟨hM.congr (fun c => by rw [HG.out c, if_neg hzm]), hQ2⟩, hdd, hQ⟩, Turned.refl _ _, fun _ h => .inl h⟩)
      clear hI2 hbx hbn hnm hT2 hzm
      gi_wp2_with (gi_at_call 84; ((with_reducible refine (CallsIn.inRound y (callsIn_wide.2 HCt2.out)).mono ?_)); rintro e w4 ⟨rfl, rfl⟩)
      exact HFin.out
  · intro D V Q' hD hK hQD hI hsk
    rw [List.take_length] at hI
    have hD1 : w.heap.size ≤ D := Nat.le_trans HSt.out.size hD
    have hT0 : Turned (fun k => w.heap.size ≤ k) w V := (HSt.out.mono (fun _ _ h => h.elim)).trans (hsk.turn.mono (fun k _ h => HD2.out k h))
    have hsV : Still w V := hT0.mono (fun k hk hh => by omega)
    have hgr := HSt.out.size
    have K0 := Lib.hid (show Held w V ((boxM plV 113 Bm mb (ownF ms Z)).sep (objT D (.deferred (some [])))) from
      ⟨_, obj_sep hI hK hQD, fun k hk => by
        rcases hk with hk | hk
        · rcases hsk.grow k hk with h | h
          · exact HD2.out k h
          · omega
        · omega, hsV⟩)
    obtain ⟨_, ⟨Q1, _, ⟨_, _, ⟨hB, _⟩, _⟩, _⟩, _⟩ := K0.out
    have cc := hB.cell (o := 0) rfl
    have K1 := Lib.hid (lit_heldO K0.out (l := Z0) (n := r) HZl.out.symm (by omega)).swap
    obtain ⟨g, hg⟩ : ∃ g, g = V.heap.size := ⟨_, rfl⟩
    have K1 := Lib.hid (show Held w (V.alloc (.cells (rowOf encOw Z0).toArray 99)) ((ownsT (some ⟨g, 0, none⟩) r r (mixO L Z0 0)).sep ((boxM plV 113 Bm mb (ownF ms Z)).sep (objT D (.deferred (some []))))) from by
      rw [mixO_zero, hg]; exact K1.out)
    have hmk0 := hmk V
    rw [← hg] at hmk0
    clear hmk hg hT0 hsV hgr hI hK hQD hsk hB hD
    clear K0 cc
    gi_wp2
    gi_loopw [33] (fun ix wq => ∃ i : Nat, i ≤ r ∧ ix = .int .i64 i ∧ Held w wq ((ownsT (some ⟨g, 0, none⟩) r r (mixO L Z0 i)).sep ((boxM plV 113 Bm mb (ownF ms Z)).sep (objT D (.deferred (some [])))))) (fun ix _ => r - (intOf ix).toNat)
    case atStart => exact ⟨0, Nat.zero_le _, rfl, K1.out⟩
    case round =>
      clear K1 hmk0
      obtain ⟨i, hi, rfl, hH⟩ := hrel
      by_cases hlt : i < r
      · obtain ⟨⟨pf, pt⟩, hp⟩ := get_some (l := ps) (i := i) (by rw [← HRn.out]; exact hlt)
        obtain ⟨bp, op, rfl, hc⟩ := row_still HPl.out hH.ground i _ hp
        have c0 : wr.cell? ⟨bp, op + i * 2, none⟩ = some (.int .i64 pf) := hc 0 _ rfl
        have c1' : wr.cell? ⟨bp, op + i * 2 + 1, none⟩ = some (.int .i64 pt) := by rw [Nat.add_assoc]; exact hc 1 _ rfl
        have hx := HEnd.out i _ hp
        have hii : (i : Int) < (r : Int) := by omega
        obtain ⟨U, hU⟩ : ∃ U, U = wr.alloc (.cells #[.int .i64 pf, .int .i64 pt] 54) := ⟨_, rfl⟩
        have hHU := hH.still (show Still wr U from by rw [hU]; exact (Turned.refl _ _).alloc _)
        obtain ⟨_, ⟨_, _, ⟨_, _, ⟨hbm, _⟩, ⟨hmf, _⟩, _⟩, _⟩, _⟩ := hHU.snd
        have cm := hbm.cell (o := 0) rfl
        have hlk := MapF.look keysPl hmf (pf, pt) true
        rw [if_pos rfl] at hlk
        simp only [plV] at hlk
        have hzg := get_some (l := mixO L Z0 i) (i := i) (by rw [mixO_len HLl.out, HZl.out]; exact hlt)
        obtain ⟨zz, hzg⟩ := hzg
        have HPut := Lib.hid (fun (v : Int) => held_put3 hHU hzg pf pt v)
        have HMx := Lib.hid (fun (v : Int) (hv : L[i]? = some ((pf, pt), v)) => mixO_set HLl.out hv)
        cases hwo : ownF ms Z (pf, pt) with
        | none =>
          rw [hwo] at hx hlk
          obtain ⟨⟨u1, d1⟩, d2, ⟨u2, d3⟩, d4, ⟨u3, d5⟩, d6, d7⟩ := HPut.out (-1)
          rw [HMx.out (-1) hx] at d7
          have K2 := Lib.hid d7
          simp only [Option.getD_none, Option.isSome_none] at hlk
          clear hH hHU hzg d7 hx hp hc hbm hmf HPut HMx
          rw [hU] at hlk cm d1 d2 d3 d4 d5 d6 K2
          clear hU
          gi_wp2
          go_roundw
          case rel => exact ⟨i + 1, by omega, by go_num, K2.out⟩
          case measure => simp [intOf]; omega
        | some x =>
          rw [hwo] at hx hlk
          obtain ⟨⟨u1, d1⟩, d2, ⟨u2, d3⟩, d4, ⟨u3, d5⟩, d6, d7⟩ := HPut.out x
          rw [HMx.out x hx] at d7
          have K2 := Lib.hid d7
          simp only [Option.getD_some, Option.isSome_some] at hlk
          clear hH hHU hzg d7 hx hp hc hbm hmf HPut HMx
          rw [hU] at hlk cm d1 d2 d3 d4 d5 d6 K2
          clear hU
          gi_wp2
          go_roundw
          case rel => exact ⟨i + 1, by omega, by go_num, K2.out⟩
          case measure => simp [intOf]; omega
      · obtain rfl : i = r := by omega
        have hf := mixO_all HLl.out
        rw [HZl.out] at hf
        rw [hf] at hH
        have hH2 := (hH.assoc'.swap)
        obtain ⟨_, ⟨hKD, hWD⟩, hgo⟩ := hH2.fst
        have hlt := (Array.getElem?_eq_some_iff.1 hKD).1
        have HP := Lib.hid (show OutRow encOw 3 99 w L i (.returned (.slice (some ⟨g, 0, none⟩) i i)) (wr.putObj D (.deferred none)) from by
          have hfin := hgo (objT D (.deferred none)) (wr.putObj D (.deferred none)) ⟨_, ⟨World.putObj_heap_same hlt, hWD⟩, (putObj_since (l := D) (.deferred none) hlt).mono (fun k _ e => (hWD k).2 e), fun k hk => .inl hk⟩
          obtain ⟨f1, f2⟩ := ow_raise hfin.snd.drop
          exact ⟨_, _, rfl, f1, f2⟩)
        clear hH hH2 hgo hf
        gi_wp2
        refine ⟨by simp, .inl ⟨_, _, rfl, run_takeDeferred hKD, ?_⟩⟩
        refine ⟨_, results_tmp rfl _ _ _, ?_⟩
        exact HP.out
  · intro D k V Q' hD hK hQD hk hI hsk
    exact hI.elim
end Go.Proofs.Ytdlkdagmaeapdaa

/- Owners in a box of one's own, one more and one more. No condition. -/
namespace Go.Proofs.Ytdlkdagmaeapdaa
open Go.RowKit
set_option linter.unusedVariables false
set_option linter.unusedSimpArgs false
set_option maxRecDepth 100000

/-- Owners in a box, made since: the box, and the row. -/
def owHand (b0 B : Nat) (l : List Own) : Thing where
  at_ w W := ∃ a c, Blk w B [.slice a l.length c] 65 ∧ w.ownsRow b0 99 3 (.slice a l.length c) l.length (rowOf encOw l) ∧ (Value.slice a l.length c).ownBlock ≠ some B ∧ ∀ k, W k ↔ k = B ∨ (Value.slice a l.length c).ownBlock = some k
  lt := by
    rintro w W ⟨a, c, h1, h2, h3, hW⟩ k hk
    rcases (hW k).1 hk with rfl | hk
    · exact h1.lt
    · cases a with
      | none => cases hk
      | some z =>
        have h4 := (ow_lt h2 z rfl).2
        have h5 : z.block = k := by simpa [Value.ownBlock] using hk
        omega
  keep := by
    rintro w w' W S ⟨a, c, h1, h2, h3, hW⟩ ht hs
    exact ⟨a, c, h1.turned ht (hs _ ((hW B).2 (.inl rfl))), ow_turned h2 ht (fun b hb => hs b ((hW b).2 (.inr hb))), h3, hW⟩

/-- An owner more. -/
theorem ow_app3 {b0 B : Nat} {l : List Own} {V U w6 : World} {Q : Nat → Prop} {a a' : Option Addr} {c n c' : Nat} {x : Own} (hn : n = l.length) (hB : Blk V B [.slice a n c] 65) (hne : (Value.slice a n c).ownBlock ≠ some B) (hQ : ∀ k, Q k ↔ k = B ∨ (Value.slice a n c).ownBlock = some k)
    (hU : Still V U) (hown : w6.ownsRow b0 99 3 (.slice a' (n + 1) c') (n + 1) (rowOf encOw l ++ encOw x)) (hg : U.grownBy w6 (Value.slice a n c).ownBlock) (hat : (Value.slice a' (n + 1) c').ownBlock = (Value.slice a n c).ownBlock ∨ (Value.slice a' (n + 1) c').ownBlock = some U.heap.size) :
    w6.cell? ⟨B, 0, none⟩ = some (.slice a n c) ∧ w6.frozen? ⟨B, 0, none⟩ = false ∧ Hid (Goes (owHand b0 B (l ++ [x])) Q V (w6.setCell ⟨B, 0, none⟩ (.slice a' (n + 1) c'))) := by
  subst hn
  have hBl := hB.lt
  have hUs := hU.size
  have hT : Turned (fun k => (Value.slice a l.length c).ownBlock = some k) V w6 := (hU.mono (fun _ _ h => h.elim)).grown hg (fun k hk => .inl hk)
  have hB6 : Blk w6 B [.slice a l.length c] 65 := hB.turned hT hne
  have hne' : (Value.slice a' (l.length + 1) c').ownBlock ≠ some B := fun e => by
    rcases hat with h | h
    · exact hne (h ▸ e)
    · rw [h] at e
      have := Option.some.inj e; omega
  refine ⟨hB6.cell rfl, hB6.free _, Lib.hid ?_⟩
  have hT2 : Turned (· = B) w6 (w6.setCell ⟨B, 0, none⟩ (.slice a' (l.length + 1) c')) := turned_set (Turned.refl _ _) 0 _
  have hlen : (l ++ [x]).length = l.length + 1 := by simp
  have hr : (owHand b0 B (l ++ [x])).at_ (w6.setCell ⟨B, 0, none⟩ (.slice a' (l.length + 1) c')) (fun k => k = B ∨ (Value.slice a' (l ++ [x]).length c').ownBlock = some k) := by
    refine ⟨a', c', ?_, ?_, ?_, fun _ => Iff.rfl⟩
    · rw [hlen]; have := hB6.set 0 (.slice a' (l.length + 1) c'); simpa using this
    · rw [hlen, show rowOf encOw (l ++ [x]) = rowOf encOw l ++ encOw x by rw [rowOf_append, rowOf_cons, rowOf_nil, List.append_nil]]
      exact ow_turned hown hT2 (fun b hb e => hne' (e ▸ hb))
    · rw [hlen]; exact hne'
  refine ⟨_, hr, ?_, fun k hk => ?_⟩
  · exact (hT.mono (fun k _ h => (hQ k).2 (.inr h))).trans (hT2.mono (fun k _ h => (hQ k).2 (.inl h)))
  · rcases hk with hk | hk
    · exact .inl ((hQ k).2 (.inl hk))
    · rw [hlen] at hk
      rcases hat with h | h
      · exact .inl ((hQ k).2 (.inr (h ▸ hk)))
      · rw [h] at hk
        have := Option.some.inj hk
        exact .inr (by omega)

end Go.Proofs.Ytdlkdagmaeapdaa

/- without of the program's table: the owners, but with nobody where a place is revoked of the member. No condition but that the table is one. -/
namespace Go.Proofs.Ytdlkdagmaeapdaa
open Go.RowKit Go.Shelf
attribute [local go_sem] Oper.semAt_some
set_option linter.unusedVariables false
set_option linter.unusedSimpArgs false
set_option maxRecDepth 100000

/-- What it gathers. -/
def offZ (Z : List (Own × Own)) (x : Int) (k : Nat) : List Own := (Z.take k).map (offI x)
theorem off_step {Z : List (Own × Own)} {k : Nat} {z : Own × Own} (h : Z[k]? = some z) (x : Int) : offZ Z x (k + 1) = offZ Z x k ++ [offI x z] := by
  unfold offZ
  have e : Z.take (k + 1) = Z.take k ++ [z] := by rw [List.take_add_one, h]; rfl
  rw [e, List.map_append]; rfl

set_option maxHeartbeats 4000000 in
theorem rbwithout_any {q n c d G : Nat} {a b : Option Addr} {O T : List Own} {w : World} {W : Nat → Prop} (h : (rbY q n a c b d O T G).at_ w W) (hn : n = O.length) (hO : TOk O T) (x : Int) :
    Calls Try.prog 65 #[.pointer (some ⟨q, 0, none⟩), .int .i64 x] w (OutRow encOw 3 99 w ((O.zip T).map (offI x)) n) := by
  obtain ⟨i0, hi, hz0, hz1, hz2⟩ := info_parts infoOw17
  obtain ⟨Z, hZ⟩ : ∃ Z, Z = O.zip T := ⟨_, rfl⟩
  have hlen := hO.len
  have hle := hO.le
  have hZl : Z.length = n := by rw [hZ, List.length_zip]; omega
  have hmk := fun W : World => run_make (P := Try.prog) W 65 99 i0 _ Try.underlying65 hi hz0 .i64 .i64 (0 : Int) (n : Int) (Int.le_refl _) (Int.natCast_nonneg n) (by rw [hz2]; omega) (by omega)
  simp only [hz1, Int.toNat_natCast, Int.toNat_zero, show Value.cells (.agg #[.int .i64 0, .int .i64 0, .int .i64 0]) = #[.int .i64 0, .int .i64 0, .int .i64 0] from rfl, madeO] at hmk
  obtain ⟨Bx, hBx⟩ : ∃ b, b = w.heap.size := ⟨_, rfl⟩
  obtain ⟨g, hg⟩ : ∃ b, b = w.heap.size + 1 := ⟨_, rfl⟩
  obtain ⟨B, hB⟩ : ∃ b, b = w.heap.size + 2 := ⟨_, rfl⟩
  obtain ⟨W0, hW0⟩ : ∃ W0, W0 = w.alloc (.cells #[.int .i64 x] 3) := ⟨_, rfl⟩
  have hz0' : W0.heap.size = g := by rw [hW0, hg]; simp
  obtain ⟨W1, hW1⟩ : ∃ W1, W1 = (W0.alloc (.cells (rowOf encOw (List.replicate n ((0, 0), 0))).toArray 99)).alloc (.cells #[.slice (some ⟨g, 0, none⟩) 0 n] 65) := ⟨_, rfl⟩
  have hs0 : Still w W0 := by rw [hW0]; exact (Turned.refl _ _).alloc _
  have hs01 : Still W0 W1 := by rw [hW1]; exact ((Turned.refl _ _).alloc _).alloc _
  have hs1 := hs0.trans hs01
  have hz1' : W1.heap.size = B + 1 := by rw [hW1, hB]; simp; omega
  have hbx : Blk W1 Bx [.int .i64 x] 3 := by
    have : Blk W0 Bx [.int .i64 x] 3 := by rw [hW0, hBx]; exact Blk.new w [.int .i64 x] 3
    exact this.turned hs01 (fun h => h)
  have hrow0 : W1.ownsRow w.heap.size 99 3 (.slice (some ⟨g, 0, none⟩) 0 n) 0 [] := by
    have hb : Blk W1 g ([] ++ rowOf encOw (List.replicate n ((0, 0), 0))) 99 := by
      have := Blk.new W0 (rowOf encOw (List.replicate n ((0, 0), 0))) 99
      rw [hz0'] at this
      rw [hW1]; exact this.alloc _
    exact owm_of_parts hb (by simp) (by rw [List.nil_append, rowOf_length encOw_len, List.length_replicate]) (Nat.zero_le _) (by unfold maxLen; omega) (by omega)
  have hbb : Blk W1 B [.slice (some ⟨g, 0, none⟩) 0 n] 65 := by
    have := Blk.new (W0.alloc (.cells (rowOf encOw (List.replicate n ((0, 0), 0))).toArray 99)) [.slice (some ⟨g, 0, none⟩) 0 n] 65
    rw [World.size_alloc, hz0', show g + 1 = B by omega] at this
    rw [hW1]; exact this
  have HIt0 := rbhand_it (q := q) (n := n) (c := c) (d := d) (G := G) (a := a) (b := b) hn hlen (by omega) W1.heap.size
  rw [← hZ] at HIt0
  have HIt := Lib.hid HIt0
  have HE := Lib.hid (rbhand_any (some ⟨q, 0, none⟩) W1)
  have hx1 : (rbY q n a c b d O T G).at_ W1 W := Thing.keep _ h hs1 (fun _ _ h => h)
  have hSl := Thing.lt _ h
  have HR := Lib.hid (evT_new hx1)
  have ht2 : Still W1 (W1.alloc (.cells #[.pointer (some ⟨q, 0, none⟩)] 55)) := (Turned.refl _ _).alloc _
  have hgB : (Value.slice (some ⟨g, 0, none⟩) 0 n).ownBlock ≠ some B := by simp [Value.ownBlock]; omega
  have HBs := Lib.hid (show ((owHand w.heap.size B (offZ Z x 0)).sep (blkT Bx [.int .i64 x] 3)).at_ (W1.alloc (.cells #[.pointer (some ⟨q, 0, none⟩)] 55)) (fun k => (k = B ∨ (Value.slice (some ⟨g, 0, none⟩) 0 n).ownBlock = some k) ∨ k = Bx) from
    ⟨fun k => k = B ∨ (Value.slice (some ⟨g, 0, none⟩) 0 n).ownBlock = some k, (· = Bx), ⟨some ⟨g, 0, none⟩, n, hbb.turned ht2 (fun h => h), ow_still hrow0 ht2, hgB, fun _ => Iff.rfl⟩, ⟨hbx.turned ht2 (fun h => h), fun _ => Iff.rfl⟩, fun k hk e => by
      rcases hk with hk | hk
      · omega
      · have : g = k := by simpa [Value.ownBlock] using hk
        omega, fun _ => Iff.rfl⟩)
  have hD' : ∀ k, ((k = B ∨ (Value.slice (some ⟨g, 0, none⟩) 0 n).ownBlock = some k) ∨ k = Bx) → w.heap.size ≤ k ∧ k < W1.heap.size := fun k hk => by
    rcases hk with (hk | hk) | hk
    · omega
    · have : g = k := by simpa [Value.ownBlock] using hk
      omega
    · omega
  have HD := Lib.hid (show ∀ k, ((k = B ∨ (Value.slice (some ⟨g, 0, none⟩) 0 n).ownBlock = some k) ∨ k = Bx) → ¬ (k = W1.heap.size ∨ W k) from by
    intro k hk hk2
    have hk := hD' k hk
    rcases hk2 with hk2 | hk2
    · omega
    · have := hSl k hk2; omega)
  have HD2 := Lib.hid (fun k hk => (hD' k hk).1)
  have HSt := Lib.hid (hs1.trans ht2)
  have HZ := Lib.hid hz1'
  have HAll := Lib.hid (show offZ Z x Z.length = (O.zip T).map (offI x) from by unfold offZ; rw [List.take_length, hZ])
  have HRl := Lib.hid (show n = ((O.zip T).map (offI x)).length from by rw [List.length_map, ← hZ, hZl])
  have HLk := Lib.hid (fun k => show (offZ Z x k).length ≤ 1000 from by
    unfold offZ
    rw [List.length_map, List.length_take]
    omega)
  have HLo := Lib.hid (fun (k : Nat) (z : Own × Own) (hz : Z[k]? = some z) => show -1 ≤ z.1.2 from zip_lo hO (by rw [← hZ]; exact hz))
  have HNm := Lib.hid (show Bx = w.heap.size ∧ g = Bx + 1 ∧ B = g + 1 ∧ W1.heap.size = B + 1 from by omega)
  obtain ⟨e0, e1⟩ := And.intro (rbY_rd hx1).c0 hn
  have c00 : W0.cell? ⟨q, 0, none⟩ = some (.slice a n c) := (rbY_rd (Thing.keep _ h hs0 (fun _ _ h => h))).c0
  have hmk0 := hmk W0
  rw [hz0'] at hmk0
  rw [hW0] at c00 hmk0 hW1
  clear h hgB hx1 hSl ht2 hbx hbb hs1 hs0 hs01 hn hz1' hz0' HIt0 hD' hlen hle hZl hO hZ hmk hrow0 hW0 e0 e1
  refine (callsIn_wide (n := 9)).1 (callsIn_of_wp_marks Try.func65 rfl trivial ?_ rfl)
  simp only [Try.ntmps65, List.size_toArray, List.length_cons, List.length_nil, Nat.reduceAdd, Nat.reduceSub, Array.replicate_succ, Array.replicate_zero, List.push_toArray, List.append_toArray, List.nil_append, List.cons_append]
  have hf1 : Fence.wide.fn 83 := trivial
  have hf2 : Fence.wide.fn 87 := trivial
  clear hBx hB hg
  gi_wp2_with (gi_at_call 83; rw [← hW1]; ((with_reducible refine (callsIn_wide.2 HE.out).mono ?_)); rintro e w2 ⟨rfl, rfl⟩)
  obtain ⟨e1, e2, e3, e4⟩ := HNm.out
  rw [← hW1, ← e1, show Bx + 1 + 1 = B by omega, show B + 1 = W1.heap.size from e4.symm]
  clear hW1 hmk0 c00 e1 e2 e3 e4
  refine loopB_outer rfl (enters_of Try.func94 (by kernel_rfl) rfl) HIt.out (by exact fun _ => rfl) (fun k => (owHand w.heap.size B (offZ Z x k)).sep (blkT Bx [.int .i64 x] 3)) (fun _ => noT) HR.out HBs.out HD.out ?_ ?_ ?_
  · rintro ⟨⟨⟨p1, p2⟩, z⟩, ⟨tp, t⟩⟩ y k V Q' hr hl1 hx hI hQl hsk
    obtain ⟨rr, hrr⟩ := hr
    have hyV : y < V.heap.size := (Array.getElem?_eq_some_iff.1 hrr).1
    have hVb := Blk.new V [.int .i64 p1, .int .i64 p2, .int .i64 z] 99
    have HBw := Lib.hid (fun W2 (hT2 : Turned (· = y) (V.alloc (.cells #[.int .i64 p1, .int .i64 p2, .int .i64 z] 99)) W2) => show Blk W2 V.heap.size [.int .i64 p1, .int .i64 p2, .int .i64 z] 99 from hVb.turned hT2 (by omega))
    have hQV := Thing.lt _ hI
    have HI2 := Lib.hid (fun W2 (hT2 : Turned (· = y) (V.alloc (.cells #[.int .i64 p1, .int .i64 p2, .int .i64 z] 99)) W2) => show ((owHand w.heap.size B (offZ Z x k)).sep (blkT Bx [.int .i64 x] 3)).at_ W2 Q' ∧ V.heap.size < W2.heap.size ∧ ¬ Q' V.heap.size ∧ y < V.heap.size from
      ⟨Thing.keep _ (Thing.keep _ hI ((Turned.refl _ V).alloc _) (fun _ _ h => h)) hT2 (fun j hj e => hQl (e ▸ hj)), by have := hT2.size; rw [World.size_alloc] at this; omega, fun h => by have := hQV _ h; omega, hyV⟩)
    have hsz : w.heap.size ≤ V.heap.size := by
      have := hsk.turn.size
      have := HSt.out.size
      omega
    have HSp := Lib.hid (off_step hx x)
    have hlo := HLo.out k _ hx
    have hln := HLk.out k
    have HRv := Lib.hid (fun V => rbrevd_any V p1 p2 z t)
    clear hl1 hx hI hQl hsk hVb hrr hyV hQV
    dsimp only [encT17]
    dsimp only at hlo
    gi_wp2
    refine ⟨(Turned.refl _ _).alloc _, fun W2 _ hT2 => ?_⟩
    obtain ⟨hI2, hlt2, hnq, hyV⟩ := HI2.out W2 hT2
    have hbw := HBw.out W2 hT2
    have q0 := hbw.cell (o := 0) rfl
    have q1 := hbw.cell (o := 1) rfl
    have q2 := hbw.cell (o := 2) rfl
    obtain ⟨_, ⟨h2, _⟩, _⟩ := (Sit.start hI2).snd
    have cx := h2.cell (o := 0) rfl
    obtain ⟨m, hm⟩ : ∃ m, m = (offZ Z x k).length := ⟨_, rfl⟩
    rw [← hm] at hln
    have HStep := Lib.hid (fun (Wc : World) (v : Own) (hT : Turned (· = V.heap.size) W2 Wc) (hv : offI x (((p1, p2), z), (tp, t)) = v) => show ∃ (a1 : Option Addr) (c1 : Nat), Wc.cell? ⟨B, 0, none⟩ = some (.slice a1 m c1) ∧ Wc.ownsRow w.heap.size 99 3 (.slice a1 m c1) m (rowOf encOw (offZ Z x k)) ∧ w.heap.size ≤ Wc.heap.size ∧
        ∀ (U : World) (hU : Still Wc U) (w6 : World) (a' : Option Addr) (c' : Nat), w6.ownsRow w.heap.size 99 3 (.slice a' (m + 1) c') (m + 1) (rowOf encOw (offZ Z x k) ++ encOw v) → U.grownBy w6 (Value.slice a1 m c1).ownBlock → ((Value.slice a' (m + 1) c').ownBlock = (Value.slice a1 m c1).ownBlock ∨ (Value.slice a' (m + 1) c').ownBlock = some U.heap.size) →
          w6.cell? ⟨B, 0, none⟩ = some (.slice a1 m c1) ∧ w6.frozen? ⟨B, 0, none⟩ = false ∧ Hid (GoesB ((owHand w.heap.size B (offZ Z x (k + 1))).sep (blkT Bx [.int .i64 x] 3)) Q' V.heap.size y W2 (w6.setCell ⟨B, 0, none⟩ (.slice a' (m + 1) c'))) from by
      have hIc := Thing.keep _ hI2 hT (fun j hj e => hnq (e ▸ hj))
      obtain ⟨U1, ⟨a1, c1, hB, hrow, hne, hQ⟩, _, hgo⟩ := goes_fst hIc
      rw [← hm] at hB hrow hne hQ
      have hszT := hT.size
      refine ⟨a1, c1, hB.cell rfl, hrow, by omega, fun U hU w6 a' c' hown hg hat => ?_⟩
      obtain ⟨r1, r2, r3⟩ := ow_app3 (b0 := w.heap.size) (x := v) hm hB hne hQ hU hown hg hat
      refine ⟨r1, r2, Lib.hid ?_⟩
      obtain ⟨Q3, g1, g2, g3⟩ := hgo _ _ r3.out
      rw [HSp.out, hv]
      refine ⟨Q3, g1, (hT.mono (fun k _ e => .inr ⟨by omega, by omega⟩)).trans (g2.mono (fun k _ h => .inl h)), fun i hi => (g3 i hi).imp id (fun h => ⟨by omega, by omega⟩)⟩)
    have HBw2 := Lib.hid (fun W3 (hs : Still W2 W3) => show Blk W3 V.heap.size [.int .i64 p1, .int .i64 p2, .int .i64 z] 99 from hbw.turned hs (fun h => h))
    have HM := Lib.hid hm
    clear hI2 hnq hbw hT2 h2 hm hyV
    by_cases hzx : z = x
    · subst hzx
      by_cases hrv : z ≠ -1 ∧ z ≠ t
      · rw [decide_eq_true hrv] at HRv
        have hir : isRev z ((((p1, p2), z), (tp, t))) = true := isRev_is.2 ⟨rfl, by omega, fun e => hrv.2 e.symm⟩
        have HV := Lib.hid (show offI z (((p1, p2), z), (tp, t)) = ((p1, p2), -1) from by unfold offI; rw [if_pos hir])
        clear hrv hir
        gi_wp2_with (first
          | (gi_at_call 87; ((with_reducible refine (CallsIn.inRound y (callsIn_wide.2 (HRv.out _))).mono ?_)); rintro e W3 ⟨rfl, hs3⟩; have hb3 := HBw2.out _ hs3; have r2 := hb3.cell (o := 2) rfl; have r2f := hb3.free 2; have hb4 := hb3.set 2 (.int .i64 (-1)); have r0 := hb4.cell (o := 0) rfl; have r1 := hb4.cell (o := 1) rfl; have r22 := hb4.cell (o := 2) rfl; have hsz4 : (W3.setCell ⟨V.heap.size, 2, none⟩ (.int .i64 (-1))).heap.size = W3.heap.size := (by simp); have HCl := Lib.hid (show ∀ (j : Nat) (u : Value), [Value.int .i64 p1, .int .i64 p2, .int .i64 (-1)][j]? = some u → ((W3.setCell ⟨V.heap.size, 2, none⟩ (.int .i64 (-1))).alloc (.cells [Value.int .i64 p1, .int .i64 p2, .int .i64 (-1)].toArray 99)).cell? ((⟨W3.heap.size, 0, none⟩ : Addr).add j) = some u from (by rw [← hsz4]; exact ow_cells _ _ _)); obtain ⟨a1, c1, cc, hrow, hszc, hap⟩ := HStep.out (W3.setCell ⟨V.heap.size, 2, none⟩ (.int .i64 (-1))) ((p1, p2), (-1)) ((hs3.mono (fun _ _ h => h.elim)).trans ((Turned.refl (· = V.heap.size) W3).setCell (p := ⟨V.heap.size, 2, none⟩) (.inl rfl) _)) HV.out; have HRow := Lib.hid hrow; have HAp := Lib.hid hap; clear hrow hap; clear hb3 hb4 hs3)
          | (gi_at_builtin; refine wpListIn_append_own_at _ rfl _ _ 65 rfl w.heap.size 99 i0 (.agg #[.int .i64 0, .int .i64 0, .int .i64 0]) 3 24 Try.underlying65 hi hz0 hz1 hz2 rfl (by decide) _ _ _ rfl (HRow.out.alloc _) ⟨W3.heap.size, 0, none⟩ 1 1 [.int .i64 p1, .int .i64 p2, .int .i64 (-1)] rfl rfl HCl.out (ow_ints rfl) (by unfold maxLen; omega) (by omega) (by simp; omega) ?_; intro v' w6 hown6 hg6 _ hat6; obtain ⟨a6, c6, rfl⟩ := ow_slice hown6; obtain ⟨hc6, hf6, HG6⟩ := HAp.out _ ((Turned.refl _ _).alloc _) w6 a6 c6 hown6 hg6 hat6; clear hown6 hg6 hat6))
        exact HG6.out
      · rw [decide_eq_false hrv] at HRv
        have hir : ¬ isRev z ((((p1, p2), z), (tp, t))) = true := fun h => by
          obtain ⟨_, h2, h3⟩ := isRev_is.1 h
          dsimp only at h2 h3
          exact hrv ⟨by omega, fun e => h3 e.symm⟩
        have HV := Lib.hid (show offI z (((p1, p2), z), (tp, t)) = ((p1, p2), z) from by unfold offI; rw [if_neg hir])
        clear hrv hir
        gi_wp2_with (first
          | (gi_at_call 87; ((with_reducible refine (CallsIn.inRound y (callsIn_wide.2 (HRv.out _))).mono ?_)); rintro e W3 ⟨rfl, hs3⟩; have hb3 := HBw2.out _ hs3; have r0 := hb3.cell (o := 0) rfl; have r1 := hb3.cell (o := 1) rfl; have r22 := hb3.cell (o := 2) rfl; obtain ⟨a1, c1, cc, hrow, hszc, hap⟩ := HStep.out W3 ((p1, p2), z) (hs3.mono (fun _ _ h => h.elim)) HV.out; have HRow := Lib.hid hrow; have HAp := Lib.hid hap; clear hrow hap; clear hb3 hs3)
          | (gi_at_builtin; refine wpListIn_append_own_at _ rfl _ _ 65 rfl w.heap.size 99 i0 (.agg #[.int .i64 0, .int .i64 0, .int .i64 0]) 3 24 Try.underlying65 hi hz0 hz1 hz2 rfl (by decide) _ _ _ rfl (HRow.out.alloc _) ⟨W3.heap.size, 0, none⟩ 1 1 [.int .i64 p1, .int .i64 p2, .int .i64 z] rfl rfl (ow_cells W3 [.int .i64 p1, .int .i64 p2, .int .i64 z] 99) (ow_ints rfl) (by unfold maxLen; omega) (by omega) (by simp; omega) ?_; intro v' w6 hown6 hg6 _ hat6; obtain ⟨a6, c6, rfl⟩ := ow_slice hown6; obtain ⟨hc6, hf6, HG6⟩ := HAp.out _ ((Turned.refl _ _).alloc _) w6 a6 c6 hown6 hg6 hat6; clear hown6 hg6 hat6))
        exact HG6.out
    · have hzb : (z == x) = false := by rw [beq_eq_false_iff_ne]; exact hzx
      have hir : ¬ isRev x ((((p1, p2), z), (tp, t))) = true := fun h => hzx (isRev_is.1 h).1
      have HV := Lib.hid (show offI x (((p1, p2), z), (tp, t)) = ((p1, p2), z) from by unfold offI; rw [if_neg hir])
      obtain ⟨a1, c1, cc, hrow, hszc, hap⟩ := HStep.out W2 ((p1, p2), z) (Turned.refl _ _) HV.out
      have HRow := Lib.hid hrow
      have HAp := Lib.hid hap
      clear hrow hap
      clear hir hzx
      gi_wp2_with (gi_at_builtin; refine wpListIn_append_own_at _ rfl _ _ 65 rfl w.heap.size 99 i0 (.agg #[.int .i64 0, .int .i64 0, .int .i64 0]) 3 24 Try.underlying65 hi hz0 hz1 hz2 rfl (by decide) _ _ _ rfl (HRow.out.alloc _) ⟨W2.heap.size, 0, none⟩ 1 1 [.int .i64 p1, .int .i64 p2, .int .i64 z] rfl rfl (ow_cells W2 [.int .i64 p1, .int .i64 p2, .int .i64 z] 99) (ow_ints rfl) (by unfold maxLen; omega) (by omega) (by simp; omega) ?_; intro v' w6 hown6 hg6 _ hat6; obtain ⟨a6, c6, rfl⟩ := ow_slice hown6; obtain ⟨hc6, hf6, HG6⟩ := HAp.out _ ((Turned.refl _ _).alloc _) w6 a6 c6 hown6 hg6 hat6; clear hown6 hg6 hat6)
      exact HG6.out
  · intro D V Q' hD hK hQD hI hsk
    rw [HAll.out] at hI
    obtain ⟨U1, U2, ⟨a1, c1, hB, hrow, hne, hQ1⟩, _, hdd, hQ⟩ := hI
    have cc := hB.cell (o := 0) rfl
    rw [← HRl.out] at cc hrow
    have hz2 := HZ.out
    obtain ⟨hz3, hz4, hz5, _⟩ := HNm.out
    have hD1 : w.heap.size ≤ D := Nat.le_trans HSt.out.size hD
    have hT0 : Turned (fun k => w.heap.size ≤ k) w V := (HSt.out.mono (fun _ _ h => h.elim)).trans (hsk.turn.mono (fun k _ h => HD2.out k h))
    have hp := putObj_since (.deferred none) (Array.getElem?_eq_some_iff.1 hK).1
    have HP := Lib.hid (show OutRow encOw 3 99 w ((O.zip T).map (offI x)) n (.returned (.slice a1 n c1)) (V.putObj D (.deferred none)) from by
      refine ⟨a1, c1, rfl, ow_turned hrow hp (fun b hb e => ?_), ?_⟩
      · obtain rfl := e
        exact hQD ((hQ _).2 (.inl ((hQ1 _).2 (.inr (by rw [← HRl.out]; exact hb)))))
      · exact (hT0.trans (hp.mono (fun k _ e => by rw [e]; exact hD1))).mono (fun k hk hh => by omega))
    clear hB hrow hne hQ hQ1 hdd hT0 hsk hp hz2 hz3 hz4 hz5
    gi_wp2
    refine ⟨by simp, .inl ⟨_, _, rfl, run_takeDeferred hK, ?_⟩⟩
    refine ⟨_, results_tmp rfl _ _ _, ?_⟩
    exact HP.out
  · intro D k V Q' hD hK hQD hk hI hsk
    exact hI.elim
end Go.Proofs.Ytdlkdagmaeapdaa

/- The program's table keeps the words of layer 17. No condition. -/
namespace Go.Proofs.Ytdlkdagmaeapdaa
open Go.RowKit
set_option linter.unusedVariables false
set_option linter.unusedSimpArgs false
set_option maxRecDepth 100000

section
variable {q n c d G K : Nat} {a b : Option Addr} {O T : List Own} {M : TbM} {w V w' : World} {W : Nat → Prop}
/-- Rows of one's own make it anew. -/
theorem rbX_of {a b : Option Addr} {c d : Nat} {Wa Wb : Nat → Prop} (hb : Blk w q [.slice a O.length c, .slice b O.length d, .int .i64 ((G : Nat) : Int), .bool true] 93) (hO : (readO a O).at_ w Wa) (hT : (readO b T).at_ w Wb) (h1 : ¬ Wa q) (h2 : ¬ Wb q) :
    (rbX q O T G).at_ w (fun k => k = q ∨ (Wa k ∨ Wb k)) :=
  ⟨a, c, b, d, (· = q), fun k => Wa k ∨ Wb k, ⟨hb, fun _ => Iff.rfl⟩, with_at hO hT, fun k e hk => by subst e; exact hk.elim h1 h2, fun _ => Iff.rfl⟩
theorem readO_own {B : Nat} {a : Option Addr} {n c : Nat} {l : List Own} (h : w.ownsRow B 99 3 (.slice a n c) n (rowOf encOw l)) (hn : n = l.length) : ∃ Wa, (readO a l).at_ w Wa ∧ ∀ k, Wa k → B ≤ k ∧ k < w.heap.size :=
  ⟨fun k => l ≠ [] ∧ ∃ x, a = some x ∧ x.block = k, ⟨RowAt.of_own encOw_len h hn, fun _ => Iff.rfl⟩, fun k hk => by
    obtain ⟨_, x, hx, rfl⟩ := hk
    exact ow_lt h x hx⟩

theorem rbsettle_any (h : (rbX q O T G).at_ w W) (hO : TOk O T) (hG : G < 1000001) :
    Calls Try.prog 58 #[.pointer (some ⟨q, 0, none⟩)] w fun e w' => e = .returned (.bool (decide (allN O T = []))) ∧
      Goes (rbX q (if allN O T = [] then T else O) T (if allN O T = [] then G + 1 else G)) W w w' := by
  have hh := h
  obtain ⟨a, c, b, d, hY⟩ := h
  obtain ⟨r, hr⟩ : ∃ r, r = (allN O T).length := ⟨_, rfl⟩
  have HW := Lib.hid (rbwaits_any hY rfl hO r hr)
  by_cases he : allN O T = []
  · have hr0 : r = 0 := by rw [hr, he]; rfl
    subst hr0
    rw [if_pos he, if_pos he, decide_eq_true he]
    obtain ⟨n, hn⟩ : ∃ n, n = O.length := ⟨_, rfl⟩
    rw [← hn] at hY
    have HP := Lib.hid (fun V (hs : Still w V) => show (V.cell? ⟨q, 1, none⟩ = some (.slice b n d) ∧ (∃ u, V.cell? ⟨q, 0, none⟩ = some u) ∧ V.frozen? ⟨q, 0, none⟩ = false) ∧
        ((V.setCell ⟨q, 0, none⟩ (.slice b n d)).cell? ⟨q, 2, none⟩ = some (.int .i64 ((G : Nat) : Int)) ∧ (V.setCell ⟨q, 0, none⟩ (.slice b n d)).frozen? ⟨q, 2, none⟩ = false) ∧
        Hid (Goes (rbX q T T (G + 1)) W w ((V.setCell ⟨q, 0, none⟩ (.slice b n d)).setCell ⟨q, 2, none⟩ (.int .i64 (((G : Nat) : Int) + 1)))) from by
      obtain ⟨W1, W2, ⟨hb, hW1⟩, ⟨W3, W4, h3, h4, hW2⟩, hd, hW⟩ := Thing.keep _ hY hs (fun _ _ h => h)
      have hb1 := hb.set 0 (.slice b n d)
      have hb2 := hb1.set 2 (.int .i64 (((G : Nat) : Int) + 1))
      refine ⟨⟨hb.cell rfl, ⟨_, hb.cell rfl⟩, hb.free 0⟩, ⟨hb1.cell rfl, hb1.free 2⟩, Lib.hid ?_⟩
      have hq : W q := (hW q).2 (.inl ((hW1 q).2 rfl))
      have hq4 : ¬ W4 q := fun h => hd q ((hW1 q).2 rfl) ((hW2 q).2 (.inr h))
      have ht : Turned (· = q) V ((V.setCell ⟨q, 0, none⟩ (.slice b n d)).setCell ⟨q, 2, none⟩ (.int .i64 (((G : Nat) : Int) + 1))) := ((Turned.refl (· = q) V).setCell (p := ⟨q, 0, none⟩) (.inl rfl) _).setCell (p := ⟨q, 2, none⟩) (.inl rfl) _
      have h4' := Thing.keep _ h4 ht (fun k hk e => hq4 (e ▸ hk))
      have hx := rbX_of (q := q) (O := T) (T := T) (G := G + 1) (a := b) (b := b) (c := d) (d := d) (by rw [← hO.len, ← hn]; exact hb2) h4' h4' hq4 hq4
      refine ⟨_, hx, (hs.mono (fun _ _ h => h.elim)).trans (ht.mono (fun k _ e => by rw [e]; exact hq)), fun k hk => .inl ?_⟩
      rcases hk with hk | hk | hk
      · rw [hk]; exact hq
      · exact (hW k).2 (.inr ((hW2 k).2 (.inr hk)))
      · exact (hW k).2 (.inr ((hW2 k).2 (.inr hk))))
    clear hh hY hO he hr hn
    go_enter Try.func58, Try.ntmps58
    go_wp2_with (go_at_call 85; ((with_reducible refine HW.out.mono ?_)); rintro e w3 ⟨a3, c3, rfl, _, hs3⟩; obtain ⟨⟨p1, ⟨u0, p2⟩, p3⟩, ⟨p4, p5⟩, p6⟩ := HP.out _ hs3; clear hs3)
    go_ret
    exact ⟨rfl, p6.out⟩
  · have hr0 : 0 < r := by rw [hr]; exact List.length_pos_iff.2 he
    have hri : (0 : Int) < (r : Int) := by omega
    rw [if_neg he, if_neg he, decide_eq_false he]
    have HP := Lib.hid (fun V (hs : Still w V) => show Goes (rbX q O T G) W w V from Goes.still hh hs)
    clear hh hY hO he hr
    go_enter Try.func58, Try.ntmps58
    go_wp2_with (go_at_call 85; ((with_reducible refine HW.out.mono ?_)); rintro e w3 ⟨a3, c3, rfl, _, hs3⟩; have H3 := Lib.hid (HP.out _ hs3); clear hs3)
    go_ret
    exact ⟨rfl, H3.out⟩
/-- What settling leaves is the settled table. -/
theorem settle_rb (hI : M.Inv) (h : Goes (rbX q (if allN M.O M.T = [] then M.T else M.O) M.T (if allN M.O M.T = [] then M.G + 1 else M.G)) W w w') : Goes (rbT q M.settle) W w w' := by
  obtain ⟨W', h1, h2, h3⟩ := h
  refine ⟨W', ⟨hI.settle, ?_⟩, h2, h3⟩
  unfold TbM.settle
  by_cases he : allN M.O M.T = []
  · rw [if_pos he, if_pos he] at h1
    rw [if_pos ((wait_nil hI).2 he)]; exact h1
  · rw [if_neg he, if_neg he] at h1
    rw [if_neg (fun h => he ((wait_nil hI).1 h))]; exact h1
/-- A call that goes on from where another one left it. -/
theorem Goes.next {A B : Thing} {Q1 : Nat → Prop} {w1 w2 : World} (h : Since W w Q1 w1) (hg : Goes B Q1 w1 w2) : Goes B W w w2 := by
  obtain ⟨Q2, g1, g2⟩ := hg.since
  exact (h.trans g2).goes g1

set_option maxHeartbeats 1000000 in
theorem rback_any (h : (rbT q M).at_ w W) (hM : M.Ok K) (hK : K < 1000000) (x : Int) :
    Calls Try.prog 35 #[.pointer (some ⟨q, 0, none⟩), .int .i64 x] w fun e w' => e = .returned (.tuple #[.bool (M.ackV x), .int .i64 (M.ackE x)]) ∧ Goes (rbT q (M.ack x)) W w w' := by
  have hh := h
  obtain ⟨hI, a, c, b, d, hY⟩ := h
  have hO := tok_of hM.toPre hI
  have HMd := Lib.hid (rbmade_any (rbY_rd hY).c3)
  obtain ⟨r, hr⟩ : ∃ r, r = (revI M.O M.T x).length := ⟨_, rfl⟩
  have HRk := Lib.hid (rbrevk_any hY rfl hO x r hr)
  have hwi := wait_iff hM.toPre hI x
  by_cases hx : x ∈ M.W
  · have hr0 : 0 < r := by rw [hr]; exact hwi.1 hx
    have hri : ((r : Int) == 0) = false := by rw [beq_eq_false_iff_ne]; omega
    have hp := acked_pre hM.toPre hx
    have hi2 := acked_inv hM hI hx
    have hO2 := tok_of hp hi2
    have e1 : M.ackE x = 0 := by unfold TbM.ackE; rw [if_pos hx]
    have e2 : M.ackV x = decide (allN (M.acked x).O (M.acked x).T = []) := by
      unfold TbM.ackV
      exact decide_eq_decide.2 ⟨fun h => (wait_nil hi2).1 h.2, fun h => ⟨hx, (wait_nil hi2).2 h⟩⟩
    have e3 : M.ack x = (M.acked x).settle := by unfold TbM.ack; rw [if_pos hx]
    rw [e1, e2, e3]
    have hG : (M.acked x).G < 1000001 := by have := hM.low; show M.G < 1000001; omega
    have hlen : M.O.length = (M.acked x).O.length := by
      show _ = ((M.O.zip M.T).map (offI x)).length
      rw [List.length_map, List.length_zip, ← hM.len2]; omega
    have HWt := Lib.hid (fun V (hs : Still w V) => rbwithout_any (Thing.keep _ hY hs (fun _ _ h => h)) rfl hO x)
    have HP := Lib.hid (fun V V2 (e : Ending) (hs : Still w V) (ho : OutRow encOw 3 99 V ((M.O.zip M.T).map (offI x)) M.O.length e V2) => show ∃ a2 c2, e = .returned (.slice a2 M.O.length c2) ∧ ((∃ u, V2.cell? ⟨q, 0, none⟩ = some u) ∧ V2.frozen? ⟨q, 0, none⟩ = false) ∧
        Calls Try.prog 58 #[.pointer (some ⟨q, 0, none⟩)] (V2.setCell ⟨q, 0, none⟩ (.slice a2 M.O.length c2)) fun e w' => e = .returned (.bool (decide (allN (M.acked x).O (M.acked x).T = []))) ∧ Goes (rbT q (M.acked x).settle) W w w' from by
      obtain ⟨a2, c2, rfl, hrow, hs2⟩ := ho
      refine ⟨a2, c2, rfl, ?_⟩
      have hs02 := hs.trans hs2
      have hq0 := Thing.lt _ hY
      obtain ⟨W1, W2, ⟨hb, hW1⟩, ⟨W3, W4, h3, h4, hW2⟩, hd, hW⟩ := Thing.keep _ hY hs02 (fun _ _ h => h)
      have hq : W q := (hW q).2 (.inl ((hW1 q).2 rfl))
      have hql := hq0 q hq
      have hq4 : ¬ W4 q := fun h => hd q ((hW1 q).2 rfl) ((hW2 q).2 (.inr h))
      refine ⟨⟨⟨_, hb.cell rfl⟩, hb.free 0⟩, ?_⟩
      obtain ⟨Wa, ha, hWa⟩ := readO_own hrow hlen
      have hVs := hs.size
      have hqa : ¬ Wa q := fun h => by have := (hWa q h).1; omega
      have ht : Turned (· = q) V2 (V2.setCell ⟨q, 0, none⟩ (.slice a2 M.O.length c2)) := (Turned.refl (· = q) V2).setCell (p := ⟨q, 0, none⟩) (.inl rfl) _
      have hb1 := hb.set 0 (.slice a2 M.O.length c2)
      have hX := rbX_of (q := q) (O := (M.acked x).O) (T := (M.acked x).T) (G := (M.acked x).G) (a := a2) (b := b) (c := c2) (d := d) (by rw [← hlen]; exact hb1) (Thing.keep _ ha ht (fun k hk e => hqa (e ▸ hk))) (Thing.keep _ h4 ht (fun k hk e => hq4 (e ▸ hk))) hqa hq4
      have hsi : Since W w (fun k => k = q ∨ (Wa k ∨ W4 k)) (V2.setCell ⟨q, 0, none⟩ (.slice a2 M.O.length c2)) := ⟨(hs02.mono (fun _ _ h => h.elim)).trans (ht.mono (fun k _ e => by rw [e]; exact hq)), fun k hk => by
        rcases hk with hk | hk | hk
        · rw [hk]; exact .inl hq
        · exact .inr (Nat.le_trans hVs (hWa k hk).1)
        · exact .inl ((hW k).2 (.inr ((hW2 k).2 (.inr hk))))⟩
      exact (rbsettle_any hX hO2 hG).mono fun e w' ⟨he, hg⟩ => ⟨he, settle_rb hi2 (Goes.next (A := rbT q M) hsi hg)⟩)
    clear hh hI hY hO hr hwi hx hr0 hp hi2 hO2 e1 e2 e3 hG hlen hM
    generalize decide (allN (M.acked x).O (M.acked x).T = []) = bv at *
    go_enter Try.func35, Try.ntmps35
    go_wp2_with (first
      | (go_at_call 55; ((with_reducible refine HMd.out.mono ?_)); rintro e w1 ⟨rfl, rfl⟩)
      | (go_at_call 64; ((with_reducible refine HRk.out.mono ?_)); rintro e w2 ⟨a2, c2, rfl, _, hs2⟩; have S2 := Lib.hid hs2; clear hs2)
      | (go_at_call 65; ((with_reducible refine (HWt.out _ S2.out).mono ?_)); intro e w3 ho; obtain ⟨a3, c3, rfl, ⟨⟨u0, p1⟩, p2⟩, hset⟩ := HP.out _ _ _ S2.out ho; have HSet := Lib.hid hset; clear hset ho)
      | (go_at_call 58; ((with_reducible refine HSet.out.mono ?_)); rintro e w4 ⟨rfl, hg⟩; have HG := Lib.hid hg; clear hg))
    go_ret2
    exact ⟨rfl, HG.out⟩
  · have hr0 : r = 0 := by
      have : ¬ 0 < (revI M.O M.T x).length := fun h => hx (hwi.2 h)
      omega
    have e1 : M.ackE x = 5 := by unfold TbM.ackE; rw [if_neg hx]
    have e2 : M.ackV x = false := by unfold TbM.ackV; exact decide_eq_false (fun h => hx h.1)
    have e3 : M.ack x = M := by unfold TbM.ack; rw [if_neg hx]
    rw [e1, e2, e3]
    subst hr0
    have HP := Lib.hid (fun V (hs : Still w V) => show Goes (rbT q M) W w V from Goes.still hh hs)
    clear hh hI hY hO hr hwi hx e1 e2 e3 hM
    go_enter Try.func35, Try.ntmps35
    go_wp2_with (first
      | (go_at_call 55; ((with_reducible refine HMd.out.mono ?_)); rintro e w1 ⟨rfl, rfl⟩)
      | (go_at_call 64; ((with_reducible refine HRk.out.mono ?_)); rintro e w2 ⟨a2, c2, rfl, _, hs2⟩; have S2 := Lib.hid (HP.out _ hs2); clear hs2))
    go_ret2
    exact ⟨rfl, S2.out⟩

set_option maxHeartbeats 1000000 in
theorem rbbegin_any (h : (rbT q M).at_ w W) (hM : M.Ok K) (hK : K < 1000000) {bo ao : Option Addr} {ps : List Plc} {ms : List Int} {n m c1 c2 : Nat} (hn : n = ps.length) (hm : m = ms.length) (h1 : n ≤ 1000) (h2 : m ≤ 1000) (hP : PlAt w bo ps) (hA : NumsAt w ao ms) :
    Calls Try.prog 33 #[.pointer (some ⟨q, 0, none⟩), .slice bo n c1, .slice ao m c2] w fun e w' => e = .returned (.tuple #[.bool (M.beginV ps ms), .int .i64 (begE ps ms)]) ∧ Goes (rbT q (M.begin_ ps ms)) W w w' := by
  have hh := h
  obtain ⟨hI, a, c, b, d, hY⟩ := h
  have hO := tok_of hM.toPre hI
  have HMd := Lib.hid (rbmade_any (rbY_rd hY).c3)
  obtain ⟨r, hr⟩ : ∃ r, r = (asgV ms ps M.O).length := ⟨_, rfl⟩
  have c0 := (rbY_rd hY).c0
  have HAs0 := shasg_any w ao bo a ms ps M.O m n M.O.length c2 c1 c r hm hn rfl h2 h1 (by have := hO.le; omega) hA hP (rbY_rd hY).o hr
  rw [asgE_owners hO.le] at HAs0
  have HAs := Lib.hid HAs0
  by_cases hE : begE ps ms = 0
  · obtain ⟨hp256, hri, hdi⟩ := begE_ok hE
    have hV : asgV ms ps M.O = (M.begun ps ms).T := by
      rw [asgV_ok (by rw [asgE_owners hO.le]; exact hE)]
      exact (asg_now hri hdi).symm
    have hrn : r = n := by rw [hr, hV]; show (asgI ms ps (nowI ms ps M.O)).length = n; rw [asgI_len, hn]
    rw [hV] at HAs
    subst hrn
    have hp := TbM.begun_pre hM hE
    have hi2 := begun_inv (M := M) hE
    have hO2 := tok_of hp hi2
    have hlO : r = (M.begun ps ms).O.length := by show r = (nowI ms ps M.O).length; rw [now_len]; exact hn
    have hlT : r = (M.begun ps ms).T.length := by rw [← hO2.len]; exact hlO
    have hG : (M.begun ps ms).G < 1000001 := by have := hM.low; show M.G < 1000001; omega
    have e2 : M.beginV ps ms = decide (allN (M.begun ps ms).O (M.begun ps ms).T = []) := by
      unfold TbM.beginV
      exact decide_eq_decide.2 ⟨fun h => (wait_nil hi2).1 h.2, fun h => ⟨hE, (wait_nil hi2).2 h⟩⟩
    have e3 : M.begin_ ps ms = (M.begun ps ms).settle := by unfold TbM.begin_; rw [if_pos hE]
    rw [e2, e3, hE]
    rw [hE] at HAs
    have HSt := Lib.hid (fun V (hs : Still w V) => rbstay_any (Thing.keep _ hY hs (fun _ _ h => h)) rfl hO bo ao ps ms r m c1 c2 hn hm h1 h2 (row_still hP hs) (hA.still hs))
    have HP := Lib.hid (fun V V3 (a2 : Option Addr) (c2 : Nat) (e : Ending) (hs : Still w V) (hr2 : V.ownsRow w.heap.size 99 3 (.slice a2 r c2) r (rowOf encOw (M.begun ps ms).T)) (ho : OutRow encOw 3 99 V (nowI ms ps M.O) r e V3) => show ∃ a3 c3, e = .returned (.slice a3 r c3) ∧ ((∃ u, V3.cell? ⟨q, 0, none⟩ = some u) ∧ V3.frozen? ⟨q, 0, none⟩ = false) ∧
        ((∃ u, (V3.setCell ⟨q, 0, none⟩ (.slice a3 r c3)).cell? ⟨q, 1, none⟩ = some u) ∧ (V3.setCell ⟨q, 0, none⟩ (.slice a3 r c3)).frozen? ⟨q, 1, none⟩ = false) ∧
        Calls Try.prog 58 #[.pointer (some ⟨q, 0, none⟩)] ((V3.setCell ⟨q, 0, none⟩ (.slice a3 r c3)).setCell ⟨q, 1, none⟩ (.slice a2 r c2)) fun e w' => e = .returned (.bool (decide (allN (M.begun ps ms).O (M.begun ps ms).T = []))) ∧ Goes (rbT q (M.begun ps ms).settle) W w w' from by
      obtain ⟨a3, c3, rfl, hrow, hs3⟩ := ho
      refine ⟨a3, c3, rfl, ?_⟩
      have hs02 := hs.trans hs3
      have hq0 := Thing.lt _ hY
      obtain ⟨W1, W2, ⟨hb, hW1⟩, ⟨W3, W4, h3, h4, hW2⟩, hd, hW⟩ := Thing.keep _ hY hs02 (fun _ _ h => h)
      have hq : W q := (hW q).2 (.inl ((hW1 q).2 rfl))
      have hql := hq0 q hq
      have hb1 := hb.set 0 (.slice a3 r c3)
      have hb2 := hb1.set 1 (.slice a2 r c2)
      refine ⟨⟨⟨_, hb.cell rfl⟩, hb.free 0⟩, ⟨⟨_, hb1.cell rfl⟩, hb1.free 1⟩, ?_⟩
      obtain ⟨Wa, ha, hWa⟩ := readO_own hrow hlO
      obtain ⟨Wb, hbb, hWb⟩ := readO_own (ow_still hr2 hs3) hlT
      have hVs := hs.size
      have hqa : ¬ Wa q := fun h => by have := (hWa q h).1; omega
      have hqb : ¬ Wb q := fun h => by have := (hWb q h).1; omega
      have ht : Turned (· = q) V3 ((V3.setCell ⟨q, 0, none⟩ (.slice a3 r c3)).setCell ⟨q, 1, none⟩ (.slice a2 r c2)) := ((Turned.refl (· = q) V3).setCell (p := ⟨q, 0, none⟩) (.inl rfl) _).setCell (p := ⟨q, 1, none⟩) (.inl rfl) _
      have hX := rbX_of (q := q) (O := (M.begun ps ms).O) (T := (M.begun ps ms).T) (G := (M.begun ps ms).G) (a := a3) (b := a2) (c := c3) (d := c2) (by rw [← hlO]; exact hb2) (Thing.keep _ ha ht (fun k hk e => hqa (e ▸ hk))) (Thing.keep _ hbb ht (fun k hk e => hqb (e ▸ hk))) hqa hqb
      have hsi : Since W w (fun k => k = q ∨ (Wa k ∨ Wb k)) ((V3.setCell ⟨q, 0, none⟩ (.slice a3 r c3)).setCell ⟨q, 1, none⟩ (.slice a2 r c2)) := ⟨(hs02.mono (fun _ _ h => h.elim)).trans (ht.mono (fun k _ e => by rw [e]; exact hq)), fun k hk => by
        rcases hk with hk | hk | hk
        · rw [hk]; exact .inl hq
        · exact .inr (Nat.le_trans hVs (hWa k hk).1)
        · exact .inr (hWb k hk).1⟩
      exact (rbsettle_any hX hO2 hG).mono fun e w' ⟨he, hg⟩ => ⟨he, settle_rb hi2 (Goes.next (A := rbT q M) hsi hg)⟩)
    clear hh hI hY hO hr hp hi2 hO2 e2 e3 hG hlO hlT hM hE HAs0 hP hA hn hm hV hri hdi
    generalize decide (allN (M.begun ps ms).O (M.begun ps ms).T = []) = bv at *
    go_enter Try.func33, Try.ntmps33
    go_wp2_with (first
      | (go_at_call 55; ((with_reducible refine HMd.out.mono ?_)); rintro e w1 ⟨rfl, rfl⟩)
      | (go_at_call 56; ((with_reducible refine HAs.out.mono ?_)); rintro e w2 ⟨a2, c2', rfl, hr2, hs2⟩; have S2 := Lib.hid hs2; have R2 := Lib.hid hr2; clear hs2 hr2)
      | (go_at_call 57; ((with_reducible refine (HSt.out _ S2.out).mono ?_)); intro e w3 ho; obtain ⟨a3, c3, rfl, ⟨⟨u0, p1⟩, p2⟩, ⟨⟨u1, p3⟩, p4⟩, hset⟩ := HP.out _ _ _ _ _ S2.out R2.out ho; have HSet := Lib.hid hset; clear hset ho)
      | (go_at_call 58; ((with_reducible refine HSet.out.mono ?_)); rintro e w4 ⟨rfl, hg⟩; have HG := Lib.hid hg; clear hg))
    go_ret2
    exact ⟨rfl, HG.out⟩
  · have e2 : M.beginV ps ms = false := by unfold TbM.beginV; exact decide_eq_false (fun h => hE h.1)
    have e3 : M.begin_ ps ms = M := by unfold TbM.begin_; rw [if_neg hE]
    rw [e2, e3]
    have HP := Lib.hid (fun V (hs : Still w V) => show Goes (rbT q M) W w V from Goes.still hh hs)
    have hEb : (begE ps ms != 0) = true := by simpa using hE
    clear hh hI hY hO hr e2 e3 hM hE HAs0 hP hA hn hm
    generalize begE ps ms = E at *
    generalize asgV ms ps M.O = L at *
    go_enter Try.func33, Try.ntmps33
    go_wp2_with (first
      | (go_at_call 55; ((with_reducible refine HMd.out.mono ?_)); rintro e w1 ⟨rfl, rfl⟩)
      | (go_at_call 56; ((with_reducible refine HAs.out.mono ?_)); rintro e w2 ⟨a2, c2', rfl, _, hs2⟩; have S2 := Lib.hid (HP.out _ hs2); clear hs2))
    go_ret2
    exact ⟨rfl, S2.out⟩

theorem rbgen_any (h : (rbT q M).at_ w W) : Calls Try.prog 67 #[.pointer (some ⟨q, 0, none⟩)] w fun e w' => e = .returned (.int .i64 ((M.G : Nat) : Int)) ∧ Still w w' := by
  obtain ⟨hI, a, c, b, d, hY⟩ := h
  have hrd := rbY_rd hY
  have HMd := Lib.hid (rbmade_any hrd.c3)
  have c2 := hrd.c2
  clear hrd hY hI
  generalize M.G = g at *
  go_enter Try.func67, Try.ntmps67
  go_wp2_with (go_at_call 55; ((with_reducible refine HMd.out.mono ?_)); rintro e w1 ⟨rfl, rfl⟩)
  go_ret
  exact ⟨rfl, Turned.refl _ _⟩
end

theorem rebal_api : RebalApi rbT where
  make_ := fun w => (rbmake_any w).mono fun e w' ⟨q, he, W, h1, h2, h3⟩ => ⟨q, he, W, h1, h2, h3⟩
  begin_ := fun h hM hK bo ao ps ms n m c1 c2 hn hm h1 h2 hP hA _ _ => rbbegin_any h hM hK hn hm h1 h2 hP hA
  ack := fun h hM hK x _ _ => rback_any h hM hK x
  gen := fun h hM hK => rbgen_any h
  revoked := fun h hM hK x _ _ n hn => by
    obtain ⟨hI, a, c, b, d, hY⟩ := h
    exact rbrevk_any hY rfl (tok_of hM.toPre hI) x n hn
  waits := fun h hM hK n hn => by
    obtain ⟨hI, a, c, b, d, hY⟩ := h
    rw [hI.w] at hn ⊢
    exact rbwaits_any hY rfl (tok_of hM.toPre hI) n (by rw [hn, intsN_len])
  has := fun h hM hK x p _ _ => by
    obtain ⟨hI, a, c, b, d, hY⟩ := h
    exact rbhas_any hY rfl (tok_of hM.toPre hI) x p.1 p.2
end Go.Proofs.Ytdlkdagmaeapdaa
