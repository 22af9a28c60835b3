/- A slice of one's own that is a part of its block: behind it lies its room, ahead of it what was cut off; elements of one cell. What a store, a cut and an append leave of it. No condition. -/
import Derived.Test.YtliaaggjefjbeaaOwn
import Derived.ArgAppend
import Derived.Deep.RegionHeld3
import Derived.Deep.RegionLaw
import Derived.Maps.AppendAt
namespace Go.Proofs.Ytliaaggjefjbeaa
open Go.RowKit
set_option linter.unusedVariables false
set_option linter.unusedSimpArgs false
set_option maxRecDepth 100000

/-- The block that it lies in, where it has room for anything. -/
def PB (ao : Option Addr) (cc : Nat) (k : Nat) : Prop := 0 < cc ∧ ∃ a, ao = some a ∧ a.block = k

/-- A part of a block: so many elements, and room for so many. -/
def Part (w : World) (e : TypeId) (ao : Option Addr) (n cc : Nat) (xs : List Value) : Prop :=
  xs.length = n ∧ n ≤ cc ∧ cc ≤ maxLen ∧ (0 < cc → ∃ g o pre sp, ao = some ⟨g, o, none⟩ ∧ Blk w g (pre ++ (xs ++ sp)) e ∧ pre.length = o ∧ (xs ++ sp).length = cc)

theorem Part.nil (w : World) (e : TypeId) (ao : Option Addr) : Part w e ao 0 0 [] := ⟨rfl, Nat.le_refl _, Nat.zero_le _, fun h => absurd h (Nat.lt_irrefl _)⟩
theorem Part.len {w : World} {e : TypeId} {ao : Option Addr} {n cc : Nat} {xs : List Value} (h : Part w e ao n cc xs) : xs.length = n := h.1
theorem Part.le {w : World} {e : TypeId} {ao : Option Addr} {n cc : Nat} {xs : List Value} (h : Part w e ao n cc xs) : n ≤ cc := h.2.1
theorem Part.max {w : World} {e : TypeId} {ao : Option Addr} {n cc : Nat} {xs : List Value} (h : Part w e ao n cc xs) : cc ≤ maxLen := h.2.2.1
theorem Part.lt {w : World} {e : TypeId} {ao : Option Addr} {n cc : Nat} {xs : List Value} (h : Part w e ao n cc xs) {k : Nat} (hk : PB ao cc k) : k < w.heap.size := by
  obtain ⟨h0, a, ha, rfl⟩ := hk
  obtain ⟨g, o, pre, sp, e1, hb, _⟩ := h.2.2.2 h0
  rw [e1] at ha
  cases ha
  exact hb.lt
theorem Part.turned {S : Nat → Prop} {w w' : World} {e : TypeId} {ao : Option Addr} {n cc : Nat} {xs : List Value} (h : Part w e ao n cc xs) (ht : Turned S w w') (hs : ∀ k, PB ao cc k → ¬ S k) : Part w' e ao n cc xs := by
  refine ⟨h.1, h.2.1, h.2.2.1, fun h0 => ?_⟩
  obtain ⟨g, o, pre, sp, rfl, hb, h1, h2⟩ := h.2.2.2 h0
  exact ⟨g, o, pre, sp, rfl, hb.turned ht (hs g ⟨h0, _, rfl, rfl⟩), h1, h2⟩
theorem Part.still {w w' : World} {e : TypeId} {ao : Option Addr} {n cc : Nat} {xs : List Value} (h : Part w e ao n cc xs) (ht : Still w w') : Part w' e ao n cc xs := h.turned ht (fun _ _ h => h)
/-- A cell of it. -/
theorem Part.cell {w : World} {e : TypeId} {ao : Option Addr} {n cc : Nat} {xs : List Value} (h : Part w e ao n cc xs) {j : Nat} {v : Value} (hj : xs[j]? = some v) :
    ∃ g o, ao = some ⟨g, o, none⟩ ∧ PB ao cc g ∧ w.cell? ⟨g, o + j, none⟩ = some v ∧ w.frozen? ⟨g, o + j, none⟩ = false := by
  have hl := (List.getElem?_eq_some_iff.1 hj).1
  have h0 : 0 < cc := by have := h.1; have := h.2.1; omega
  obtain ⟨g, o, pre, sp, rfl, hb, rfl, h2⟩ := h.2.2.2 h0
  refine ⟨g, _, rfl, ⟨h0, _, rfl, rfl⟩, hb.cell ?_, hb.free _⟩
  rw [List.getElem?_append_right (by omega), Nat.add_sub_cancel_left, List.getElem?_append_left hl]
  exact hj
/-- A store into it. -/
theorem Part.set {w : World} {e : TypeId} {g o n cc : Nat} {xs : List Value} (h : Part w e (some ⟨g, o, none⟩) n cc xs) {j : Nat} (hj : j < n) (v : Value) : Part (w.setCell ⟨g, o + j, none⟩ v) e (some ⟨g, o, none⟩) n cc (xs.set j v) := by
  have hl := h.1
  refine ⟨by simpa using hl, h.2.1, h.2.2.1, fun h0 => ?_⟩
  obtain ⟨g', o', pre, sp, e1, hb, h1, h2⟩ := h.2.2.2 h0
  cases e1
  refine ⟨g, o, pre, sp, rfl, ?_, h1, by simpa using h2⟩
  have := hb.set (o + j) v
  rwa [List.set_append_right _ _ (by omega), show o + j - pre.length = j by omega, List.set_append_left _ _ (by omega)] at this
/-- The first ones are cut off. -/
theorem Part.drop {w : World} {e : TypeId} {ao : Option Addr} {n cc : Nat} {xs : List Value} (h : Part w e ao n cc xs) {k : Nat} (hk : k ≤ n) : Part w e (if cc = k then ao else ao.map (fun x => x.add k)) (n - k) (cc - k) (xs.drop k) := by
  have hl := h.1
  have hle := h.2.1
  refine ⟨by rw [List.length_drop]; omega, by omega, Nat.le_trans (Nat.sub_le _ _) h.2.2.1, fun h0 => ?_⟩
  obtain ⟨g, o, pre, sp, rfl, hb, h1, h2⟩ := h.2.2.2 (by omega)
  refine ⟨g, o + k, pre ++ xs.take k, sp, ?_, ?_, by rw [List.length_append, List.length_take]; omega, by rw [List.length_append] at h2 ⊢; rw [List.length_drop]; omega⟩
  · rw [if_neg (by omega)]; simp [Addr.add_lit]
  · rw [List.append_assoc, ← List.append_assoc (xs.take k), List.take_append_drop]; exact hb
theorem Part.drop_pb {ao : Option Addr} {cc k : Nat} {i : Nat} (h : PB (if cc = k then ao else ao.map (fun x => x.add k)) (cc - k) i) : PB ao cc i := by
  obtain ⟨h0, a, ha, rfl⟩ := h
  rw [if_neg (by omega)] at ha
  cases ao with
  | none => cases ha
  | some x =>
    refine ⟨by omega, x, rfl, ?_⟩
    simp only [Option.map_some, Option.some.injEq] at ha
    rw [← ha]
    obtain ⟨b, o, r⟩ := x
    cases r <;> (unfold Addr.add; split <;> rfl)
/-- The numbers that were cut off can be read where they lay. -/
theorem Part.nums {w : World} {e : TypeId} {ao : Option Addr} {n cc : Nat} {l : List Int} (h : Part w e ao n cc (ints l)) : NumsAt w ao l := fun i x hx => by
  obtain ⟨g, o, h1, _, h2, _⟩ := h.cell (ints_get hx)
  exact ⟨g, o, h1, h2⟩
theorem Part.lt_of {w : World} {e : TypeId} {a : Addr} {n cc : Nat} {xs : List Value} (h : Part w e (some a) n cc xs) (h0 : 0 < cc) : ∃ g o, a = ⟨g, o, none⟩ := by
  obtain ⟨g, o, pre, sp, e1, _⟩ := h.2.2.2 h0
  cases e1
  exact ⟨g, o, rfl⟩
theorem Part.none_nil {w : World} {e : TypeId} {n cc : Nat} {xs : List Value} (h : Part w e none n cc xs) : n = 0 ∧ cc = 0 := by
  rcases Nat.eq_zero_or_pos cc with h0 | h0
  · have := h.2.1; omega
  · obtain ⟨_, _, _, _, e1, _⟩ := h.2.2.2 h0; cases e1
theorem Part.of_own {w : World} {B : Nat} {e : TypeId} {ao : Option Addr} {n cc : Nat} {xs : List Value} (h : w.ownsRow B e 1 (.slice ao n cc) n xs) : Part w e ao n cc xs ∧ ∀ k, PB ao cc k → B ≤ k := by
  have hx : xs.length = n := by have := h.1; omega
  rcases h.2 with ⟨e0, rfl⟩ | ⟨g, cap, cur, e0, hB, hg, h1, h2, h3, ht⟩
  · simp at e0
    obtain ⟨rfl, rfl⟩ := e0
    obtain rfl : xs = [] := List.eq_nil_of_length_eq_zero hx
    exact ⟨Part.nil _ _ _, fun k hk => absurd hk.1 (Nat.lt_irrefl _)⟩
  · simp at e0
    obtain ⟨rfl, rfl⟩ := e0
    rw [Nat.mul_one] at ht h3
    refine ⟨⟨hx, h1, h2, fun h0 => ⟨g, 0, [], cur.toList.drop n, rfl, ?_, rfl, ?_⟩⟩, fun k ⟨_, a, ha, hk⟩ => by cases ha; rw [← hk]; exact hB⟩
    · unfold Blk
      rw [List.nil_append, ← ht, List.take_append_drop, hg]
    · rw [← ht, List.take_append_drop]; simpa using h3

/-- One element more. -/
theorem run_append_part {P : Program} {w : World} (t ty e : TypeId) (i : TypeInfo) (z : Value) (bytes : Nat) (ht : P.underlying t = some (.slice e)) (hi : P.info? e = some i) (hz : i.zero = some z)
    (hsize : i.size = 1) (hby : i.bytes = bytes) (hzs : z.cells.size = 1) {ao : Option Addr} {n cc : Nat} {xs : List Value} (h : Part w e ao n cc xs)
    (ad : Addr) (c : Nat) (u : Value) (hnews : w.cell? ad = some u) (had : ad.add 0 = ad) (h1 : u.oneCell' = true) (hn : n < 1000000) (hb : bytes ≤ 8) :
    ∃ a' c' w', (Builtin.append_ #[t, t] ty #[.slice ao n cc, .slice (some ad) 1 c]).run P w = .ok (.slice a' (n + 1) c') w' ∧ Part w' e a' (n + 1) c' (xs ++ [u]) ∧ Turned (PB ao cc) w w' ∧ (∀ k, PB a' c' k → PB ao cc k ∨ w.heap.size ≤ k) := by
  have hl := h.1
  have hnews' : ∀ j v, [u][j]? = some v → w.cell? (ad.add j) = some v := by
    intro j v hj
    match j, hj with
    | 0, hj => simp at hj; subst hj; rw [had]; exact hnews
  have h1' : ∀ v ∈ [u], v.oneCell' = true := by intro v hv; simp at hv; subst hv; exact h1
  have h63 : n + 1 ≤ maxLen := by unfold maxLen; omega
  have hbytes : (n + 1) * bytes ≤ 140737488355328 := by
    have : (n + 1) * bytes ≤ 1000000 * 8 := Nat.mul_le_mul (by omega) hb
    omega
  by_cases hr : n + 1 ≤ cc
  · obtain ⟨g, o, pre, sp, rfl, hblk, h2, h3⟩ := h.2.2.2 (by omega)
    have hc : w.cell? ⟨g, o + n, none⟩ = some ((pre ++ (xs ++ sp))[o + n]?.getD u) := by
      refine hblk.cell ?_
      rw [List.getElem?_eq_getElem (by rw [List.length_append]; omega)]; rfl
    have hrun := run_append_room_cells (P := P) w t ty e i ht hi g o n cc ad 1 c [u] (by simp [hsize]) hnews' h1' hr
      (fun j hj => by
        obtain rfl : j = 0 := by simpa using hj
        rw [hsize, Nat.mul_one, Nat.add_zero, hc]; rfl) (fun j hj => hblk.free _)
    rw [hsize, Nat.mul_one] at hrun
    refine ⟨_, _, _, hrun, ⟨by simp [hl], hr, h.2.2.1, fun h0 => ⟨g, o, pre, sp.drop 1, rfl, ?_, h2, ?_⟩⟩, ?_, fun k hk => .inl hk⟩
    · have := hblk.set (o + n) u
      rw [List.set_append_right _ _ (by omega), show o + n - pre.length = n by omega, List.set_append_right _ _ (by omega), show n - xs.length = 0 by omega] at this
      have hsp : sp.set 0 u = u :: sp.drop 1 := by
        cases sp with
        | nil => simp at h3; omega
        | cons a r => rfl
      rw [hsp] at this
      rw [List.append_assoc]
      exact this
    · rw [List.length_append] at h3
      simp only [List.length_append, List.length_drop, List.length_cons, List.length_nil]; omega
    · exact (Turned.refl (PB (some ⟨g, o, none⟩) cc) w).setCell (p := ⟨g, o + n, none⟩) (.inl ⟨by omega, _, rfl, rfl⟩) u
  · cases ao with
    | some a =>
      have holds : ∀ j v, xs[j]? = some v → w.cell? (a.add j) = some v := fun j v hj => by
        obtain ⟨g, o, e1, _, h2, _⟩ := h.cell hj
        cases e1
        rw [Addr.add_lit]; exact h2
      obtain ⟨v', w', hrun, r1, r2⟩ := run_append_arg_grows (P := P) w t ty e i z 1 bytes ht hi hz hsize hby hzs (by omega) a n cc xs (by omega) holds ad 1 c [u] (by simp) hnews' (by omega) h63 hbytes
      obtain ⟨a', c', rfl⟩ := ow_slice r1
      obtain ⟨p1, p2⟩ := Part.of_own r1
      exact ⟨a', c', w', hrun, p1, (Turned.refl _ w).grown r2 (fun k e => by cases e), fun k hk => .inr (p2 k hk)⟩
    | none =>
      obtain ⟨rfl, rfl⟩ := h.none_nil
      obtain rfl : xs = [] := List.eq_nil_of_length_eq_zero hl
      obtain ⟨v', w', hrun, r1, r2, _⟩ := run_append_own (P := P) w w.heap.size t ty e i z 1 bytes ht hi hz hsize hby hzs (by omega) (.slice none 0 0) 0 [] (World.ownsRow_nil w _ e 1) ad 1 c [u] (by simp) hnews' h1' (by omega) hbytes (Nat.le_refl _)
      obtain ⟨a', c', rfl⟩ := ow_slice r1
      obtain ⟨p1, p2⟩ := Part.of_own r1
      exact ⟨a', c', w', by simpa using hrun, by simpa using p1, (Turned.refl _ w).grown r2 (fun k e => by cases e), fun k hk => .inr (p2 k hk)⟩

/-- The same as one step of a region. -/
theorem step_append_part {P : Program} {ops : Array Oper} {o : Oper} {a : Act} {w : World} {K : Act → World → Prop} {Q : Exit → Act → World → Prop} {E : Prop}
    (hg : o.guard = none) (s x : Operand) (t : TypeId) (hop : o.op = Op.call { callee := Callee.builtin Builtin.append, args := #[s, x], argTypes := #[t, t] })
    (e : TypeId) (i : TypeInfo) (z : Value) (bytes : Nat) (ht : P.underlying t = some (.slice e)) (hi : P.info? e = some i) (hz : i.zero = some z)
    (hsize : i.size = 1) (hby : i.bytes = bytes) (hzs : z.cells.size = 1) (ao : Option Addr) (n cc : Nat) (xs : List Value) (hs : a.eval s = .slice ao n cc) (h : Part w e ao n cc xs)
    (ad : Addr) (c : Nat) (u : Value) (hx : a.eval x = .slice (some ad) 1 c) (hnews : w.cell? ad = some u) (had : ad.add 0 = ad) (h1 : u.oneCell' = true) (hn : n < 1000000) (hb : bytes ≤ 8)
    (hK : ∀ a' c' w', Part w' e a' (n + 1) c' (xs ++ [u]) → Turned (PB ao cc) w w' → (∀ k, PB a' c' k → PB ao cc k ∨ w.heap.size ≤ k) → K (a.put o.dst (.slice a' (n + 1) c')) w') :
    if Region.wanted o (yielded ops a.tmps) = true then Oper.wp P o a w K Q else E := by
  have hw : Region.wanted o (yielded ops a.tmps) = true := by simp [Region.wanted, hg]
  rw [if_pos hw]
  obtain ⟨a', c', w', hrun, r1, r2, r3⟩ := run_append_part (P := P) t o.type e i z bytes ht hi hz hsize hby hzs h ad c u hnews had h1 hn hb
  unfold Oper.wp
  simp [execOp, hop, resolve, invoke, builtin, hs, hx, hrun, Result.andThen]
  exact hK _ _ _ r1 r2 r3
theorem wpList_append_part {P : Program} {w : World} {ops : Array Oper} {rest : List Oper} {o : Oper} {a : Act} {Q : Exit → Act → World → Prop}
    (hg : o.guard = none) (s x : Operand) (t : TypeId) (hop : o.op = Op.call { callee := Callee.builtin Builtin.append, args := #[s, x], argTypes := #[t, t] })
    (e : TypeId) (i : TypeInfo) (z : Value) (bytes : Nat) (ht : P.underlying t = some (.slice e)) (hi : P.info? e = some i) (hz : i.zero = some z)
    (hsize : i.size = 1) (hby : i.bytes = bytes) (hzs : z.cells.size = 1) (ao : Option Addr) (n cc : Nat) (xs : List Value) (hs : a.eval s = .slice ao n cc) (h : Part w e ao n cc xs)
    (ad : Addr) (c : Nat) (u : Value) (hx : a.eval x = .slice (some ad) 1 c) (hnews : w.cell? ad = some u) (had : ad.add 0 = ad) (h1 : u.oneCell' = true) (hn : n < 1000000) (hb : bytes ≤ 8)
    (hK : ∀ a' c' w', Part w' e a' (n + 1) c' (xs ++ [u]) → Turned (PB ao cc) w w' → (∀ k, PB a' c' k → PB ao cc k ∨ w.heap.size ≤ k) → wpList P ops Q rest (a.put o.dst (.slice a' (n + 1) c')) w') : wpList P ops Q (o :: rest) a w := by
  refine wpList_plain hg fun K hK' => ?_
  obtain ⟨a', c', w', hrun, r1, r2, r3⟩ := run_append_part (P := P) t o.type e i z bytes ht hi hz hsize hby hzs h ad c u hnews had h1 hn hb
  unfold Oper.wp
  simp [execOp, hop, resolve, invoke, builtin, hs, hx, hrun, Result.andThen]
  exact hK' _ _ (hK _ _ _ r1 r2 r3)
end Go.Proofs.Ytliaaggjefjbeaa
