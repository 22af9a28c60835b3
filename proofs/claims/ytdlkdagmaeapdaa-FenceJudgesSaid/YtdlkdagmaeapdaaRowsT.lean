/- Rows of numbers, of places, of owners, of one's own: as things that are held; stores into them. No condition. -/
import Derived.Test.YtdlkdagmaeapdaaSitRow
import Derived.Test.YtdlkdagmaeapdaaOutNums
import Derived.Test.YtdlkdagmaeapdaaSamePl
import Derived.Test.YtdlkdagmaeapdaaBdShI
namespace Go.Proofs.Ytdlkdagmaeapdaa
open Go.RowKit
set_option linter.unusedVariables false
set_option linter.unusedSimpArgs false
set_option maxRecDepth 100000

/-- Rows that are handed out: slices of one's own. -/
def OutRow {α : Type} (enc : α → List Value) (m : Nat) (t : TypeId) (w : World) (l : List α) (n : Nat) (e : Ending) (w' : World) : Prop := ∃ a c, e = .returned (.slice a n c) ∧ w'.ownsRow w.heap.size t m (.slice a n c) n (rowOf enc l) ∧ Still w w'
theorem RowAt.of_own {α : Type} {enc : α → List Value} {m : Nat} (hm : ∀ x, (enc x).length = m) {w : World} {B : Nat} {t : TypeId} {a : Option Addr} {n c : Nat} {l : List α} (h : w.ownsRow B t m (.slice a n c) n (rowOf enc l)) (hn : n = l.length) : RowAt enc m w a l := by
  intro i x hx
  obtain ⟨g, rfl⟩ := owm_addr h (by have := (List.getElem?_eq_some_iff.1 hx).1; omega)
  refine ⟨g, 0, rfl, fun j v hv => ?_⟩
  rw [Nat.zero_add]
  exact (owm_cell h (rowOf_get hm hx hv)).1
/-- A row of one's own that is handed in. -/
theorem ownT_blk {t : TypeId} {m : Nat} {a : Option Addr} {n c : Nat} {xs : List Value} {w : World} {W : Nat → Prop} (h : (ownT t m a n c xs).at_ w W) : ∀ z, a = some z → W z.block := by
  rintro z rfl
  exact (h.2 z.block).2 rfl
section
variable {w0 w : World} {R : Thing}
abbrev plsT (bo : Option Addr) (n c : Nat) (ps : List Plc) : Thing := ownT 54 2 bo n c (rowOf encPl ps)
abbrev ownsT (bo : Option Addr) (n c : Nat) (os : List Own) : Thing := ownT 99 3 bo n c (rowOf encOw os)
abbrev intsT (bo : Option Addr) (n c : Nat) (ms : List Int) : Thing := ownT 3 1 bo n c (ints ms)
theorem lit_held (H : Held w0 w R) {l : List Int} {n : Nat} (hn : n = l.length) (h0 : n ≤ 1000) : Held w0 (w.alloc (.cells (ints l).toArray 3)) (R.sep (intsT (some ⟨w.heap.size, 0, none⟩) n n l)) := by
  have hN : ∃ W, (intsT (some ⟨w.heap.size, 0, none⟩) n n l).at_ (w.alloc (.cells (ints l).toArray 3)) W ∧ Still w (w.alloc (.cells (ints l).toArray 3)) ∧ ∀ k, W k → w.heap.size ≤ k :=
    ⟨(· = w.heap.size), ⟨owm_of_parts (xs := ints l) (r := []) (by rw [List.append_nil]; exact Blk.new w _ _) (by rw [ints_length]; omega) (by rw [List.append_nil, ints_length]; omega) (Nat.le_refl _) (by unfold maxLen; omega) (Nat.zero_le _),
      fun k => ⟨fun h => by rw [h]; rfl, fun h => by cases h; rfl⟩⟩, (Turned.refl _ _).alloc _, fun k hk => by omega⟩
  exact (H.new hN).swap
theorem Held.row {α : Type} {enc : α → List Value} {m n : Nat} {t : TypeId} {l : List α} {w' : World} {e : Ending} (H : Held w0 w R) (h : OutRow enc m t w l n e w') : ∃ a c, e = .returned (.slice a n c) ∧ Held w0 w' (R.sep (ownT t m a n c (rowOf enc l))) := by
  obtain ⟨a, c, he, ho, hs⟩ := h
  exact ⟨a, c, he, H.got ho hs⟩
theorem Held.outs {n : Nat} {l : List Int} {w' : World} {e : Ending} (H : Held w0 w R) (h : OutNums w l n e w') : ∃ a c, e = .returned (.slice a n c) ∧ Held w0 w' (R.sep (intsT a n c l)) := by
  obtain ⟨a, c, he, ho, hs⟩ := h
  exact ⟨a, c, he, H.got ho hs⟩
end
theorem nums_of_sl {w : World} {s : Sl Int} (h : SlOk encI (okI .i64) 1 w s) : NumsAt w s.a s.xs := nums_row h.row
theorem ints_at {w0 w : World} {a : Option Addr} {n c : Nat} {l : List Int} (h : Held w0 w (intsT a n c l)) (hn : n = l.length) : NumsAt w a l := by
  obtain ⟨_, h, _⟩ := h
  exact NumsAt.of_own h.1 hn
theorem held_put {w0 w : World} {g n c j : Nat} {l : List Int} {u : Int} {B : Thing} (H : Held w0 w ((intsT (some ⟨g, 0, none⟩) n c l).sep B)) (hj : l[j]? = some u) :
    w.cell? ⟨g, j, none⟩ = some (.int .i64 u) ∧ w.frozen? ⟨g, j, none⟩ = false ∧ ∀ v : Int, Held w0 (w.setCell ⟨g, j, none⟩ (.int .i64 v)) ((intsT (some ⟨g, 0, none⟩) n c (l.set j v)).sep B) := by
  obtain ⟨W, h, hg⟩ := H.fst
  have hc := owm_cell h.1 (ints_get hj)
  refine ⟨hc.1, hc.2, fun v => ?_⟩
  have := hg _ _ (ownM_set h (by rw [ints_length]; exact (List.getElem?_eq_some_iff.1 hj).1) (.int .i64 v))
  rwa [ints_set] at this
theorem infoOw17 : (Try.prog.info? 99).map (fun i => (i.zero, i.size, i.bytes)) = some (some (.agg #[.int .i64 0, .int .i64 0, .int .i64 0]), 3, 24) := by kernel_rfl
theorem madeN (n : Nat) : madeCells #[.int .i64 0] n = (ints (List.replicate n 0)).toArray := by
  have := made_row (enc := fun (x : Int) => [Value.int .i64 x]) (0 : Int) (z := #[.int .i64 0]) rfl (m := 1) (fun _ => rfl) (by omega) n
  rw [Nat.mul_one] at this
  rw [this]
  congr 1
  unfold rowOf ints
  exact List.map_eq_flatMap.symm
theorem held_putO {w0 w : World} {g n c i : Nat} {ps : List Plc} {xs : List Int} {p : Plc} {x : Int} {B : Thing} (H : Held w0 w ((ownsT (some ⟨g, 0, none⟩) n c (oL ps xs)).sep B)) (hp : ps[i]? = some p) (hx : xs[i]? = some x) :
    w.cell? ⟨g, i * 3 + 2, none⟩ = some (.int .i64 x) ∧ w.frozen? ⟨g, i * 3 + 2, none⟩ = false ∧ ∀ v : Int, Held w0 (w.setCell ⟨g, i * 3 + 2, none⟩ (.int .i64 v)) ((ownsT (some ⟨g, 0, none⟩) n c (oL ps (xs.set i v))).sep B) := by
  obtain ⟨W, h, hg⟩ := H.fst
  have hl := oL_get hp hx
  have hr : (rowOf encOw (oL ps xs))[i * 3 + 2]? = some (.int .i64 x) := rowOf_get encOw_len hl (j := 2) rfl
  have hc := owm_cell h.1 hr
  refine ⟨hc.1, hc.2, fun v => ?_⟩
  have := hg _ _ (ownM_set h (List.getElem?_eq_some_iff.1 hr).1 (.int .i64 v))
  rwa [rowOf_set encOw_len hl (j := 2) (b := (p, v)) (by omega) rfl, oL_set hp] at this
theorem ow_raise {w0 w : World} {t : TypeId} {m n c : Nat} {a : Option Addr} {xs : List Value} (h : Held w0 w (ownT t m a n c xs)) : w.ownsRow w0.heap.size t m (.slice a n c) n xs ∧ Still w0 w := by
  obtain ⟨W, h1, hlo, hs⟩ := h
  refine ⟨?_, hs⟩
  cases a with
  | none =>
    obtain ⟨e1, e2⟩ := (ow_le h1.1).2.2 rfl
    subst e1 e2
    have hx := h1.1.1
    obtain rfl : xs = [] := List.eq_nil_of_length_eq_zero (by omega)
    exact World.ownsRow_nil _ _ _ _
  | some z =>
    obtain ⟨g, rfl⟩ := owm_addr' h1.1
    obtain ⟨r, hb, e1, e2, e3, e4, _⟩ := owm_parts h1.1
    exact owm_of_parts hb e1 e2 e3 e4 (hlo g ((h1.2 g).2 rfl))
theorem asg_none {ms : List Int} {ps : List Plc} {os : List Own} (h : ms.length = 0) : asgI ms ps os = oL ps (List.replicate ps.length (-1)) := by
  apply List.ext_getElem?
  intro i
  cases hp : ps[i]? with
  | none =>
    have := List.getElem?_eq_none_iff.1 hp
    rw [List.getElem?_eq_none (by rw [asgI_len]; exact this), List.getElem?_eq_none (by rw [oL_len (by simp)]; exact this)]
  | some p =>
    obtain ⟨x, hx, _, h2⟩ := asgI_all (ms := ms) (os := os) hp
    rw [hx, h2 h, oL_get hp (by rw [List.getElem?_replicate, if_pos (List.getElem?_eq_some_iff.1 hp).1])]

def OutAsg (w : World) (l : List Own) (r : Nat) (E : Int) (e : Ending) (w' : World) : Prop := ∃ a c, e = .returned (.tuple #[.slice a r c, .int .i64 E]) ∧ w'.ownsRow w.heap.size 99 3 (.slice a r c) r (rowOf encOw l) ∧ Still w w'
/-- A store of a whole owner into owners of one's own. -/
theorem held_put3 {w0 w : World} {g n c i : Nat} {l : List Own} {y : Own} {B : Thing} (H : Held w0 w ((ownsT (some ⟨g, 0, none⟩) n c l).sep B)) (hy : l[i]? = some y) (p q x : Int) :
    (∃ u, w.cell? ⟨g, i * 3, none⟩ = some u) ∧ w.frozen? ⟨g, i * 3, none⟩ = false ∧
    (∃ u, (w.setCell ⟨g, i * 3, none⟩ (.int .i64 p)).cell? ⟨g, i * 3 + 1, none⟩ = some u) ∧ (w.setCell ⟨g, i * 3, none⟩ (.int .i64 p)).frozen? ⟨g, i * 3 + 1, none⟩ = false ∧
    (∃ u, ((w.setCell ⟨g, i * 3, none⟩ (.int .i64 p)).setCell ⟨g, i * 3 + 1, none⟩ (.int .i64 q)).cell? ⟨g, i * 3 + 2, none⟩ = some u) ∧ ((w.setCell ⟨g, i * 3, none⟩ (.int .i64 p)).setCell ⟨g, i * 3 + 1, none⟩ (.int .i64 q)).frozen? ⟨g, i * 3 + 2, none⟩ = false ∧
    Held w0 (((w.setCell ⟨g, i * 3, none⟩ (.int .i64 p)).setCell ⟨g, i * 3 + 1, none⟩ (.int .i64 q)).setCell ⟨g, i * 3 + 2, none⟩ (.int .i64 x)) ((ownsT (some ⟨g, 0, none⟩) n c (l.set i ((p, q), x))).sep B) := by
  obtain ⟨⟨y1, y2⟩, y3⟩ := y
  have hil := (List.getElem?_eq_some_iff.1 hy).1
  have step : ∀ {w : World} {l : List Own} {y z : Own} {j : Nat} {u v : Int}, Held w0 w ((ownsT (some ⟨g, 0, none⟩) n c l).sep B) → l[i]? = some y → j < 3 → (encOw y)[j]? = some (.int .i64 u) → encOw z = (encOw y).set j (.int .i64 v) →
      (∃ u, w.cell? ⟨g, i * 3 + j, none⟩ = some u) ∧ w.frozen? ⟨g, i * 3 + j, none⟩ = false ∧ Held w0 (w.setCell ⟨g, i * 3 + j, none⟩ (.int .i64 v)) ((ownsT (some ⟨g, 0, none⟩) n c (l.set i z)).sep B) := by
    intro w l y z j u v H hy hj hu hz
    obtain ⟨W, h, hg⟩ := H.fst
    have hr := rowOf_get encOw_len hy hu
    have hc := owm_cell h.1 hr
    refine ⟨⟨_, hc.1⟩, hc.2, ?_⟩
    have := hg _ _ (ownM_set h (List.getElem?_eq_some_iff.1 hr).1 (.int .i64 v))
    rwa [rowOf_set encOw_len hy (j := j) (b := z) hj hz.symm] at this
  obtain ⟨a1, a2, a3⟩ := step (y := ((y1, y2), y3)) (z := ((p, y2), y3)) (j := 0) (u := y1) (v := p) H hy (by omega) rfl rfl
  obtain ⟨b1, b2, b3⟩ := step (y := ((p, y2), y3)) (z := ((p, q), y3)) (j := 1) (u := y2) (v := q) a3 (List.getElem?_set_self hil) (by omega) rfl rfl
  obtain ⟨d1, d2, d3⟩ := step (y := ((p, q), y3)) (z := ((p, q), x)) (j := 2) (u := y3) (v := x) b3 (List.getElem?_set_self (by rw [List.length_set]; exact hil)) (by omega) rfl rfl
  rw [List.set_set, List.set_set] at d3
  exact ⟨a1, a2, b1, b2, d1, d2, d3⟩
theorem madeO (n : Nat) : madeCells #[.int .i64 0, .int .i64 0, .int .i64 0] (n * 3) = (rowOf encOw (List.replicate n ((0, 0), 0))).toArray :=
  made_row (enc := encOw) ((0, 0), 0) (z := #[.int .i64 0, .int .i64 0, .int .i64 0]) rfl (m := 3) encOw_len (by omega) n
theorem lit_heldO {w0 w : World} {R : Thing} (H : Held w0 w R) {l : List Own} {n : Nat} (hn : n = l.length) (h0 : n ≤ 1000) : Held w0 (w.alloc (.cells (rowOf encOw l).toArray 99)) (R.sep (ownsT (some ⟨w.heap.size, 0, none⟩) n n l)) := by
  have hl : (rowOf encOw l).length = n * 3 := by rw [rowOf_length encOw_len, hn]
  have hN : ∃ W, (ownsT (some ⟨w.heap.size, 0, none⟩) n n l).at_ (w.alloc (.cells (rowOf encOw l).toArray 99)) W ∧ Still w (w.alloc (.cells (rowOf encOw l).toArray 99)) ∧ ∀ k, W k → w.heap.size ≤ k :=
    ⟨(· = w.heap.size), ⟨owm_of_parts (xs := rowOf encOw l) (r := []) (by rw [List.append_nil]; exact Blk.new w _ _) (by rw [hl]) (by rw [List.append_nil, hl]) (Nat.le_refl _) (by unfold maxLen; omega) (Nat.zero_le _),
      fun k => ⟨fun h => by rw [h]; rfl, fun h => by cases h; rfl⟩⟩, (Turned.refl _ _).alloc _, fun k hk => by omega⟩
  exact (H.new hN).swap
end Go.Proofs.Ytdlkdagmaeapdaa
