/- The rows of places that Sort fills, with the box that holds them: what one more place leaves. No condition. -/
import Derived.Test.YtdblhflebaffcaaRouteIt
namespace Go.Proofs.Ytdblhflebaffcaa
open Go.RowKit
set_option linter.unusedVariables false
set_option linter.unusedSimpArgs false
set_option maxRecDepth 100000

theorem RsOwn.keep {S : Nat → Prop} {B : Nat} {w w' : World} {g : Nat} {rs : List (Sl Int)} (h : RsOwn B w g rs) (ht : Turned S w w') (hg : ¬ S g) (hs : ∀ r ∈ rs, ∀ x, r.a = some x → ¬ S x.block) : RsOwn B w' g rs :=
  ⟨h.hd.turned ht hg, h.lo, fun j r hr => by
    obtain ⟨h1, h2, h3⟩ := h.own j r hr
    refine ⟨ow_turned h1 ht (fun b hb => ?_), h2, h3⟩
    cases hra : r.a with
    | none => rw [hra] at hb; cases hb
    | some x =>
      rw [hra] at hb
      have e : x.block = b := by simpa [Value.ownBlock] using hb
      exact e ▸ hs r (List.mem_of_getElem? hr) x hra, h.apart⟩
theorem RsOwn.lt {B : Nat} {w : World} {g : Nat} {rs : List (Sl Int)} (h : RsOwn B w g rs) {r : Sl Int} (hr : r ∈ rs) {x : Addr} (hx : r.a = some x) : x.block < w.heap.size := by
  obtain ⟨j, hj⟩ := List.getElem?_of_mem hr
  exact ((ow_lt (h.own j r hj).1) x hx).2

/-- Rows, the row of them, and the box. -/
structure RowsIn (B0 B g p : Nat) (L : List (List Int)) (w : World) (W : Nat → Prop) (rs : List (Sl Int)) : Prop where
  box : Blk w B [.slice (some ⟨g, 0, none⟩) p p] 24
  rows : RsOwn B0 w g rs
  len : rs.length = p
  map : rs.map (·.xs) = L
  ne : B ≠ g
  apart : ∀ r ∈ rs, ∀ x, r.a = some x → x.block ≠ B
  own : ∀ k, W k ↔ k = B ∨ k = g ∨ ∃ r ∈ rs, ∃ x, r.a = some x ∧ k = x.block

def rowsT (B0 B g p : Nat) (L : List (List Int)) : Thing where
  at_ w W := ∃ rs, RowsIn B0 B g p L w W rs
  lt := by
    rintro w W ⟨rs, h⟩ k hk
    rcases (h.own k).1 hk with rfl | rfl | ⟨r, hr, x, hx, rfl⟩
    · exact h.box.lt
    · exact h.rows.hd.lt
    · exact h.rows.lt hr hx
  keep := by
    rintro w w' W S ⟨rs, h⟩ ht hs
    exact ⟨rs, h.box.turned ht (hs _ ((h.own _).2 (.inl rfl))), h.rows.keep ht (hs _ ((h.own _).2 (.inr (.inl rfl)))) (fun r hr x hx => hs _ ((h.own _).2 (.inr (.inr ⟨r, hr, x, hx, rfl⟩)))), h.len, h.map, h.ne, h.apart, h.own⟩

theorem RowsIn.still {B0 B g p : Nat} {L : List (List Int)} {w w' : World} {W : Nat → Prop} {rs : List (Sl Int)} (h : RowsIn B0 B g p L w W rs) (ht : Still w w') : RowsIn B0 B g p L w' W rs :=
  ⟨h.box.turned ht (fun h => h), h.rows.still ht, h.len, h.map, h.ne, h.apart, h.own⟩

/-- One place more in one of the rows. -/
theorem RowsIn.app {B0 B g p : Nat} {L : List (List Int)} {V w6 : World} {W : Nat → Prop} {rs : List (Sl Int)} (h : RowsIn B0 B g p L V W rs) {q : Nat} {r : Sl Int} (hr : rs[q]? = some r) {o : Obj} {a' : Option Addr} {c' : Nat} {x : Int}
    (hg : (V.alloc o).grownBy w6 (Value.slice r.a r.len r.cap).ownBlock) (hown : w6.ownsRow B0 3 1 (.slice a' (r.len + 1) c') (r.len + 1) (ints (r.xs ++ [x])))
    (hat : (Value.slice a' (r.len + 1) c').ownBlock = (Value.slice r.a r.len r.cap).ownBlock ∨ (Value.slice a' (r.len + 1) c').ownBlock = some (V.alloc o).heap.size) :
    w6.cell? ⟨B, 0, none⟩ = some (.slice (some ⟨g, 0, none⟩) p p) ∧ w6.cell? ⟨g, q, none⟩ = some (.slice r.a r.len r.cap) ∧ w6.frozen? ⟨g, q, none⟩ = false ∧
    (w6.setCell ⟨g, q, none⟩ (.slice a' (r.len + 1) c')).cell? ⟨B, 0, none⟩ = some (.slice (some ⟨g, 0, none⟩) p p) ∧ Hid (Goes (rowsT B0 B g p (L.set q (r.xs ++ [x]))) W V (w6.setCell ⟨g, q, none⟩ (.slice a' (r.len + 1) c'))) := by
  have hmem := List.mem_of_getElem? hr
  have hrb : ∀ k, (Value.slice r.a r.len r.cap).ownBlock = some k → ∃ y, r.a = some y ∧ y.block = k := fun k e => by
    cases hra : r.a with
    | none => rw [hra] at e; cases e
    | some y => rw [hra] at e; exact ⟨y, rfl, by simpa [Value.ownBlock] using e⟩
  have T1 : Turned (fun k => (Value.slice r.a r.len r.cap).ownBlock = some k) V w6 := ((Turned.refl _ V).alloc o).grown hg (fun k e => .inl e)
  have T2 : Turned (· = g) w6 (w6.setCell ⟨g, q, none⟩ (.slice a' (r.len + 1) c')) := turned_set (Turned.refl _ _) _ _
  have hB1 : Blk w6 B [.slice (some ⟨g, 0, none⟩) p p] 24 := h.box.turned T1 (fun e => by obtain ⟨y, e1, e2⟩ := hrb _ e; exact h.apart r hmem y e1 e2)
  have hG1 : Blk w6 g (rs.map slv) 33 := h.rows.hd.turned T1 (fun e => by obtain ⟨y, e1, e2⟩ := hrb _ e; exact (h.rows.own q r hr).2.2 y e1 e2)
  have hB2 : Blk (w6.setCell ⟨g, q, none⟩ (.slice a' (r.len + 1) c')) B [.slice (some ⟨g, 0, none⟩) p p] 24 := hB1.turned T2 h.ne
  obtain ⟨hR, _⟩ := h.rows.step hr (x := x) hg hown rfl hat
  have ha' : ∀ y, a' = some y → (∃ z, r.a = some z ∧ z.block = y.block) ∨ y.block = V.heap.size + 1 := fun y e => by
    subst e
    rcases hat with hat | hat
    · obtain ⟨z, e1, e2⟩ := hrb y.block (by rw [← hat]; rfl)
      exact .inl ⟨z, e1, e2⟩
    · right
      have e2 : y.block = (V.alloc o).heap.size := by simpa [Value.ownBlock] using hat
      rw [e2, World.size_alloc]
  have hBl := h.box.lt
  have hz : ∀ t ∈ rs.set q ⟨a', r.len + 1, c', r.xs ++ [x]⟩, t ∈ rs ∨ t = ⟨a', r.len + 1, c', r.xs ++ [x]⟩ := fun t ht => List.mem_or_eq_of_mem_set ht
  refine ⟨hB1.cell rfl, hG1.cell (by rw [List.getElem?_map, hr]; rfl), hG1.free _, hB2.cell rfl, Lib.hid ?_⟩
  refine ⟨fun k => k = B ∨ k = g ∨ ∃ t ∈ rs.set q ⟨a', r.len + 1, c', r.xs ++ [x]⟩, ∃ y, t.a = some y ∧ k = y.block, ⟨rs.set q ⟨a', r.len + 1, c', r.xs ++ [x]⟩, hB2, hR, by rw [List.length_set]; exact h.len, ?_, h.ne, fun t ht y hy => ?_, fun k => Iff.rfl⟩, ?_, fun k hk => ?_⟩
  · rw [List.map_set, h.map]
  · rcases hz t ht with ht | rfl
    · exact h.apart t ht y hy
    · rcases ha' y hy with ⟨z, e1, e2⟩ | e
      · rw [← e2]; exact h.apart r hmem z e1
      · omega
  · refine (T1.mono (fun k _ hk => ?_)).trans (T2.mono (fun k _ hk => (h.own k).2 (.inr (.inl hk))))
    obtain ⟨y, e1, e2⟩ := hrb k hk
    exact (h.own k).2 (.inr (.inr ⟨r, hmem, y, e1, e2.symm⟩))
  · rcases hk with rfl | rfl | ⟨t, ht, y, hy, rfl⟩
    · exact .inl ((h.own _).2 (.inl rfl))
    · exact .inl ((h.own _).2 (.inr (.inl rfl)))
    · rcases hz t ht with ht | rfl
      · exact .inl ((h.own _).2 (.inr (.inr ⟨t, ht, y, hy, rfl⟩)))
      · rcases ha' y hy with ⟨z, e1, e2⟩ | e
        · exact .inl ((h.own _).2 (.inr (.inr ⟨r, hmem, z, e1, e2.symm⟩)))
        · exact .inr (by omega)
end Go.Proofs.Ytdblhflebaffcaa
