/- The document's ledger, as it lies in memory; what can be read of it; Make, End, Is, Of. No condition but that it is one. -/
import Derived.Test.YtdlkdagmaeapdaaLgModel
import Derived.Test.YtdlkdagmaeapdaaSitRow
import Derived.Test.YtdlkdagmaeapdaaSameSpans
import Derived.Test.YtdlkdagmaeapdaaRead
import Derived.Deep.RegionHeld3
import Derived.Deep.DeepCutAuto
import Derived.Deep.CutBlock
import Derived.Deep.RegionLaw
import Derived.Maps.AppendAt
import Derived.BigQuiet
import Derived.BigRegion
namespace Go.Proofs.Ytdlkdagmaeapdaa
open Go.RowKit
set_option linter.unusedVariables false
set_option linter.unusedSimpArgs false
set_option maxRecDepth 100000

def encSp (x : Pc) : List Value := [.int .i64 x.1, .int .i64 x.2.1]
theorem encSp_len (x : Pc) : (encSp x).length = 2 := rfl
def kindsV (l : List Pc) : List Value := l.map fun x => .bool x.2.2
theorem kindsV_get {l : List Pc} {i : Nat} {x : Pc} (h : l[i]? = some x) : (kindsV l)[i]? = some (.bool x.2.2) := by unfold kindsV; rw [List.getElem?_map, h]; rfl

abbrev zlT (q : Nat) (a : Option Addr) (c : Nat) (a2 : Option Addr) (c2 n : Nat) (M : LgM) : Thing :=
  (blkT q [.int .i64 M.b, .slice a n c, .slice a2 n c2] 79).sep ((ownT 51 2 a n c (rowOf encSp M.L)).sep (ownT 4 1 a2 n c2 (kindsV M.L)))
/-- The document's ledger. -/
def zLT (q : Nat) (M : LgM) : Thing where
  at_ w W := ∃ a c a2 c2, (zlT q a c a2 c2 M.L.length M).at_ w W
  lt := by rintro w W ⟨a, c, a2, c2, h⟩; exact Thing.lt _ h
  keep := by rintro w w' W S ⟨a, c, a2, c2, h⟩ ht hs; exact ⟨a, c, a2, c2, Thing.keep _ h ht hs⟩

structure ZlRd (q : Nat) (a : Option Addr) (c : Nat) (a2 : Option Addr) (c2 n : Nat) (M : LgM) (w : World) : Prop where
  c0 : w.cell? ⟨q, 0, none⟩ = some (.int .i64 M.b)
  c1 : w.cell? ⟨q, 1, none⟩ = some (.slice a n c)
  c2 : w.cell? ⟨q, 2, none⟩ = some (.slice a2 n c2)
  row : ∀ (i : Nat) (x : Pc), M.L[i]? = some x → ∃ g g2, a = some ⟨g, 0, none⟩ ∧ a2 = some ⟨g2, 0, none⟩ ∧ w.cell? ⟨g, i * 2, none⟩ = some (.int .i64 x.1) ∧ w.cell? ⟨g, i * 2 + 1, none⟩ = some (.int .i64 x.2.1) ∧ w.cell? ⟨g2, i, none⟩ = some (.bool x.2.2)
section
variable {q : Nat} {a a2 : Option Addr} {c c2 n : Nat} {M : LgM} {w w' : World} {W : Nat → Prop}
theorem ZlRd.still (h : ZlRd q a c a2 c2 n M w) (ht : Still w w') : ZlRd q a c a2 c2 n M w' :=
  ⟨still_cell ht h.c0 rfl, still_cell ht h.c1 rfl, still_cell ht h.c2 rfl, fun i x hx => by
    obtain ⟨g, g2, e1, e2, h1, h2, h3⟩ := h.row i x hx
    exact ⟨g, g2, e1, e2, still_cell ht h1 rfl, still_cell ht h2 rfl, still_cell ht h3 rfl⟩⟩
theorem zlT_rd (hn : n = M.L.length) (h : (zlT q a c a2 c2 n M).at_ w W) : ZlRd q a c a2 c2 n M w := by
  obtain ⟨W1, W2, ⟨h1, _⟩, ⟨W3, W4, ⟨h3, _⟩, ⟨h4, _⟩, _⟩, _⟩ := h
  refine ⟨h1.cell rfl, h1.cell rfl, h1.cell rfl, fun i x hx => ?_⟩
  have hlt := (List.getElem?_eq_some_iff.1 hx).1
  obtain ⟨g, rfl⟩ := owm_addr h3 (by omega)
  obtain ⟨g2, rfl⟩ := owm_addr h4 (by omega)
  exact ⟨g, g2, rfl, rfl, (owm_cell h3 (rowOf_get encSp_len hx (j := 0) rfl)).1, (owm_cell h3 (rowOf_get encSp_len hx (j := 1) rfl)).1, (owm_cell h4 (kindsV_get hx)).1⟩
theorem zLT_rd (h : (zLT q M).at_ w W) : ∃ a c a2 c2, ZlRd q a c a2 c2 M.L.length M w := by
  obtain ⟨a, c, a2, c2, h⟩ := h
  exact ⟨a, c, a2, c2, zlT_rd rfl h⟩

set_option maxHeartbeats 1000000 in
theorem zlgend_rd (h : ZlRd q a c a2 c2 n M w) (hn : n = M.L.length) (hm : n ≤ 256) : Calls Try.prog 11 #[.pointer (some ⟨q, 0, none⟩)] w fun e w' => e = .returned (.int .i64 M.fin) ∧ Still w w' := by
  obtain ⟨x0, x1, x2, hrow⟩ := h
  by_cases h0 : M.L = []
  · obtain rfl : n = 0 := by rw [hn, h0]; rfl
    have hf : M.fin = M.b := by unfold LgM.fin; rw [h0]; rfl
    rw [hf]
    clear hrow hn h0 hf
    go_enter Try.func11, Try.ntmps11
    go_wp2_with fail
    go_ret
    exact ⟨rfl, Turned.refl _ _⟩
  · obtain ⟨l', x, hl⟩ := last_split h0
    have hf : M.fin = x.2.1 := by unfold LgM.fin; rw [hl, endF_app]; rfl
    have hl' : n = l'.length + 1 := by rw [hn, hl]; simp
    obtain ⟨g, g2, rfl, rfl, _, y1, _⟩ := hrow l'.length x (by rw [hl]; simp)
    rw [hf]
    generalize l'.length = k at *
    generalize x.2.1 = f at *
    subst hl'
    clear hrow hn h0 hf hl
    go_enter Try.func11, Try.ntmps11
    go_wp2_with fail
    go_quiet (fail)
    go_wp2_with fail
    go_ret
    exact ⟨rfl, (Turned.refl _ _).drewN _⟩
theorem zlgend_any (h : (zLT q M).at_ w W) (hM : M.Ok) : Calls Try.prog 11 #[.pointer (some ⟨q, 0, none⟩)] w fun e w' => e = .returned (.int .i64 M.fin) ∧ Still w w' := by
  obtain ⟨a, c, a2, c2, h⟩ := zLT_rd h
  exact zlgend_rd h rfl hM.len
end
end Go.Proofs.Ytdlkdagmaeapdaa
