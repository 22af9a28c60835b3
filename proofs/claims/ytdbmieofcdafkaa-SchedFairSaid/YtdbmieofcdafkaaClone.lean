/- What slices.Clone makes of a program: a new row of the same instructions. No condition but that the slice reads as they do. -/
import Derived.Test.YtdbmieofcdafkaaSched
import Derived.Maps.AppendAt
import Derived.OwnWalk
namespace Go.Proofs.Ytdbmieofcdafkaa
open Go.RowKit
set_option linter.unusedVariables false
set_option maxRecDepth 100000

theorem infoInstr : (Try.prog.info? 70).map (fun i => (i.zero, i.size, i.bytes)) = some (some (.agg #[.int .i64 0, .int .i64 0, .int .i64 0, .int .i64 0]), 4, 32) := by kernel_rfl

/-- The cells of a program lie at the beginning of a block of instructions. -/
def PRow (w : World) (a : Option Addr) (p : List Ins) : Prop :=
  p ≠ [] → ∃ g cur, a = some ⟨g, 0, none⟩ ∧ w.heap[g]? = some (.cells cur 70 (0, 0)) ∧ ∀ (j : Nat) (v : Value), (rowOf insEnc p)[j]? = some v → cur[j]? = some v

structure ProgOk (w : World) (x : Sl Ins) : Prop where
  len : x.xs.length = x.len
  le : x.len ≤ x.cap
  max : x.len ≤ 4611686018427
  none : x.a = none → x.len = 0 ∧ x.cap = 0
  row : RowAt insEnc 4 w x.a x.xs

theorem PRow.turned {S : Nat → Prop} {w w' : World} {a : Option Addr} {p : List Ins} (h : PRow w a p) (ht : Turned S w w') (hs : p ≠ [] → ∀ x, a = some x → ¬ S x.block) : PRow w' a p := fun hne => by
  obtain ⟨g, cur, rfl, hg, hc⟩ := h hne
  exact ⟨g, cur, rfl, (ht.block g (Array.getElem?_eq_some_iff.1 hg).1 (hs hne ⟨g, 0, none⟩ rfl)).trans hg, hc⟩

theorem PRow.row {w : World} {a : Option Addr} {p : List Ins} (h : PRow w a p) : RowAt insEnc 4 w a p := by
  intro i x hx
  obtain ⟨g, cur, rfl, hg, hc⟩ := h (fun e => by subst e; simp at hx)
  refine ⟨g, 0, rfl, fun j v hv => ?_⟩
  have := hc (i * 4 + j) v (rowOf_get (m := 4) insEnc_len hx hv)
  simp [World.cell?, hg, this]

theorem rowOf_split {α : Type} {enc : α → List Value} {m : Nat} (hm : ∀ a, (enc a).length = m) (h0 : 0 < m) {l : List α} {t : Nat} {v : Value} (h : (rowOf enc l)[t]? = some v) :
    ∃ x, l[t / m]? = some x ∧ (enc x)[t % m]? = some v := by
  have ht : t < l.length * m := by rw [← rowOf_length hm]; exact get_lt h
  have hd : t / m < l.length := Nat.div_lt_of_lt_mul (by rw [Nat.mul_comm]; exact ht)
  obtain ⟨x, hx⟩ := get_some hd
  have hl : t % m < (enc x).length := by rw [hm]; exact Nat.mod_lt _ h0
  obtain ⟨u, hu⟩ := get_some hl
  have := rowOf_get (m := m) hm hx hu
  rw [Nat.mul_comm, Nat.div_add_mod, h] at this
  exact ⟨x, hx, by rw [hu]; exact this.symm⟩

theorem own_slice {w : World} {base : Nat} {e : TypeId} {size n : Nat} {v : Value} {xs : List Value} (h : w.ownsRow base e size v n xs) : ∃ ao cc, v = .slice ao n cc := by
  rcases h.2 with ⟨rfl, rfl⟩ | ⟨g, cp, cur, rfl, _⟩
  · exact ⟨none, 0, rfl⟩
  · exact ⟨_, _, rfl⟩

def ClonePost (w : World) (x : Sl Ins) (e : Ending) (w' : World) : Prop :=
  ∃ a c, e = .returned (.slice a x.len c) ∧ PRow w' a x.xs ∧ (x.xs ≠ [] → ∀ y, a = some y → w.heap.size ≤ y.block) ∧ Still w w'

theorem clone_any (w : World) (x : Sl Ins) (hx : ProgOk w x) (hmax : x.len ≤ 64) :
    Calls Try.prog 35 #[.slice x.a x.len x.cap] w (ClonePost w x) := by
  obtain ⟨a, len, cap, xs⟩ := x
  have hlen : xs.length = len := hx.len
  have hle : len ≤ cap := hx.le
  have hrow : RowAt insEnc 4 w a xs := hx.row
  have hnone : a = none → len = 0 ∧ cap = 0 := hx.none
  dsimp only at hmax ⊢
  clear hx
  obtain ⟨i0, hi, hz0, hz1, hz2⟩ := info_parts infoInstr
  cases a with
  | none =>
    obtain ⟨rfl, rfl⟩ := hnone rfl
    have he : ∀ W : World, (binOp .eql 59 (.slice none 0 0) (.slice none 0 0)).run Try.prog W = .ok (.bool true) W := fun _ => rfl
    obtain rfl : xs = [] := List.eq_nil_of_length_eq_zero hlen
    clear hrow hi hz0 hz1 hz2
    go_enter Try.func35, Try.ntmps35
    go_wp2
    go_ret
    exact ⟨none, 0, rfl, fun h => absurd rfl h, fun h => absurd rfl h, Turned.refl _ _⟩
  | some ad =>
    have he : ∀ W : World, (binOp .eql 59 (.slice (some ad) len cap) (.slice none 0 0)).run Try.prog W = .ok (.bool false) W := fun _ => rfl
    have HL := Lib.hid hlen
    have HR := Lib.hid hrow
    have hlt : 0 < len → ∃ b o, ad = ⟨b, o, none⟩ := fun h => by
      obtain ⟨z, hz⟩ := get_some (l := xs) (i := 0) (by omega)
      obtain ⟨b, o, e, _⟩ := hrow 0 z hz
      exact ⟨b, o, Option.some.inj e⟩
    have HA := Lib.hid hlt
    clear hlen hrow hnone hlt
    have hcells : ∀ j u, (rowOf insEnc xs)[j]? = some u → (w.alloc (.cells #[] 70)).cell? (ad.add j) = some u := by
      intro j u hj
      obtain ⟨z, hz, hv⟩ := rowOf_split insEnc_len (by omega) hj
      obtain ⟨b, o, rfl⟩ := HA.out (by have := get_lt hz; have := HL.out; omega)
      obtain ⟨b', o', e, hc⟩ := HR.out _ z hz
      cases e
      have := hc _ _ hv
      rw [Nat.mul_comm, Nat.div_add_mod] at this
      rw [Addr.add_lit]
      exact (World.cell?_alloc_lt w _ ⟨b, o + j, none⟩ (cell_lt this)).trans this
    have h1 : ∀ u ∈ rowOf insEnc xs, u.oneCell' = true := by
      intro u hu
      simp only [rowOf, List.mem_flatMap] at hu
      obtain ⟨z, _, hz⟩ := hu
      simp [insEnc] at hz
      rcases hz with rfl | rfl | rfl | rfl <;> rfl
    have HC := Lib.hid hcells
    have H1 := Lib.hid h1
    clear hcells h1
    go_enter Try.func35, Try.ntmps35
    go_wp2_with (at_builtin; refine wpList_append_own_at _ rfl _ _ 59 rfl w.heap.size 70 i0 (.agg #[.int .i64 0, .int .i64 0, .int .i64 0, .int .i64 0]) 4 32 Try.underlying59 hi hz0 hz1 hz2 rfl (by decide) _ _ _ rfl (World.ownsRow_made w #[] 0 (Nat.le_refl _) (by simp) (by simp)) ad len cap (rowOf insEnc xs) rfl (by rw [rowOf_length insEnc_len, HL.out]) HC.out H1.out (by unfold maxLen; omega) (by omega) (by simp) ?_; intro v' w1 hown hgrow hnil hat; obtain ⟨ao, cc, rfl⟩ := own_slice hown)
    go_ret
    refine ⟨ao, cc, by simp, fun hne => ?_, fun hne y hy => ?_, ?_⟩
    · rcases hown.2 with ⟨e0, h0⟩ | ⟨g, cp, cur, e0, _, hg, _, _, _, ht⟩
      · exact absurd (List.eq_nil_of_length_eq_zero (by rw [HL.out]; omega)) hne
      · cases e0
        refine ⟨g, cur, rfl, hg, fun j v hv => ?_⟩
        have hv' : (cur.toList.take ((0 + len) * 4))[j]? = some v := by rw [ht]; simpa using hv
        rw [List.getElem?_take] at hv'
        split at hv'
        · simpa using hv'
        · cases hv'
    · rcases hown.2 with ⟨e0, h0⟩ | ⟨g, cp, cur, e0, hg0, _⟩
      · exact absurd (List.eq_nil_of_length_eq_zero (by rw [HL.out]; omega)) hne
      · cases e0; cases hy; exact hg0
    · exact ((Turned.refl (fun _ => False) w).alloc _).grown hgrow (fun k e => .inr (by cases e; exact Nat.le_refl _))
end Go.Proofs.Ytdbmieofcdafkaa
