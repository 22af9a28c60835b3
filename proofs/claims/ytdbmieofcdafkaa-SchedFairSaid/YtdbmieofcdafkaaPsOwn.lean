/- Slices of programs that a statement makes, one behind the other, as memory holds them. No condition. -/
import Derived.Test.YtdbmieofcdafkaaSwapper
import Derived.Test.YtdbmieofcdafkaaWorks02
import Derived.Test.YtdbmieofcdafkaaReadInts
namespace Go.Proofs.Ytdbmieofcdafkaa
open Go.RowKit
set_option linter.unusedVariables false
set_option linter.unusedSimpArgs false
set_option maxRecDepth 100000

theorem infoInstrs : (Try.prog.info? 59).map (fun i => (i.zero, i.size, i.bytes)) = some (some (.slice none 0 0), 1, 24) := by kernel_rfl

/-- A slice of programs that the statement has made so far. -/
structure PsOwn (B : Nat) (w : World) (ao : Option Addr) (cc : Nat) (pss : List (Sl Ins)) : Prop where
  own : w.ownsRow B 59 1 (.slice ao pss.length cc) pss.length (pss.map fun x => .slice x.a x.len x.cap)
  each : ∀ x ∈ pss, x.len = x.xs.length ∧ x.len ≤ 4611686018427 ∧ w.ownsRow B 70 4 (.slice x.a x.len x.cap) x.len (rowOf insEnc x.xs)

theorem own_row {α : Type} {enc : α → List Value} {m : Nat} (hm : ∀ a, (enc a).length = m) {w : World} {B : Nat} {e : TypeId} {n cc : Nat} {ao : Option Addr} {xs : List α} (h : w.ownsRow B e m (.slice ao n cc) n (rowOf enc xs)) (h0 : 0 < m) : RowAt enc m w ao xs := by
  intro i x hx
  rcases h.2 with ⟨e0, rfl⟩ | ⟨g, cap, cur, e0, _, hg, _, _, _, ht⟩
  · have := h.1
    rw [rowOf_length hm, Nat.zero_mul] at this
    have hi := get_lt hx
    have : xs.length * m ≠ 0 := Nat.ne_of_gt (Nat.mul_pos (by omega) h0)
    omega
  · obtain ⟨rfl, rfl⟩ : ao = some ⟨g, 0, none⟩ ∧ cc = cap := by simpa using e0
    refine ⟨g, 0, rfl, fun j v hv => ?_⟩
    have h1 := rowOf_get (m := m) hm hx hv
    rw [← ht, List.getElem?_take] at h1
    split at h1
    · have hb : Blk w g cur.toList e := hg
      rw [Nat.zero_add]
      exact hb.cell h1
    · cases h1

theorem own_le {w : World} {B : Nat} {e : TypeId} {m n cc : Nat} {ao : Option Addr} {xs : List Value} (h : w.ownsRow B e m (.slice ao n cc) n xs) : n ≤ cc ∧ (ao = none → n = 0 ∧ cc = 0) := by
  rcases h.2 with ⟨e0, rfl⟩ | ⟨g, cap, cur, e0, _, hg, h1, _, _, ht⟩
  · obtain ⟨rfl, _, rfl⟩ : ao = none ∧ True ∧ cc = 0 := by simpa using e0
    exact ⟨Nat.le_refl _, fun _ => ⟨rfl, rfl⟩⟩
  · obtain ⟨rfl, rfl⟩ : ao = some ⟨g, 0, none⟩ ∧ cc = cap := by simpa using e0
    exact ⟨h1, fun h => by cases h⟩

theorem map_rowOf {α : Type} (f : α → Value) (l : List α) : l.map f = rowOf (fun a => [f a]) l := by
  induction l with
  | nil => rfl
  | cons a l ih => rw [List.map_cons, rowOf_cons, ih]; rfl

theorem PsOwn.ok {B : Nat} {w : World} {ao : Option Addr} {cc : Nat} {pss : List (Sl Ins)} (h : PsOwn B w ao cc pss) : ProgsOk w ao pss.length pss := by
  refine ⟨rfl, ?_, fun x hx => ?_⟩
  · have h1 := h.own
    rw [map_rowOf] at h1
    exact own_row (m := 1) (enc := encSl) (fun _ => rfl) h1 (by omega)
  · obtain ⟨h1, h2, h3⟩ := h.each x hx
    have h4 := own_le h3
    exact ⟨h1.symm, h4.1, h2, h4.2, own_row (m := 4) insEnc_len h3 (by omega)⟩

theorem own_own_ne {w : World} {B B' : Nat} {e e' : TypeId} {m m' n n' : Nat} {v v' : Value} {xs ys : List Value} (h : w.ownsRow B e m v n xs) (h' : w.ownsRow B' e' m' v' n' ys) (hne : e ≠ e') : ∀ b, v.ownBlock = some b → ¬ (v'.ownBlock = some b) := by
  intro b hb hb'
  rcases h'.2 with ⟨rfl, _⟩ | ⟨g, cap, cur, rfl, _, hg, _⟩
  · simp [Value.ownBlock] at hb'
  · have : g = b := by simpa [Value.ownBlock] using hb'
    subst this
    have hbk : Blk w g cur.toList e' := hg
    exact own_ne h hbk hne hb

theorem PsOwn.still {B : Nat} {w w' : World} {ao : Option Addr} {cc : Nat} {pss : List (Sl Ins)} (h : PsOwn B w ao cc pss) (ht : Still w w') : PsOwn B w' ao cc pss :=
  ⟨own_turned h.own ht (fun _ _ h => h), fun x hx => by obtain ⟨h1, h2, h3⟩ := h.each x hx; exact ⟨h1, h2, own_turned h3 ht (fun _ _ h => h)⟩⟩

/-- One program more. -/
theorem PsOwn.snoc {B : Nat} {w w' : World} {ao a' : Option Addr} {cc c' : Nat} {pss : List (Sl Ins)} {x : Sl Ins} {o : Obj} (h : PsOwn B w ao cc pss) (hx : x.len = x.xs.length ∧ x.len ≤ 4611686018427 ∧ w.ownsRow B 70 4 (.slice x.a x.len x.cap) x.len (rowOf insEnc x.xs))
    (hg : (w.alloc o).grownBy w' (Value.slice ao pss.length cc).ownBlock) (hown : w'.ownsRow B 59 1 (.slice a' (pss.length + 1) c') (pss.length + 1) ((pss.map fun x => .slice x.a x.len x.cap) ++ [.slice x.a x.len x.cap])) : PsOwn B w' a' c' (pss ++ [x]) := by
  have hA : Still w (w.alloc o) := (Turned.refl _ w).alloc o
  have hG : Turned (fun b => (Value.slice ao pss.length cc).ownBlock = some b) (w.alloc o) w' := (Turned.refl _ _).grown hg (fun b e => .inl e)
  refine ⟨?_, fun y hy => ?_⟩
  · rw [List.map_append, List.length_append]; exact hown
  · have key : ∀ z : Sl Ins, w.ownsRow B 70 4 (.slice z.a z.len z.cap) z.len (rowOf insEnc z.xs) → w'.ownsRow B 70 4 (.slice z.a z.len z.cap) z.len (rowOf insEnc z.xs) := fun z hz => by
      have h1 := own_turned hz hA (fun _ _ h => h)
      exact own_turned h1 hG (own_own_ne h1 (own_turned h.own hA (fun _ _ h => h)) (by decide))
    rcases List.mem_append.1 hy with hy | hy
    · obtain ⟨h1, h2, h3⟩ := h.each y hy
      exact ⟨h1, h2, key y h3⟩
    · simp at hy; subst hy
      exact ⟨hx.1, hx.2.1, key _ hx.2.2⟩
end Go.Proofs.Ytdbmieofcdafkaa
