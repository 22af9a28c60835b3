/- What the data that a statement's arguments are read as says of memory: numbers, bools, strings, structs of these, slices of any of these. No condition. -/
import Derived.Test.YtdlkdagmaeapdaaKit
import Derived.ProofKit
import Derived.OpenShut
import Derived.ChangeOld
import Derived.ShutString
import Derived.Deep.Slices
namespace Go.Proofs.Ytdlkdagmaeapdaa
open Go.RowKit Go.ChangeShapes Go.WideShapes
set_option linter.unusedVariables false

/-- A type whose every reading is of cells that 'enc' tells, with what 'ok' says of memory. -/
def Rd (P : Program) (t : TypeId) {α : Type} (enc : α → List Value) (ok : World → α → Prop) : Prop :=
  ∀ (H : Type) (e : TypeId × Value → H) (w : World) (base : Nat) (spare : Nat → Bool) (held : Bool) (fuel : Nat) (cs : List Value) (x : DataW H × List MemPlace),
    DataW.trod e P w base spare held fuel t cs = some x → ∃ a, cs = enc a ∧ ok w a

/-- What stands as long as nothing that was there turns. -/
def Stays {α : Type} (ok : World → α → Prop) : Prop := ∀ w w' a, Still w w' → ok w a → ok w' a

def encI (n : Int) : List Value := [.int .i64 n]
def okI (k : IntKind) (_ : World) (n : Int) : Prop := (Lit.int k n).wf = true
theorem rd_int {P : Program} {t : TypeId} {k : IntKind} (ht : P.underlying t = some (.int k)) : Rd P t (fun n : Int => [.int k n]) (okI k) := by
  intro H e w base spare held fuel cs x h
  obtain ⟨n, h1, _, h3⟩ := DataW.trod_int ht h
  exact ⟨n, h1, h3⟩
theorem okI_stays (k : IntKind) : Stays (okI k) := fun _ _ _ _ h => h

def okS (_ : World) (s : ByteArray) : Prop := s.size ≤ maxLen
theorem rd_string {P : Program} {t : TypeId} (ht : P.underlying t = some .string) : Rd P t (fun s : ByteArray => [.string s]) okS := by
  intro H e w base spare held fuel cs x h
  obtain ⟨s, h1, _, h3⟩ := DataW.trod_string ht h
  exact ⟨s, h1, h3⟩
theorem okS_stays : Stays okS := fun _ _ _ _ h => h

theorem drop_split {α : Type} (l : List α) (a b : Nat) : (l.drop a).take b ++ l.drop (a + b) = l.drop a := by
  have : l.drop (a + b) = (l.drop a).drop b := by rw [List.drop_drop]
  rw [this, List.take_append_drop]

theorem rd_struct2 {P : Program} {t : TypeId} {f0 f1 : Field} {α β : Type} {e0 : α → List Value} {e1 : β → List Value} {k0 : World → α → Prop} {k1 : World → β → Prop} {m0 m1 : Nat}
    (ht : P.underlying t = some (.struct #[f0, f1])) (hc : P.cellsOf t = m0 + m1) (hc0 : P.cellsOf f0.type = m0) (hc1 : P.cellsOf f1.type = m1)
    (ho0 : f0.offset = 0) (ho1 : f1.offset = m0) (h0 : Rd P f0.type e0 k0) (h1 : Rd P f1.type e1 k1) :
    Rd P t (fun a : α × β => e0 a.1 ++ e1 a.2) (fun w a => k0 w a.1 ∧ k1 w a.2) := by
  intro H e w base spare held fuel cs x h
  obtain ⟨xs, n, _, _, hl, hlen, hf⟩ := DataW.trod_struct ht h
  match xs, hlen with
  | [y0, y1], _ =>
    have g0 := hf 0 f0 rfl
    have g1 := hf 1 f1 rfl
    obtain ⟨a, ha, ka⟩ := h0 H e w base spare held n _ _ g0
    obtain ⟨b, hb, kb⟩ := h1 H e w base spare held n _ _ g1
    refine ⟨(a, b), ?_, ka, kb⟩
    rw [hc0, ho0, List.drop_zero] at ha
    rw [hc1, ho1] at hb
    show cs = e0 a ++ e1 b
    rw [← ha, ← hb, List.take_of_length_le (l := cs.drop m0) (by rw [List.length_drop]; omega), List.take_append_drop]

theorem rd_struct4 {P : Program} {t : TypeId} {f0 f1 f2 f3 : Field} {α β γ δ : Type} {e0 : α → List Value} {e1 : β → List Value} {e2 : γ → List Value} {e3 : δ → List Value}
    {k0 : World → α → Prop} {k1 : World → β → Prop} {k2 : World → γ → Prop} {k3 : World → δ → Prop} {m0 m1 m2 m3 : Nat}
    (ht : P.underlying t = some (.struct #[f0, f1, f2, f3])) (hc : P.cellsOf t = m0 + m1 + m2 + m3) (hc0 : P.cellsOf f0.type = m0) (hc1 : P.cellsOf f1.type = m1) (hc2 : P.cellsOf f2.type = m2) (hc3 : P.cellsOf f3.type = m3)
    (ho0 : f0.offset = 0) (ho1 : f1.offset = m0) (ho2 : f2.offset = m0 + m1) (ho3 : f3.offset = m0 + m1 + m2)
    (h0 : Rd P f0.type e0 k0) (h1 : Rd P f1.type e1 k1) (h2 : Rd P f2.type e2 k2) (h3 : Rd P f3.type e3 k3) :
    Rd P t (fun a : α × β × γ × δ => e0 a.1 ++ e1 a.2.1 ++ e2 a.2.2.1 ++ e3 a.2.2.2) (fun w a => k0 w a.1 ∧ k1 w a.2.1 ∧ k2 w a.2.2.1 ∧ k3 w a.2.2.2) := by
  intro H e w base spare held fuel cs x h
  obtain ⟨xs, n, _, _, hl, hlen, hf⟩ := DataW.trod_struct ht h
  match xs, hlen with
  | [y0, y1, y2, y3], _ =>
    obtain ⟨a, ha, ka⟩ := h0 H e w base spare held n _ _ (hf 0 f0 rfl)
    obtain ⟨b, hb, kb⟩ := h1 H e w base spare held n _ _ (hf 1 f1 rfl)
    obtain ⟨c, hcc, kc⟩ := h2 H e w base spare held n _ _ (hf 2 f2 rfl)
    obtain ⟨d, hd, kd⟩ := h3 H e w base spare held n _ _ (hf 3 f3 rfl)
    refine ⟨(a, b, c, d), ?_, ka, kb, kc, kd⟩
    rw [hc0, ho0, List.drop_zero] at ha
    rw [hc1, ho1] at hb
    rw [hc2, ho2] at hcc
    rw [hc3, ho3] at hd
    show cs = e0 a ++ e1 b ++ e2 c ++ e3 d
    rw [← ha, ← hb, ← hcc, ← hd, List.take_of_length_le (l := cs.drop (m0 + m1 + m2)) (by rw [List.length_drop]; omega)]
    rw [List.append_assoc, drop_split, List.append_assoc, drop_split, List.take_append_drop]

theorem still_cell {w w' : World} (hT : Still w w') {b o o' : Nat} {v : Value} (h : w.cell? ⟨b, o, none⟩ = some v) (e : o' = o) : w'.cell? ⟨b, o', none⟩ = some v := by
  subst e; rw [hT.cell (p := ⟨b, o', none⟩) (cell_lt h) (fun h => h)]; exact h

/-- A slice that was read: where it lies, its length and capacity, its elements. -/
structure Sl (α : Type) where
  a : Option Addr
  len : Nat
  cap : Nat
  xs : List α

def encSl {α : Type} (s : Sl α) : List Value := [.slice s.a s.len s.cap]

/-- Its elements' cells lie one behind the other. -/
def RowAt {α : Type} (enc : α → List Value) (m : Nat) (w : World) (a : Option Addr) (xs : List α) : Prop :=
  ∀ i x, xs[i]? = some x → ∃ b o, a = some ⟨b, o, none⟩ ∧ ∀ j v, (enc x)[j]? = some v → w.cell? ⟨b, o + (i * m + j), none⟩ = some v

structure SlOk {α : Type} (enc : α → List Value) (ok : World → α → Prop) (m : Nat) (w : World) (s : Sl α) : Prop where
  len : s.xs.length = s.len
  le : s.len ≤ s.cap
  max : s.cap ≤ maxLen
  none : s.a = none → s.len = 0 ∧ s.cap = 0
  row : RowAt enc m w s.a s.xs
  each : ∀ x ∈ s.xs, ok w x

theorem RowAt.stays {α : Type} {enc : α → List Value} {m : Nat} {w w' : World} {a : Option Addr} {xs : List α} (h : RowAt enc m w a xs) (ht : Still w w') : RowAt enc m w' a xs := by
  intro i x hx
  obtain ⟨b, o, rfl, hc⟩ := h i x hx
  refine ⟨b, o, rfl, fun j v hv => ?_⟩
  rw [ht.cell (p := ⟨b, o + (i * m + j), none⟩) (cell_lt (hc j v hv)) (fun h => h)]
  exact hc j v hv

theorem SlOk.stays {α : Type} {enc : α → List Value} {ok : World → α → Prop} {m : Nat} (hk : Stays ok) : Stays (SlOk enc ok m) := fun w w' s ht h =>
  ⟨h.len, h.le, h.max, h.none, h.row.stays ht, fun x hx => hk w w' x ht (h.each x hx)⟩

theorem cells_get {w : World} {base : Nat} {a : Addr} {n : Nat} {cs : List Value} (h : w.cells? base a n = some cs) (j : Nat) (v : Value) (hv : cs[j]? = some v) : w.cell? (a.add j) = some v := by
  unfold World.cells? at h
  split at h
  · have hl : cs.length = n := by simpa using mapM_some_length h
    have hj : j < n := by rw [← hl]; exact (List.getElem?_eq_some_iff.1 hv).1
    have := mapM_some_get h j j (by simp [hj])
    rw [this, hv]
  · cases h

theorem rd_slice {P : Program} {t e : TypeId} {α : Type} {enc : α → List Value} {ok : World → α → Prop} {m : Nat} (ht : P.underlying t = some (.slice e)) (hc : P.cellsOf e = m) (h0 : 0 < m)
    (hm : ∀ a, (enc a).length = m) (hE : Rd P e enc ok) : Rd P t encSl (SlOk enc ok m) := by
  intro H en w base spare held fuel cs x h
  rcases Go.Deep.open_slice ht h with ⟨rfl, _⟩ | ⟨a, len, cap, q, n, D, Pl, rfl, hb, hl, hmx, hq, _, hx⟩
  · exact ⟨⟨none, 0, 0, []⟩, rfl, rfl, Nat.le_refl _, Nat.zero_le _, fun _ => ⟨rfl, rfl⟩, fun i x hx => by simp at hx, fun x hx => by simp at hx⟩
  · have hlq : len ≤ q := by rw [hq]; split <;> omega
    have key : ∀ i, i < len → ∃ y, ok w y ∧ ∀ j v, (enc y)[j]? = some v → w.cell? (a.add (i * m + j)) = some v := by
      intro i hi
      obtain ⟨cs', h1, h2⟩ := hx i (by omega)
      obtain ⟨y, rfl, hk⟩ := hE H en w base spare held n _ _ h2
      refine ⟨y, hk, fun j v hv => ?_⟩
      rw [hc] at h1
      have := cells_get h1 j v hv
      rwa [Go.Deep.add_add] at this
    have key2 : ∃ xs : List α, xs.length = len ∧ ∀ i y, xs[i]? = some y → ok w y ∧ ∀ j v, (enc y)[j]? = some v → w.cell? (a.add (i * m + j)) = some v := by
      clear hx hlq hq hl
      revert key
      generalize hN : len = N
      intro key
      clear hN
      induction N with
      | zero => exact ⟨[], rfl, fun i y hy => by simp at hy⟩
      | succ N ih =>
        obtain ⟨xs, hxl, hxs⟩ := ih (fun i hi => key i (by omega))
        obtain ⟨y, hy⟩ := key N (by omega)
        refine ⟨xs ++ [y], by simp [hxl], fun i z hz => ?_⟩
        by_cases hi : i < N
        · rw [List.getElem?_append_left (by omega)] at hz
          exact hxs i z hz
        · have hi2 : i = N := by
            have := (List.getElem?_eq_some_iff.1 hz).1
            simp [hxl] at this
            omega
          subst hi2
          rw [List.getElem?_append_right (by omega), hxl, Nat.sub_self] at hz
          simp at hz
          subst hz
          exact hy
    obtain ⟨xs, hxl, hxs⟩ := key2
    refine ⟨⟨some a, len, cap, xs⟩, rfl, hxl, hl, hmx, (fun h => by cases h), fun i y hy => ?_, fun y hy => ?_⟩
    · obtain ⟨b, o, sp⟩ := a
      cases sp with
      | none =>
        refine ⟨b, o, rfl, fun j v hv => ?_⟩
        have := (hxs i y hy).2 j v hv
        rwa [Addr.add_lit] at this
      | some sp =>
        exfalso
        have hp : 0 < xs.length := Nat.lt_of_le_of_lt (Nat.zero_le _) (List.getElem?_eq_some_iff.1 hy).1
        obtain ⟨z, hz⟩ := get_some (l := xs) hp
        have hzl : 0 < (enc z).length := by rw [hm]; exact h0
        obtain ⟨v, hv⟩ := get_some (l := enc z) hzl
        have := (hxs 0 z hz).2 0 v hv
        rw [Nat.zero_mul, Nat.zero_add, show (⟨b, o, some sp⟩ : Addr).add 0 = ⟨b, o, some sp⟩ from rfl, World.cell?] at this
        split at this <;> simp at this
    · obtain ⟨i, hi⟩ := List.getElem?_of_mem hy
      exact (hxs i y hi).1

/-- An argument that is a slice. -/
theorem rd_arg {P : Program} {t : TypeId} {α : Type} {enc : α → List Value} {ok : World → α → Prop} {H : Type} {e : TypeId × Value → H} {w : World} {base : Nat} {spare : Nat → Bool} {held : Bool} {v : Value} {d : DataW H} {ps : List MemPlace}
    (hR : Rd P t enc ok) (h : DataW.Trod e P w base spare held t v d ps) : ∃ a, v.cells.toList = enc a ∧ ok w a := by
  obtain ⟨fuel, hf⟩ := h
  exact hR _ _ _ _ _ _ _ _ _ hf

theorem rd_arg_slice {P : Program} {t : TypeId} {α : Type} {ok : World → Sl α → Prop} {H : Type} {e : TypeId × Value → H} {w : World} {base : Nat} {spare : Nat → Bool} {held : Bool} {a : Option Addr} {len cap : Nat} {d : DataW H} {ps : List MemPlace}
    (hR : Rd P t encSl ok) (h : DataW.Trod e P w base spare held t (.slice a len cap) d ps) : ∃ xs, ok w ⟨a, len, cap, xs⟩ := by
  obtain ⟨s, hs, hk⟩ := rd_arg hR h
  obtain ⟨a', l', c', xs⟩ := s
  simp [Value.cells, encSl] at hs
  obtain ⟨rfl, rfl, rfl⟩ := hs
  exact ⟨xs, hk⟩

end Go.Proofs.Ytdlkdagmaeapdaa
