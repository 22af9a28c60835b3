/- Texts that lie next to one another, laid into one: each says what it holds. No condition but what each states. -/
import Derived.Test.YtmmkcfiecgpkpaaGreatBxKit
import Derived.ProofKit
import Derived.OpenShut
import Derived.ChangeOld
import Derived.ShutString
import Derived.Deep.Slices
import Derived.Test.YtmmkcfiecgpkpaaGreatRows
import Derived.BigQuiet
import Derived.Laws.BytesArg
import Derived.Laws.IdiomStrings
import Derived.Laws.BitsAllLaws
import Derived.Maps.AppendAt
import Derived.OwnWalk
import Derived.Laws.AppendOwnNone
import Derived.Test.YtmmkcfiecgpkpaaGreatBxBase

/- What the data that a statement's arguments are read as says of memory: numbers, bools, strings, structs of these, slices of any of these. No condition. -/
namespace Go.Proofs.YtmmkcfiecgpkpaaGreat
open Go.RowKit Go.ChangeShapes Go.WideShapes
set_option linter.unusedVariables false

/-- A type whose every reading is of cells that 'enc' tells, with what 'ok' says of memory. -/
def Rd (P : Program) (t : TypeId) {α : Type} (enc : α → List Value) (ok : World → α → Prop) : Prop :=
  ∀ (H : Type) (e : TypeId × Value → H) (w : World) (base : Nat) (spare : Nat → Bool) (held : Bool) (fuel : Nat) (cs : List Value) (x : DataW H × List MemPlace),
    DataW.trod e P w base spare held fuel t cs = some x → ∃ a, cs = enc a ∧ ok w a

/-- What stands as long as nothing that was there turns. -/
def Stays {α : Type} (ok : World → α → Prop) : Prop := ∀ w w' a, Still w w' → ok w a → ok w' a

def encI (n : Int) : List Value := [.int .i64 n]
def okI (k : IntKind) (_ : World) (n : Int) : Prop := (Lit.int k n).wf = true
theorem rd_int {P : Program} {t : TypeId} {k : IntKind} (ht : P.underlying t = some (.int k)) : Rd P t (fun n : Int => [.int k n]) (okI k) := by
  intro H e w base spare held fuel cs x h
  obtain ⟨n, h1, _, h3⟩ := DataW.trod_int ht h
  exact ⟨n, h1, h3⟩
theorem okI_stays (k : IntKind) : Stays (okI k) := fun _ _ _ _ h => h

def okS (_ : World) (s : ByteArray) : Prop := s.size ≤ maxLen
theorem rd_string {P : Program} {t : TypeId} (ht : P.underlying t = some .string) : Rd P t (fun s : ByteArray => [.string s]) okS := by
  intro H e w base spare held fuel cs x h
  obtain ⟨s, h1, _, h3⟩ := DataW.trod_string ht h
  exact ⟨s, h1, h3⟩
theorem okS_stays : Stays okS := fun _ _ _ _ h => h

theorem drop_split {α : Type} (l : List α) (a b : Nat) : (l.drop a).take b ++ l.drop (a + b) = l.drop a := by
  have : l.drop (a + b) = (l.drop a).drop b := by rw [List.drop_drop]
  rw [this, List.take_append_drop]

theorem rd_struct2 {P : Program} {t : TypeId} {f0 f1 : Field} {α β : Type} {e0 : α → List Value} {e1 : β → List Value} {k0 : World → α → Prop} {k1 : World → β → Prop} {m0 m1 : Nat}
    (ht : P.underlying t = some (.struct #[f0, f1])) (hc : P.cellsOf t = m0 + m1) (hc0 : P.cellsOf f0.type = m0) (hc1 : P.cellsOf f1.type = m1)
    (ho0 : f0.offset = 0) (ho1 : f1.offset = m0) (h0 : Rd P f0.type e0 k0) (h1 : Rd P f1.type e1 k1) :
    Rd P t (fun a : α × β => e0 a.1 ++ e1 a.2) (fun w a => k0 w a.1 ∧ k1 w a.2) := by
  intro H e w base spare held fuel cs x h
  obtain ⟨xs, n, _, _, hl, hlen, hf⟩ := DataW.trod_struct ht h
  match xs, hlen with
  | [y0, y1], _ =>
    have g0 := hf 0 f0 rfl
    have g1 := hf 1 f1 rfl
    obtain ⟨a, ha, ka⟩ := h0 H e w base spare held n _ _ g0
    obtain ⟨b, hb, kb⟩ := h1 H e w base spare held n _ _ g1
    refine ⟨(a, b), ?_, ka, kb⟩
    rw [hc0, ho0, List.drop_zero] at ha
    rw [hc1, ho1] at hb
    show cs = e0 a ++ e1 b
    rw [← ha, ← hb, List.take_of_length_le (l := cs.drop m0) (by rw [List.length_drop]; omega), List.take_append_drop]

theorem rd_struct4 {P : Program} {t : TypeId} {f0 f1 f2 f3 : Field} {α β γ δ : Type} {e0 : α → List Value} {e1 : β → List Value} {e2 : γ → List Value} {e3 : δ → List Value}
    {k0 : World → α → Prop} {k1 : World → β → Prop} {k2 : World → γ → Prop} {k3 : World → δ → Prop} {m0 m1 m2 m3 : Nat}
    (ht : P.underlying t = some (.struct #[f0, f1, f2, f3])) (hc : P.cellsOf t = m0 + m1 + m2 + m3) (hc0 : P.cellsOf f0.type = m0) (hc1 : P.cellsOf f1.type = m1) (hc2 : P.cellsOf f2.type = m2) (hc3 : P.cellsOf f3.type = m3)
    (ho0 : f0.offset = 0) (ho1 : f1.offset = m0) (ho2 : f2.offset = m0 + m1) (ho3 : f3.offset = m0 + m1 + m2)
    (h0 : Rd P f0.type e0 k0) (h1 : Rd P f1.type e1 k1) (h2 : Rd P f2.type e2 k2) (h3 : Rd P f3.type e3 k3) :
    Rd P t (fun a : α × β × γ × δ => e0 a.1 ++ e1 a.2.1 ++ e2 a.2.2.1 ++ e3 a.2.2.2) (fun w a => k0 w a.1 ∧ k1 w a.2.1 ∧ k2 w a.2.2.1 ∧ k3 w a.2.2.2) := by
  intro H e w base spare held fuel cs x h
  obtain ⟨xs, n, _, _, hl, hlen, hf⟩ := DataW.trod_struct ht h
  match xs, hlen with
  | [y0, y1, y2, y3], _ =>
    obtain ⟨a, ha, ka⟩ := h0 H e w base spare held n _ _ (hf 0 f0 rfl)
    obtain ⟨b, hb, kb⟩ := h1 H e w base spare held n _ _ (hf 1 f1 rfl)
    obtain ⟨c, hcc, kc⟩ := h2 H e w base spare held n _ _ (hf 2 f2 rfl)
    obtain ⟨d, hd, kd⟩ := h3 H e w base spare held n _ _ (hf 3 f3 rfl)
    refine ⟨(a, b, c, d), ?_, ka, kb, kc, kd⟩
    rw [hc0, ho0, List.drop_zero] at ha
    rw [hc1, ho1] at hb
    rw [hc2, ho2] at hcc
    rw [hc3, ho3] at hd
    show cs = e0 a ++ e1 b ++ e2 c ++ e3 d
    rw [← ha, ← hb, ← hcc, ← hd, List.take_of_length_le (l := cs.drop (m0 + m1 + m2)) (by rw [List.length_drop]; omega)]
    rw [List.append_assoc, drop_split, List.append_assoc, drop_split, List.take_append_drop]

theorem still_cell {w w' : World} (hT : Still w w') {b o o' : Nat} {v : Value} (h : w.cell? ⟨b, o, none⟩ = some v) (e : o' = o) : w'.cell? ⟨b, o', none⟩ = some v := by
  subst e; rw [hT.cell (p := ⟨b, o', none⟩) (cell_lt h) (fun h => h)]; exact h

/-- A slice that was read: where it lies, its length and capacity, its elements. -/
structure Sl (α : Type) where
  a : Option Addr
  len : Nat
  cap : Nat
  xs : List α

def encSl {α : Type} (s : Sl α) : List Value := [.slice s.a s.len s.cap]

/-- Its elements' cells lie one behind the other. -/
def RowAt {α : Type} (enc : α → List Value) (m : Nat) (w : World) (a : Option Addr) (xs : List α) : Prop :=
  ∀ i x, xs[i]? = some x → ∃ b o, a = some ⟨b, o, none⟩ ∧ ∀ j v, (enc x)[j]? = some v → w.cell? ⟨b, o + (i * m + j), none⟩ = some v

structure SlOk {α : Type} (enc : α → List Value) (ok : World → α → Prop) (m : Nat) (w : World) (s : Sl α) : Prop where
  len : s.xs.length = s.len
  le : s.len ≤ s.cap
  max : s.cap ≤ maxLen
  none : s.a = none → s.len = 0 ∧ s.cap = 0
  row : RowAt enc m w s.a s.xs
  each : ∀ x ∈ s.xs, ok w x

theorem RowAt.stays {α : Type} {enc : α → List Value} {m : Nat} {w w' : World} {a : Option Addr} {xs : List α} (h : RowAt enc m w a xs) (ht : Still w w') : RowAt enc m w' a xs := by
  intro i x hx
  obtain ⟨b, o, rfl, hc⟩ := h i x hx
  refine ⟨b, o, rfl, fun j v hv => ?_⟩
  rw [ht.cell (p := ⟨b, o + (i * m + j), none⟩) (cell_lt (hc j v hv)) (fun h => h)]
  exact hc j v hv

theorem SlOk.stays {α : Type} {enc : α → List Value} {ok : World → α → Prop} {m : Nat} (hk : Stays ok) : Stays (SlOk enc ok m) := fun w w' s ht h =>
  ⟨h.len, h.le, h.max, h.none, h.row.stays ht, fun x hx => hk w w' x ht (h.each x hx)⟩

theorem cells_get {w : World} {base : Nat} {a : Addr} {n : Nat} {cs : List Value} (h : w.cells? base a n = some cs) (j : Nat) (v : Value) (hv : cs[j]? = some v) : w.cell? (a.add j) = some v := by
  unfold World.cells? at h
  split at h
  · have hl : cs.length = n := by simpa using mapM_some_length h
    have hj : j < n := by rw [← hl]; exact (List.getElem?_eq_some_iff.1 hv).1
    have := mapM_some_get h j j (by simp [hj])
    rw [this, hv]
  · cases h

theorem rd_slice {P : Program} {t e : TypeId} {α : Type} {enc : α → List Value} {ok : World → α → Prop} {m : Nat} (ht : P.underlying t = some (.slice e)) (hc : P.cellsOf e = m) (h0 : 0 < m)
    (hm : ∀ a, (enc a).length = m) (hE : Rd P e enc ok) : Rd P t encSl (SlOk enc ok m) := by
  intro H en w base spare held fuel cs x h
  rcases Go.Deep.open_slice ht h with ⟨rfl, _⟩ | ⟨a, len, cap, q, n, D, Pl, rfl, hb, hl, hmx, hq, _, hx⟩
  · exact ⟨⟨none, 0, 0, []⟩, rfl, rfl, Nat.le_refl _, Nat.zero_le _, fun _ => ⟨rfl, rfl⟩, fun i x hx => by simp at hx, fun x hx => by simp at hx⟩
  · have hlq : len ≤ q := by rw [hq]; split <;> omega
    have key : ∀ i, i < len → ∃ y, ok w y ∧ ∀ j v, (enc y)[j]? = some v → w.cell? (a.add (i * m + j)) = some v := by
      intro i hi
      obtain ⟨cs', h1, h2⟩ := hx i (by omega)
      obtain ⟨y, rfl, hk⟩ := hE H en w base spare held n _ _ h2
      refine ⟨y, hk, fun j v hv => ?_⟩
      rw [hc] at h1
      have := cells_get h1 j v hv
      rwa [Go.Deep.add_add] at this
    have key2 : ∃ xs : List α, xs.length = len ∧ ∀ i y, xs[i]? = some y → ok w y ∧ ∀ j v, (enc y)[j]? = some v → w.cell? (a.add (i * m + j)) = some v := by
      clear hx hlq hq hl
      revert key
      generalize hN : len = N
      intro key
      clear hN
      induction N with
      | zero => exact ⟨[], rfl, fun i y hy => by simp at hy⟩
      | succ N ih =>
        obtain ⟨xs, hxl, hxs⟩ := ih (fun i hi => key i (by omega))
        obtain ⟨y, hy⟩ := key N (by omega)
        refine ⟨xs ++ [y], by simp [hxl], fun i z hz => ?_⟩
        by_cases hi : i < N
        · rw [List.getElem?_append_left (by omega)] at hz
          exact hxs i z hz
        · have hi2 : i = N := by
            have := (List.getElem?_eq_some_iff.1 hz).1
            simp [hxl] at this
            omega
          subst hi2
          rw [List.getElem?_append_right (by omega), hxl, Nat.sub_self] at hz
          simp at hz
          subst hz
          exact hy
    obtain ⟨xs, hxl, hxs⟩ := key2
    refine ⟨⟨some a, len, cap, xs⟩, rfl, hxl, hl, hmx, (fun h => by cases h), fun i y hy => ?_, fun y hy => ?_⟩
    · obtain ⟨b, o, sp⟩ := a
      cases sp with
      | none =>
        refine ⟨b, o, rfl, fun j v hv => ?_⟩
        have := (hxs i y hy).2 j v hv
        rwa [Addr.add_lit] at this
      | some sp =>
        exfalso
        have hp : 0 < xs.length := Nat.lt_of_le_of_lt (Nat.zero_le _) (List.getElem?_eq_some_iff.1 hy).1
        obtain ⟨z, hz⟩ := get_some (l := xs) hp
        have hzl : 0 < (enc z).length := by rw [hm]; exact h0
        obtain ⟨v, hv⟩ := get_some (l := enc z) hzl
        have := (hxs 0 z hz).2 0 v hv
        rw [Nat.zero_mul, Nat.zero_add, show (⟨b, o, some sp⟩ : Addr).add 0 = ⟨b, o, some sp⟩ from rfl, World.cell?] at this
        split at this <;> simp at this
    · obtain ⟨i, hi⟩ := List.getElem?_of_mem hy
      exact (hxs i y hi).1

/-- An argument that is a slice. -/
theorem rd_arg {P : Program} {t : TypeId} {α : Type} {enc : α → List Value} {ok : World → α → Prop} {H : Type} {e : TypeId × Value → H} {w : World} {base : Nat} {spare : Nat → Bool} {held : Bool} {v : Value} {d : DataW H} {ps : List MemPlace}
    (hR : Rd P t enc ok) (h : DataW.Trod e P w base spare held t v d ps) : ∃ a, v.cells.toList = enc a ∧ ok w a := by
  obtain ⟨fuel, hf⟩ := h
  exact hR _ _ _ _ _ _ _ _ _ hf

theorem rd_arg_slice {P : Program} {t : TypeId} {α : Type} {ok : World → Sl α → Prop} {H : Type} {e : TypeId × Value → H} {w : World} {base : Nat} {spare : Nat → Bool} {held : Bool} {a : Option Addr} {len cap : Nat} {d : DataW H} {ps : List MemPlace}
    (hR : Rd P t encSl ok) (h : DataW.Trod e P w base spare held t (.slice a len cap) d ps) : ∃ xs, ok w ⟨a, len, cap, xs⟩ := by
  obtain ⟨s, hs, hk⟩ := rd_arg hR h
  obtain ⟨a', l', c', xs⟩ := s
  simp [Value.cells, encSl] at hs
  obtain ⟨rfl, rfl, rfl⟩ := hs
  exact ⟨xs, hk⟩

end Go.Proofs.YtmmkcfiecgpkpaaGreat

/- Rows of bytes: what a slice's cells hold, as bytes and as text; slices of bytes as arguments; a copy of one's own. No condition. -/
namespace Go.Proofs.YtmmkcfiecgpkpaaGreat
open Go.RowKit
set_option linter.unusedVariables false
set_option maxRecDepth 100000

def encB (x : UInt8) : List Value := [.int .u8 (x.toNat : Int)]
def okB (_ : World) (_ : UInt8) : Prop := True
theorem cellsByte : Tryz.prog.cellsOf 5 = 1 := by kernel_rfl
theorem rdByte : Rd Tryz.prog 5 encB okB := by
  intro H e w base spare held fuel cs x hx
  obtain ⟨n, rfl, hn⟩ := rd_int (P := Tryz.prog) Tryz.underlying5 H e w base spare held fuel cs x hx
  have h2 : 0 ≤ n ∧ n < 256 := by
    have : (Lit.int .u8 n).wf = true := hn
    simp [Lit.wf, IntKind.min, IntKind.max, IntKind.signed, IntKind.bits] at this
    omega
  refine ⟨UInt8.ofNat n.toNat, ?_, trivial⟩
  simp only [encB, UInt8.toNat_ofNat']
  rw [Nat.mod_eq_of_lt (by omega), Int.toNat_of_nonneg h2.1]
theorem rdBytes : Rd Tryz.prog 35 encSl (SlOk encB okB 1) := rd_slice Tryz.underlying35 cellsByte (by omega) (fun _ => rfl) rdByte

/-- The bytes that a slice's cells hold. -/
def BytesAt (w : World) (ao : Option Addr) (l : List UInt8) : Prop := ∀ i x, l[i]? = some x → ∃ b o, ao = some ⟨b, o, none⟩ ∧ w.cell? ⟨b, o + i, none⟩ = some (.int .u8 (x.toNat : Int))

def byt (l : List UInt8) : List Value := l.map fun x => .int .u8 (x.toNat : Int)
theorem byt_get {l : List UInt8} {i : Nat} {x : UInt8} (h : l[i]? = some x) : (byt l)[i]? = some (.int .u8 (x.toNat : Int)) := by simp [byt, h]
theorem byt_length (l : List UInt8) : (byt l).length = l.length := by simp [byt]
theorem byt_one (l : List UInt8) : ∀ u ∈ byt l, u.oneCell' = true := by
  intro u hu
  simp only [byt, List.mem_map] at hu
  obtain ⟨x, _, rfl⟩ := hu
  rfl

theorem BytesAt.nil (w : World) (ao : Option Addr) : BytesAt w ao [] := fun i x h => by simp at h
theorem BytesAt.drewN {w : World} {ao : Option Addr} {l : List UInt8} (h : BytesAt w ao l) (n : Nat) : BytesAt (w.drewN n) ao l := h
theorem BytesAt.turned {S : Nat → Prop} {w w' : World} {ao : Option Addr} {l : List UInt8} (h : BytesAt w ao l) (ht : Turned S w w') (hs : ∀ a, ao = some a → ¬ S a.block) : BytesAt w' ao l := fun i x hx => by
  obtain ⟨b, o, rfl, hc⟩ := h i x hx
  exact ⟨b, o, rfl, by rw [ht.cell (p := ⟨b, o + i, none⟩) (cell_lt hc) (hs ⟨b, o, none⟩ rfl)]; exact hc⟩
theorem BytesAt.still {w w' : World} {ao : Option Addr} {l : List UInt8} (h : BytesAt w ao l) (ht : Still w w') : BytesAt w' ao l := h.turned ht (fun _ _ hs => hs)
theorem BytesAt.take {w : World} {ao : Option Addr} {l : List UInt8} (h : BytesAt w ao l) (n : Nat) : BytesAt w ao (l.take n) := fun i x hx => by
  rw [List.getElem?_take] at hx
  split at hx
  · exact h i x hx
  · cases hx
theorem BytesAt.of_row {w : World} {a : Option Addr} {l : List UInt8} (h : RowAt encB 1 w a l) : BytesAt w a l := by
  intro i x hx
  obtain ⟨b, o, rfl, hc⟩ := h i x hx
  exact ⟨b, o, rfl, by simpa using hc 0 _ rfl⟩
theorem BytesAt.of_blk {w : World} {b : Nat} {l : List UInt8} {r : List Value} {e : TypeId} (h : Blk w b (byt l ++ r) e) : BytesAt w (some ⟨b, 0, none⟩) l :=
  fun i x hx => ⟨b, 0, rfl, by
    rw [Nat.zero_add]
    refine h.cell ?_
    rw [List.getElem?_append_left (by rw [byt_length]; exact get_lt hx)]
    exact byt_get hx⟩

theorem BytesAt.some_lit {w : World} {ao : Option Addr} {l : List UInt8} (h : BytesAt w ao l) (hl : 0 < l.length) : ∃ b o, ao = some ⟨b, o, none⟩ := by
  obtain ⟨x, hx⟩ := get_some hl
  obtain ⟨b, o, e, _⟩ := h 0 x hx
  exact ⟨b, o, e⟩

/-- The cells of the bytes from one on, at the address moved on. -/
theorem BytesAt.cells {w : World} {ad : Addr} {l : List UInt8} (h : BytesAt w (some ad) l) : ∀ (j : Nat) (u : Value), (byt l)[j]? = some u → w.cell? (ad.add j) = some u := by
  intro j u hj
  simp only [byt, List.getElem?_map, Option.map_eq_some_iff] at hj
  obtain ⟨x, hx, rfl⟩ := hj
  obtain ⟨b, o, e, hc⟩ := h j x hx
  cases e
  rw [Addr.add_lit]
  exact hc

/-- The text of a slice of bytes. -/
theorem text_of (w : World) (ao : Option Addr) (l : List UInt8) (cap : Nat) (h : BytesAt w ao l) : (convert 35 9 (.slice ao l.length cap)).run Tryz.prog w = .ok (.string ⟨l.toArray⟩) w := by
  cases ao with
  | none =>
    have hl : l = [] := by
      cases l with
      | nil => rfl
      | cons x r => obtain ⟨b, o, e, _⟩ := h 0 x rfl; cases e
    subst hl
    exact run_convert_bytes_nil w 35 5 Tryz.underlying35 Tryz.underlying5 0 cap 9 Tryz.underlying9
  | some ad => exact run_convert_bytes_back w 35 9 5 ad cap l Tryz.underlying35 Tryz.underlying5 Tryz.underlying9 (fun j hj => by
      have := h.cells j (.int .u8 (l[j].toNat : Int)) (byt_get (List.getElem?_eq_getElem hj))
      exact this)

theorem text_eq (a b : List UInt8) : (decide ((⟨a.toArray⟩ : ByteArray) = ⟨b.toArray⟩)) = decide (a = b) := by
  rw [decide_eq_decide]
  constructor
  · intro h
    have := congrArg (fun x => x.data.toList) h
    simpa using this
  · rintro rfl; rfl

theorem sameBytes_any (w : World) (ao bo : Option Addr) (A B : List UInt8) (ca cb : Nat) (hA : BytesAt w ao A) (hB : BytesAt w bo B) :
    Calls Tryz.prog 31 #[.slice ao A.length ca, .slice bo B.length cb] w fun e w' => e = .returned (.bool (decide (A = B))) ∧ w = w' := by
  have h1 := text_of w ao A ca hA
  have h2 := text_of w bo B cb hB
  have HT := Lib.hid (text_eq A B)
  clear hA hB
  generalize A.length = n at *
  generalize B.length = m at *
  go_enter Tryz.func31, Tryz.ntmps31
  go_wp2
  go_ret
  exact ⟨ret_bool (Bool.eq_iff_iff.2 (by simp)), rfl⟩

theorem infoByte : (Tryz.prog.info? 5).map (fun i => (i.zero, i.size, i.bytes)) = some (some (.int .u8 0), 1, 1) := by kernel_rfl

def BytesPost (w : World) (l : List UInt8) (e : Ending) (w' : World) : Prop :=
  ∃ a c, e = .returned (.slice a l.length c) ∧ w'.ownsRow w.heap.size 5 1 (.slice a l.length c) l.length (byt l) ∧ Still w w'

theorem own_slice' {w : World} {base : Nat} {e : TypeId} {size n : Nat} {v : Value} {xs : List Value} (h : w.ownsRow base e size v n xs) : ∃ ao cc, v = .slice ao n cc := by
  rcases h.2 with ⟨rfl, rfl⟩ | ⟨g, cp, cur, rfl, _⟩
  · exact ⟨none, 0, rfl⟩
  · exact ⟨_, _, rfl⟩

theorem BytesAt.of_own {w : World} {base : Nat} {a : Option Addr} {c : Nat} {l : List UInt8} (h : w.ownsRow base 5 1 (.slice a l.length c) l.length (byt l)) : BytesAt w a l := by
  intro i x hx
  rcases h.2 with ⟨e0, h0⟩ | ⟨g, cp, cur, e0, hg0, hg, _, _, _, ht⟩
  · rw [List.eq_nil_of_length_eq_zero h0] at hx; simp at hx
  · cases e0
    refine ⟨g, 0, rfl, ?_⟩
    have hv : (byt l)[i]? = some (.int .u8 (x.toNat : Int)) := byt_get hx
    rw [← ht, List.getElem?_take] at hv
    split at hv
    · simp only [World.cell?, hg, Nat.zero_add]
      simpa using hv
    · cases hv

/-- A copy of one's own. -/
theorem bytes_any (w : World) (ao : Option Addr) (l : List UInt8) (cap : Nat) (hA : BytesAt w ao l) (hmax : l.length ≤ 70368744177664) (hn : ao = none → cap = 0) :
    Calls Tryz.prog 18 #[.slice ao l.length cap] w (BytesPost w l) := by
  obtain ⟨i0, hi, hz0, hz1, hz2⟩ := info_parts infoByte
  cases ao with
  | none =>
    have hl : l = [] := by
      cases l with
      | nil => rfl
      | cons x r => obtain ⟨b, o, e, _⟩ := hA 0 x rfl; cases e
    obtain rfl := hn rfl
    subst hl
    clear hA hn
    have HO := Lib.hid (World.ownsRow_made (e := 5) (size := 1) w #[] 0 (Nat.le_refl _) (by simp) (by simp))
    show Calls Tryz.prog 18 #[.slice none 0 0] w (BytesPost w [])
    go_enter Tryz.func18, Tryz.ntmps18
    go_wp2_with (at_builtin; refine wpList_append_own_none rfl _ _ 35 rfl w.heap.size 5 i0 1 Tryz.underlying35 hi _ 0 [] rfl HO.out rfl ?_)
    go_ret
    exact ⟨_, _, rfl, HO.out, (Turned.refl _ _).alloc _⟩
  | some ad =>
    have HC := Lib.hid (fun j u hj => (hA.still ((Turned.refl (fun _ => False) w).alloc (.cells #[] 5))).cells j u hj)
    have H1 := Lib.hid (byt_one l)
    have HL := Lib.hid (byt_length l)
    clear hA hn
    go_enter Tryz.func18, Tryz.ntmps18
    go_wp2_with (at_builtin; refine wpList_append_own_at _ rfl _ _ 35 rfl w.heap.size 5 i0 (.int .u8 0) 1 1 Tryz.underlying35 hi hz0 hz1 hz2 rfl (by decide) _ _ _ rfl (World.ownsRow_made w #[] 0 (Nat.le_refl _) (by simp) (by simp)) ad l.length cap (byt l) rfl (by rw [HL.out]; omega) HC.out H1.out (by unfold maxLen; omega) (by omega) (by simp) ?_; intro v' w1 hown hgrow hnil hat; obtain ⟨aa, cc, rfl⟩ := own_slice' hown)
    go_ret
    rw [Nat.zero_add] at hown
    exact ⟨aa, cc, rfl, hown, ((Turned.refl (fun _ => False) w).alloc _).grown hgrow (fun k e => .inr (by cases e; exact Nat.le_refl _))⟩
end Go.Proofs.YtmmkcfiecgpkpaaGreat

/- Slices of numbers as arguments. No condition. -/
namespace Go.Proofs.YtmmkcfiecgpkpaaGreat
open Go.RowKit
set_option linter.unusedVariables false
theorem cellsInt : Tryz.prog.cellsOf 3 = 1 := by kernel_rfl
theorem rdInt : Rd Tryz.prog 3 encI (okI .i64) := rd_int Tryz.underlying3
theorem rdInts : Rd Tryz.prog 23 encSl (SlOk encI (okI .i64) 1) := rd_slice Tryz.underlying23 cellsInt (by omega) (fun _ => rfl) rdInt
theorem nums_row {w : World} {a : Option Addr} {l : List Int} (h : RowAt encI 1 w a l) : NumsAt w a l := by
  intro i x hx
  obtain ⟨b, o, rfl, hc⟩ := h i x hx
  exact ⟨b, o, rfl, by simpa using hc 0 _ rfl⟩
end Go.Proofs.YtmmkcfiecgpkpaaGreat
