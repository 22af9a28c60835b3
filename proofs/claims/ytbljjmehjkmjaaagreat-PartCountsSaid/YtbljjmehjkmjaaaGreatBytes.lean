/- Rows of bytes: what a slice's cells hold, as bytes and as text; slices of bytes as arguments; a copy of one's own. No condition. -/
import Derived.Test.YtbljjmehjkmjaaaGreatRows
import Derived.Test.YtbljjmehjkmjaaaGreatRead
import Derived.BigQuiet
import Derived.Laws.BytesArg
import Derived.Laws.IdiomStrings
import Derived.Laws.BitsAllLaws
import Derived.Maps.AppendAt
import Derived.OwnWalk
import Derived.Laws.AppendOwnNone
namespace Go.Proofs.YtbljjmehjkmjaaaGreat
open Go.RowKit
set_option linter.unusedVariables false
set_option maxRecDepth 100000

def encB (x : UInt8) : List Value := [.int .u8 (x.toNat : Int)]
def okB (_ : World) (_ : UInt8) : Prop := True
theorem cellsByte : Tryz.prog.cellsOf 5 = 1 := by kernel_rfl
theorem rdByte : Rd Tryz.prog 5 encB okB := by
  intro H e w base spare held fuel cs x hx
  obtain ⟨n, rfl, hn⟩ := rd_int (P := Tryz.prog) Tryz.underlying5 H e w base spare held fuel cs x hx
  have h2 : 0 ≤ n ∧ n < 256 := by
    have : (Lit.int .u8 n).wf = true := hn
    simp [Lit.wf, IntKind.min, IntKind.max, IntKind.signed, IntKind.bits] at this
    omega
  refine ⟨UInt8.ofNat n.toNat, ?_, trivial⟩
  simp only [encB, UInt8.toNat_ofNat']
  rw [Nat.mod_eq_of_lt (by omega), Int.toNat_of_nonneg h2.1]
theorem rdBytes : Rd Tryz.prog 36 encSl (SlOk encB okB 1) := rd_slice Tryz.underlying36 cellsByte (by omega) (fun _ => rfl) rdByte

/-- The bytes that a slice's cells hold. -/
def BytesAt (w : World) (ao : Option Addr) (l : List UInt8) : Prop := ∀ i x, l[i]? = some x → ∃ b o, ao = some ⟨b, o, none⟩ ∧ w.cell? ⟨b, o + i, none⟩ = some (.int .u8 (x.toNat : Int))

def byt (l : List UInt8) : List Value := l.map fun x => .int .u8 (x.toNat : Int)
theorem byt_get {l : List UInt8} {i : Nat} {x : UInt8} (h : l[i]? = some x) : (byt l)[i]? = some (.int .u8 (x.toNat : Int)) := by simp [byt, h]
theorem byt_length (l : List UInt8) : (byt l).length = l.length := by simp [byt]
theorem byt_one (l : List UInt8) : ∀ u ∈ byt l, u.oneCell' = true := by
  intro u hu
  simp only [byt, List.mem_map] at hu
  obtain ⟨x, _, rfl⟩ := hu
  rfl

theorem BytesAt.nil (w : World) (ao : Option Addr) : BytesAt w ao [] := fun i x h => by simp at h
theorem BytesAt.drewN {w : World} {ao : Option Addr} {l : List UInt8} (h : BytesAt w ao l) (n : Nat) : BytesAt (w.drewN n) ao l := h
theorem BytesAt.turned {S : Nat → Prop} {w w' : World} {ao : Option Addr} {l : List UInt8} (h : BytesAt w ao l) (ht : Turned S w w') (hs : ∀ a, ao = some a → ¬ S a.block) : BytesAt w' ao l := fun i x hx => by
  obtain ⟨b, o, rfl, hc⟩ := h i x hx
  exact ⟨b, o, rfl, by rw [ht.cell (p := ⟨b, o + i, none⟩) (cell_lt hc) (hs ⟨b, o, none⟩ rfl)]; exact hc⟩
theorem BytesAt.still {w w' : World} {ao : Option Addr} {l : List UInt8} (h : BytesAt w ao l) (ht : Still w w') : BytesAt w' ao l := h.turned ht (fun _ _ hs => hs)
theorem BytesAt.take {w : World} {ao : Option Addr} {l : List UInt8} (h : BytesAt w ao l) (n : Nat) : BytesAt w ao (l.take n) := fun i x hx => by
  rw [List.getElem?_take] at hx
  split at hx
  · exact h i x hx
  · cases hx
theorem BytesAt.of_row {w : World} {a : Option Addr} {l : List UInt8} (h : RowAt encB 1 w a l) : BytesAt w a l := by
  intro i x hx
  obtain ⟨b, o, rfl, hc⟩ := h i x hx
  exact ⟨b, o, rfl, by simpa using hc 0 _ rfl⟩
theorem BytesAt.of_blk {w : World} {b : Nat} {l : List UInt8} {r : List Value} {e : TypeId} (h : Blk w b (byt l ++ r) e) : BytesAt w (some ⟨b, 0, none⟩) l :=
  fun i x hx => ⟨b, 0, rfl, by
    rw [Nat.zero_add]
    refine h.cell ?_
    rw [List.getElem?_append_left (by rw [byt_length]; exact get_lt hx)]
    exact byt_get hx⟩

theorem BytesAt.some_lit {w : World} {ao : Option Addr} {l : List UInt8} (h : BytesAt w ao l) (hl : 0 < l.length) : ∃ b o, ao = some ⟨b, o, none⟩ := by
  obtain ⟨x, hx⟩ := get_some hl
  obtain ⟨b, o, e, _⟩ := h 0 x hx
  exact ⟨b, o, e⟩

/-- The cells of the bytes from one on, at the address moved on. -/
theorem BytesAt.cells {w : World} {ad : Addr} {l : List UInt8} (h : BytesAt w (some ad) l) : ∀ (j : Nat) (u : Value), (byt l)[j]? = some u → w.cell? (ad.add j) = some u := by
  intro j u hj
  simp only [byt, List.getElem?_map, Option.map_eq_some_iff] at hj
  obtain ⟨x, hx, rfl⟩ := hj
  obtain ⟨b, o, e, hc⟩ := h j x hx
  cases e
  rw [Addr.add_lit]
  exact hc

/-- The text of a slice of bytes. -/
theorem text_of (w : World) (ao : Option Addr) (l : List UInt8) (cap : Nat) (h : BytesAt w ao l) : (convert 36 9 (.slice ao l.length cap)).run Tryz.prog w = .ok (.string ⟨l.toArray⟩) w := by
  cases ao with
  | none =>
    have hl : l = [] := by
      cases l with
      | nil => rfl
      | cons x r => obtain ⟨b, o, e, _⟩ := h 0 x rfl; cases e
    subst hl
    exact run_convert_bytes_nil w 36 5 Tryz.underlying36 Tryz.underlying5 0 cap 9 Tryz.underlying9
  | some ad => exact run_convert_bytes_back w 36 9 5 ad cap l Tryz.underlying36 Tryz.underlying5 Tryz.underlying9 (fun j hj => by
      have := h.cells j (.int .u8 (l[j].toNat : Int)) (byt_get (List.getElem?_eq_getElem hj))
      exact this)

theorem text_eq (a b : List UInt8) : (decide ((⟨a.toArray⟩ : ByteArray) = ⟨b.toArray⟩)) = decide (a = b) := by
  rw [decide_eq_decide]
  constructor
  · intro h
    have := congrArg (fun x => x.data.toList) h
    simpa using this
  · rintro rfl; rfl

theorem sameBytes_any (w : World) (ao bo : Option Addr) (A B : List UInt8) (ca cb : Nat) (hA : BytesAt w ao A) (hB : BytesAt w bo B) :
    Calls Tryz.prog 39 #[.slice ao A.length ca, .slice bo B.length cb] w fun e w' => e = .returned (.bool (decide (A = B))) ∧ w = w' := by
  have h1 := text_of w ao A ca hA
  have h2 := text_of w bo B cb hB
  have HT := Lib.hid (text_eq A B)
  clear hA hB
  generalize A.length = n at *
  generalize B.length = m at *
  go_enter Tryz.func39, Tryz.ntmps39
  go_wp2
  go_ret
  exact ⟨ret_bool (Bool.eq_iff_iff.2 (by simp)), rfl⟩

theorem infoByte : (Tryz.prog.info? 5).map (fun i => (i.zero, i.size, i.bytes)) = some (some (.int .u8 0), 1, 1) := by kernel_rfl

def BytesPost (w : World) (l : List UInt8) (e : Ending) (w' : World) : Prop :=
  ∃ a c, e = .returned (.slice a l.length c) ∧ w'.ownsRow w.heap.size 5 1 (.slice a l.length c) l.length (byt l) ∧ Still w w'

theorem own_slice' {w : World} {base : Nat} {e : TypeId} {size n : Nat} {v : Value} {xs : List Value} (h : w.ownsRow base e size v n xs) : ∃ ao cc, v = .slice ao n cc := by
  rcases h.2 with ⟨rfl, rfl⟩ | ⟨g, cp, cur, rfl, _⟩
  · exact ⟨none, 0, rfl⟩
  · exact ⟨_, _, rfl⟩

theorem BytesAt.of_own {w : World} {base : Nat} {a : Option Addr} {c : Nat} {l : List UInt8} (h : w.ownsRow base 5 1 (.slice a l.length c) l.length (byt l)) : BytesAt w a l := by
  intro i x hx
  rcases h.2 with ⟨e0, h0⟩ | ⟨g, cp, cur, e0, hg0, hg, _, _, _, ht⟩
  · rw [List.eq_nil_of_length_eq_zero h0] at hx; simp at hx
  · cases e0
    refine ⟨g, 0, rfl, ?_⟩
    have hv : (byt l)[i]? = some (.int .u8 (x.toNat : Int)) := byt_get hx
    rw [← ht, List.getElem?_take] at hv
    split at hv
    · simp only [World.cell?, hg, Nat.zero_add]
      simpa using hv
    · cases hv

/-- A copy of one's own. -/
theorem bytes_any (w : World) (ao : Option Addr) (l : List UInt8) (cap : Nat) (hA : BytesAt w ao l) (hmax : l.length ≤ 70368744177664) (hn : ao = none → cap = 0) :
    Calls Tryz.prog 27 #[.slice ao l.length cap] w (BytesPost w l) := by
  obtain ⟨i0, hi, hz0, hz1, hz2⟩ := info_parts infoByte
  cases ao with
  | none =>
    have hl : l = [] := by
      cases l with
      | nil => rfl
      | cons x r => obtain ⟨b, o, e, _⟩ := hA 0 x rfl; cases e
    obtain rfl := hn rfl
    subst hl
    clear hA hn
    have HO := Lib.hid (World.ownsRow_made (e := 5) (size := 1) w #[] 0 (Nat.le_refl _) (by simp) (by simp))
    show Calls Tryz.prog 27 #[.slice none 0 0] w (BytesPost w [])
    go_enter Tryz.func27, Tryz.ntmps27
    go_wp2_with (at_builtin; refine wpList_append_own_none rfl _ _ 36 rfl w.heap.size 5 i0 1 Tryz.underlying36 hi _ 0 [] rfl HO.out rfl ?_)
    go_ret
    exact ⟨_, _, rfl, HO.out, (Turned.refl _ _).alloc _⟩
  | some ad =>
    have HC := Lib.hid (fun j u hj => (hA.still ((Turned.refl (fun _ => False) w).alloc (.cells #[] 5))).cells j u hj)
    have H1 := Lib.hid (byt_one l)
    have HL := Lib.hid (byt_length l)
    clear hA hn
    go_enter Tryz.func27, Tryz.ntmps27
    go_wp2_with (at_builtin; refine wpList_append_own_at _ rfl _ _ 36 rfl w.heap.size 5 i0 (.int .u8 0) 1 1 Tryz.underlying36 hi hz0 hz1 hz2 rfl (by decide) _ _ _ rfl (World.ownsRow_made w #[] 0 (Nat.le_refl _) (by simp) (by simp)) ad l.length cap (byt l) rfl (by rw [HL.out]; omega) HC.out H1.out (by unfold maxLen; omega) (by omega) (by simp) ?_; intro v' w1 hown hgrow hnil hat; obtain ⟨aa, cc, rfl⟩ := own_slice' hown)
    go_ret
    rw [Nat.zero_add] at hown
    exact ⟨aa, cc, rfl, hown, ((Turned.refl (fun _ => False) w).alloc _).grown hgrow (fun k e => .inr (by cases e; exact Nat.le_refl _))⟩
end Go.Proofs.YtbljjmehjkmjaaaGreat
