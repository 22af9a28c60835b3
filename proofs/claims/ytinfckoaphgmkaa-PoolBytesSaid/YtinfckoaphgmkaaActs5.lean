/- The acts of the statements of layer 5 as arguments: three numbers, a bool, bytes. No condition. -/
import Derived.Test.YtinfckoaphgmkaaReadInts
import Derived.Test.YtinfckoaphgmkaaBytes
namespace Go.Proofs.Ytinfckoaphgmkaa
open Go.RowKit
set_option linter.unusedVariables false

theorem rd_bool {P : Program} {t : TypeId} (ht : P.underlying t = some .bool) : Rd P t (fun b : Bool => [.bool b]) (fun _ _ => True) := by
  intro H e w base spare held fuel cs x h
  obtain ⟨b, h1, _⟩ := DataW.trod_bool ht h
  exact ⟨b, h1, trivial⟩

theorem rd_struct5 {P : Program} {t : TypeId} {f0 f1 f2 f3 f4 : Field} {α β γ δ ε : Type} {e0 : α → List Value} {e1 : β → List Value} {e2 : γ → List Value} {e3 : δ → List Value} {e4 : ε → List Value}
    {k0 : World → α → Prop} {k1 : World → β → Prop} {k2 : World → γ → Prop} {k3 : World → δ → Prop} {k4 : World → ε → Prop} {m0 m1 m2 m3 m4 : Nat}
    (ht : P.underlying t = some (.struct #[f0, f1, f2, f3, f4])) (hc : P.cellsOf t = m0 + m1 + m2 + m3 + m4) (hc0 : P.cellsOf f0.type = m0) (hc1 : P.cellsOf f1.type = m1) (hc2 : P.cellsOf f2.type = m2) (hc3 : P.cellsOf f3.type = m3) (hc4 : P.cellsOf f4.type = m4)
    (ho0 : f0.offset = 0) (ho1 : f1.offset = m0) (ho2 : f2.offset = m0 + m1) (ho3 : f3.offset = m0 + m1 + m2) (ho4 : f4.offset = m0 + m1 + m2 + m3)
    (h0 : Rd P f0.type e0 k0) (h1 : Rd P f1.type e1 k1) (h2 : Rd P f2.type e2 k2) (h3 : Rd P f3.type e3 k3) (h4 : Rd P f4.type e4 k4) :
    Rd P t (fun a : α × β × γ × δ × ε => e0 a.1 ++ e1 a.2.1 ++ e2 a.2.2.1 ++ e3 a.2.2.2.1 ++ e4 a.2.2.2.2) (fun w a => k0 w a.1 ∧ k1 w a.2.1 ∧ k2 w a.2.2.1 ∧ k3 w a.2.2.2.1 ∧ k4 w a.2.2.2.2) := by
  intro H e w base spare held fuel cs x h
  obtain ⟨xs, n, _, _, hl, hlen, hf⟩ := DataW.trod_struct ht h
  match xs, hlen with
  | [y0, y1, y2, y3, y4], _ =>
    obtain ⟨a, ha, ka⟩ := h0 H e w base spare held n _ _ (hf 0 f0 rfl)
    obtain ⟨b, hb, kb⟩ := h1 H e w base spare held n _ _ (hf 1 f1 rfl)
    obtain ⟨c, hcc, kc⟩ := h2 H e w base spare held n _ _ (hf 2 f2 rfl)
    obtain ⟨d, hd, kd⟩ := h3 H e w base spare held n _ _ (hf 3 f3 rfl)
    obtain ⟨g, hg, kg⟩ := h4 H e w base spare held n _ _ (hf 4 f4 rfl)
    refine ⟨(a, b, c, d, g), ?_, ka, kb, kc, kd, kg⟩
    rw [hc0, ho0, List.drop_zero] at ha
    rw [hc1, ho1] at hb
    rw [hc2, ho2] at hcc
    rw [hc3, ho3] at hd
    rw [hc4, ho4] at hg
    show cs = e0 a ++ e1 b ++ e2 c ++ e3 d ++ e4 g
    rw [← ha, ← hb, ← hcc, ← hd, ← hg, List.take_of_length_le (l := cs.drop (m0 + m1 + m2 + m3)) (by rw [List.length_drop]; omega)]
    rw [List.append_assoc, drop_split, List.append_assoc, drop_split, List.append_assoc, drop_split, List.take_append_drop]

abbrev Act5 := Int × Int × Int × Bool × Sl UInt8
def encAct5 (a : Act5) : List Value := encI a.1 ++ encI a.2.1 ++ encI a.2.2.1 ++ [.bool a.2.2.2.1] ++ encSl a.2.2.2.2
def okAct5 (w : World) (a : Act5) : Prop := okI .i64 w a.1 ∧ okI .i64 w a.2.1 ∧ okI .i64 w a.2.2.1 ∧ True ∧ SlOk encB okB 1 w a.2.2.2.2
theorem encAct5_len (a : Act5) : (encAct5 a).length = 5 := rfl
theorem cellsAct5 : Try.prog.cellsOf 34 = 5 := by kernel_rfl
theorem cellsBool5 : Try.prog.cellsOf 4 = 1 := by kernel_rfl
theorem cellsBytes5 : Try.prog.cellsOf 32 = 1 := by kernel_rfl
theorem rdAct5 : Rd Try.prog 34 encAct5 okAct5 :=
  rd_struct5 (m0 := 1) (m1 := 1) (m2 := 1) (m3 := 1) (m4 := 1) Try.underlying34 cellsAct5 cellsInt cellsInt cellsInt cellsBool5 cellsBytes5 rfl rfl rfl rfl rfl rdInt rdInt rdInt (rd_bool Try.underlying4) rdBytes
theorem rdActs5 : Rd Try.prog 22 encSl (SlOk encAct5 okAct5 5) := rd_slice Try.underlying22 cellsAct5 (by omega) encAct5_len rdAct5
theorem okB_stays : Stays okB := fun _ _ _ _ h => h

theorem okAct5_stays : Stays okAct5 := fun w w' a ht h => ⟨h.1, h.2.1, h.2.2.1, trivial, SlOk.stays okB_stays w w' _ ht h.2.2.2.2⟩

def Act5.val (a : Act5) : Value := .agg #[.int .i64 a.1, .int .i64 a.2.1, .int .i64 a.2.2.1, .bool a.2.2.2.1, .slice a.2.2.2.2.a a.2.2.2.2.len a.2.2.2.2.cap]

theorem i64_of {w : World} {a : Int} (h : okI .i64 w a) : -9223372036854775808 ≤ a ∧ a ≤ 9223372036854775807 := by
  have : (Lit.int .i64 a).wf = true := h
  simp [Lit.wf, IntKind.min, IntKind.max, IntKind.signed, IntKind.bits] at this
  omega

/-- The handle that an act names. -/
def whichH (a : Act5) (had : List Int) : Int := if a.2.2.2.1 = true ∧ 0 < had.length then (had[am a.2.2.1 had.length]?.getD 0) else a.2.2.1

theorem which_any (a : Act5) (w : World) (ao : Option Addr) (n cc : Nat) (had : List Int) (hn : n = had.length) (hmax : n ≤ 4611686018427387904) (hA : NumsAt w ao had) :
    Calls Try.prog 12 #[a.val, .slice ao n cc] w fun e w' => e = .returned (.int .i64 (whichH a had)) ∧ Still w w' := by
  obtain ⟨d, nn, h, hd, ⟨ba, bl, bc, bx⟩⟩ := a
  by_cases hp : hd = true ∧ 0 < had.length
  · obtain ⟨rfl, h0⟩ := hp
    obtain ⟨t, ht⟩ : ∃ t, t = am h n := ⟨_, rfl⟩
    have htl : t < n := by rw [ht]; exact am_lt _ (by omega)
    obtain ⟨x, hx⟩ := get_some (l := had) (i := t) (by omega)
    have HR := Lib.hid (show whichH (d, nn, h, true, ⟨ba, bl, bc, bx⟩) had = x by
      unfold whichH
      rw [if_pos ⟨rfl, h0⟩]
      show (had[am h had.length]?).getD 0 = x
      rw [← hn, ← ht, hx]; rfl)
    have HB := Lib.hid (fun W => among_lit h n n t rfl ht (by omega) (by omega) W)
    obtain ⟨b, o, rfl, hc⟩ := hA t x hx
    have hbl := cell_lt hc
    have hn0 : 0 < n := by omega
    dsimp only at hbl
    clear hx ht hA hn h0
    rw [HR.out]
    unfold Act5.val
    dsimp only
    go_enter Try.func12, Try.ntmps12
    go_wp2_with (go_at_call 13; refine (HB.out _).mono ?_; rintro e w' ⟨rfl, rfl⟩)
    go_ret
    exact ⟨rfl, (Turned.refl _ _).alloc _⟩
  · have HR := Lib.hid (show whichH (d, nn, h, hd, ⟨ba, bl, bc, bx⟩) had = h by unfold whichH; rw [if_neg hp])
    rw [HR.out]
    unfold Act5.val
    dsimp only
    by_cases h1 : hd = true
    · have hn0 : n = 0 := by
        rw [hn]
        have : ¬ 0 < had.length := fun h => hp ⟨h1, h⟩
        omega
      subst h1
      clear hp hn hA
      subst hn0
      go_enter Try.func12, Try.ntmps12
      go_wp2_with fail
      go_ret
      exact ⟨rfl, (Turned.refl _ _).alloc _⟩
    · obtain rfl : hd = false := by simpa using h1
      clear hp hn hA h1
      go_enter Try.func12, Try.ntmps12
      go_wp2_with fail
      go_ret
      exact ⟨rfl, (Turned.refl _ _).alloc _⟩
end Go.Proofs.Ytinfckoaphgmkaa
