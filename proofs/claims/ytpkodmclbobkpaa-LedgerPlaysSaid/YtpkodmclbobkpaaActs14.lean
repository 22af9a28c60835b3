/- The acts of the statements of layer 14 as arguments. No condition. -/
import Derived.Test.YtpkodmclbobkpaaReadInts
namespace Go.Proofs.Ytpkodmclbobkpaa
open Go.RowKit
set_option linter.unusedVariables false
set_option linter.unusedSimpArgs false
set_option maxRecDepth 100000

theorem rd_bool14 {P : Program} {t : TypeId} (ht : P.underlying t = some .bool) : Rd P t (fun b : Bool => [.bool b]) (fun _ _ => True) := by
  intro H e w base spare held fuel cs x h
  obtain ⟨b, h1, _⟩ := DataW.trod_bool ht h
  exact ⟨b, h1, trivial⟩
theorem rd_three {P : Program} {t : TypeId} {f0 f1 f2 : Field} {α β γ : Type} {e0 : α → List Value} {e1 : β → List Value} {e2 : γ → List Value}
    {k0 : World → α → Prop} {k1 : World → β → Prop} {k2 : World → γ → Prop} {m0 m1 m2 : Nat}
    (ht : P.underlying t = some (.struct #[f0, f1, f2])) (hc : P.cellsOf t = m0 + m1 + m2) (hc0 : P.cellsOf f0.type = m0) (hc1 : P.cellsOf f1.type = m1) (hc2 : P.cellsOf f2.type = m2)
    (ho0 : f0.offset = 0) (ho1 : f1.offset = m0) (ho2 : f2.offset = m0 + m1)
    (h0 : Rd P f0.type e0 k0) (h1 : Rd P f1.type e1 k1) (h2 : Rd P f2.type e2 k2) :
    Rd P t (fun a : α × β × γ => e0 a.1 ++ e1 a.2.1 ++ e2 a.2.2) (fun w a => k0 w a.1 ∧ k1 w a.2.1 ∧ k2 w a.2.2) := by
  intro H e w base spare held fuel cs x h
  obtain ⟨xs, n, _, _, hl, hlen, hf⟩ := DataW.trod_struct ht h
  match xs, hlen with
  | [y0, y1, y2], _ =>
    obtain ⟨a, ha, ka⟩ := h0 H e w base spare held n _ _ (hf 0 f0 rfl)
    obtain ⟨b, hb, kb⟩ := h1 H e w base spare held n _ _ (hf 1 f1 rfl)
    obtain ⟨c, hcc, kc⟩ := h2 H e w base spare held n _ _ (hf 2 f2 rfl)
    refine ⟨(a, b, c), ?_, ka, kb, kc⟩
    rw [hc0, ho0, List.drop_zero] at ha
    rw [hc1, ho1] at hb
    rw [hc2, ho2] at hcc
    show cs = e0 a ++ e1 b ++ e2 c
    rw [← ha, ← hb, ← hcc, List.take_of_length_le (l := cs.drop (m0 + m1)) (by rw [List.length_drop]; omega)]
    rw [List.append_assoc, drop_split, List.take_append_drop]

abbrev Act14 := Int × Int × Bool
def encAct14 (a : Act14) : List Value := encI a.1 ++ encI a.2.1 ++ [.bool a.2.2]
def okAct14 (w : World) (a : Act14) : Prop := okI .i64 w a.1 ∧ okI .i64 w a.2.1 ∧ True
theorem encAct14_len (a : Act14) : (encAct14 a).length = 3 := rfl
theorem cellsAct14 : Try.prog.cellsOf 33 = 3 := by kernel_rfl
theorem cellsBool14 : Try.prog.cellsOf 4 = 1 := by kernel_rfl
theorem rdAct14 : Rd Try.prog 33 encAct14 okAct14 :=
  rd_three (m0 := 1) (m1 := 1) (m2 := 1) Try.underlying33 cellsAct14 cellsInt cellsInt cellsBool14 rfl rfl rfl rdInt rdInt (rd_bool14 Try.underlying4)
theorem rdActs14 : Rd Try.prog 22 encSl (SlOk encAct14 okAct14 3) := rd_slice Try.underlying22 cellsAct14 (by omega) encAct14_len rdAct14
theorem i64_of14 {w : World} {a : Int} (h : okI .i64 w a) : -9223372036854775808 ≤ a ∧ a ≤ 9223372036854775807 := by
  have : (Lit.int .i64 a).wf = true := h
  simp [Lit.wf, IntKind.min, IntKind.max, IntKind.signed, IntKind.bits] at this
  exact ⟨by omega, by omega⟩
theorem wrap14_range (x : Int) : -9223372036854775808 ≤ IntKind.i64.wrap x ∧ IntKind.i64.wrap x ≤ 9223372036854775807 := by
  simp [IntKind.wrap, IntKind.signed, IntKind.bits]
  split <;> omega
end Go.Proofs.Ytpkodmclbobkpaa
