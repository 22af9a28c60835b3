/- Structs of five fields as arguments. No condition. -/
import Derived.Test.YtdlkdagmaeapdaaReadInts
namespace Go.Proofs.Ytdlkdagmaeapdaa
open Go.RowKit
set_option linter.unusedVariables false

theorem rd_struct5 {P : Program} {t : TypeId} {f0 f1 f2 f3 f4 : Field} {α β γ δ ε : Type} {e0 : α → List Value} {e1 : β → List Value} {e2 : γ → List Value} {e3 : δ → List Value} {e4 : ε → List Value}
    {k0 : World → α → Prop} {k1 : World → β → Prop} {k2 : World → γ → Prop} {k3 : World → δ → Prop} {k4 : World → ε → Prop} {m0 m1 m2 m3 m4 : Nat}
    (ht : P.underlying t = some (.struct #[f0, f1, f2, f3, f4])) (hc : P.cellsOf t = m0 + m1 + m2 + m3 + m4) (hc0 : P.cellsOf f0.type = m0) (hc1 : P.cellsOf f1.type = m1) (hc2 : P.cellsOf f2.type = m2) (hc3 : P.cellsOf f3.type = m3) (hc4 : P.cellsOf f4.type = m4)
    (ho0 : f0.offset = 0) (ho1 : f1.offset = m0) (ho2 : f2.offset = m0 + m1) (ho3 : f3.offset = m0 + m1 + m2) (ho4 : f4.offset = m0 + m1 + m2 + m3)
    (h0 : Rd P f0.type e0 k0) (h1 : Rd P f1.type e1 k1) (h2 : Rd P f2.type e2 k2) (h3 : Rd P f3.type e3 k3) (h4 : Rd P f4.type e4 k4) :
    Rd P t (fun a : α × β × γ × δ × ε => e0 a.1 ++ e1 a.2.1 ++ e2 a.2.2.1 ++ e3 a.2.2.2.1 ++ e4 a.2.2.2.2) (fun w a => k0 w a.1 ∧ k1 w a.2.1 ∧ k2 w a.2.2.1 ∧ k3 w a.2.2.2.1 ∧ k4 w a.2.2.2.2) := by
  intro H e w base spare held fuel cs x h
  obtain ⟨xs, n, _, _, hl, hlen, hf⟩ := DataW.trod_struct ht h
  match xs, hlen with
  | [y0, y1, y2, y3, y4], _ =>
    obtain ⟨a, ha, ka⟩ := h0 H e w base spare held n _ _ (hf 0 f0 rfl)
    obtain ⟨b, hb, kb⟩ := h1 H e w base spare held n _ _ (hf 1 f1 rfl)
    obtain ⟨c, hcc, kc⟩ := h2 H e w base spare held n _ _ (hf 2 f2 rfl)
    obtain ⟨d, hd, kd⟩ := h3 H e w base spare held n _ _ (hf 3 f3 rfl)
    obtain ⟨g, hg, kg⟩ := h4 H e w base spare held n _ _ (hf 4 f4 rfl)
    refine ⟨(a, b, c, d, g), ?_, ka, kb, kc, kd, kg⟩
    rw [hc0, ho0, List.drop_zero] at ha
    rw [hc1, ho1] at hb
    rw [hc2, ho2] at hcc
    rw [hc3, ho3] at hd
    rw [hc4, ho4] at hg
    show cs = e0 a ++ e1 b ++ e2 c ++ e3 d ++ e4 g
    rw [← ha, ← hb, ← hcc, ← hd, ← hg, List.take_of_length_le (l := cs.drop (m0 + m1 + m2 + m3)) (by rw [List.length_drop]; omega)]
    rw [List.append_assoc, drop_split, List.append_assoc, drop_split, List.append_assoc, drop_split, List.take_append_drop]
end Go.Proofs.Ytdlkdagmaeapdaa
