/- What Back of the program's ledger does. No condition but that it is one. -/
import Derived.Test.YtdlkdagmaeapdaaLgDo
import Derived.Test.YtdlkdagmaeapdaaLgMath
import Derived.Scope
import Derived.WalkMore
namespace Go.Proofs.Ytdlkdagmaeapdaa
open Go.RowKit
set_option linter.unusedVariables false
set_option linter.unusedSimpArgs false
set_option maxRecDepth 100000

section
variable {q : Nat} {a a6 : Option Addr} {c c6 N n : Nat} {f : Bool} {M : LgM} {w V w6 w' : World} {W : Nat → Prop}
theorem marks_take {L : List Pc} {j : Nat} {x : Pc} (b : Int) (hx : L[j]? = some x) : marks ⟨b, L.take (j + 1)⟩ = marks ⟨b, L.take j⟩ ++ [x.2.1] := by
  unfold marks
  dsimp only
  rw [List.take_add_one, hx]
  simp
/-- The last mark goes. -/
theorem lg_cut {L : List Pc} {j : Nat} {x : Pc} {b : Int} {a : Option Addr} (hx : L[j]? = some x) (hN : N = j + 2) (hf : ∀ y, (L.take (j + 1))[0]? = some y → y.2.2 = f) (H : Sit W w V (lgX q a c N f ⟨b, L.take (j + 1)⟩)) :
    V.cell? ⟨q, 0, none⟩ = some (.slice a N c) ∧ V.frozen? ⟨q, 0, none⟩ = false ∧ Hid (Sit W w (V.setCell ⟨q, 0, none⟩ (.slice a (j + 1) c)) (lgT q ⟨b, L.take j⟩)) := by
  obtain ⟨h1, h2, h3⟩ := sit_row (o := 0) H rfl (.slice a (j + 1) c)
  refine ⟨h1, h2, Lib.hid (h3.out.imp (fun h => ⟨a, c, f, ?_, fun y hy => ?_⟩))⟩
  · have hlt := (List.getElem?_eq_some_iff.1 hx).1
    have e1 : (L.take j).length + 1 = j + 1 := by rw [List.length_take]; omega
    show (lgX q a c ((L.take j).length + 1) f ⟨b, L.take j⟩).at_ _ _
    rw [e1]
    obtain ⟨W1, W2, g1, ⟨g2, g3⟩, g4, g5⟩ := h
    obtain ⟨g, rfl⟩ := owm_addr g2 (by omega)
    refine ⟨W1, W2, g1, ⟨?_, g3⟩, g4, g5⟩
    rw [marks_take b hx, hN] at g2
    obtain ⟨r, k1, k2, k3, k4, k5, k6⟩ := owm_parts g2
    rw [show ints (marks ⟨b, L.take j⟩ ++ [x.2.1]) = ints (marks ⟨b, L.take j⟩) ++ [.int .i64 x.2.1] by simp [ints], List.append_assoc] at k1
    exact owm_of_parts k1 (by rw [ints_length, marks_len]; simp [List.length_take]; omega) (by rw [← k3]; simp [ints]) (by omega) k5 k6
  · refine hf y ?_
    cases j with
    | zero => replace hy : (L.take 0)[0]? = some y := hy; simp at hy
    | succ j => 
      replace hy : (L.take (j + 1))[0]? = some y := hy
      rw [List.getElem?_take] at hy ⊢
      rw [if_pos (by omega)] at hy
      rw [if_pos (by omega)]
      exact hy

end
end Go.Proofs.Ytdlkdagmaeapdaa
