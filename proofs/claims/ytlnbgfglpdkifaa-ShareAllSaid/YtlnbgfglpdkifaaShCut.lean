/- The arguments of the statements of layer 16, cut. No condition but the words. -/
import Derived.Test.YtlnbgfglpdkifaaShApi
namespace Go.Proofs.Ytlnbgfglpdkifaa
open Go.RowKit
set_option linter.unusedVariables false
set_option linter.unusedSimpArgs false
set_option maxRecDepth 100000

theorem nums_take {w : World} {a : Option Addr} {l : List Int} (h : NumsAt w a l) (n : Nat) : NumsAt w a (l.take n) := by
  intro i x hx
  rw [List.getElem?_take] at hx
  split at hx
  · exact h i x hx
  · cases hx
/-- The three arguments, cut. -/
structure Cut3 (w : World) (s1 : Sl Int) (s2 : Sl Plc) (s3 : Sl Own) (ms : List Int) (ps : List Plc) (os : List Own) (m n k : Nat) : Prop where
  hms : NumsAt w s1.a ms
  hps : PlAt w s2.a ps
  hos : OwAt w s3.a os
  lm : m = ms.length
  ln : n = ps.length
  lk : k = os.length
  mx : m ≤ 20 ∧ n ≤ 257 ∧ k ≤ 257
theorem Cut3.still {w w' : World} {s1 : Sl Int} {s2 : Sl Plc} {s3 : Sl Own} {ms : List Int} {ps : List Plc} {os : List Own} {m n k : Nat} (h : Cut3 w s1 s2 s3 ms ps os m n k) (hs : Still w w') : Cut3 w' s1 s2 s3 ms ps os m n k :=
  ⟨h.hms.still hs, row_still h.hps hs, row_still h.hos hs, h.lm, h.ln, h.lk, h.mx⟩
theorem cut3 {w : World} {s1 : Sl Int} {s2 : Sl Plc} {s3 : Sl Own} (h1 : SlOk encI (okI .i64) 1 w s1) (h2 : SlOk encPl okPl 2 w s2) (h3 : SlOk encOw okOw 3 w s3) :
    Cut3 w s1 s2 s3 (s1.xs.take 20) (s2.xs.take 257) (s3.xs.take 257) (min s1.len 20) (min s2.len 257) (min s3.len 257) := by
  have e1 := h1.len
  have e2 := h2.len
  have e3 := h3.len
  exact ⟨nums_take (nums_row h1.row) _, row_take h2.row _, row_take h3.row _, by rw [List.length_take]; omega, by rw [List.length_take]; omega, by rw [List.length_take]; omega, by omega⟩
section
variable {w : World} {s1 : Sl Int} {s2 : Sl Plc} {s3 : Sl Own} {ms : List Int} {ps : List Plc} {os : List Own} {m n k : Nat}
theorem Cut3.assign (A : ShareApi) (C : Cut3 w s1 s2 s3 ms ps os m n k) {c1 c2 c3 : Nat} {E : Int} {l : List Own} {r : Nat} (hE : asgE ms ps os = E) (hl : asgV ms ps os = l) (hr : r = l.length) :
    Calls Try.prog 9 #[.slice s1.a m c1, .slice s2.a n c2, .slice s3.a k c3] w fun e w' => ∃ a c, e = .returned (.tuple #[.slice a r c, .int .i64 E]) ∧ OwAt w' a l ∧ Still w w' := by
  have := C.mx
  exact A.assign C.lm C.ln C.lk (by omega) (by omega) (by omega) C.hms C.hps C.hos E l r hE.symm hl.symm hr
theorem Cut3.assign2 (A : ShareApi) (C : Cut3 w s1 s2 s3 ms ps os m n k) {ow : List Own} {g : Option Addr} (hg : OwAt w g ow) {j : Nat} (hj : j = ow.length) (hjm : j ≤ 1000) {c1 c2 c3 : Nat} {E : Int} {l : List Own} {r : Nat} (hE : asgE ms ps ow = E) (hl : asgV ms ps ow = l) (hr : r = l.length) :
    Calls Try.prog 9 #[.slice s1.a m c1, .slice s2.a n c2, .slice g j c3] w fun e w' => ∃ a c, e = .returned (.tuple #[.slice a r c, .int .i64 E]) ∧ OwAt w' a l ∧ Still w w' := by
  have := C.mx
  exact A.assign C.lm C.ln hj (by omega) (by omega) hjm C.hms C.hps hg E l r hE.symm hl.symm hr
end
theorem OwAt.get {w : World} {a : Option Addr} {l : List Own} (h : OwAt w a l) {i : Nat} {p q x : Int} (hx : l[i]? = some ((p, q), x)) : ∃ b o, a = some ⟨b, o, none⟩ ∧ w.cell? ⟨b, o + i * 3, none⟩ = some (.int .i64 p) ∧ w.cell? ⟨b, o + i * 3 + 1, none⟩ = some (.int .i64 q) ∧ w.cell? ⟨b, o + i * 3 + 2, none⟩ = some (.int .i64 x) := by
  obtain ⟨b, o, rfl, hc⟩ := h i _ hx
  exact ⟨b, o, rfl, by simpa using hc 0 _ rfl, by simpa [Nat.add_assoc] using hc 1 _ rfl, by simpa [Nat.add_assoc] using hc 2 _ rfl⟩
theorem PlAt.get {w : World} {a : Option Addr} {l : List Plc} (h : PlAt w a l) {i : Nat} {p q : Int} (hx : l[i]? = some (p, q)) : ∃ b o, a = some ⟨b, o, none⟩ ∧ w.cell? ⟨b, o + i * 2, none⟩ = some (.int .i64 p) ∧ w.cell? ⟨b, o + i * 2 + 1, none⟩ = some (.int .i64 q) := by
  obtain ⟨b, o, rfl, hc⟩ := h i _ hx
  exact ⟨b, o, rfl, by simpa using hc 0 _ rfl, by simpa [Nat.add_assoc] using hc 1 _ rfl⟩
end Go.Proofs.Ytlnbgfglpdkifaa
