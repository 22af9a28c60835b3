/- What the statements of layer 16 want of the program's shares, told of the plain ones: one word for each call; what works does. No condition but the words. -/
import Derived.Test.YtlnbgfglpdkifaaShBits
import Derived.Test.YtlnbgfglpdkifaaShPlain
namespace Go.Proofs.Ytlnbgfglpdkifaa
open Go.RowKit
set_option linter.unusedVariables false
set_option linter.unusedSimpArgs false
set_option maxRecDepth 100000

structure ShareApi : Prop where
  assign : ∀ {w : World} {ao bo co : Option Addr} {ms : List Int} {ps : List Plc} {os : List Own} {m n k c1 c2 c3 : Nat}, m = ms.length → n = ps.length → k = os.length → m ≤ 1000 → n ≤ 1000 → k ≤ 1000 →
    NumsAt w ao ms → PlAt w bo ps → OwAt w co os → ∀ (E : Int) (l : List Own) (r : Nat), E = asgE ms ps os → l = asgV ms ps os → r = l.length →
    Calls Try.prog 9 #[.slice ao m c1, .slice bo n c2, .slice co k c3] w fun e w' => ∃ a c, e = .returned (.tuple #[.slice a r c, .int .i64 E]) ∧ OwAt w' a l ∧ Still w w'
  of_ : ∀ {w : World} {co : Option Addr} {os : List Own} {k c3 : Nat}, k = os.length → k ≤ 1000 → OwAt w co os → (os.map (·.1)).Nodup → ∀ (x : Int) (r : Nat), r = (ofI os x).length →
    Calls Try.prog 16 #[.slice co k c3, .int .i64 x] w fun e w' => ∃ a c, e = .returned (.slice a r c) ∧ PlAt w' a (ofI os x) ∧ Still w w'
  moved : ∀ {w : World} {ao bo : Option Addr} {was now : List Own} {m n c1 c2 : Nat}, m = was.length → n = now.length → m ≤ 1000 → n ≤ 1000 → OwAt w ao was → OwAt w bo now → (now.map (·.1)).Nodup → ∀ (l : List Plc) (r : Nat), l = movedI was now → r = l.length →
    Calls Try.prog 13 #[.slice ao m c1, .slice bo n c2] w fun e w' => ∃ a c, e = .returned (.slice a r c) ∧ PlAt w' a l ∧ Still w w'
  even : ∀ {w : World} {ao co : Option Addr} {ms : List Int} {os : List Own} {m k c1 c3 : Nat}, m = ms.length → k = os.length → m ≤ 1000 → k ≤ 1000 → NumsAt w ao ms → OwAt w co os → m ≤ c1 → (os.map (·.1)).Nodup → ∀ x : Int, x = evenI ms os →
    Calls Try.prog 11 #[.slice ao m c1, .slice co k c3] w fun e w' => e = .returned (.int .i64 x) ∧ Still w w'
def p3 : List Plc := [(0, 0), (0, 1), (1, 0)]
def o3a : List Own := [((0, 0), 1), ((0, 1), 1), ((1, 0), 2)]
def o3b : List Own := [((0, 0), 1), ((0, 1), 0), ((1, 0), 2)]
theorem row_blk {α : Type} {enc : α → List Value} {m : Nat} (hm : ∀ x, (enc x).length = m) {w : World} {b : Nat} {t : TypeId} {l : List α} (h : Blk w b (rowOf enc l) t) : RowAt enc m w (some ⟨b, 0, none⟩) l := by
  intro i x hx
  refine ⟨b, 0, rfl, fun j v hv => ?_⟩
  rw [Nat.zero_add]
  exact h.cell (rowOf_get hm hx hv)
theorem w16_a : asgE [1, 2] p3 [] = 0 ∧ asgV [1, 2] p3 [] = o3a := by decide
theorem w16_b : asgE [0, 1, 2] p3 o3a = 0 ∧ asgV [0, 1, 2] p3 o3a = o3b ∧ movedI o3a o3b = [(0, 1)] := by decide
theorem OwAt.ids {w : World} {a : Option Addr} {l : List Own} (h : OwAt w a l) (h0 : 0 < l.length) : ∃ b o, a = some ⟨b, o, none⟩ ∧ ∀ i x, l[i]? = some x → w.cell? ⟨b, o + i * 3, none⟩ = some (.int .i64 x.1.1) ∧ w.cell? ⟨b, o + i * 3 + 1, none⟩ = some (.int .i64 x.1.2) ∧ w.cell? ⟨b, o + i * 3 + 2, none⟩ = some (.int .i64 x.2) := by
  obtain ⟨x, hx⟩ := get_some (l := l) (i := 0) h0
  obtain ⟨b, o, rfl, _⟩ := h 0 x hx
  refine ⟨b, o, rfl, fun i y hy => ?_⟩
  obtain ⟨b', o', e, hc⟩ := h i y hy
  obtain ⟨rfl, rfl⟩ : b = b' ∧ o = o' := by simpa using e
  exact ⟨by simpa using hc 0 _ rfl, by simpa [Nat.add_assoc] using hc 1 _ rfl, by simpa [Nat.add_assoc] using hc 2 _ rfl⟩

set_option maxHeartbeats 2000000 in
theorem works16 (A : ShareApi) (w : World) : Calls Try.prog 7 #[] w fun e w' => e = .returned (.bool true) ∧ Still w w' := by
  have HT := Lib.hid (fun V => three_any V)
  have H1 := Lib.hid (fun V b c (h : PlAt V b p3) (W : World) (hs : Still V W) (g : Nat) (hg : Blk W g [.int .i64 1, .int .i64 2] 3) => show Calls Try.prog 9 #[.slice (some ⟨g, 0, none⟩) (2 : Nat) 2, .slice b (3 : Nat) c, .slice none (0 : Nat) 0] W _ from
    A.assign (ms := [1, 2]) (ps := p3) (os := []) rfl rfl rfl (by decide) (by decide) (by decide) (NumsAt.of_blk (l := [1, 2]) hg) (row_still h hs) (fun i x hx => by cases hx) 0 o3a 3 w16_a.1.symm w16_a.2.symm rfl)
  have H2 := Lib.hid (fun V b c (h : PlAt V b p3) a c2 (ha : OwAt V a o3a) (W : World) (hs : Still V W) (g : Nat) (hg : Blk W g [.int .i64 0, .int .i64 1, .int .i64 2] 3) => show Calls Try.prog 9 #[.slice (some ⟨g, 0, none⟩) (3 : Nat) 3, .slice b (3 : Nat) c, .slice a (3 : Nat) c2] W _ from
    A.assign (ms := [0, 1, 2]) (ps := p3) (os := o3a) rfl rfl rfl (by decide) (by decide) (by decide) (NumsAt.of_blk (l := [0, 1, 2]) hg) (row_still h hs) (row_still ha hs) 0 o3b 3 w16_b.1.symm w16_b.2.1.symm rfl)
  have H3 := Lib.hid (fun V a c b c2 (ha : OwAt V a o3a) (hb : OwAt V b o3b) => show Calls Try.prog 13 #[.slice a (3 : Nat) c, .slice b (3 : Nat) c2] V _ from
    A.moved (was := o3a) (now := o3b) rfl rfl (by decide) (by decide) ha hb (by decide) [(0, 1)] 1 w16_b.2.2.symm rfl)
  have H4 := Lib.hid (fun V a c (ha : PlAt V a [(0, 1)]) (W : World) (hs : Still V W) (g : Nat) (hg : Blk W g [.int .i64 0, .int .i64 1] 32) => show Calls Try.prog 18 #[.slice a (1 : Nat) c, .slice (some ⟨g, 0, none⟩) (1 : Nat) 1] W _ from
    sameP16_any W a (some ⟨g, 0, none⟩) [(0, 1)] [(0, 1)] 1 1 c 1 rfl rfl (by decide) (row_still ha hs) (row_blk encPl_len (l := [(0, 1)]) hg))
  go_enter Try.func7, Try.ntmps7
  go_wp2_with (go_at_call 17; ((with_reducible refine (HT.out _).mono ?_)); rintro e w1 ⟨b1, c1, rfl, h, hs⟩; have P1 := Lib.hid h; have G1 := Lib.hid ((Blk.new w [.int .i64 1, .int .i64 2] 3).turned hs (fun h => h)); have S1 := Lib.hid (((Turned.refl _ w).alloc _).trans hs); clear h hs)
  go_wp2_with (go_at_call 9; ((with_reducible refine (H1.out _ _ _ P1.out _ (Turned.refl _ _) _ G1.out).mono ?_)); rintro e w2 ⟨a2, c2, rfl, h, hs⟩; have A2 := Lib.hid h; have S2 := Lib.hid (S1.out.trans hs); clear hs S1 P1 G1; obtain ⟨ab, ao, rfl, hx⟩ := OwAt.ids h (by decide); have x0 := (hx 0 _ rfl).2.2; have x1 := (hx 1 _ rfl).2.2; have x2 := (hx 2 _ rfl).2.2; clear hx h)
  go_wp2_with (go_at_call 17; ((with_reducible refine (HT.out _).mono ?_)); rintro e w3 ⟨b3, c3, rfl, h, hs⟩; have P3 := Lib.hid h; have G3 := Lib.hid ((Blk.new w2 [.int .i64 0, .int .i64 1, .int .i64 2] 3).turned hs (fun h => h)); have hs3 := ((Turned.refl _ w2).alloc _).trans hs; have A3 := Lib.hid (row_still A2.out hs3); have S3 := Lib.hid (S2.out.trans hs3); clear h hs hs3 A2 S2 x0 x1 x2)
  go_wp2_with (go_at_call 9; ((with_reducible refine (H2.out _ _ _ P3.out _ _ A3.out _ (Turned.refl _ _) _ G3.out).mono ?_)); rintro e w4 ⟨a4, c4, rfl, h, hs⟩; have A4 := Lib.hid (row_still A3.out hs); have B4 := Lib.hid h; have S4 := Lib.hid (S3.out.trans hs); clear hs S3 P3 G3 A3; obtain ⟨bb, bo, rfl, hx⟩ := OwAt.ids h (by decide); have x0 := (hx 0 _ rfl).2.2; have x1 := (hx 1 _ rfl).2.2; have x2 := (hx 2 _ rfl).2.2; clear hx h)
  go_wp2_with (go_at_call 13; ((with_reducible refine (H3.out _ _ _ _ _ A4.out B4.out).mono ?_)); rintro e w5 ⟨a5, c5, rfl, h, hs⟩; have A5 := Lib.hid h; have S5 := Lib.hid (S4.out.trans hs); clear hs S4 h x0 x1 x2 A4 B4)
  go_wp2_with (go_at_call 18; ((with_reducible refine (H4.out _ _ _ A5.out _ ((Turned.refl _ _).alloc _) _ (Blk.new w5 _ _)).mono ?_)); rintro e w6 ⟨rfl, hs⟩; have S6 := Lib.hid ((S5.out.alloc _).trans hs); clear hs S5 A5)
  go_ret
  exact ⟨by first | rfl | simp, S6.out⟩
end Go.Proofs.Ytlnbgfglpdkifaa
