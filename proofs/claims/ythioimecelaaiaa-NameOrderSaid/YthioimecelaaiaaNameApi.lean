/- What the statements of layer 8 want of the program's calls, told of the plain names; the statement's own helpers. The words are shown of the program in another text. No condition. -/
import Derived.Test.YthioimecelaaiaaNameCmp
import Derived.Test.YthioimecelaaiaaTextMore
namespace Go.Proofs.Ythioimecelaaiaa
open Go.RowKit
set_option linter.unusedVariables false
set_option linter.unusedSimpArgs false
set_option maxRecDepth 100000

def LevPost (w : World) (l : Txt) (n : Nat) (e : Ending) (w' : World) : Prop := ∃ a c, e = .returned (.tuple #[.slice a n c, .int .i64 (nmE l)]) ∧ TextsAt w' a (lvls l) ∧ SlW a n c ∧ Still w w'
structure NameApi : Prop where
  check : ∀ (l : Txt) (w : World), l.length ≤ 300 → Calls Try.prog 14 #[tx l] w fun e w' => e = .returned (.int .i64 (nmE l)) ∧ Still w w'
  levels : ∀ (l : Txt) (w : World), l.length ≤ 300 → Calls Try.prog 10 #[tx l] w (LevPost w l (lvls l).length)
  of : ∀ (ls : List Txt) (w : World) (ao : Option Addr) (n cap : Nat), n = ls.length → TextsAt w ao ls → SlW ao n cap → n ≤ 20 → (∀ x ∈ ls, x.length ≤ 300) →
    Calls Try.prog 19 #[.slice ao n cap] w fun e w' => e = .returned (.tuple #[tx (ofT ls), .int .i64 (ofE ls)]) ∧ Still w w'
  depth : ∀ (l : Txt) (w : World), l.length ≤ 300 → Calls Try.prog 12 #[tx l] w fun e w' => e = .returned (.tuple #[.int .i64 (lvls l).length, .int .i64 (nmE l)]) ∧ Still w w'
  hidden : ∀ (l : Txt) (w : World), l.length ≤ 300 → Calls Try.prog 16 #[tx l] w fun e w' => e = .returned (.bool (hdB l)) ∧ Still w w'
  above : ∀ (l : Txt) (d : Int) (w : World), l.length ≤ 300 → i64w d → Calls Try.prog 21 #[tx l, .int .i64 d] w fun e w' => e = .returned (.tuple #[tx (abT l d), .int .i64 (abE l d)]) ∧ Still w w'
  compare : ∀ (a b : Txt) (w : World), a.length ≤ 300 → b.length ≤ 300 → Calls Try.prog 23 #[tx a, tx b] w fun e w' => e = .returned (.tuple #[.int .i64 (cpN a b), .int .i64 (cpE a b)]) ∧ Still w w'

theorem short_any (l : Txt) (w : World) (h : l.length ≤ maxLen) : Calls Try.prog 9 #[tx l] w fun e w' => e = .returned (tx (l.take 300)) ∧ w' = w := by
  obtain ⟨s, hs⟩ : ∃ s, s = ByteArray.mk l.toArray := ⟨_, rfl⟩
  obtain ⟨m, hm⟩ : ∃ m, m = l.length := ⟨_, rfl⟩
  have hsz : s.size = m := by rw [hs, hm, tx_size]
  have hmm : (m : Int) ≤ 9223372036854775807 := by unfold maxLen at h; omega
  have HE := Lib.hid (fun (k : Nat) => show Value.string (s.extract 0 k) = tx (l.take k) by rw [hs, ByteArray.extract_mk]; rfl)
  have HL := Lib.hid (show l.take m = l from List.take_of_length_le (by omega))
  have HM := Lib.hid (fun (h : m ≤ 300) => show l.take 300 = l from List.take_of_length_le (by omega))
  unfold tx
  rw [← hs]
  clear hs hm h
  by_cases h3 : m ≤ 300
  · have hif : (if (300 : Int) < (m : Int) then (300 : Int) else (m : Int)) = (m : Int) := if_neg (by omega)
    go_enter Try.func9, Try.ntmps9
    go_wp2_with fail
    go_ret
    refine ⟨?_, rfl⟩
    show Ending.returned (Value.string (s.extract 0 m)) = _
    rw [HE.out, HL.out, HM.out h3]; rfl
  · have hif : (if (300 : Int) < (m : Int) then (300 : Int) else (m : Int)) = 300 := if_pos (by omega)
    go_enter Try.func9, Try.ntmps9
    go_wp2_with fail
    go_ret
    refine ⟨?_, rfl⟩
    show Ending.returned (Value.string (s.extract 0 300)) = _
    rw [HE.out]; rfl

set_option maxHeartbeats 1000000 in
theorem works8 (A : NameApi) (w : World) : Calls Try.prog 18 #[] w fun e w' => e = .returned (.bool true) ∧ Still w w' := by
  have e1 : nmE [97, 47, 47, 98] = 0 := by decide
  have e2 : spl [97, 47, 47, 98] = [[97], [], [98]] := by decide
  have e3 : abE [97, 47, 98, 47, 99] 2 = 0 := by decide
  have e4 : abT [97, 47, 98, 47, 99] 2 = [97, 47, 98] := by decide
  have e5 : nmE [97, 43] = 80 := by decide
  have C1 := Lib.hid (fun W => A.levels [97, 47, 47, 98] W (by decide))
  have C2 := Lib.hid (fun W => A.above [97, 47, 98, 47, 99] 2 W (by decide) ⟨by omega, by omega⟩)
  have C3 := Lib.hid (fun W => A.check [97, 43] W (by decide))
  unfold LevPost at C1
  rw [e1, lvls_ok e1, e2] at C1
  rw [e3, e4] at C2
  rw [e5] at C3
  have C4 := Lib.hid (fun (W : World) a (c : Nat) (h : TextsAt W a [[97], [], [98]]) => sameT_any [[97], [], [98]] [[97], [], [98]] (W.alloc (.cells #[tx [97], tx [], tx [98]] 9)) a (some ⟨W.heap.size, 0, none⟩) 3 3 c 3 rfl rfl (h.still ((Turned.refl _ W).alloc _)) (TextsAt.lit _ _ [[97], [], [98]] (Blk.new W _ _)) (by omega) (by omega))
  rw [decide_eq_true rfl] at C4
  unfold tx at C1 C2 C3 C4
  clear e1 e2 e3 e4 e5
  go_enter Try.func18, Try.ntmps18
  go_wp2_with (first
    | (go_at_call 10; ((with_reducible refine (C1.out _).mono ?_)); rintro e w1 ⟨a1, c1, rfl, hA1, _, h1⟩)
    | (go_at_call 21; ((with_reducible refine (C2.out _).mono ?_)); rintro e w2 ⟨rfl, h2⟩))
  have hA2 := hA1.still h2
  have hB := Lib.hid ((h1.trans h2).alloc (.cells #[tx [97], tx [], tx [98]] 9))
  clear hA1 C1 C2
  refine (C4.out w2 _ _ hA2).mono ?_
  rintro e w3 ⟨rfl, h3⟩
  go_wp2_with (go_at_call 14; ((with_reducible refine (C3.out _).mono ?_)); rintro e w4 ⟨rfl, h4⟩)
  go_ret
  exact ⟨by first | rfl | simp, (hB.out.trans h3).trans h4⟩
end Go.Proofs.Ythioimecelaaiaa
