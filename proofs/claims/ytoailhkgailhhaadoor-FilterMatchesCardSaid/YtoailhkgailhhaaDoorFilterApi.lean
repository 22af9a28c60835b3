/- What the statements of layer 9 want of the program's calls, told of the plain filters; the statement's own helpers. The words are shown of the program in another text. No condition. -/
import Derived.Test.YtoailhkgailhhaaDoorFilterCov
import Derived.Test.YtoailhkgailhhaaDoorTextMore
namespace Go.Proofs.YtoailhkgailhhaaDoor
open Go.RowKit
set_option linter.unusedVariables false
set_option linter.unusedSimpArgs false
set_option maxRecDepth 100000

def FlvPost (w : World) (l : Txt) (n : Nat) (e : Ending) (w' : World) : Prop := ∃ a c, e = .returned (.tuple #[.slice a n c, .int .i64 (fcE l)]) ∧ TextsAt w' a (flv l) ∧ SlW a n c ∧ Still w w'

structure FilterApi : Prop where
  check : ∀ (l : Txt) (w : World), l.length ≤ 300 → Calls Tryd.prog 15 #[tx l] w fun e w' => e = .returned (.int .i64 (fcE l)) ∧ Still w w'
  levels : ∀ (l : Txt) (w : World), l.length ≤ 300 → Calls Tryd.prog 10 #[tx l] w (FlvPost w l (flv l).length)
  match_ : ∀ (f n : Txt) (w : World), f.length ≤ 300 → n.length ≤ 300 → Calls Tryd.prog 19 #[tx f, tx n] w fun e w' => e = .returned (.tuple #[.bool (mtB f n), .int .i64 (mtE f n)]) ∧ Still w w'
  wild : ∀ (l : Txt) (w : World), l.length ≤ 300 → Calls Tryd.prog 16 #[tx l] w fun e w' => e = .returned (.bool (wldB l)) ∧ Still w w'
  any : ∀ (n : Txt) (ls : List Txt) (w : World) (ao : Option Addr) (m cap : Nat), m = ls.length → TextsAt w ao ls → SlW ao m cap → m ≤ 20 → n.length ≤ 300 → (∀ x ∈ ls, x.length ≤ 300) →
    Calls Tryd.prog 21 #[tx n, .slice ao m cap] w fun e w' => e = .returned (.tuple #[.int .i64 (anV n ls).1, .int .i64 (anV n ls).2]) ∧ Still w w'
  covers : ∀ (a b : Txt) (w : World), a.length ≤ 300 → b.length ≤ 300 → Calls Tryd.prog 23 #[tx a, tx b] w fun e w' => e = .returned (.tuple #[.bool (cvB a b), .int .i64 (cvE a b)]) ∧ Still w w'

theorem short9_any (l : Txt) (w : World) (h : l.length ≤ maxLen) : Calls Tryd.prog 9 #[tx l] w fun e w' => e = .returned (tx (l.take 300)) ∧ w' = w := by
  obtain ⟨s, hs⟩ : ∃ s, s = ByteArray.mk l.toArray := ⟨_, rfl⟩
  obtain ⟨m, hm⟩ : ∃ m, m = l.length := ⟨_, rfl⟩
  have hsz : s.size = m := by rw [hs, hm, tx_size]
  have hmm : (m : Int) ≤ 9223372036854775807 := by unfold maxLen at h; omega
  have HE := Lib.hid (fun (k : Nat) => show Value.string (s.extract 0 k) = tx (l.take k) by rw [hs, ByteArray.extract_mk]; rfl)
  have HL := Lib.hid (show l.take m = l from List.take_of_length_le (by omega))
  have HM := Lib.hid (fun (h : m ≤ 300) => show l.take 300 = l from List.take_of_length_le (by omega))
  unfold tx
  rw [← hs]
  clear hs hm h
  by_cases h3 : m ≤ 300
  · have hif : (if (300 : Int) < (m : Int) then (300 : Int) else (m : Int)) = (m : Int) := if_neg (by omega)
    go_enter Tryd.func9, Tryd.ntmps9
    go_wp2_with fail
    go_ret
    refine ⟨?_, rfl⟩
    show Ending.returned (Value.string (s.extract 0 m)) = _
    rw [HE.out, HL.out, HM.out h3]; rfl
  · have hif : (if (300 : Int) < (m : Int) then (300 : Int) else (m : Int)) = 300 := if_pos (by omega)
    go_enter Tryd.func9, Tryd.ntmps9
    go_wp2_with fail
    go_ret
    refine ⟨?_, rfl⟩
    show Ending.returned (Value.string (s.extract 0 300)) = _
    rw [HE.out]; rfl

set_option maxHeartbeats 1000000 in
theorem works9 (A : FilterApi) (w : World) : Calls Tryd.prog 17 #[] w fun e w' => e = .returned (.bool true) ∧ Still w w' := by
  have C1 := Lib.hid (fun W => A.match_ [97, 47, 43, 47, 99] [97, 47, 98, 47, 99] W (by decide) (by decide))
  have C2 := Lib.hid (fun W => A.match_ [97, 47, 35] [97] W (by decide) (by decide))
  have C3 := Lib.hid (fun W => A.match_ [35] [36, 97] W (by decide) (by decide))
  have C4 := Lib.hid (fun W => A.check [97, 43] W (by decide))
  rw [show mtB [97, 47, 43, 47, 99] [97, 47, 98, 47, 99] = true by decide, show mtE [97, 47, 43, 47, 99] [97, 47, 98, 47, 99] = 0 by decide] at C1
  rw [show mtB [97, 47, 35] [97] = true by decide] at C2
  rw [show mtB [35] [36, 97] = false by decide, show mtE [35] [36, 97] = 0 by decide] at C3
  rw [show fcE [97, 43] = 90 by decide] at C4
  generalize mtE [97, 47, 35] [97] = me at *
  unfold tx at C1 C2 C3 C4
  go_enter Tryd.func17, Tryd.ntmps17
  go_wp2_with (first
    | (go_at_call 19; ((with_reducible refine (C1.out _).mono ?_)); rintro e w1 ⟨rfl, h1⟩)
    | (go_at_call 19; ((with_reducible refine (C2.out _).mono ?_)); rintro e w2 ⟨rfl, h2⟩)
    | (go_at_call 19; ((with_reducible refine (C3.out _).mono ?_)); rintro e w3 ⟨rfl, h3⟩)
    | (go_at_call 15; ((with_reducible refine (C4.out _).mono ?_)); rintro e w4 ⟨rfl, h4⟩))
  go_ret
  exact ⟨by first | rfl | simp, h1.trans (h2.trans (h3.trans h4))⟩
end Go.Proofs.YtoailhkgailhhaaDoor
