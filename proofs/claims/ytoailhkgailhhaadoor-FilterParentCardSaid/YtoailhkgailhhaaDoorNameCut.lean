/- What the library's Cut does with a text and a stroke, told of the text's levels. No condition but that the text is not too long. -/
import Derived.Test.YtoailhkgailhhaaDoorName
import Derived.Test.YtoailhkgailhhaaDoorShelf
import Derived.OwnWalk
namespace Go.Proofs.YtoailhkgailhhaaDoor
open Go.RowKit
set_option linter.unusedVariables false
set_option linter.unusedSimpArgs false
set_option maxRecDepth 100000

theorem ixb : ∀ (l : Txt) (c : UInt8), (Lib.indexByte l c = -1 ∧ c ∉ l) ∨ ∃ i : Nat, Lib.indexByte l c = (i : Int) ∧ i < l.length ∧ l = l.take i ++ c :: l.drop (i + 1) ∧ c ∉ l.take i
  | [], c => .inl ⟨rfl, by simp⟩
  | b :: l, c => by
    rw [Lib.indexByte]
    by_cases hb : b = c
    · subst hb
      exact .inr ⟨0, by simp, by simp, by simp, by simp⟩
    · have hbe : (b == c) = false := by simpa using hb
      rw [hbe]
      simp only [Bool.false_eq_true, if_false]
      rcases ixb l c with ⟨h1, h2⟩ | ⟨i, h1, h2, h3, h4⟩
      · refine .inl ⟨by rw [h1]; rfl, ?_⟩
        intro h
        rcases List.mem_cons.1 h with h | h
        · exact hb h.symm
        · exact h2 h
      · refine .inr ⟨i + 1, ?_, by simp only [List.length_cons]; omega, ?_, ?_⟩
        · rw [h1]
          have : ((i : Int) == -1) = false := beq_eq_false_iff_ne.2 (by omega)
          rw [this]; simp
        · rw [List.take_succ_cons, List.drop_succ_cons, List.cons_append, ← h3]
        · rw [List.take_succ_cons]
          intro h
          rcases List.mem_cons.1 h with h | h
          · exact hb h.symm
          · exact h4 h

theorem spF_front : ∀ (l : Txt) (d e : List Txt) (c : Txt), spF (d ++ e) c l = d ++ spF e c l
  | [], d, e, c => by simp [spF]
  | b :: l, d, e, c => by
    rw [spF, spF]
    split
    · rw [List.append_assoc, spF_front l d]
    · rw [spF_front l d]
/-- A text's first level, and those of what comes behind its first stroke. -/
theorem spl_cut {x r : Txt} (h : (47 : UInt8) ∉ x) : spl (x ++ 47 :: r) = x :: spl r := by
  unfold spl
  rw [spF_skip x [] [] _ h, spF, if_pos rfl]
  exact spF_front r [x] [] []

/-- What Cut at a stroke leaves. -/
def CutPost (w : World) (l : Txt) (e : Ending) (w' : World) : Prop := ∃ (x r : Txt) (b : Bool) (n : Nat), e = .returned (.tuple #[tx x, tx r, .bool b]) ∧ w' = w.drewN n ∧
  ((b = true ∧ l.length = x.length + 1 + r.length ∧ spl l = x :: spl r) ∨ (b = false ∧ spl l = [x] ∧ r = []))

theorem slindex_any (l : Txt) (c : UInt8) (w : World) : Calls Tryd.prog 62 #[tx l, tx [c]] w fun e w' => e = .returned (.int .i64 (Lib.indexByte l c)) ∧ w' = w :=
  Tryd.stringslite_Index_one ⟨l.toArray⟩ c w

set_option maxHeartbeats 1000000 in
theorem slcut_any (l : Txt) (w : World) (hmax : l.length ≤ 1000000) : Calls Tryd.prog 69 #[tx l, tx [47]] w (CutPost w l) := by
  have HI := Lib.hid (fun V => slindex_any l 47 V)
  obtain ⟨s, hs⟩ : ∃ s, s = ByteArray.mk l.toArray := ⟨_, rfl⟩
  obtain ⟨m, hm⟩ : ∃ m, m = l.length := ⟨_, rfl⟩
  have hsz : s.size = m := by rw [hs, hm, tx_size]
  have hmm : m ≤ 1000000 := by omega
  have HE := Lib.hid (fun (a b : Nat) => show Value.string (s.extract a b) = tx ((l.drop a).take (b - a)) by rw [hs, ByteArray.extract_mk]; rfl)
  have HS := Lib.hid (show Value.string s = tx l by rw [hs]; rfl)
  rcases ixb l 47 with ⟨h1, h2⟩ | ⟨i, h1, h2, h3, h4⟩
  · rw [h1] at HI
    have HP := Lib.hid (show CutPost w l (.returned (.tuple #[.string s, .string ⟨#[]⟩, .bool false])) w from ⟨l, [], false, 0, by rw [HS.out]; rfl, rfl, .inr ⟨rfl, spl_one h2, rfl⟩⟩)
    unfold tx at *
    rw [← hs] at HI ⊢
    clear hs hm h1 h2 hmax HE HS
    go_enter Tryd.func69, Tryd.ntmps69
    go_wp2_with (go_at_call 62; ((with_reducible refine (HI.out _).mono ?_)); rintro e w5 ⟨rfl, rfl⟩)
    go_ret3
    exact HP.out
  · rw [h1] at HI
    have HP := Lib.hid (fun (n : Nat) => show CutPost w l (.returned (.tuple #[.string (s.extract 0 i), .string (s.extract (i + 1) m), .bool true])) (w.drewN n) from ⟨l.take i, l.drop (i + 1), true, n, by rw [HE.out, HE.out, List.drop_zero, Nat.sub_zero, List.take_of_length_le (l := l.drop (i + 1)) (by simp; omega)], rfl, .inl ⟨rfl, by simp; omega, (congrArg spl h3).trans (spl_cut h4)⟩⟩)
    have hil : i < m := by omega
    unfold tx at *
    rw [← hs] at HI ⊢
    clear hs hm h1 h2 h3 h4 hmax HE HS
    go_enter Tryd.func69, Tryd.ntmps69
    go_wp2_with (go_at_call 62; ((with_reducible refine (HI.out _).mono ?_)); rintro e w5 ⟨rfl, rfl⟩)
    go_quiet (fail)
    go_wp2_with fail
    go_ret3
    exact HP.out _

theorem cut_any (l : Txt) (w : World) (hmax : l.length ≤ 1000000) : Calls Tryd.prog 57 #[tx l, tx [47]] w (CutPost w l) := by
  have HC := Lib.hid (fun V => slcut_any l V hmax)
  unfold tx at *
  go_enter Tryd.func57, Tryd.ntmps57
  go_wp2_with (go_at_call 69; ((with_reducible refine (HC.out _).mono ?_)); rintro e w5 ⟨x, r, b, n, rfl, rfl, h⟩)
  go_ret3
  exact ⟨x, r, b, n, rfl, rfl, h⟩
end Go.Proofs.YtoailhkgailhhaaDoor
