/- Spans that are handed out; what the base's SameSpans says of two rows of spans. No condition. -/
import Derived.Test.YtdlkdagmaeapdaaRowM
import Derived.Test.YtdlkdagmaeapdaaRead
import Derived.Test.YtdlkdagmaeapdaaBase
import Derived.Laws.StructEq
import Derived.Deep.CutBlock
import Derived.BigQuiet
namespace Go.Proofs.Ytdlkdagmaeapdaa
open Go.RowKit
set_option linter.unusedVariables false
set_option linter.unusedSimpArgs false
set_option maxRecDepth 100000

def sp2V (x : Int × Int) : List Value := [.int .i64 x.1, .int .i64 x.2]
theorem sp2V_len (x : Int × Int) : (sp2V x).length = 2 := rfl
/-- Spans that are handed out: a slice of one's own. -/
def OutSp (w : World) (l : List (Int × Int)) (n : Nat) (e : Ending) (w' : World) : Prop := ∃ a c, e = .returned (.slice a n c) ∧ w'.ownsRow w.heap.size 51 2 (.slice a n c) n (rowOf sp2V l) ∧ Still w w'
abbrev SpAt (w : World) (a : Option Addr) (l : List (Int × Int)) : Prop := RowAt sp2V 2 w a l
theorem SpAt.of_own {w : World} {B n c : Nat} {a : Option Addr} {l : List (Int × Int)} (h : w.ownsRow B 51 2 (.slice a n c) n (rowOf sp2V l)) (hn : n = l.length) : SpAt w a l := by
  intro i x hx
  have hlt := (List.getElem?_eq_some_iff.1 hx).1
  obtain ⟨g, rfl⟩ := owm_addr h (by omega)
  refine ⟨g, 0, rfl, fun j v hv => ?_⟩
  rw [Nat.zero_add]
  exact (owm_cell h (rowOf_get sp2V_len hx hv)).1
theorem SpAt.of_blk {w : World} {b : Nat} {l : List (Int × Int)} (h : Blk w b (rowOf sp2V l) 51) : SpAt w (some ⟨b, 0, none⟩) l := by
  intro i x hx
  refine ⟨b, 0, rfl, fun j v hv => ?_⟩
  rw [Nat.zero_add]
  exact h.cell (rowOf_get sp2V_len hx hv)
theorem OutSp.at {w w' : World} {l : List (Int × Int)} {n : Nat} {e : Ending} (hn : n = l.length) (h : OutSp w l n e w') : ∃ a c, e = .returned (.slice a n c) ∧ SpAt w' a l ∧ Still w w' := by
  obtain ⟨a, c, he, ho, hs⟩ := h
  exact ⟨a, c, he, SpAt.of_own ho hn, hs⟩

@[go_sem] theorem sp_eqIn (a b c d : Int) (w : World) : (Op.equalIn 10000 51 (.agg #[.int .i64 a, .int .i64 b]) (.agg #[.int .i64 c, .int .i64 d])).run Try.prog w = .ok (decide (a = c ∧ b = d)) w := by
  have u3 := Try.underlying3
  have a3 := Try.isAgg3
  have z3 := Try.sizeOf3
  rw [show (10000 : Nat) = 9999 + 1 from rfl, Op.equalIn]
  simp only [Sem.run_bind, run_underlying Try.underlying51, Result.andThen_ok]
  go_simp
  by_cases h1 : a = c <;> by_cases h2 : b = d <;> simp [h1, h2]

theorem sp_take {α : Type} {l : List α} {k : Nat} {x : α} (h : l[k]? = some x) : l.take (k + 1) = l.take k ++ [x] := by
  rw [List.take_add_one, h]; rfl
set_option maxHeartbeats 1000000 in
theorem sameSpans_any (w : World) (ao bo : Option Addr) (A B : List (Int × Int)) (n m ca cb : Nat) (hn : n = A.length) (hm : m = B.length) (hl : n ≤ 4611686018427387904) (hA : SpAt w ao A) (hB : SpAt w bo B) :
    Calls Try.prog 49 #[.slice ao n ca, .slice bo m cb] w fun e w' => e = .returned (.bool (decide (A = B))) ∧ Still w w' := by
  by_cases hnm : n = m
  · have hb : ((n : Int) != (m : Int)) = false := by rw [bne_eq_false_iff_eq]; omega
    have HN := Lib.hid hn
    have HMM := Lib.hid hm
    have HA := Lib.hid hA
    have HB := Lib.hid hB
    have HNM := Lib.hid hnm
    have hnm' : n ≤ m := by omega
    clear hn hm hA hB hnm
    go_enter Try.func49, Try.ntmps49
    go_wp2_with fail
    go_loopw [5] (fun i wr => ∃ k : Nat, k ≤ n ∧ i = .int .i64 k ∧ A.take k = B.take k ∧ ∃ q, wr = w.drewN q) (fun i _ => n - (intOf i).toNat)
    case atStart => exact ⟨0, Nat.zero_le _, rfl, by simp, 0, rfl⟩
    case round =>
      obtain ⟨k, hk, rfl, ht, q, rfl⟩ := hrel
      have HTK := Lib.hid ht
      clear ht
      by_cases hlt : k < n
      · obtain ⟨x, hx⟩ := get_some (l := A) (i := k) (by rw [← HN.out]; exact hlt)
        obtain ⟨y, hy⟩ := get_some (l := B) (i := k) (by rw [← HMM.out]; omega)
        obtain ⟨b, o, rfl, hcx⟩ := HA.out k x hx
        obtain ⟨b', o', rfl, hcy⟩ := HB.out k y hy
        have x0 := hcx 0 _ rfl
        have x1 := hcx 1 _ rfl
        have y0 := hcy 0 _ rfl
        have y1 := hcy 1 _ rfl
        have HX := Lib.hid hx
        have HY := Lib.hid hy
        obtain ⟨xf, xt⟩ := x
        obtain ⟨yf, yt⟩ := y
        rw [Nat.add_zero] at x0 y0
        rw [← Nat.add_assoc] at x1 y1
        dsimp only at x0 x1 y0 y1
        have hkm : k < m := by omega
        have hkmi : (k : Int) < (m : Int) := by omega
        clear hx hy hcx hcy
        by_cases hxy : xf = yf ∧ xt = yt
        · obtain ⟨rfl, rfl⟩ := hxy
          go_wp2_with fail
          go_quiet (fail)
          go_wp2_with fail
          go_roundw
          case rel => exact ⟨k + 1, by omega, by go_num, by rw [sp_take HX.out, sp_take HY.out, HTK.out], _, rfl⟩
          case measure => simp [intOf]; omega
        · have hne : decide (A = B) = false := by
            rw [decide_eq_false_iff_not]
            intro h
            have h1 := HX.out
            rw [h, HY.out] at h1
            have h2 := Option.some.inj h1
            exact hxy ⟨(congrArg Prod.fst h2).symm, (congrArg Prod.snd h2).symm⟩
          have HNE := Lib.hid hne
          have hxy' : xf ≠ yf ∨ (xf = yf ∧ xt ≠ yt) := by
            by_cases h1 : xf = yf
            · exact .inr ⟨h1, fun h2 => hxy ⟨h1, h2⟩⟩
            · exact .inl h1
          clear hne hxy
          rcases hxy' with h1 | ⟨rfl, h1⟩
          all_goals (
            go_wp2_with fail
            go_quiet (fail)
            go_wp2_with fail
            go_ret
            exact ⟨ret_bool HNE.out.symm, ((Turned.refl _ _).drewN _).drewN _⟩)
      · obtain rfl : k = n := by omega
        clear hlt
        go_wp2_with fail
        go_ret
        refine ⟨ret_bool ?_, (Turned.refl _ _).drewN _⟩
        have h1 := HTK.out
        rw [List.take_of_length_le (by rw [HN.out]; omega), List.take_of_length_le (by rw [← HMM.out, ← HNM.out]; omega)] at h1
        simp [h1]
  · have hb : ((n : Int) != (m : Int)) = true := by rw [bne_iff_ne]; omega
    have HNE := Lib.hid (show decide (A = B) = false from by
      rw [decide_eq_false_iff_not]
      rintro rfl
      omega)
    clear hn hm hA hB hnm
    go_enter Try.func49, Try.ntmps49
    go_wp2_with fail
    go_ret
    exact ⟨ret_bool HNE.out.symm, Turned.refl _ _⟩
end Go.Proofs.Ytdlkdagmaeapdaa
