/- Places and owners in memory; what the statements' own helpers say of rows of them. No condition. -/
import Derived.Test.YtlnbgfglpdkifaaActs16
import Derived.Test.YtlnbgfglpdkifaaRowM
import Derived.Laws.StructEq
import Derived.Deep.CutBlock
import Derived.BigQuiet
namespace Go.Proofs.Ytlnbgfglpdkifaa
open Go.RowKit
set_option linter.unusedVariables false
set_option linter.unusedSimpArgs false
set_option maxRecDepth 100000

abbrev PlAt (w : World) (a : Option Addr) (l : List Plc) : Prop := RowAt encPl 2 w a l
abbrev OwAt (w : World) (a : Option Addr) (l : List Own) : Prop := RowAt encOw 3 w a l
theorem row_still {α : Type} {enc : α → List Value} {m : Nat} {w w' : World} {a : Option Addr} {l : List α} (h : RowAt enc m w a l) (hs : Still w w') : RowAt enc m w' a l := by
  intro i x hx
  obtain ⟨b, o, rfl, hc⟩ := h i x hx
  exact ⟨b, o, rfl, fun j v hv => still_cell hs (hc j v hv) rfl⟩
theorem row_take {α : Type} {enc : α → List Value} {m : Nat} {w : World} {a : Option Addr} {l : List α} (h : RowAt enc m w a l) (n : Nat) : RowAt enc m w a (l.take n) := by
  intro i x hx
  rw [List.getElem?_take] at hx
  split at hx
  · exact h i x hx
  · cases hx

@[go_sem] theorem pl16_eqIn (a b c d : Int) (w : World) : (Op.equalIn 10000 32 (.agg #[.int .i64 a, .int .i64 b]) (.agg #[.int .i64 c, .int .i64 d])).run Try.prog w = .ok (decide (a = c ∧ b = d)) w := by
  have u3 := Try.underlying3
  have a3 := Try.isAgg3
  have z3 := Try.sizeOf3
  rw [show (10000 : Nat) = 9999 + 1 from rfl, Op.equalIn]
  simp only [Sem.run_bind, run_underlying Try.underlying32, Result.andThen_ok]
  go_simp
  by_cases h1 : a = c <;> by_cases h2 : b = d <;> simp [h1, h2]

theorem p16_take {α : Type} {l : List α} {k : Nat} {x : α} (h : l[k]? = some x) : l.take (k + 1) = l.take k ++ [x] := by
  rw [List.take_add_one, h]; rfl
set_option maxHeartbeats 1000000 in
theorem sameP16_any (w : World) (ao bo : Option Addr) (A B : List Plc) (n m ca cb : Nat) (hn : n = A.length) (hm : m = B.length) (hl : n ≤ 4611686018427387904) (hA : PlAt w ao A) (hB : PlAt w bo B) :
    Calls Try.prog 18 #[.slice ao n ca, .slice bo m cb] w fun e w' => e = .returned (.bool (decide (A = B))) ∧ Still w w' := by
  by_cases hnm : n = m
  · have hb : ((n : Int) != (m : Int)) = false := by rw [bne_eq_false_iff_eq]; omega
    have HN := Lib.hid hn
    have HMM := Lib.hid hm
    have HA := Lib.hid hA
    have HB := Lib.hid hB
    have HNM := Lib.hid hnm
    have hnm' : n ≤ m := by omega
    clear hn hm hA hB hnm
    go_enter Try.func18, Try.ntmps18
    go_wp2_with fail
    go_loopw [5] (fun i wr => ∃ k : Nat, k ≤ n ∧ i = .int .i64 k ∧ A.take k = B.take k ∧ ∃ q, wr = w.drewN q) (fun i _ => n - (intOf i).toNat)
    case atStart => exact ⟨0, Nat.zero_le _, rfl, by simp, 0, rfl⟩
    case round =>
      obtain ⟨k, hk, rfl, ht, q, rfl⟩ := hrel
      have HTK := Lib.hid ht
      clear ht
      by_cases hlt : k < n
      · obtain ⟨x, hx⟩ := get_some (l := A) (i := k) (by rw [← HN.out]; exact hlt)
        obtain ⟨y, hy⟩ := get_some (l := B) (i := k) (by rw [← HMM.out]; omega)
        obtain ⟨b, o, rfl, hcx⟩ := HA.out k x hx
        obtain ⟨b', o', rfl, hcy⟩ := HB.out k y hy
        have x0 := hcx 0 _ rfl
        have x1 := hcx 1 _ rfl
        have y0 := hcy 0 _ rfl
        have y1 := hcy 1 _ rfl
        have HX := Lib.hid hx
        have HY := Lib.hid hy
        obtain ⟨xf, xt⟩ := x
        obtain ⟨yf, yt⟩ := y
        rw [Nat.add_zero] at x0 y0
        rw [← Nat.add_assoc] at x1 y1
        dsimp only at x0 x1 y0 y1
        have hkm : k < m := by omega
        have hkmi : (k : Int) < (m : Int) := by omega
        clear hx hy hcx hcy
        by_cases hxy : xf = yf ∧ xt = yt
        · obtain ⟨rfl, rfl⟩ := hxy
          go_wp2_with fail
          go_quiet (fail)
          go_wp2_with fail
          go_roundw
          case rel => exact ⟨k + 1, by omega, by go_num, by rw [p16_take HX.out, p16_take HY.out, HTK.out], _, rfl⟩
          case measure => simp [intOf]; omega
        · have hne : decide (A = B) = false := by
            rw [decide_eq_false_iff_not]
            intro h
            have h1 := HX.out
            rw [h, HY.out] at h1
            have h2 := Option.some.inj h1
            exact hxy ⟨(congrArg Prod.fst h2).symm, (congrArg Prod.snd h2).symm⟩
          have HNE := Lib.hid hne
          have hxy' : xf ≠ yf ∨ (xf = yf ∧ xt ≠ yt) := by
            by_cases h1 : xf = yf
            · exact .inr ⟨h1, fun h2 => hxy ⟨h1, h2⟩⟩
            · exact .inl h1
          clear hne hxy
          rcases hxy' with h1 | ⟨rfl, h1⟩
          all_goals (
            go_wp2_with fail
            go_quiet (fail)
            go_wp2_with fail
            go_ret
            exact ⟨ret_bool HNE.out.symm, ((Turned.refl _ _).drewN _).drewN _⟩)
      · obtain rfl : k = n := by omega
        clear hlt
        go_wp2_with fail
        go_ret
        refine ⟨ret_bool ?_, (Turned.refl _ _).drewN _⟩
        have h1 := HTK.out
        rw [List.take_of_length_le (by rw [HN.out]; omega), List.take_of_length_le (by rw [← HMM.out, ← HNM.out]; omega)] at h1
        simp [h1]
  · have hb : ((n : Int) != (m : Int)) = true := by rw [bne_iff_ne]; omega
    have HNE := Lib.hid (show decide (A = B) = false from by
      rw [decide_eq_false_iff_not]
      rintro rfl
      omega)
    clear hn hm hA hB hnm
    go_enter Try.func18, Try.ntmps18
    go_wp2_with fail
    go_ret
    exact ⟨ret_bool HNE.out.symm, Turned.refl _ _⟩
@[go_sem] theorem ow16_eqIn (a b c d e f : Int) (w : World) : (Op.equalIn 10000 34 (.agg #[.int .i64 a, .int .i64 b, .int .i64 c]) (.agg #[.int .i64 d, .int .i64 e, .int .i64 f])).run Try.prog w = .ok (decide ((a = d ∧ b = e) ∧ c = f)) w := by
  have u3 := Try.underlying3
  have a3 := Try.isAgg3
  have z3 := Try.sizeOf3
  have u4 := Try.underlying32
  rw [show (10000 : Nat) = 9998 + 2 from rfl, Op.equalIn]
  simp only [Sem.run_bind, run_underlying Try.underlying34, Result.andThen_ok]
  go_simp
  by_cases h1 : a = d <;> by_cases h2 : b = e <;> by_cases h3 : c = f <;> simp [h1, h2, h3]
end Go.Proofs.Ytlnbgfglpdkifaa
