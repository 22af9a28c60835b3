/- TopicFull: the walk. No condition but that the program's sets keep their words. -/
import Derived.Test.YtmmkcfiecgpkpaaGreatBxTpWorks
import Derived.Test.YtmmkcfiecgpkpaaGreatBxItoa
namespace Go.Proofs.YtmmkcfiecgpkpaaGreat
open Go.RowKit
set_option linter.unusedVariables false
set_option linter.unusedSimpArgs false
set_option maxRecDepth 100000

def itS (j : Nat) : Txt := if j < 10 then [UInt8.ofNat (48 + j)] else [49, UInt8.ofNat (38 + j)]
theorem itS_is {j : Nat} (h : j < 16) : itD j = itS j := by
  unfold itS
  by_cases h10 : j < 10
  · rw [if_pos h10, itD_small h10]
  · rw [if_neg h10, itD_step h10, show j / 10 = 1 by omega, itD_small (by omega), show 48 + j % 10 = 38 + j by omega]
    rfl
theorem itS_len (j : Nat) : (itS j).length ≤ 2 := by unfold itS; split <;> simp
theorem t116 (u : Txt) : ((⟨#[116]⟩ : ByteArray) ++ ⟨u.toArray⟩) = ⟨(116 :: u).toArray⟩ := by
  rw [ByteArray.mk_append_mk]; simp
def fN (j : Nat) : Txt := 116 :: itS j
def fT (i : Nat) : List TpM := (List.range i).map fun j => newT (fN j) 1 1 1
def fS (i : Nat) : StM := ⟨PM.new 4 8, fT i⟩
theorem fT_len (i : Nat) : (fT i).length = i := by simp [fT]
theorem f_open : ∀ i, i < 16 → openE (fT i) (fN i) 1 1 1 = 0 := by decide +kernel
theorem f_full : openE (fT 16) [120] 1 1 1 = 4 := by decide +kernel
theorem f_same : ∀ j, j < 16 → openE (fT 16) (fN j) 1 1 1 = 6 := by decide +kernel
theorem f_step {i : Nat} (h : i < 16) : openN (fT i) (fN i) 1 1 1 = (i : Nat) ∧ openT (fT i) (fN i) 1 1 1 = fT (i + 1) := by
  have he := f_open i h
  constructor
  · unfold openN; rw [if_neg (by simp [he]), fT_len]
  · unfold openT
    rw [if_neg (by simp [he])]
    unfold fT
    rw [List.range_succ, List.map_append]; rfl
theorem f_ok : ∀ i, i ≤ 16 → (fS i).Ok [] 0 0
  | 0, _ => StM.new_ok (by decide) (by decide) (by decide) (by decide)
  | i + 1, h => by
    have := (f_ok i (by omega)).open (fN i) 1 1 1
    rw [show (fS i).T = fT i from rfl, (f_step (by omega)).2] at this
    exact this

set_option maxHeartbeats 4000000 in
theorem tpfull_walk {HT : Nat → Nat → List Txt → List (List Nat) → Thing} {PT : Nat → PM → Thing} {XT : Nat → Nat → RM → Thing} (A : TopicApi HT PT XT) (n : Int) (w : World) :
    Calls Tryz.prog 6 #[.int .i64 n] w fun e w' => e = .returned (.bool true) ∧ Still w w' := by
  obtain ⟨j, hj⟩ : ∃ j, j = am n 16 := ⟨_, rfl⟩
  have hj16 : j < 16 := by rw [hj]; exact am_lt _ (by omega)
  have B1 := Lib.hid (fun W => among_lit n 16 16 j rfl hj (by omega) (by omega) W)
  have HW := Lib.hid (works13 A w)
  have C0 := Lib.hid (fun W => show Calls Tryz.prog 8 #[.int .i64 4, .int .i64 8] W fun e w' => ∃ x q, e = .returned (.tuple #[.pointer (some ⟨x, 0, none⟩), .int .i64 0]) ∧ ∃ U, (setT HT PT XT x q [] ⟨PM.new 4 8, []⟩).at_ w' U ∧ Still W w' ∧ ∀ k, U k → W.heap.size ≤ k from A.make_ok 4 8 W (by omega) (by omega) (by omega) (by omega))
  have C1 := Lib.hid (fun (k : Nat) (hk : k < 16) (W : World) (s q : Nat) (L : List (List Nat)) (hf : Fits L (fT k)) (H : Held w W ((setT HT PT XT s q L (fS k)).sep Thing.none)) =>
    show Calls Tryz.prog 13 #[.pointer (some ⟨s, 0, none⟩), .string (⟨#[116]⟩ ++ ⟨(itS k).toArray⟩), .int .i64 1, .int .i64 1, .int .i64 1] W fun e w' => e = .returned (.tuple #[.int .i64 (k : Nat), .int .i64 0]) ∧ ∃ L', Fits L' (fT (k + 1)) ∧ Held w w' ((setT HT PT XT s q L' (fS (k + 1))).sep Thing.none) from by
      have := Held.openS A H hf (f_ok k (by omega)) (by omega) (by omega) (fN k) (by have := itS_len k; unfold fN; simp; omega) 1 1 1 ⟨by omega, by omega⟩ ⟨by omega, by omega⟩ ⟨by omega, by omega⟩
      rw [show (fS k).T = fT k from rfl, (f_step hk).1, (f_step hk).2, f_open k hk] at this
      rw [t116]
      exact this)
  have C2 := Lib.hid (fun (W : World) (s q : Nat) (L : List (List Nat)) (hf : Fits L (fT 16)) (H : Held w W ((setT HT PT XT s q L (fS 16)).sep Thing.none)) =>
    show Calls Tryz.prog 13 #[.pointer (some ⟨s, 0, none⟩), .string ⟨#[120]⟩, .int .i64 1, .int .i64 1, .int .i64 1] W fun e w' => e = .returned (.tuple #[.int .i64 0, .int .i64 4]) ∧ ∃ L', Fits L' (fT 16) ∧ Held w w' ((setT HT PT XT s q L' (fS 16)).sep Thing.none) from by
      have := Held.openS A H hf (f_ok 16 (by omega)) (by omega) (by omega) [120] (by simp) 1 1 1 ⟨by omega, by omega⟩ ⟨by omega, by omega⟩ ⟨by omega, by omega⟩
      rw [show (fS 16).T = fT 16 from rfl, f_full, show openN (fT 16) [120] 1 1 1 = 0 from by unfold openN; rw [if_pos (by rw [f_full]; decide)], show openT (fT 16) [120] 1 1 1 = fT 16 from by unfold openT; rw [if_pos (by rw [f_full]; decide)]] at this
      exact this)
  have C3 := Lib.hid (fun (W : World) (s q : Nat) (L : List (List Nat)) (hf : Fits L (fT 16)) (H : Held w W ((setT HT PT XT s q L (fS 16)).sep Thing.none)) =>
    show Calls Tryz.prog 13 #[.pointer (some ⟨s, 0, none⟩), .string (⟨#[116]⟩ ++ ⟨(itS j).toArray⟩), .int .i64 1, .int .i64 1, .int .i64 1] W fun e w' => e = .returned (.tuple #[.int .i64 0, .int .i64 6]) ∧ ∃ L', Fits L' (fT 16) ∧ Held w w' ((setT HT PT XT s q L' (fS 16)).sep Thing.none) from by
      have := Held.openS A H hf (f_ok 16 (by omega)) (by omega) (by omega) (fN j) (by have := itS_len j; unfold fN; simp; omega) 1 1 1 ⟨by omega, by omega⟩ ⟨by omega, by omega⟩ ⟨by omega, by omega⟩
      rw [show (fS 16).T = fT 16 from rfl, f_same j hj16, show openN (fT 16) (fN j) 1 1 1 = 0 from by unfold openN; rw [if_pos (by rw [f_same j hj16]; decide)], show openT (fT 16) (fN j) 1 1 1 = fT 16 from by unfold openT; rw [if_pos (by rw [f_same j hj16]; decide)]] at this
      rw [t116]
      exact this)
  have CI := Lib.hid (fun (k : Nat) (hk : k < 16) (W : World) => show Calls Tryz.prog 34 #[.int .i64 (k : Nat)] W fun e w' => e = .returned (.string ⟨(itS k).toArray⟩) ∧ Still W w' from by
    have := itoa_any k W (by omega)
    rwa [itS_is hk] at this)
  have HL := Lib.hid (fun k => itS_len k)
  have CI2 := Lib.hid (fun W => CI.out j hj16 W)
  have hjl := itS_len j
  generalize itS j = uj at *
  clear hj
  go_enter Tryz.func6, Tryz.ntmps6
  go_wp2_with (first
    | (go_at_call 10; ((with_reducible refine HW.out.mono ?_)); rintro e w1 ⟨rfl, hT⟩; have HT1 := Lib.hid hT; clear hT)
    | (go_at_call 8; ((with_reducible refine (C0.out _).mono ?_)); intro e w2 hN; obtain ⟨x, q, rfl, H⟩ := Held.madeS A HT1.out hN; have H2 := Lib.hid H; clear H hN))
  go_loopw [5] (fun i wr => ∃ (k : Nat) (L : List (List Nat)), k ≤ 16 ∧ i = .int .i64 k ∧ Fits L (fT k) ∧ Held w wr ((setT HT PT XT x q L (fS k)).sep Thing.none)) (fun i _ => 16 - (intOf i).toNat)
  case atStart => exact ⟨0, [], by omega, rfl, rfl, H2.out⟩
  case round =>
    clear H2
    obtain ⟨k, L, hk, rfl, hf, hh⟩ := hrel
    have HF := Lib.hid hf
    have HH := Lib.hid hh
    clear hf hh
    by_cases hlt : k < 16
    · have hki : (k : Int) < 16 := by omega
      have hkl := HL.out k
      have D1 := Lib.hid (C1.out k hlt)
      have D2 := Lib.hid (CI.out k hlt)
      generalize itS k = u at *
      go_wp2_with (first
        | (go_at_call 34; ((with_reducible refine (D2.out _).mono ?_)); rintro e w5 ⟨rfl, hT⟩; have H5 := Lib.hid (HH.out.still hT); clear hT)
        | (go_at_call 13; ((with_reducible refine (D1.out _ _ _ _ HF.out H5.out).mono ?_)); rintro e w6 ⟨rfl, L', hf, H⟩; have H6 := Lib.hid H; have F6 := Lib.hid hf; clear H hf))
      go_roundw
      case rel => exact ⟨k + 1, L', by omega, by go_num, F6.out, H6.out⟩
      case measure => simp [intOf]; omega
    · obtain rfl : k = 16 := by omega
      have D2 := Lib.hid (CI2.out)
      go_wp2_with (first
        | (go_at_call 13; ((with_reducible refine (C2.out _ _ _ _ HF.out HH.out).mono ?_)); rintro e w5 ⟨rfl, L', hf, H⟩; have H5 := Lib.hid H; have F5 := Lib.hid hf; clear H hf)
        | (go_at_call 12; ((with_reducible refine (B1.out _).mono ?_)); rintro e w' ⟨rfl, hw⟩; rw [← hw]; clear hw)
        | (go_at_call 34; ((with_reducible refine (D2.out _).mono ?_)); rintro e w6 ⟨rfl, hT⟩; have H6 := Lib.hid (H5.out.still hT); clear hT)
        | (go_at_call 13; ((with_reducible refine (C3.out _ _ _ _ F5.out H6.out).mono ?_)); rintro e w7 ⟨rfl, L7, hf, H⟩; have H7 := Lib.hid H; clear H hf))
      go_ret
      exact ⟨by first | rfl | simp, H7.out.ground⟩
end Go.Proofs.YtmmkcfiecgpkpaaGreat
