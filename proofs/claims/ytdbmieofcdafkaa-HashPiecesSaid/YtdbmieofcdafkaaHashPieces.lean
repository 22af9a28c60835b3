/- HashPieces: the walk. No condition. -/
import Derived.Test.YtdbmieofcdafkaaHashApart
namespace Go.Proofs.Ytdbmieofcdafkaa
open Go.RowKit
set_option linter.unusedVariables false
set_option maxRecDepth 100000

theorem BytesAt.drop {w : World} {ao : Option Addr} {l : List UInt8} (h : BytesAt w ao l) (j : Nat) : BytesAt w (ao.map (fun x => x.add j)) (l.drop j) := by
  intro i x hx
  rw [List.getElem?_drop] at hx
  obtain ⟨b, o, rfl, hc⟩ := h (j + i) x hx
  exact ⟨b, o + j, by simp [Addr.add_lit], by rw [Nat.add_assoc]; exact hc⟩

theorem take_more {α : Type} (l : List α) (j q : Nat) : l.take (j + q) = l.take j ++ (l.drop j).take q := List.take_add
theorem sum_more (l : List UInt8) (j q : Nat) : on64 (sum64 (l.take j)) ((l.drop j).take q) = sum64 (l.take (j + q)) := by rw [take_more]; exact (th64_append _ _ _ _).symm
theorem sum_rest (l : List UInt8) (j : Nat) : on64 (sum64 (l.take j)) (l.drop j) = sum64 l := by
  conv => rhs; rw [← List.take_append_drop j l]
  exact (th64_append _ _ _ _).symm

set_option maxHeartbeats 1000000 in
theorem walk_HashPieces (s : Sl UInt8) (t : Sl Int) (w : World) (h1 : SlOk encB okB 1 w s) (h2 : SlOk encI (okI .i64) 1 w t) :
    Calls Try.prog 7 #[.slice s.a s.len s.cap, .slice t.a t.len t.cap] w fun e w' => e = .returned (.bool true) ∧ Still w w' := by
  have hf := fb_of h1
  have HF := Lib.hid (fun W => few3_all hf W)
  have hat := hf.at_
  have hsm := hf.small
  have hno := hf.none
  have hle : (s.xs.take 300).length ≤ s.cap := by rw [hf.len]; have := hf.le; omega
  have hcm := hf.max
  have htn := nums_row h2.row
  have HTL := Lib.hid h2.len
  have htm : t.len ≤ t.cap := h2.le
  have htx : t.cap ≤ maxLen := h2.max
  unfold maxLen at htx
  obtain ⟨sa, sl, sc, sx⟩ := s
  obtain ⟨ta, tl, tc, tx⟩ := t
  obtain ⟨l, hl⟩ : ∃ l, l = sx.take 300 := ⟨_, rfl⟩
  dsimp only at HF hat hsm hno hle hcm htn HTL htm htx ⊢
  rw [← hl] at HF hat hsm hle
  have HAT := Lib.hid hat
  have HTN := Lib.hid htn
  obtain ⟨m, hm⟩ : ∃ m, m = l.length := ⟨_, rfl⟩
  rw [← hm] at HF hsm hle
  have HM := Lib.hid hm
  clear h1 h2 hf hl hat htn hm
  go_enter Try.func7, Try.ntmps7
  go_wp2_with fail
  refine (works3 _).mono ?_
  rintro e w1 ⟨rfl, hst⟩
  have HST := Lib.hid hst
  have HA1 := Lib.hid (HAT.out.still hst)
  have HN1 := Lib.hid (HTN.out.still hst)
  clear hst HAT HTN
  go_wp2_with fail
  refine (HF.out w1).mono ?_
  rintro e w' ⟨rfl, rfl⟩
  go_wp2_with fail
  refine (sum0 _).mono ?_
  rintro e w' ⟨rfl, rfl⟩
  clear HF
  go_wp2_with fail
  go_loop [5, 6, 7] (fun s5 s6 i => ∃ j k : Nat, j ≤ m ∧ k ≤ 30 ∧ k ≤ tl ∧ i = .int .i64 k ∧ s6 = .int .i64 j ∧ s5 = .int .u64 (sum64 (l.take j) : Nat)) (fun _ _ i => 30 - (intOf i).toNat)
  case atStart => exact ⟨0, 0, Nat.zero_le _, Nat.zero_le _, Nat.zero_le _, rfl, rfl, rfl⟩
  case round =>
    obtain ⟨j, k, hj, hk30, hk, rfl, rfl, rfl⟩ := hrel
    by_cases hlt : k < tl ∧ k < 30
    · obtain ⟨hl1, hl2⟩ := hlt
      obtain ⟨z, hz⟩ := get_some (l := tx) (i := k) (by rw [HTL.out]; exact hl1)
      obtain ⟨b, o, rfl, hc⟩ := HN1.out k z hz
      have hp : 0 < m - j + 1 := by omega
      have hq := am_lt z hp
      obtain ⟨q, hqq⟩ : ∃ q, q = am z (m - j + 1) := ⟨_, rfl⟩
      have hmi : (m : Int) - (j : Int) + 1 = ((m - j + 1 : Nat) : Int) := by omega
      have HAm := Lib.hid (fun W => among_lit z ((m : Int) - (j : Int) + 1) (m - j + 1) q hmi hqq hp (by omega) W)
      rw [← hqq] at hq
      have HON := Lib.hid (fun (A : Option Addr) (c : Nat) (h : BytesAt w1 A ((l.drop j).take q)) => on_any (sum64 (l.take j)) w1 A ((l.drop j).take q) c (th64_lt _ _ _ (by omega)) h (by rw [List.length_take]; omega))
      rw [show ((l.drop j).take q).length = q by rw [List.length_take, List.length_drop, ← HM.out]; omega, sum_more] at HON
      obtain ⟨S, hS⟩ : ∃ S, S = sum64 (l.take j) := ⟨_, rfl⟩
      obtain ⟨S', hS'⟩ : ∃ S, S = sum64 (l.take (j + q)) := ⟨_, rfl⟩
      rw [← hS, ← hS'] at HON
      rw [← hS]
      have HS' := Lib.hid hS'
      have ha1 : j ≤ sc := by omega
      have ha2 : j ≤ j + q := by omega
      have ha3 : j + q ≤ sc := by omega
      have HBA : Hid (¬ sc = j → BytesAt w1 (sa.map (fun x => x.add j)) ((l.drop j).take q)) := Lib.hid (fun _ => (HA1.out.drop j).take q)
      have HBB : Hid (sc = j → BytesAt w1 sa ((l.drop j).take q)) := Lib.hid (fun e => by rw [show q = 0 by omega]; exact BytesAt.nil _ _)
      clear hqq hmi hz hS hS'
      go_wp2_with fail
      refine (HAm.out _).mono ?_
      rintro e w' ⟨rfl, rfl⟩
      go_wp2_with fail
      · have hsj : sc = j := by assumption
        have HK := Lib.hid (HON.out _ 0 (HBB.out hsj))
        subst hsj
        refine HK.out.mono ?_
        rintro e w' ⟨rfl, rfl⟩
        go_wp2_with fail
        go_round
        case rel => exact ⟨sc + q, k + 1, by omega, by omega, by omega, by go_num, by go_num, by rw [← HS'.out]⟩
        case measure => simp [intOf]; omega
      · refine (HON.out _ _ (HBA.out (by omega))).mono ?_
        rintro e w' ⟨rfl, rfl⟩
        go_wp2_with fail
        go_round
        case rel => exact ⟨j + q, k + 1, by omega, by omega, by omega, by go_num, by go_num, by rw [← HS'.out]⟩
        case measure => simp [intOf]; omega
    · have HON : Hid (∀ (A : Option Addr) (c : Nat), BytesAt w1 A (l.drop j) → Calls Try.prog 21 #[.int .u64 (sum64 (l.take j) : Nat), .slice A (m - j) c] w1 fun e w' => e = .returned (.int .u64 (sum64 l : Nat)) ∧ w1 = w') := Lib.hid (fun (A : Option Addr) (c : Nat) (h : BytesAt w1 A (l.drop j)) => by
        have := on_any (sum64 (l.take j)) w1 A (l.drop j) c (th64_lt _ _ _ (by omega)) h (by rw [List.length_drop, ← HM.out]; omega)
        rw [sum_rest, List.length_drop, ← HM.out] at this
        exact this)
      have HSM := Lib.hid (sum_any w1 sa l sc HA1.out (by rw [← HM.out]; omega))
      rw [← HM.out] at HSM
      obtain ⟨S, hS⟩ : ∃ S, S = sum64 (l.take j) := ⟨_, rfl⟩
      obtain ⟨S', hS'⟩ : ∃ S, S = sum64 l := ⟨_, rfl⟩
      rw [← hS, ← hS'] at HON
      rw [← hS'] at HSM
      rw [← hS]
      have ha1 : j ≤ sc := by omega
      have HBA := Lib.hid (HA1.out.drop j)
      have HBB : Hid (sc = j → BytesAt w1 sa (l.drop j)) := Lib.hid (fun e => by rw [List.drop_of_length_le (by rw [← HM.out]; omega)]; exact BytesAt.nil _ _)
      clear hS hS'
      by_cases hl1 : k < tl
      all_goals
        have hl2 : k < tl → 30 ≤ k := fun h => by omega
        go_wp2_with fail
        · have hsj : sc = j := by assumption
          have HK := Lib.hid (HON.out _ 0 (HBB.out hsj))
          subst hsj
          refine HK.out.mono ?_
          rintro e w' ⟨rfl, rfl⟩
          go_wp2_with fail
          refine HSM.out.mono ?_
          rintro e w' ⟨rfl, rfl⟩
          go_wp2_with fail
          go_ret
          exact ⟨by simp, HST.out⟩
        · refine (HON.out _ _ HBA.out).mono ?_
          rintro e w' ⟨rfl, rfl⟩
          go_wp2_with fail
          refine HSM.out.mono ?_
          rintro e w' ⟨rfl, rfl⟩
          go_wp2_with fail
          go_ret
          exact ⟨by simp, HST.out⟩
end Go.Proofs.Ytdbmieofcdafkaa
