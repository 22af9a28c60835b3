/- Texts that lie next to one another, laid into one: each says what it holds. No condition but what each states. -/
import Derived.Test.YtmmkcfiecgpkpaaGreatBdRead
import Derived.Test.YtmmkcfiecgpkpaaGreatBdText

/- What the statements' own Itoa answers of a number that is not negative. No condition. -/
namespace Go.Proofs.YtmmkcfiecgpkpaaGreat
open Go.RowKit
set_option linter.unusedVariables false
set_option linter.unusedSimpArgs false
set_option maxRecDepth 100000

/-- A number's digits. -/
def itD (n : Nat) : Txt := if h : n < 10 then [UInt8.ofNat (48 + n)] else itD (n / 10) ++ [UInt8.ofNat (48 + n % 10)]
termination_by n
theorem itD_small {n : Nat} (h : n < 10) : itD n = [UInt8.ofNat (48 + n)] := by rw [itD, dif_pos h]
theorem itD_step {n : Nat} (h : ¬ n < 10) : itD n = itD (n / 10) ++ [UInt8.ofNat (48 + n % 10)] := by rw [itD, dif_neg h]

/-- Where the loop stands: what is left, and the digits behind it. -/
def itAt (n x : Nat) (s : Txt) : Prop := (0 < x ∧ itD n = itD x ++ s) ∨ (x = 0 ∧ s = itD n)
theorem itAt.step {n x : Nat} {s : Txt} (h : itAt n x s) (hx : 0 < x) : itAt n (x / 10) ([UInt8.ofNat (48 + x % 10)] ++ s) := by
  rcases h with ⟨_, h⟩ | ⟨h, _⟩
  · by_cases h10 : x < 10
    · refine .inr ⟨by omega, ?_⟩
      rw [h, itD_small h10, show x % 10 = x by omega]
    · refine .inl ⟨by omega, ?_⟩
      rw [h, itD_step h10, List.append_assoc]
  · omega

set_option maxHeartbeats 1000000 in
theorem itoa_any (n : Nat) (w : World) (hn : n ≤ 1000000000) : Calls Tryz.prog 34 #[.int .i64 (n : Nat)] w fun e w' => e = .returned (tx (itD n)) ∧ Still w w' := by
  by_cases h0 : n = 0
  · subst h0
    have HT := Lib.hid (show tx (itD 0) = .string ⟨#[48]⟩ from by rw [itD_small (by omega)]; rfl)
    go_enter Tryz.func34, Tryz.ntmps34
    go_wp2
    go_ret
    exact ⟨by rw [HT.out]; rfl, Turned.refl _ _⟩
  · have hb : ((n : Int) == 0) = false := by rw [beq_eq_false_iff_ne]; omega
    have hnn : ¬ (n : Int) < 0 := by omega
    have hne : ¬ (n : Int) = 0 := by omega
    have H0 := Lib.hid (show itAt n n [] from .inl ⟨by omega, by rw [List.append_nil]⟩)
    have HCv := Lib.hid (fun (W : World) (d : UInt8) => show (convert 35 9 (.slice (some ⟨W.heap.size, 0, none⟩) 1 1)).run Tryz.prog (W.alloc (.cells #[.int .u8 (d.toNat : Int)] 5)) = .ok (.string ⟨[d].toArray⟩) (W.alloc (.cells #[.int .u8 (d.toNat : Int)] 5)) from
      text_of _ _ [d] 1 (BytesAt.of_blk (r := []) (Blk.new W (byt [d]) 5)))
    go_enter Tryz.func34, Tryz.ntmps34
    go_wp2
    go_loopw [3, 4] (fun s x wr => ∃ (k : Nat) (t : Txt), x = .int .i64 k ∧ s = .string ⟨t.toArray⟩ ∧ k ≤ 1000000000 ∧ itAt n k t ∧ k * 10 ^ t.length ≤ 1000000000 ∧ Still w wr) (fun _ x _ => (intOf x).toNat)
    case atStart => exact ⟨n, [], rfl, rfl, hn, H0.out, by simpa using hn, Turned.refl _ _⟩
    case round =>
      obtain ⟨k, t, rfl, rfl, hk, hat, hpw, hst⟩ := hrel
      have HA := Lib.hid hat
      have HSt := Lib.hid hst
      have HPw := Lib.hid hpw
      clear hat hst hpw
      by_cases hk0 : k = 0
      · subst hk0
        have HE := Lib.hid (show t = itD n from by
          rcases HA.out with ⟨h, _⟩ | ⟨_, h⟩
          · omega
          · exact h)
        clear HA
        go_wp2
        go_ret
        exact ⟨by rw [← HE.out]; rfl, HSt.out⟩
      · have hkb : ((k : Int) == 0) = false := by rw [beq_eq_false_iff_ne]; omega
        have hkn : ¬ (k : Int) = 0 := by omega
        obtain ⟨d, hd⟩ : ∃ d : UInt8, d = UInt8.ofNat (48 + k % 10) := ⟨_, rfl⟩
        have hdn : d.toNat = 48 + k % 10 := by rw [hd]; simp; omega
        have HN := Lib.hid (HA.out.step (by omega))
        have htl : t.length ≤ 9 := by
          have h1 : 10 ^ t.length ≤ 10 ^ 9 := Nat.le_trans (Nat.le_mul_of_pos_left _ (by omega)) HPw.out
          exact (Nat.pow_le_pow_iff_right (by omega)).1 h1
        have HP2 := Lib.hid (show k / 10 * 10 ^ (t.length + 1) ≤ 1000000000 from by
          refine Nat.le_trans ?_ HPw.out
          rw [Nat.pow_succ, Nat.mul_comm (10 ^ t.length) 10, ← Nat.mul_assoc]
          exact Nat.mul_le_mul_right _ (Nat.div_mul_le_self _ _))
        rw [← hd] at HN
        have C := HCv.out wr d
        have hsz : ((t.length : Nat) : Int) ≤ 9 := by omega
        rw [show (d.toNat : Int) = 48 + (k : Int) % 10 by omega] at C
        clear HA hd HCv
        go_wp2_with fail
        go_roundw
        case rel => exact ⟨k / 10, [d] ++ t, by go_num, by first | rfl | simp [ByteArray.mk_append_mk], by omega, HN.out, HP2.out, HSt.out.alloc _⟩
        case measure => simp [intOf]; omega
end Go.Proofs.YtmmkcfiecgpkpaaGreat
