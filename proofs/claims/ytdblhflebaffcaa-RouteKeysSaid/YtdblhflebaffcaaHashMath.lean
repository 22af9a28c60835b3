/- Plain mathematics of sums: xor by bits, the factor in two parts, and what an odd factor keeps apart. No condition. -/
import Derived.Laws.BitsAllLaws
namespace Go.Proofs.Ytdblhflebaffcaa
set_option linter.unusedVariables false

theorem mod_bits (n k : Nat) : n % 2 ^ (k + 1) = n % 2 ^ k + 2 ^ k * (n / 2 ^ k % 2) := Nat.mod_pow_succ

theorem xor_bit (a b k : Nat) : (a ^^^ b) / 2 ^ k % 2 = if a / 2 ^ k % 2 = b / 2 ^ k % 2 then 0 else 1 := by
  have h := Nat.testBit_xor a b k
  simp only [Nat.testBit_eq_decide_div_mod_eq] at h
  have h1 := Nat.mod_two_eq_zero_or_one (a / 2 ^ k)
  have h2 := Nat.mod_two_eq_zero_or_one (b / 2 ^ k)
  have h3 := Nat.mod_two_eq_zero_or_one ((a ^^^ b) / 2 ^ k)
  rcases h1 with h1 | h1 <;> rcases h2 with h2 | h2 <;> rw [h1, h2] at h ⊢ <;> rcases h3 with h3 | h3 <;> rw [h3] at h ⊢ <;> simp at h ⊢

/-- The bits of a xor, one more. -/
theorem xor_step (a b k : Nat) : (a ^^^ b) % 2 ^ (k + 1) = (a ^^^ b) % 2 ^ k + (if a / 2 ^ k % 2 = b / 2 ^ k % 2 then 0 else 2 ^ k) := by
  rw [mod_bits, xor_bit]
  split <;> simp

theorem xor_mod256 (s b : Nat) (hb : b < 256) : (s ^^^ b) % 256 = (s % 256) ^^^ b := by
  have h := Nat.xor_mod_two_pow (a := s) (b := b) (n := 8)
  rw [show (2 : Nat) ^ 8 = 256 from rfl] at h
  rw [h, Nat.mod_eq_of_lt hb]
theorem xor_div256 (s b : Nat) (hb : b < 256) : (s ^^^ b) / 256 = s / 256 := by
  have h := Nat.xor_div_two_pow (a := s) (b := b) (n := 8)
  rw [show (2 : Nat) ^ 8 = 256 from rfl] at h
  rw [h, Nat.div_eq_of_lt hb, Nat.xor_zero]
theorem xor_low (s b : Nat) (hb : b < 256) : s - s % 256 + ((s % 256) ^^^ b) = s ^^^ b := by
  have h1 := xor_mod256 s b hb
  have h2 := xor_div256 s b hb
  have h3 : s % 256 ^^^ b < 256 := by rw [← h1]; exact Nat.mod_lt _ (by omega)
  omega

/-- The loop over bits: what is left of both numbers, what is put together, and the next bit's weight. -/
def BitSt (L X j a b c p : Nat) : Prop := j ≤ 8 ∧ a = L / 2 ^ j ∧ b = X / 2 ^ j ∧ c = (L ^^^ X) % 2 ^ j ∧ p = 2 ^ j

theorem BitSt.start (L X : Nat) : BitSt L X 0 L X 0 1 := ⟨by omega, by simp, by simp, by simp [Nat.mod_one], by simp⟩
theorem BitSt.small {L X j a b c p : Nat} (h : BitSt L X j a b c p) (hL : L < 256) (hX : X < 256) : j ≤ 8 ∧ a < 256 ∧ b < 256 ∧ c < p ∧ p ≤ 256 := by
  obtain ⟨hj, rfl, rfl, rfl, rfl⟩ := h
  have h0 : 0 < 2 ^ j := Nat.pow_pos (by omega)
  have h8 : 2 ^ j ≤ 2 ^ 8 := Nat.pow_le_pow_right (by omega) hj
  exact ⟨hj, Nat.lt_of_le_of_lt (Nat.div_le_self _ _) hL, Nat.lt_of_le_of_lt (Nat.div_le_self _ _) hX, Nat.mod_lt _ h0, h8⟩
theorem BitSt.same {L X j a b c p : Nat} (h : BitSt L X j a b c p) (hj : j < 8) (he : a % 2 = b % 2) : BitSt L X (j + 1) (a / 2) (b / 2) c (2 * p) := by
  obtain ⟨_, rfl, rfl, rfl, rfl⟩ := h
  exact ⟨by omega, by rw [Nat.div_div_eq_div_mul, Nat.pow_succ], by rw [Nat.div_div_eq_div_mul, Nat.pow_succ], by rw [xor_step, if_pos he, Nat.add_zero], by rw [Nat.pow_succ]; omega⟩
theorem BitSt.other {L X j a b c p : Nat} (h : BitSt L X j a b c p) (hj : j < 8) (he : ¬ a % 2 = b % 2) : BitSt L X (j + 1) (a / 2) (b / 2) (c + p) (2 * p) := by
  obtain ⟨_, rfl, rfl, rfl, rfl⟩ := h
  exact ⟨by omega, by rw [Nat.div_div_eq_div_mul, Nat.pow_succ], by rw [Nat.div_div_eq_div_mul, Nat.pow_succ], by rw [xor_step, if_neg he], by rw [Nat.pow_succ]; omega⟩
theorem BitSt.done {L X a b c p : Nat} (h : BitSt L X 8 a b c p) (hL : L < 256) (hX : X < 256) : c = L ^^^ X := by
  obtain ⟨_, _, _, rfl, _⟩ := h
  have : L ^^^ X < 2 ^ 8 := Nat.xor_lt_two_pow (by omega) (by omega)
  exact Nat.mod_eq_of_lt this

/-- The factor in two parts. -/
theorem two_parts (n : Nat) : ((n * 1099511627776 % 18446744073709551616) + (n * 435 % 18446744073709551616)) % 18446744073709551616 = n * 1099511628211 % 18446744073709551616 := by omega
theorem two_parts32 (n : Nat) : ((n * 16777216 % 4294967296) + (n * 403 % 4294967296)) % 4294967296 = n * 16777619 % 4294967296 := by omega

end Go.Proofs.Ytdblhflebaffcaa
