/- HashPieces and HashApart: plain mathematics and the walks. No condition. -/
import Derived.Test.YtdbmieofcdafkaaHashParts
import Derived.Test.YtdbmieofcdafkaaReadInts
namespace Go.Proofs.Ytdbmieofcdafkaa
open Go.RowKit
set_option linter.unusedVariables false
set_option maxRecDepth 100000

theorem th64_append (f s : Nat) (a b : List UInt8) : th64 f s (a ++ b) = th64 f (th64 f s a) b := by simp [th64]
theorem th32_append (f s : Nat) (a b : List UInt8) : th32 f s (a ++ b) = th32 f (th32 f s a) b := by simp [th32]

theorem mul_inj (F G M : Nat) (q : Nat) (hq : F * G = 1 + M * q) {a b : Nat} (ha : a < M) (hb : b < M) (h : a * F % M = b * F % M) : a = b := by
  have h1 : (a * F % M) * G % M = (b * F % M) * G % M := by rw [h]
  rw [Nat.mod_mul_mod, Nat.mod_mul_mod, Nat.mul_assoc, Nat.mul_assoc, hq, Nat.mul_add, Nat.mul_add, Nat.mul_one, Nat.mul_one, Nat.mul_left_comm, Nat.mul_left_comm b, Nat.add_mul_mod_self_left, Nat.add_mul_mod_self_left, Nat.mod_eq_of_lt ha, Nat.mod_eq_of_lt hb] at h1
  exact h1

theorem xor_back (a x : Nat) : (a ^^^ x) ^^^ x = a := by rw [Nat.xor_assoc, Nat.xor_self, Nat.xor_zero]
theorem xor_inj {a b x : Nat} (h : a ^^^ x = b ^^^ x) : a = b := by rw [← xor_back a x, h, xor_back]

/-- One step of a sum with an odd factor, either width. -/
structure Odd (M : Nat) (st : Nat → UInt8 → Nat) : Prop where
  lt : ∀ s x, st s x < M
  left : ∀ a b x, a < M → b < M → st a x = st b x → a = b
  right : ∀ s x y, s < M → st s x = st s y → x = y

theorem odd_of (n F G q : Nat) (hn : 8 ≤ n) (hq : F * G = 1 + 2 ^ n * q) : Odd (2 ^ n) (fun s x => (s ^^^ x.toNat) * F % 2 ^ n) := by
  have hx : ∀ x : UInt8, x.toNat < 2 ^ n := fun x => Nat.lt_of_lt_of_le (u8_lt x) (Nat.pow_le_pow_right (n := 2) (by omega) hn)
  refine ⟨fun s x => Nat.mod_lt _ (Nat.pow_pos (by omega)), fun a b x ha hb h => ?_, fun s x y hs h => ?_⟩
  · exact xor_inj (mul_inj F G (2 ^ n) q hq (Nat.xor_lt_two_pow ha (hx x)) (Nat.xor_lt_two_pow hb (hx x)) h)
  · have h1 := mul_inj F G (2 ^ n) q hq (Nat.xor_lt_two_pow hs (hx x)) (Nat.xor_lt_two_pow hs (hx y)) h
    rw [Nat.xor_comm, Nat.xor_comm s] at h1
    exact UInt8.toNat_inj.1 (xor_inj h1)

theorem odd64 : Odd 18446744073709551616 (st64 1099511628211) := odd_of 64 1099511628211 14886173955864302971 ((1099511628211 * 14886173955864302971 - 1) / 18446744073709551616) (by omega) (by decide +kernel)
theorem odd32 : Odd 4294967296 (st32 16777619) := odd_of 32 16777619 899433627 ((16777619 * 899433627 - 1) / 4294967296) (by omega) (by decide +kernel)

theorem Odd.fold_lt {M : Nat} {st : Nat → UInt8 → Nat} (h : Odd M st) : ∀ (l : List UInt8) (a : Nat), a < M → l.foldl st a < M
  | [], a, ha => ha
  | x :: r, a, ha => h.fold_lt r _ (h.lt a x)
theorem Odd.fold_inj {M : Nat} {st : Nat → UInt8 → Nat} (h : Odd M st) : ∀ (l : List UInt8) (a b : Nat), a < M → b < M → l.foldl st a = l.foldl st b → a = b
  | [], a, b, _, _, e => e
  | x :: r, a, b, ha, hb, e => h.left a b x ha hb (h.fold_inj r _ _ (h.lt a x) (h.lt b x) e)

theorem split_set {α : Type} {l : List α} {k : Nat} {y : α} (hy : l[k]? = some y) (z : α) : l = l.take k ++ y :: l.drop (k + 1) ∧ l.set k z = l.take k ++ z :: l.drop (k + 1) := by
  have hk := get_lt hy
  have e : l[k] = y := by rw [List.getElem?_eq_getElem hk] at hy; exact Option.some.inj hy
  constructor
  · rw [← e, ← List.drop_eq_getElem_cons hk, List.take_append_drop]
  · rw [List.set_eq_take_append_cons_drop, if_pos hk]

/-- Bytes that differ at one place have other sums. -/
theorem Odd.apart {M : Nat} {st : Nat → UInt8 → Nat} (h : Odd M st) {a : Nat} (ha : a < M) {l : List UInt8} {k : Nat} {y : UInt8} (hy : l[k]? = some y) (z : UInt8) (hz : z ≠ y) : l.foldl st a ≠ (l.set k z).foldl st a := by
  obtain ⟨h1, h2⟩ := split_set hy z
  intro e
  rw [h2, List.foldl_append, List.foldl_cons] at e
  conv at e => lhs; rw [h1, List.foldl_append, List.foldl_cons]
  exact hz (h.right _ _ _ (h.fold_lt _ a ha) (h.fold_inj _ _ _ (h.lt _ _) (h.lt _ _) e)).symm

theorem set_self {α : Type} {l : List α} {k : Nat} {y : α} (hy : l[k]? = some y) : l.set k y = l := by
  obtain ⟨h1, h2⟩ := split_set hy y
  exact h2.trans h1.symm

theorem u8_of {a : Int} (h : (Lit.int .u8 a).wf = true) : ∃ x : UInt8, a = (x.toNat : Int) := by
  simp [Lit.wf, IntKind.min, IntKind.max, IntKind.signed, IntKind.bits] at h
  refine ⟨UInt8.ofNat a.toNat, ?_⟩
  rw [UInt8.toNat_ofNat', Nat.mod_eq_of_lt (by omega), Int.toNat_of_nonneg h.1]

theorem xor_zero8 (x : UInt8) (h : x.toNat ≠ 0) (y : UInt8) : y ^^^ x ≠ y := by
  intro e
  have e1 : y.toNat ^^^ x.toNat = y.toNat := by rw [← UInt8.toNat_xor, e]
  have e2 : x.toNat ^^^ y.toNat = 0 ^^^ y.toNat := by rw [Nat.zero_xor, Nat.xor_comm]; exact e1
  exact h (xor_inj e2)

/-- A copy of one's own, with the block that it lies in. -/
def OwnPost (w : World) (l : List UInt8) (m : Nat) (e : Ending) (w' : World) : Prop :=
  ∃ g c cur, e = .returned (.slice (some ⟨g, 0, none⟩) m c) ∧ w.heap.size ≤ g ∧ w'.heap[g]? = some (.cells cur 5 (0, 0)) ∧ cur.toList.take l.length = byt l ∧ m ≤ c ∧ Still w w'
theorem own_any (w : World) (ao : Option Addr) (l : List UInt8) (cap m : Nat) (hm : m = l.length) (hA : BytesAt w ao l) (hmax : l.length ≤ 70368744177664) (h0 : 0 < l.length) (hn : ao = none → cap = 0) :
    Calls Try.prog 20 #[.slice ao m cap] w (OwnPost w l m) := by
  subst hm
  refine (bytes_any w ao l cap hA hmax hn).mono fun e w' ⟨a, c, he, ho, hs⟩ => ?_
  rcases ho.2 with ⟨_, e0⟩ | ⟨g, cp, cur, e0, hg, hh, hle, _, _, ht⟩
  · omega
  · cases e0
    exact ⟨g, _, cur, he, hg, hh, by rw [Nat.mul_one] at ht; exact ht, hle, hs⟩
theorem own_cell {w : World} {g k : Nat} {cur : Array Value} {l : List UInt8} {y : UInt8} (hg : w.heap[g]? = some (.cells cur 5 (0, 0))) (ht : cur.toList.take l.length = byt l) (hy : l[k]? = some y) :
    w.cell? ⟨g, k, none⟩ = some (.int .u8 (y.toNat : Int)) ∧ w.frozen? ⟨g, k, none⟩ = false := by
  have hv : (byt l)[k]? = some (.int .u8 (y.toNat : Int)) := byt_get hy
  rw [← ht, List.getElem?_take, if_pos (get_lt hy)] at hv
  exact ⟨by simp only [World.cell?, hg]; simpa using hv, by simp [World.frozen?, hg]⟩

theorem bytesAt_set {w : World} {g : Nat} {cur : Array Value} {l : List UInt8} (hg : w.heap[g]? = some (.cells cur 5 (0, 0))) (ht : cur.toList.take l.length = byt l) (k : Nat) (z : UInt8) :
    BytesAt (w.setCell ⟨g, k, none⟩ (.int .u8 (z.toNat : Int))) (some ⟨g, 0, none⟩) (l.set k z) := by
  intro i x hx
  refine ⟨g, 0, rfl, ?_⟩
  have hi : i < l.length := by have := get_lt hx; rwa [List.length_set] at this
  have hs : (w.setCell ⟨g, k, none⟩ (.int .u8 (z.toNat : Int))).heap[g]? = some (.cells (cur.setIfInBounds k (.int .u8 (z.toNat : Int))) 5 (0, 0)) := by
    simp only [World.setCell]
    rw [Array.getElem?_modify]
    simp [hg]
  have hl : l.length ≤ cur.size := by
    have := congrArg List.length ht
    rw [List.length_take, byt_length] at this
    have e : cur.toList.length = cur.size := Array.length_toList
    omega
  simp only [World.cell?, hs, Nat.zero_add]
  by_cases hk : i = k
  · subst hk
    rw [List.getElem?_set_self hi] at hx
    cases hx
    simp [show i < cur.size by omega]
  · rw [List.getElem?_set_ne (by omega)] at hx
    have hv : (byt l)[i]? = some (.int .u8 (x.toNat : Int)) := byt_get hx
    rw [← ht, List.getElem?_take] at hv
    rw [if_pos hi] at hv
    simp [show ¬ k = i by omega]
    simpa using hv

set_option maxHeartbeats 1000000 in
theorem walk_HashApart (s : Sl UInt8) (at_ : Int) (x0 : Int) (w : World) (h1 : SlOk encB okB 1 w s) (h2 : (Lit.int .i64 at_).wf = true) (h3 : (Lit.int .u8 x0).wf = true) :
    Calls Try.prog 8 #[.slice s.a s.len s.cap, .int .i64 at_, .int .u8 x0] w fun e w' => e = .returned (.bool true) ∧ Still w w' := by
  obtain ⟨x, rfl⟩ := u8_of h3
  have hf := fb_of h1
  have HF := Lib.hid (fun W => few3_all hf W)
  have hat := hf.at_
  have hsm := hf.small
  have hno := hf.none
  obtain ⟨sa, sl, sc, sx⟩ := s
  obtain ⟨l, hl⟩ : ∃ l, l = sx.take 300 := ⟨_, rfl⟩
  dsimp only at HF hat hsm hno ⊢
  rw [← hl] at HF hat hsm
  have HAT := Lib.hid hat
  clear h1 h2 h3 hf hl hat
  by_cases h0 : l.length = 0
  · rw [h0] at HF
    clear hsm hno h0
    go_enter Try.func8, Try.ntmps8
    go_wp2_with fail
    refine (works3 _).mono ?_
    rintro e w1 ⟨rfl, hst⟩
    have HST := Lib.hid hst
    clear hst
    go_wp2_with fail
    refine (HF.out w1).mono ?_
    rintro e w' ⟨rfl, rfl⟩
    go_wp2_with fail
    go_ret
    exact ⟨rfl, HST.out⟩
  · have hpos : 0 < l.length := by omega
    have hk := am_lt at_ hpos
    obtain ⟨k, hkk⟩ : ∃ k, k = am at_ l.length := ⟨_, rfl⟩
    rw [← hkk] at hk
    obtain ⟨y, hy⟩ := get_some hk
    obtain ⟨m, hm⟩ : ∃ m, m = l.length := ⟨_, rfl⟩
    have HAm := Lib.hid (fun W => among_lit at_ m m k rfl (by rw [hm]; exact hkk) (by omega) (by omega) W)
    have HB := Lib.hid (fun (W : World) (h : BytesAt W sa l) => own_any W sa l sc m hm h (by omega) hpos hno)
    have HLS : Hid ((l.set k (y ^^^ x)).length = l.length) := Lib.hid (by simp)
    have H3 := Lib.hid (fun (W : World) (ao : Option Addr) (c : Nat) (L : List UInt8) (hL : L.length = l.length) (h : BytesAt W ao L) => sum_any W ao L c h (by omega))
    have H5 := Lib.hid (fun (W : World) (ao : Option Addr) (c : Nat) (L : List UInt8) (hL : L.length = l.length) (h : BytesAt W ao L) => small_any W ao L c h (by omega))
    have HLM := Lib.hid hm
    have HY := Lib.hid hy
    have hx2 := u8_xor_nat y.toNat x.toNat (u8_lt y) (u8_lt x)
    rw [← UInt8.toNat_xor] at hx2
    have hxl := u8_lt x
    rw [← hm] at HF hk hsm
    clear hkk h0 hpos hno hm hy
    go_enter Try.func8, Try.ntmps8
    go_wp2_with fail
    refine (works3 _).mono ?_
    rintro e w1 ⟨rfl, hst⟩
    have HST := Lib.hid hst
    have HA1 := Lib.hid (HAT.out.still hst)
    clear hst
    have hm0 : ((m : Int) == 0) = false := by simp; omega
    go_wp2_with fail
    refine (HF.out w1).mono ?_
    rintro e w' ⟨rfl, rfl⟩
    go_wp2_with fail
    refine (HB.out _ HA1.out).mono ?_
    rintro e w2 ⟨g, c, cur, rfl, hg, hh, ht, hle, hst⟩
    obtain ⟨hcell, hfree⟩ := own_cell hh ht HY.out
    have HST2 := Lib.hid (HST.out.trans hst)
    have HT3 : Hid (Still w (w2.setCell ⟨g, k, none⟩ (.int .u8 ((y ^^^ x).toNat : Int)))) := Lib.hid (HST2.out.setCell (p := ⟨g, k, none⟩) (.inr (by have := HST.out.size; dsimp only; omega)) _)
    have HB3 := Lib.hid (bytesAt_set hh ht k (y ^^^ x))
    have HA3 := Lib.hid (HAT.out.still HT3.out)
    clear hg hh ht hst HB HA1 HST HST2 HAT
    go_wp2_with fail
    refine (HAm.out _).mono ?_
    rintro e w' ⟨rfl, rfl⟩
    go_wp2_with fail
    obtain ⟨S1, hS1⟩ : ∃ S, S = sum64 l := ⟨_, rfl⟩
    obtain ⟨T1, hT1⟩ : ∃ S, S = sum32 l := ⟨_, rfl⟩
    have K1 := Lib.hid (H3.out _ _ sc l rfl HA3.out)
    have K2 := Lib.hid (H3.out _ _ c _ HLS.out HB3.out)
    have K3 := Lib.hid (H5.out _ _ sc l rfl HA3.out)
    have K4 := Lib.hid (H5.out _ _ c _ HLS.out HB3.out)
    rw [HLS.out] at K2 K4
    rw [← HLM.out] at K1 K2 K3 K4
    by_cases hx0 : x.toNat = 0
    · have hxx : x = 0 := UInt8.toNat_inj.1 hx0
      have hself : l.set k (y ^^^ x) = l := by rw [hxx, UInt8.xor_zero]; exact set_self HY.out
      have hxi : ((x.toNat : Int) == 0) = true := by simp [hx0]
      rw [hself] at K2 K4
      rw [← hS1] at K1 K2
      rw [← hT1] at K3 K4
      clear hself hxx hx0 hS1 hT1 hx2 H3 H5
      refine (K1.out).mono ?_
      rintro e w' ⟨rfl, rfl⟩
      go_wp2_with fail
      refine (K2.out).mono ?_
      rintro e w' ⟨rfl, rfl⟩
      go_wp2_with fail
      refine (K3.out).mono ?_
      rintro e w' ⟨rfl, rfl⟩
      go_wp2_with fail
      refine (K4.out).mono ?_
      rintro e w' ⟨rfl, rfl⟩
      go_wp2_with fail
      go_ret
      exact ⟨by simp, HT3.out⟩
    · have hxi : ((x.toNat : Int) == 0) = false := by simpa using hx0
      have hne := xor_zero8 x hx0 y
      have hd1 := odd64.apart (a := 14695981039346656037) (by omega) HY.out _ hne
      have hd2 := odd32.apart (a := 2166136261) (by omega) HY.out _ hne
      obtain ⟨S2, hS2⟩ : ∃ S, S = sum64 (l.set k (y ^^^ x)) := ⟨_, rfl⟩
      obtain ⟨T2, hT2⟩ : ∃ S, S = sum32 (l.set k (y ^^^ x)) := ⟨_, rfl⟩
      have he1 : ((S1 : Int) == (S2 : Int)) = false := by
        rw [beq_eq_false_iff_ne]; intro e; apply hd1; rw [hS1, hS2] at e; exact Int.ofNat_inj.1 e
      have he2 : ((T1 : Int) == (T2 : Int)) = false := by
        rw [beq_eq_false_iff_ne]; intro e; apply hd2; rw [hT1, hT2] at e; exact Int.ofNat_inj.1 e
      rw [← hS1] at K1
      rw [← hT1] at K3
      rw [← hS2] at K2
      rw [← hT2] at K4
      clear hx0 hS1 hT1 hS2 hT2 hx2 H3 H5 hne hd1 hd2
      refine (K1.out).mono ?_
      rintro e w' ⟨rfl, rfl⟩
      go_wp2_with fail
      refine (K2.out).mono ?_
      rintro e w' ⟨rfl, rfl⟩
      go_wp2_with fail
      refine (K3.out).mono ?_
      rintro e w' ⟨rfl, rfl⟩
      go_wp2_with fail
      refine (K4.out).mono ?_
      rintro e w' ⟨rfl, rfl⟩
      go_wp2_with fail
      go_ret
      exact ⟨by simp, HT3.out⟩
end Go.Proofs.Ytdbmieofcdafkaa
