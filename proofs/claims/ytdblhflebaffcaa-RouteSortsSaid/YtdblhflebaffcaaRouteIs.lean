/- The landed routes keep the words that the walks want of them. No condition. -/
import Derived.Test.YtdblhflebaffcaaRouteMax
import Derived.Test.YtdblhflebaffcaaRouteApi
namespace Go.Proofs.Ytdblhflebaffcaa
open Go.RowKit
set_option linter.unusedVariables false
set_option linter.unusedSimpArgs false
set_option maxRecDepth 100000

theorem sort_any (n : Int) (ks : List (Sl UInt8)) (w : World) (ao : Option Addr) (m cap : Nat) (hm : m = ks.length) (hK : KysAt w ao ks) (hmax : m ≤ 300) (hs : ∀ k ∈ ks, k.xs.length ≤ 100) :
    Calls Try.prog 8 #[.int .i64 n, .slice ao m cap] w (OutR w (sortL n (kxs ks)) (stE n (kxs ks))) := by
  rcases stE_or n (kxs ks) with h0 | h0
  · obtain ⟨h1, _⟩ := stE_zero.1 h0
    obtain ⟨p, rfl⟩ : ∃ p : Nat, n = (p : Int) := ⟨n.toNat, by omega⟩
    have e : sortL (p : Int) (kxs ks) = srL p (kxs ks) := by unfold sortL; rw [if_pos h0, Int.toNat_natCast]
    rw [e, h0]
    exact sort_ok p ks w ao m cap hm hK hmax hs h0
  · have HC := Lib.hid (check_any n ks w ao m cap hm hK (by omega))
    have hx : (stE n (kxs ks) == 0) = false := by rw [beq_eq_false_iff_ne]; omega
    have hx2 : ¬ stE n (kxs ks) = 0 := by omega
    have HE := Lib.hid (show OutR w (sortL n (kxs ks)) (stE n (kxs ks)) (.returned (.tuple #[.slice none 0 0, .int .i64 (stE n (kxs ks))])) w from
      ⟨none, 0, 0, [], rfl, rfl, by unfold sortL; rw [if_neg hx2]; rfl, ⟨fun i r hr => by simp at hr, fun r hr => by cases hr⟩, ⟨Nat.le_refl _, by unfold maxLen; omega, fun _ => ⟨rfl, rfl⟩⟩, Turned.refl _ _⟩)
    generalize stE n (kxs ks) = x at *
    clear hK hm hs h0
    go_enter Try.func8, Try.ntmps8
    go_wp2_with (go_at_call 20; ((with_reducible refine HC.out.mono ?_)); rintro e w1 ⟨rfl, hw⟩; rw [hw]; clear hw)
    go_ret2
    exact HE.out

set_option maxHeartbeats 1000000 in
theorem spread_any (n : Int) (ks : List (Sl UInt8)) (w : World) (ao : Option Addr) (m cap : Nat) (hm : m = ks.length) (hK : KysAt w ao ks) (hmax : m ≤ 300) (hs : ∀ k ∈ ks, k.xs.length ≤ 100) :
    Calls Try.prog 10 #[.int .i64 n, .slice ao m cap] w fun e w' => e = .returned (.tuple #[.int .i64 (spN n (kxs ks)), .int .i64 (stE n (kxs ks))]) ∧ Still w w' := by
  have HSo := Lib.hid (sort_any n ks w ao m cap hm hK hmax hs)
  unfold OutR at HSo
  rcases stE_or n (kxs ks) with h0 | h0
  · obtain ⟨h1, h2, h3, h4⟩ := stE_zero.1 h0
    obtain ⟨p, rfl⟩ : ∃ p : Nat, n = (p : Int) := ⟨n.toNat, by omega⟩
    have eL : sortL (p : Int) (kxs ks) = srL p (kxs ks) := by unfold sortL; rw [if_pos h0, Int.toNat_natCast]
    have hp1 : 1 ≤ p := by omega
    have hp8 : p ≤ 8 := by omega
    rw [h0, eL] at HSo
    have HSp := Lib.hid (show spN (p : Int) (kxs ks) = ((hiL (srL p (kxs ks)) : Nat) : Int) - (loL (srL p (kxs ks)) : Nat) by unfold spN; rw [if_pos h0, Int.toNat_natCast])
    rw [h0]
    have hll : (srL p (kxs ks)).length = p := srL_length _ _
    obtain ⟨q0, hq0⟩ := get_some (l := srL p (kxs ks)) (i := 0) (by omega)
    have hq256 : q0.length ≤ 256 := Nat.le_trans (srL_small (List.mem_of_getElem? hq0)) h3
    have hhi : hiL (srL p (kxs ks)) ≤ 256 := by
      unfold hiL
      rw [hq0]
      exact hiF_le hq256 (fun r hr => Nat.le_trans (srL_small hr) h3)
    have hlo : loL (srL p (kxs ks)) ≤ 256 := by
      unfold loL
      rw [hq0]
      exact Nat.le_trans (loF_le _ _) hq256
    have HMx := Lib.hid (fun V a rs n c (hn : n = rs.length) hmap hR hc h1 h8 => maxf_any (w := V) (a := a) (rs := rs) (L := srL p (kxs ks)) (n := n) (c := c) hn hmap hR hc h1 h8)
    have HMn := Lib.hid (fun V a rs n c (hn : n = rs.length) hmap hR hc h1 h8 => minf_any (w := V) (a := a) (rs := rs) (L := srL p (kxs ks)) (n := n) (c := c) hn hmap hR hc h1 h8)
    have HLl := Lib.hid hll
    obtain ⟨x, hx⟩ : ∃ x, x = spN (p : Int) (kxs ks) := ⟨_, rfl⟩
    rw [← hx] at HSp ⊢
    generalize hiL (srL p (kxs ks)) = hi at *
    generalize loL (srL p (kxs ks)) = lo at *
    generalize srL p (kxs ks) = L at *
    clear hx eL h0 h1 h2 h3 h4 hK hs hm hll hq0 hq256
    go_enter Try.func10, Try.ntmps10
    go_wp2_with (first
      | (go_at_call 8; ((with_reducible refine HSo.out.mono ?_)); rintro e w5 ⟨a5, n5, c5, rs, rfl, hn5, hmap, hR, hW, hT5⟩; have HT5 := Lib.hid hT5; obtain rfl : n5 = p := (by rw [hn5, ← HLl.out, ← hmap, List.length_map]); have HMx5 := Lib.hid (HMx.out w5 a5 rs n5 c5 hn5 hmap hR hW hp1 hp8); have HMn5 := Lib.hid (HMn.out w5 a5 rs n5 c5 hn5 hmap hR hW hp1 hp8); clear hR hmap hT5 hn5 hW)
      | (go_at_call 22; ((with_reducible refine HMx5.out.mono ?_)); rintro e w6 ⟨ra, rc, rfl, hw⟩; rw [hw]; clear hw)
      | (go_at_call 24; ((with_reducible refine HMn5.out.mono ?_)); rintro e w7 ⟨rb, rd, rfl, hw⟩; rw [hw]; clear hw))
    go_ret2
    exact ⟨by rw [HSp.out]; rfl, HT5.out⟩
  · have eS : spN n (kxs ks) = 0 := if_neg (by omega)
    rw [eS]
    have hx : (stE n (kxs ks) == 0) = false := by rw [beq_eq_false_iff_ne]; omega
    have hx2 : ¬ stE n (kxs ks) = 0 := by omega
    generalize stE n (kxs ks) = x at *
    clear h0 hK hs eS hm
    go_enter Try.func10, Try.ntmps10
    go_wp2_with (go_at_call 8; ((with_reducible refine HSo.out.mono ?_)); rintro e w5 ⟨a5, n5, c5, rs, rfl, hn5, hmap, hR, hW, hT5⟩; have HT5 := Lib.hid hT5; clear hR hmap hT5 hn5 hW)
    go_ret2
    exact ⟨rfl, HT5.out⟩

theorem route_api : RouteApi :=
  ⟨fun n l w ao m cap hm hA hW hn h => of_any n l w ao m cap hm hA hW hn h,
   fun n a b w ao bo p q ca cb hp hq hA hB hWa hWb hn h1 h2 => same_any11 n a b w ao bo p q ca cb hp hq hA hB hWa hWb hn h1 h2,
   fun n ks w ao m cap hm hK _ _ h hs => sort_any n ks w ao m cap hm hK h hs,
   fun n ks w ao m cap hm hK _ _ h hs => spread_any n ks w ao m cap hm hK h hs⟩
end Go.Proofs.Ytdblhflebaffcaa
