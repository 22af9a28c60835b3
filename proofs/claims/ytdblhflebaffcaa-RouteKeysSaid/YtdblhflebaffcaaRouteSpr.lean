/- Spread of the document's routes. No condition but that there are no more keys, and none longer, than the statements make. -/
import Derived.Test.YtdblhflebaffcaaRouteRef
namespace Go.Proofs.Ytdblhflebaffcaa
open Go.RowKit
set_option linter.unusedVariables false
set_option linter.unusedSimpArgs false
set_option maxRecDepth 100000

def loF (m : Nat) (L : List (List Int)) : Nat := L.foldl (fun m r => min m r.length) m
def hiF (m : Nat) (L : List (List Int)) : Nat := L.foldl (fun m r => max m r.length) m
theorem loF_step {m : Nat} {L : List (List Int)} {k : Nat} {r : List Int} (h : L[k]? = some r) : loF m (L.take (k + 1)) = min (loF m (L.take k)) r.length := by
  unfold loF; rw [List.take_add_one, h, List.foldl_append]; rfl
theorem hiF_step {m : Nat} {L : List (List Int)} {k : Nat} {r : List Int} (h : L[k]? = some r) : hiF m (L.take (k + 1)) = max (hiF m (L.take k)) r.length := by
  unfold hiF; rw [List.take_add_one, h, List.foldl_append]; rfl
theorem srL_small {n : Nat} {K : List (List UInt8)} {r : List Int} (h : r ∈ srL n K) : r.length ≤ K.length := by
  unfold srL at h
  obtain ⟨p, _, rfl⟩ := List.mem_map.1 h
  exact plG_len _ _ _ _
theorem loF_le (m : Nat) (L : List (List Int)) : loF m L ≤ m := by
  unfold loF
  induction L generalizing m with
  | nil => exact Nat.le_refl _
  | cons r L ih => rw [List.foldl_cons]; exact Nat.le_trans (ih _) (Nat.min_le_left _ _)
theorem hiF_ge (m : Nat) (L : List (List Int)) : m ≤ hiF m L := by
  unfold hiF
  induction L generalizing m with
  | nil => exact Nat.le_refl _
  | cons r L ih => rw [List.foldl_cons]; exact Nat.le_trans (Nat.le_max_left _ _) (ih _)
theorem hiF_le {m b : Nat} {L : List (List Int)} (hm : m ≤ b) (h : ∀ r ∈ L, r.length ≤ b) : hiF m L ≤ b := by
  unfold hiF
  induction L generalizing m with
  | nil => exact hm
  | cons r L ih =>
    rw [List.foldl_cons]
    exact ih (Nat.max_le.2 ⟨hm, h r (by simp)⟩) (fun x hx => h x (by simp [hx]))

set_option maxHeartbeats 2000000 in
theorem zrtspread_any (n : Int) (ks : List (Sl UInt8)) (w : World) (ao : Option Addr) (m cap : Nat) (hm : m = ks.length) (hK : KysAt w ao ks) (hmax : m ≤ 100000) (hs : ∀ k ∈ ks, k.xs.length ≤ 100000) :
    Calls Try.prog 11 #[.int .i64 n, .slice ao m cap] w fun e w' => e = .returned (.tuple #[.int .i64 (spN n (kxs ks)), .int .i64 (stE n (kxs ks))]) ∧ Still w w' := by
  have HSo := Lib.hid (zrtsort_any n ks w ao m cap hm hK hmax hs)
  unfold OutR at HSo
  rcases stE_or n (kxs ks) with h0 | h0
  · obtain ⟨h1, h2, h3, h4⟩ := stE_zero.1 h0
    obtain ⟨p, rfl⟩ : ∃ p : Nat, n = (p : Int) := ⟨n.toNat, by omega⟩
    have eL : sortL (p : Int) (kxs ks) = srL p (kxs ks) := by unfold sortL; rw [if_pos h0, Int.toNat_natCast]
    have hp1 : 1 ≤ p := by omega
    have hp8 : p ≤ 8 := by omega
    rw [h0, eL] at HSo
    have HSp := Lib.hid (show spN (p : Int) (kxs ks) = ((hiL (srL p (kxs ks)) : Nat) : Int) - (loL (srL p (kxs ks)) : Nat) by unfold spN; rw [if_pos h0, Int.toNat_natCast])
    rw [h0]
    obtain ⟨L, hL⟩ : ∃ L, L = srL p (kxs ks) := ⟨_, rfl⟩
    have hll : L.length = p := by rw [hL]; exact srL_length _ _
    have hsm : ∀ r ∈ L, r.length ≤ 256 := fun r hr => Nat.le_trans (srL_small (by rw [← hL]; exact hr)) h3
    rw [← hL] at HSo HSp
    obtain ⟨q0, hq0⟩ := get_some (l := L) (i := 0) (by omega)
    have HSp2 := Lib.hid (show hiL L = hiF q0.length L ∧ loL L = loF q0.length L by unfold hiL loL hiF loF; rw [hq0]; exact ⟨rfl, rfl⟩)
    have hq0s := hsm q0 (List.mem_of_getElem? hq0)
    obtain ⟨x, hx⟩ : ∃ x, x = spN (p : Int) (kxs ks) := ⟨_, rfl⟩
    rw [← hx] at HSp ⊢
    have HLl := Lib.hid hll
    have HSm := Lib.hid hsm
    have HQ0 := Lib.hid hq0
    clear hx hL eL h0 h1 h2 h3 h4 hK hs hm hll hsm hq0
    go_enter Try.func11, Try.ntmps11
    go_wp2_with (go_at_call 9; ((with_reducible refine HSo.out.mono ?_)); rintro e w5 ⟨a5, n5, c5, rs, rfl, hn5, hmap, hR, hW, hT5⟩; have HR := Lib.hid hR; have HMap := Lib.hid hmap; have HT5 := Lib.hid hT5; obtain rfl : n5 = p := (by rw [hn5, ← HLl.out, ← hmap, List.length_map]); have HN5 := Lib.hid hn5; clear hR hmap hT5 hn5)
    have HG := Lib.hid (fun (i : Nat) (h : i < n5) => show ∃ r b o q, rs[i]? = some r ∧ L[i]? = some q ∧ r.len = q.length ∧ a5 = some ⟨b, o, none⟩ ∧ w5.cell? ⟨b, o + i, none⟩ = some (.slice r.a r.len r.cap) from by
      obtain ⟨r, hr⟩ := get_some (l := rs) (i := i) (by rw [← HN5.out]; exact h)
      obtain ⟨b, o, e, hc, _, _, hl⟩ := HR.out.get hr
      have : L[i]? = some r.xs := by rw [← HMap.out, List.getElem?_map, hr]; rfl
      exact ⟨r, b, o, r.xs, hr, this, hl, e, hc⟩)
    have hnc : n5 ≤ c5 := hW.le
    obtain ⟨r, b, o, q, hr, hq, hrl, rfl, hc⟩ := HG.out 0 (by omega)
    rw [HQ0.out] at hq
    cases hq
    obtain ⟨ra, rl, rc, rx⟩ := r
    dsimp only at hc hrl
    subst hrl
    rw [Nat.add_zero] at hc
    have h05 : (0 : Int) < (n5 : Int) := by omega
    clear hr hW HSo
    go_wp2_with fail
    go_quiet (fail)
    go_wp2_with fail
    obtain ⟨z, hz⟩ : ∃ z, z = q0.length := ⟨_, rfl⟩
    rw [← hz] at HSp2 hq0s ⊢
    clear hz hc
    go_loopw [8, 9, 10] (fun lo hi i wr => ∃ (k : Nat), k ≤ n5 ∧ i = .int .i64 k ∧ lo = .int .i64 (loF z (L.take k) : Nat) ∧ hi = .int .i64 (hiF z (L.take k) : Nat) ∧ Still w5 wr) (fun _ _ i _ => n5 - (intOf i).toNat)
    case atStart => exact ⟨0, Nat.zero_le _, rfl, by rw [List.take_zero]; rfl, by rw [List.take_zero]; rfl, (Turned.refl _ _).drewN _⟩
    case round =>
      obtain ⟨k, hk, rfl, rfl, rfl, hst⟩ := hrel
      have HSt := Lib.hid hst
      have hlo := loF_le z (L.take k)
      have hhi := hiF_le (b := 256) (L := L.take k) hq0s (fun r hr => HSm.out r (List.mem_of_mem_take hr))
      have hhg := hiF_ge z (L.take k)
      by_cases hlt : k < n5
      · obtain ⟨r, b', o', q, hr, hq, hrl, e, hc⟩ := HG.out k hlt
        cases e
        obtain ⟨ra, rl, rc, rx⟩ := r
        dsimp only at hc hrl
        have hc2 := still_cell hst hc rfl
        have HLo := Lib.hid (loF_step (m := z) hq)
        have HHi := Lib.hid (hiF_step (m := z) hq)
        have hqs := HSm.out q (List.mem_of_getElem? hq)
        generalize loF z (L.take k) = lo at *
        generalize hiF z (L.take k) = hi at *
        have hif1 : (if rl < lo then (rl : Int) else (lo : Int)) = ((min lo rl : Nat) : Int) := by split <;> omega
        have hif2 : (if hi < rl then (rl : Int) else (hi : Int)) = ((max hi rl : Nat) : Int) := by split <;> omega
        obtain ⟨lo', hlo'⟩ : ∃ lo', lo' = min lo rl := ⟨_, rfl⟩
        obtain ⟨hi', hhi'⟩ : ∃ hi', hi' = max hi rl := ⟨_, rfl⟩
        rw [← hlo'] at hif1
        rw [← hhi'] at hif2
        rw [← hrl, ← hlo'] at HLo
        rw [← hrl, ← hhi'] at HHi
        clear hr hq hc hst hlo' hhi' hrl hlo hhi hhg
        go_wp2_with fail
        go_quiet (fail)
        go_wp2_with fail
        go_roundw
        case rel => exact ⟨k + 1, by omega, by go_num, by rw [HLo.out], by rw [HHi.out], HSt.out.drewN _⟩
        case measure => simp [intOf]; omega
      · obtain rfl : k = n5 := by omega
        have hall : L.take k = L := List.take_of_length_le (by rw [HLl.out]; exact Nat.le_refl _)
        have HE := Lib.hid (show x = ((hiF z L : Nat) : Int) - (loF z L : Nat) by rw [HSp.out, HSp2.out.1, HSp2.out.2])
        rw [hall] at hlo hhi hhg ⊢
        generalize loF z L = lo at *
        generalize hiF z L = hi at *
        clear hst hall
        go_wp2_with fail
        go_ret2
        exact ⟨by rw [HE.out]; rfl, HT5.out.trans HSt.out⟩
  · have eS : spN n (kxs ks) = 0 := if_neg (by omega)
    rw [eS]
    have hx : (stE n (kxs ks) == 0) = false := by rw [beq_eq_false_iff_ne]; omega
    have hx2 : ¬ stE n (kxs ks) = 0 := by omega
    generalize stE n (kxs ks) = x at *
    clear h0 hK hs eS hm
    go_enter Try.func11, Try.ntmps11
    go_wp2_with (go_at_call 9; ((with_reducible refine HSo.out.mono ?_)); rintro e w5 ⟨a5, n5, c5, rs, rfl, hn5, hmap, hR, hW, hT5⟩; have HT5 := Lib.hid hT5; clear hR hmap hT5 hn5 hW)
    go_ret2
    exact ⟨rfl, HT5.out⟩
end Go.Proofs.Ytdblhflebaffcaa
