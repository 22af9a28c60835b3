/- How evenly keys go: the longest row, and the shortest one. No condition but that there are no more keys, and none longer, than the statements make. -/
import Derived.Test.YtdblhflebaffcaaRouteSort
import Derived.Test.YtdblhflebaffcaaRouteSpr
namespace Go.Proofs.Ytdblhflebaffcaa
open Go.RowKit
set_option linter.unusedVariables false
set_option linter.unusedSimpArgs false
set_option maxRecDepth 100000

/-- Which of two numbers is less. -/
def cmpN (n m : Nat) : Int := if n < m then -1 else if m < n then 1 else 0
theorem cmpI_any (n m : Nat) (w : World) : Calls Try.prog 30 #[.int .i64 (n : Int), .int .i64 (m : Int)] w fun e w' => e = .returned (.int .i64 (cmpN n m)) ∧ w' = w := by
  unfold cmpN
  by_cases h1 : n < m
  · rw [if_pos h1]
    have h1' : (n : Int) < (m : Int) := by omega
    go_enter Try.func30, Try.ntmps30
    go_wp2
    go_ret
    exact ⟨rfl, rfl⟩
  · rw [if_neg h1]
    have h1' : ¬ (n : Int) < (m : Int) := by omega
    by_cases h2 : m < n
    · rw [if_pos h2]
      have h2' : (m : Int) < (n : Int) := by omega
      go_enter Try.func30, Try.ntmps30
      go_wp2
      go_ret
      exact ⟨rfl, rfl⟩
    · rw [if_neg h2]
      have h2' : ¬ (m : Int) < (n : Int) := by omega
      go_enter Try.func30, Try.ntmps30
      go_wp2
      go_ret
      exact ⟨rfl, rfl⟩
theorem bylen_any (a b : Option Addr) (n m c d : Nat) (w : World) : Calls Try.prog 23 #[.slice a n c, .slice b m d] w fun e w' => e = .returned (.int .i64 (cmpN n m)) ∧ w' = w := by
  have H := Lib.hid (cmpI_any n m w)
  generalize cmpN n m = x at *
  go_enter Try.func23, Try.ntmps23
  go_wp2_with (go_at_call 30; ((with_reducible refine H.out.mono ?_)); rintro e w' ⟨rfl, hw⟩; rw [hw]; clear hw)
  go_ret
  exact ⟨rfl, rfl⟩

/-- The rows' cells, and how long they are. -/
theorem rows_len {w : World} {a : Option Addr} {rs : List (Sl Int)} {L : List (List Int)} {n : Nat} (hn : n = rs.length) (hmap : rs.map (·.xs) = L) (hR : RwsAt w a rs) (i : Nat) (hi : i < n) :
    ∃ ra rc b o q, L[i]? = some q ∧ a = some ⟨b, o, none⟩ ∧ w.cell? ⟨b, o + i, none⟩ = some (.slice ra q.length rc) := by
  obtain ⟨r, hr⟩ := get_some (l := rs) (i := i) (by omega)
  obtain ⟨b, o, e, hc, _, _, hl⟩ := hR.get hr
  rw [hl] at hc
  exact ⟨r.a, r.cap, b, o, r.xs, by rw [← hmap, List.getElem?_map, hr]; rfl, e, hc⟩

theorem hiF_one {L : List (List Int)} {q : List Int} (h : L[0]? = some q) : hiF q.length (L.take 1) = q.length ∧ loF q.length (L.take 1) = q.length := by
  cases L with
  | nil => cases h
  | cons r L => cases h; simp [hiF, loF]

set_option maxHeartbeats 2000000 in
theorem maxf_any {w : World} {a : Option Addr} {rs : List (Sl Int)} {L : List (List Int)} {n c : Nat} (hn : n = rs.length) (hmap : rs.map (·.xs) = L) (hR : RwsAt w a rs) (hc : SlW a n c) (h1 : 1 ≤ n) (h8 : n ≤ 8) :
    Calls Try.prog 22 #[.slice a n c, .func (.func 23) #[] #[]] w fun e w' => ∃ ra rc, e = .returned (.slice ra (hiL L) rc) ∧ w' = w := by
  have HG := Lib.hid (fun i hi => rows_len hn hmap hR i hi)
  have HL := Lib.hid (show L.length = n by rw [← hmap, List.length_map, hn])
  have hcap := hc.le
  have HB := Lib.hid (fun a b n m c d => bylen_any a b n m c d w)
  obtain ⟨ra, rc, b, o, q, hq, rfl, hc0⟩ := HG.out 0 (by omega)
  have HZ := Lib.hid (show hiL L = hiF q.length L by unfold hiL hiF; rw [hq]; rfl)
  have HO := Lib.hid (hiF_one hq).1
  obtain ⟨z, hz⟩ : ∃ z, z = q.length := ⟨_, rfl⟩
  rw [← hz] at HZ HO hc0
  rw [Nat.add_zero] at hc0
  have h05 : (0 : Int) < (n : Int) := by omega
  have h15 : ¬ (n : Int) < 1 := by omega
  clear hn hmap hR hc hq hz
  go_enter Try.func22, Try.ntmps22
  go_wp2_with fail
  go_loopw [5, 6] (fun v i wr => ∃ (k : Nat) (ra : Option Addr) (rc : Nat), 1 ≤ k ∧ k ≤ n ∧ i = .int .i64 k ∧ v = .slice ra (hiF z (L.take k)) rc ∧ wr = w) (fun _ i _ => n - (intOf i).toNat)
  case atStart => exact ⟨1, ra, rc, Nat.le_refl _, h1, rfl, by rw [HO.out], by first | rfl | trivial⟩
  case round =>
    obtain ⟨k, ra, rc, hk1, hk, rfl, rfl, rfl⟩ := hrel
    by_cases hlt : k < n
    · obtain ⟨ra2, rc2, b', o', q, hq, e, hck⟩ := HG.out k hlt
      cases e
      have HHi := Lib.hid (hiF_step (m := z) hq)
      generalize hiF z (L.take k) = hi at *
      generalize q.length = rl at *
      clear hq hc0
      by_cases hgt : hi < rl
      · have HC := Lib.hid (HB.out ra2 ra rl hi rc2 rc)
        rw [show cmpN rl hi = 1 by unfold cmpN; rw [if_neg (by omega), if_pos hgt]] at HC
        go_wp2_with fail
        refine HC.out.mono ?_
        rintro e w' ⟨rfl, hw⟩
        rw [hw]
        clear hw
        go_wp2_with fail
        go_roundw
        case rel => exact ⟨k + 1, ra2, rc2, by omega, by omega, by go_num, by rw [HHi.out, Nat.max_eq_right (by omega)], by first | rfl | trivial⟩
        case measure => simp [intOf]; omega
      · obtain ⟨x, hx, hx0⟩ : ∃ x : Int, cmpN rl hi = x ∧ ¬ 0 < x := ⟨_, rfl, by unfold cmpN; split <;> (try split) <;> omega⟩
        have HC := Lib.hid (HB.out ra2 ra rl hi rc2 rc)
        rw [hx] at HC
        clear hx
        go_wp2_with fail
        refine HC.out.mono ?_
        rintro e w' ⟨rfl, hw⟩
        rw [hw]
        clear hw
        go_wp2_with fail
        go_roundw
        case rel => exact ⟨k + 1, ra, rc, by omega, by omega, by go_num, by rw [HHi.out, Nat.max_eq_left (by omega)], by first | rfl | trivial⟩
        case measure => simp [intOf]; omega
    · obtain rfl : k = n := by omega
      have hall : L.take k = L := List.take_of_length_le (by rw [HL.out]; exact Nat.le_refl _)
      obtain ⟨x, hx⟩ : ∃ x, x = hiL L := ⟨_, rfl⟩
      rw [hall, ← HZ.out, ← hx]
      have HX := Lib.hid hx
      clear hall hx
      go_wp2_with fail
      go_ret
      exact ⟨ra, rc, by rw [← HX.out]; rfl, rfl⟩

set_option maxHeartbeats 2000000 in
theorem minf_any {w : World} {a : Option Addr} {rs : List (Sl Int)} {L : List (List Int)} {n c : Nat} (hn : n = rs.length) (hmap : rs.map (·.xs) = L) (hR : RwsAt w a rs) (hc : SlW a n c) (h1 : 1 ≤ n) (h8 : n ≤ 8) :
    Calls Try.prog 24 #[.slice a n c, .func (.func 23) #[] #[]] w fun e w' => ∃ ra rc, e = .returned (.slice ra (loL L) rc) ∧ w' = w := by
  have HG := Lib.hid (fun i hi => rows_len hn hmap hR i hi)
  have HL := Lib.hid (show L.length = n by rw [← hmap, List.length_map, hn])
  have hcap := hc.le
  have HB := Lib.hid (fun a b n m c d => bylen_any a b n m c d w)
  obtain ⟨ra, rc, b, o, q, hq, rfl, hc0⟩ := HG.out 0 (by omega)
  have HZ := Lib.hid (show loL L = loF q.length L by unfold loL loF; rw [hq]; rfl)
  have HO := Lib.hid (hiF_one hq).2
  obtain ⟨z, hz⟩ : ∃ z, z = q.length := ⟨_, rfl⟩
  rw [← hz] at HZ HO hc0
  rw [Nat.add_zero] at hc0
  have h05 : (0 : Int) < (n : Int) := by omega
  have h15 : ¬ (n : Int) < 1 := by omega
  clear hn hmap hR hc hq hz
  go_enter Try.func24, Try.ntmps24
  go_wp2_with fail
  go_loopw [5, 6] (fun v i wr => ∃ (k : Nat) (ra : Option Addr) (rc : Nat), 1 ≤ k ∧ k ≤ n ∧ i = .int .i64 k ∧ v = .slice ra (loF z (L.take k)) rc ∧ wr = w) (fun _ i _ => n - (intOf i).toNat)
  case atStart => exact ⟨1, ra, rc, Nat.le_refl _, h1, rfl, by rw [HO.out], by first | rfl | trivial⟩
  case round =>
    obtain ⟨k, ra, rc, hk1, hk, rfl, rfl, rfl⟩ := hrel
    by_cases hlt : k < n
    · obtain ⟨ra2, rc2, b', o', q, hq, e, hck⟩ := HG.out k hlt
      cases e
      have HHi := Lib.hid (loF_step (m := z) hq)
      generalize loF z (L.take k) = hi at *
      generalize q.length = rl at *
      clear hq hc0
      by_cases hgt : rl < hi
      · have HC := Lib.hid (HB.out ra2 ra rl hi rc2 rc)
        rw [show cmpN rl hi = -1 by unfold cmpN; rw [if_pos hgt]] at HC
        go_wp2_with fail
        refine HC.out.mono ?_
        rintro e w' ⟨rfl, hw⟩
        rw [hw]
        clear hw
        go_wp2_with fail
        go_roundw
        case rel => exact ⟨k + 1, ra2, rc2, by omega, by omega, by go_num, by rw [HHi.out, Nat.min_eq_right (by omega)], by first | rfl | trivial⟩
        case measure => simp [intOf]; omega
      · obtain ⟨x, hx, hx0⟩ : ∃ x : Int, cmpN rl hi = x ∧ ¬ x < 0 := ⟨_, rfl, by unfold cmpN; split <;> (try split) <;> omega⟩
        have HC := Lib.hid (HB.out ra2 ra rl hi rc2 rc)
        rw [hx] at HC
        clear hx
        go_wp2_with fail
        refine HC.out.mono ?_
        rintro e w' ⟨rfl, hw⟩
        rw [hw]
        clear hw
        go_wp2_with fail
        go_roundw
        case rel => exact ⟨k + 1, ra, rc, by omega, by omega, by go_num, by rw [HHi.out, Nat.min_eq_left (by omega)], by first | rfl | trivial⟩
        case measure => simp [intOf]; omega
    · obtain rfl : k = n := by omega
      have hall : L.take k = L := List.take_of_length_le (by rw [HL.out]; exact Nat.le_refl _)
      obtain ⟨x, hx⟩ : ∃ x, x = loL L := ⟨_, rfl⟩
      rw [hall, ← HZ.out, ← hx]
      have HX := Lib.hid hx
      clear hall hx
      go_wp2_with fail
      go_ret
      exact ⟨ra, rc, by rw [← HX.out]; rfl, rfl⟩
end Go.Proofs.Ytdblhflebaffcaa
