/- Who had each of the places: what the program answers. No condition. -/
import Derived.Test.YtlnbgfglpdkifaaShBy
import Derived.Test.YtlnbgfglpdkifaaRowsT
import Derived.Deep.RegionHeld3
namespace Go.Proofs.Ytlnbgfglpdkifaa
open Go.RowKit
set_option linter.unusedVariables false
set_option linter.unusedSimpArgs false
set_option maxRecDepth 100000

set_option maxHeartbeats 2000000 in
theorem shform_any (w : World) (bo co : Option Addr) (ps : List Plc) (os : List Own) (n k c1 c2 : Nat) (hn : n = ps.length) (hk : k = os.length) (h1 : n ≤ 1000) (h2 : k ≤ 1000) (hB : PlAt w bo ps) (hC : OwAt w co os) :
    Calls Try.prog 20 #[.slice bo n c1, .slice co k c2] w (OutNums w (ps.map (hadI os)) n) := by
  have HBy := Lib.hid (shby_any w co k c2 os hk h2 hC)
  have HB := Lib.hid hB
  have HN := Lib.hid hn
  obtain ⟨L, hL⟩ : ∃ L, L = ps.map (hadI os) := ⟨_, rfl⟩
  have HLl := Lib.hid (show L.length = (List.replicate n (0 : Int)).length from by rw [hL, List.length_map, List.length_replicate, hn])
  have HLg := Lib.hid (fun (i : Nat) (p : Plc) (hp : ps[i]? = some p) => show L[i]? = some (hadI os p) from by rw [hL, List.getElem?_map, hp]; rfl)
  rw [← hL]
  obtain ⟨ti, fi, hz0, hz1, hz2⟩ := info_parts infoIntW
  have hmk := fun W : World => run_make (P := Try.prog) W 22 3 ti _ Try.underlying22 fi hz0 .i64 .i64 (n : Int) (n : Int) (Int.natCast_nonneg n) (Int.le_refl _) (by rw [hz2]; omega) (by omega)
  simp only [hz1, Int.toNat_natCast, Nat.mul_one, show Value.cells (.int .i64 0) = #[.int .i64 0] from rfl, madeN] at hmk
  clear hB hC hn hk hL fi hz0 hz1 hz2
  go_enter Try.func20, Try.ntmps20
  go_wp2_with (go_at_call 26; ((with_reducible refine HBy.out.mono ?_)); rintro e w1 ⟨mb, rfl, hlo, hm, hs⟩; have K0 := Lib.hid (show Held w w1 (mapT plV mb (whoF os)) from ⟨(· = mb), ⟨hm, fun _ => Iff.rfl⟩, fun k e => by omega, hs⟩); clear hlo hm hs)
  have K1 := Lib.hid (lit_held K0.out (l := List.replicate n 0) (n := n) (by simp) (by omega)).swap
  obtain ⟨g, hg⟩ : ∃ g, g = w1.heap.size := ⟨_, rfl⟩
  have K1 := Lib.hid (show Held w (w1.alloc (.cells (ints (List.replicate n 0)).toArray 3)) ((intsT (some ⟨g, 0, none⟩) n n (mix L (List.replicate n 0) 0)).sep (mapT plV mb (whoF os))) from by
    rw [mix_zero, hg]; exact K1.out)
  rw [← hg]
  clear hg K0
  go_loopw [18] (fun ix wq => ∃ i : Nat, i ≤ n ∧ ix = .int .i64 i ∧ Held w wq ((intsT (some ⟨g, 0, none⟩) n n (mix L (List.replicate n 0) i)).sep (mapT plV mb (whoF os)))) (fun ix _ => n - (intOf ix).toNat)
  case atStart => exact ⟨0, Nat.zero_le _, rfl, K1.out⟩
  case round =>
    clear K1
    obtain ⟨i, hi, rfl, hH⟩ := hrel
    by_cases hlt : i < n
    · obtain ⟨⟨pf, pt⟩, hp⟩ := get_some (l := ps) (i := i) (by rw [← HN.out]; exact hlt)
      obtain ⟨bp, op, rfl, hc⟩ := row_still HB.out hH.ground i _ hp
      have c0 : wr.cell? ⟨bp, op + i * 2, none⟩ = some (.int .i64 pf) := hc 0 _ rfl
      have c1' : wr.cell? ⟨bp, op + i * 2 + 1, none⟩ = some (.int .i64 pt) := by rw [Nat.add_assoc]; exact hc 1 _ rfl
      have hx := HLg.out i _ hp
      have hii : (i : Int) < (n : Int) := by omega
      obtain ⟨U, hU⟩ : ∃ U, U = wr.alloc (.cells #[.int .i64 pf, .int .i64 pt] 32) := ⟨_, rfl⟩
      have hHU := hH.still (show Still wr U from by rw [hU]; exact (Turned.refl _ _).alloc _)
      obtain ⟨_, ⟨hmf, _⟩, _⟩ := hHU.snd
      have hlk := MapF.look keysPl hmf (pf, pt) true
      rw [if_pos rfl] at hlk
      simp only [plV] at hlk
      obtain ⟨s1, s2, s3⟩ := held_put hHU (u := 0) (j := i) (by rw [mix_get HLl.out (by simp; exact hlt), if_neg (Nat.lt_irrefl _), List.getElem?_replicate, if_pos hlt])
      have KP := Lib.hid (fun v (hv : L[i]? = some v) => show Held w (U.setCell ⟨g, i, none⟩ (.int .i64 v)) ((intsT (some ⟨g, 0, none⟩) n n (mix L (List.replicate n 0) (i + 1))).sep (mapT plV mb (whoF os))) from by
        have := s3 v
        rwa [mix_set HLl.out hv] at this)
      have hwf := whoF_had os (pf, pt)
      rw [← hwf] at hx
      cases hwo : whoF os (pf, pt) with
      | none =>
        rw [hwo] at hx hlk
        have KP := Lib.hid (KP.out _ hx)
        clear hH hHU hp hc hx hmf hwf s3
        rw [hU] at hlk s1 s2 KP
        clear hU
        go_wp2_with fail
        go_roundw
        case rel => exact ⟨i + 1, by omega, by go_num, KP.out⟩
        case measure => simp [intOf]; omega
      | some x =>
        rw [hwo] at hx hlk
        have KP := Lib.hid (KP.out _ hx)
        clear hH hHU hp hc hx hmf hwf s3
        rw [hU] at hlk s1 s2 KP
        clear hU
        go_wp2_with fail
        go_roundw
        case rel => exact ⟨i + 1, by omega, by go_num, KP.out⟩
        case measure => simp [intOf]; omega
    · obtain rfl : i = n := by omega
      have hf := mix_all HLl.out
      rw [List.length_replicate] at hf
      rw [hf] at hH
      have K2 := Lib.hid (ow_raise hH.drop)
      clear hH
      go_wp2_with fail
      go_ret
      exact ⟨_, _, rfl, K2.out⟩
end Go.Proofs.Ytlnbgfglpdkifaa
