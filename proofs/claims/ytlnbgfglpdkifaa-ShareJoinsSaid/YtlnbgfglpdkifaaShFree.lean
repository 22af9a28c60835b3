/- The places as nobody's: what the program answers. No condition. -/
import Derived.Test.YtlnbgfglpdkifaaRowsT
import Derived.Deep.RegionHeld3
namespace Go.Proofs.Ytlnbgfglpdkifaa
open Go.RowKit
set_option linter.unusedVariables false
set_option linter.unusedSimpArgs false
set_option maxRecDepth 100000

/-- Those that are told so far, of owners. -/
def mixO (a b : List Own) (i : Nat) : List Own := a.take i ++ b.drop i
theorem mixO_get {a b : List Own} (h : a.length = b.length) {i j : Nat} (hj : j < b.length) : (mixO a b i)[j]? = if j < i then a[j]? else b[j]? := by
  unfold mixO
  by_cases hji : j < i
  · rw [if_pos hji, List.getElem?_append_left (by rw [List.length_take]; omega), List.getElem?_take, if_pos hji]
  · rw [if_neg hji, List.getElem?_append_right (by rw [List.length_take]; omega), List.getElem?_drop]
    congr 1
    rw [List.length_take]; omega
theorem mixO_len {a b : List Own} (h : a.length = b.length) (i : Nat) : (mixO a b i).length = b.length := by
  unfold mixO; rw [List.length_append, List.length_take, List.length_drop]; omega
theorem mixO_set {a b : List Own} (h : a.length = b.length) {i : Nat} {x : Own} (hx : a[i]? = some x) : (mixO a b i).set i x = mixO a b (i + 1) := by
  have hi := (List.getElem?_eq_some_iff.1 hx).1
  apply List.ext_getElem?
  intro j
  by_cases hj : j < b.length
  · rw [mixO_get h hj]
    by_cases hji : j = i
    · subst hji
      rw [List.getElem?_set_self (by rw [mixO_len h]; omega), if_pos (by omega), hx]
    · rw [List.getElem?_set_ne (fun e => hji e.symm), mixO_get h hj]
      by_cases h1 : j < i
      · rw [if_pos h1, if_pos (by omega)]
      · rw [if_neg h1, if_neg (by omega)]
  · rw [List.getElem?_eq_none (by rw [List.length_set, mixO_len h]; omega), List.getElem?_eq_none (by rw [mixO_len h]; omega)]
theorem mixO_zero (a b : List Own) : mixO a b 0 = b := by unfold mixO; simp
theorem mixO_all {a b : List Own} (h : a.length = b.length) : mixO a b b.length = a := by unfold mixO; rw [List.take_of_length_le (by omega), List.drop_length, List.append_nil]

set_option maxHeartbeats 2000000 in
theorem shfree_any (w : World) (bo : Option Addr) (ps : List Plc) (n c1 : Nat) (hn : n = ps.length) (h1 : n ≤ 1000) (hB : PlAt w bo ps) :
    Calls Try.prog 22 #[.slice bo n c1] w (OutRow encOw 3 34 w (oL ps (List.replicate n (-1))) n) := by
  have HB := Lib.hid hB
  have HN := Lib.hid hn
  obtain ⟨Z, hZ⟩ : ∃ Z : List Own, Z = List.replicate n ((0, 0), 0) := ⟨_, rfl⟩
  obtain ⟨L, hL⟩ : ∃ L, L = oL ps (List.replicate n (-1)) := ⟨_, rfl⟩
  have hZl : Z.length = n := by rw [hZ, List.length_replicate]
  have HLl := Lib.hid (show L.length = Z.length from by rw [hL, oL_len (by rw [List.length_replicate, hn]), hZl, hn])
  have HLg := Lib.hid (fun (i : Nat) (p : Plc) (hp : ps[i]? = some p) => show L[i]? = some (p, -1) from by
    rw [hL]; exact oL_get hp (by rw [List.getElem?_replicate, if_pos (by rw [hn]; exact (List.getElem?_eq_some_iff.1 hp).1)]))
  have HZl := Lib.hid hZl
  rw [← hL]
  obtain ⟨ti, fi, hz0, hz1, hz2⟩ := info_parts infoOw17
  have hmk := fun W : World => run_make (P := Try.prog) W 24 34 ti _ Try.underlying24 fi hz0 .i64 .i64 (n : Int) (n : Int) (Int.natCast_nonneg n) (Int.le_refl _) (by rw [hz2]; omega) (by omega)
  simp only [hz1, Int.toNat_natCast, show Value.cells (.agg #[.int .i64 0, .int .i64 0, .int .i64 0]) = #[.int .i64 0, .int .i64 0, .int .i64 0] from rfl, madeO] at hmk
  rw [← hZ] at hmk
  have K0 := Lib.hid (lit_heldO (Held.start (Turned.refl _ w)) (l := Z) (n := n) hZl.symm (by omega)).swap
  obtain ⟨g, hg⟩ : ∃ g, g = w.heap.size := ⟨_, rfl⟩
  have K1 := Lib.hid (show Held w (w.alloc (.cells (rowOf encOw Z).toArray 34)) ((ownsT (some ⟨g, 0, none⟩) n n (mixO L Z 0)).sep Thing.none) from by
    rw [mixO_zero, hg]; exact K0.out)
  have hmk0 := hmk w
  rw [← hg] at hmk0
  clear hmk hg
  clear hB hn hL fi hz0 hz1 hz2 hZ hZl K0
  go_enter Try.func22, Try.ntmps22
  go_wp2_with fail
  go_loopw [11] (fun ix wq => ∃ i : Nat, i ≤ n ∧ ix = .int .i64 i ∧ Held w wq ((ownsT (some ⟨g, 0, none⟩) n n (mixO L Z i)).sep Thing.none)) (fun ix _ => n - (intOf ix).toNat)
  case atStart => exact ⟨0, Nat.zero_le _, rfl, K1.out⟩
  case round =>
    clear K1
    obtain ⟨i, hi, rfl, hH⟩ := hrel
    by_cases hlt : i < n
    · obtain ⟨⟨pf, pt⟩, hp⟩ := get_some (l := ps) (i := i) (by rw [← HN.out]; exact hlt)
      obtain ⟨bp, op, rfl, hc⟩ := row_still HB.out hH.ground i _ hp
      have c0 : wr.cell? ⟨bp, op + i * 2, none⟩ = some (.int .i64 pf) := hc 0 _ rfl
      have c1' : wr.cell? ⟨bp, op + i * 2 + 1, none⟩ = some (.int .i64 pt) := by rw [Nat.add_assoc]; exact hc 1 _ rfl
      have hx := HLg.out i _ hp
      have hii : (i : Int) < (n : Int) := by omega
      have hz := get_some (l := mixO L Z i) (i := i) (by rw [mixO_len HLl.out, HZl.out]; exact hlt)
      obtain ⟨zz, hz⟩ := hz
      have hHU := hH.still ((Turned.refl (fun _ => False) wr).alloc (.cells #[.int .i64 pf, .int .i64 pt] 32))
      obtain ⟨⟨u1, d1⟩, d2, ⟨u2, d3⟩, d4, ⟨u3, d5⟩, d6, d7⟩ := held_put3 hHU hz pf pt (-1)
      rw [mixO_set HLl.out hx] at d7
      have K2 := Lib.hid d7
      clear hH hHU hz d7 hx hp hc
      go_wp2_with fail
      go_roundw
      case rel => exact ⟨i + 1, by omega, by go_num, K2.out⟩
      case measure => simp [intOf]; omega
    · obtain rfl : i = n := by omega
      have hf := mixO_all HLl.out
      rw [HZl.out] at hf
      rw [hf] at hH
      have K2 := Lib.hid (ow_raise hH.drop)
      clear hH
      go_wp2_with fail
      go_ret
      exact ⟨_, _, rfl, K2.out⟩
end Go.Proofs.Ytlnbgfglpdkifaa
