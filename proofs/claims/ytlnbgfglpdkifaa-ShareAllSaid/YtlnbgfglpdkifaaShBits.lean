/- What the statements' own helpers of layer 16 do: who had a place, three places, cuts. No condition. -/
import Derived.Test.YtlnbgfglpdkifaaSameOw
import Derived.Test.YtlnbgfglpdkifaaHasInt
import Derived.OwnWalk
namespace Go.Proofs.Ytlnbgfglpdkifaa
open Go.RowKit
set_option linter.unusedVariables false
set_option linter.unusedSimpArgs false
set_option maxRecDepth 100000

theorem had_cons (o : Own) (os : List Own) (p : Plc) : hadI (o :: os) p = if o.1 = p then o.2 else hadI os p := by
  unfold hadI
  rw [List.find?_cons]
  by_cases h : o.1 = p
  · rw [decide_eq_true h, if_pos h]
  · rw [decide_eq_false h, if_neg h]
theorem had_drop {os : List Own} {k : Nat} {o : Own} (p : Plc) (h : os[k]? = some o) : hadI (os.drop k) p = if o.1 = p then o.2 else hadI (os.drop (k + 1)) p := by
  obtain ⟨hk, e⟩ := List.getElem?_eq_some_iff.1 h
  rw [List.drop_eq_getElem_cons hk, had_cons, e]
set_option maxHeartbeats 1000000 in
theorem hadR_any (w : World) (ao : Option Addr) (A : List Own) (n c : Nat) (p : Plc) (hn : n = A.length) (hl : n ≤ 4611686018427387904) (hA : OwAt w ao A) :
    Calls Try.prog 14 #[.slice ao n c, .agg #[.int .i64 p.1, .int .i64 p.2]] w fun e w' => e = .returned (.int .i64 (hadI A p)) ∧ Still w w' := by
  have HN := Lib.hid hn
  have HA := Lib.hid hA
  obtain ⟨pt, pp⟩ := p
  dsimp only
  clear hn hA
  go_enter Try.func14, Try.ntmps14
  go_wp2_with fail
  go_loopw [5] (fun i wr => ∃ k : Nat, k ≤ n ∧ i = .int .i64 k ∧ hadI (A.drop k) (pt, pp) = hadI A (pt, pp) ∧ Still (w.alloc (.cells #[.int .i64 pt, .int .i64 pp] 32)) wr) (fun i _ => n - (intOf i).toNat)
  case atStart => exact ⟨0, Nat.zero_le _, rfl, by simp, Turned.refl _ _⟩
  case round =>
    obtain ⟨k, hk, rfl, ht, hs⟩ := hrel
    by_cases hlt : k < n
    · obtain ⟨x, hx⟩ := get_some (l := A) (i := k) (by rw [← HN.out]; exact hlt)
      obtain ⟨b, o, rfl, hcx⟩ := HA.out k x hx
      have hd := had_drop (pt, pp) hx
      rw [hd] at ht
      obtain ⟨⟨xf, xt⟩, xi⟩ := x
      have hs0 : Still w wr := ((Turned.refl _ w).alloc _).trans hs
      have x0 : wr.cell? ⟨b, o + k * 3, none⟩ = some (.int .i64 xf) := still_cell hs0 (hcx 0 _ rfl) (by omega)
      have x1 : wr.cell? ⟨b, o + k * 3 + 1, none⟩ = some (.int .i64 xt) := still_cell hs0 (hcx 1 _ rfl) (by omega)
      have x2 : wr.cell? ⟨b, o + k * 3 + 2, none⟩ = some (.int .i64 xi) := still_cell hs0 (hcx 2 _ rfl) (by omega)
      have hbx : Blk wr w.heap.size [.int .i64 pt, .int .i64 pp] 32 := (Blk.new w _ _).turned hs (fun h => h)
      have y0 := hbx.cell (o := 0) rfl
      have y1 := hbx.cell (o := 1) rfl
      dsimp only at ht
      have hki : (k : Int) < (n : Int) := by omega
      have HT := Lib.hid ht
      have HS := Lib.hid hs
      clear hx hcx hd ht hs hs0 hbx
      by_cases hxy : xf = pt ∧ xt = pp
      · obtain ⟨rfl, rfl⟩ := hxy
        rw [if_pos rfl] at HT
        go_wp2_with fail
        go_quiet (fail)
        go_wp2_with fail
        go_ret
        exact ⟨by rw [← HT.out]; rfl, (((Turned.refl _ w).alloc _).trans HS.out).drewN _⟩
      · rw [if_neg (by simpa using hxy)] at HT
        have hxy' : xf ≠ pt ∨ (xf = pt ∧ xt ≠ pp) := by
          by_cases h1 : xf = pt
          · exact .inr ⟨h1, fun h2 => hxy ⟨h1, h2⟩⟩
          · exact .inl h1
        clear hxy
        rcases hxy' with h1 | ⟨rfl, h1⟩
        all_goals (
          go_wp2_with fail
          go_quiet (fail)
          go_wp2_with fail
          go_roundw
          case rel => exact ⟨k + 1, by omega, by go_num, HT.out, HS.out.drewN _⟩
          case measure => simp [intOf]; omega)
    · obtain rfl : k = n := by omega
      clear hlt
      go_wp2_with fail
      go_ret
      refine ⟨?_, ((Turned.refl _ w).alloc _).trans hs⟩
      rw [← ht, List.drop_of_length_le (by rw [HN.out]; omega)]; rfl

theorem three_any (w : World) : Calls Try.prog 17 #[] w fun e w' => ∃ a c, e = .returned (.slice a (3 : Nat) c) ∧ PlAt w' a [(0, 0), (0, 1), (1, 0)] ∧ Still w w' := by
  go_enter Try.func17, Try.ntmps17
  go_wp2_with fail
  go_ret
  refine ⟨_, _, rfl, ?_, (Turned.refl _ _).alloc _⟩
  have hb := Blk.new w [.int .i64 0, .int .i64 0, .int .i64 0, .int .i64 1, .int .i64 1, .int .i64 0] 32
  intro i x hx
  refine ⟨w.heap.size, 0, rfl, fun j v hv => ?_⟩
  have hi : i < 3 := (List.getElem?_eq_some_iff.1 hx).1
  have hj : j < 2 := (List.getElem?_eq_some_iff.1 hv).1
  refine hb.cell ?_
  rw [← hv]
  obtain rfl | rfl | rfl : i = 0 ∨ i = 1 ∨ i = 2 := by omega
  all_goals (
    obtain rfl : _ = x := by simpa using hx
    obtain rfl | rfl : j = 0 ∨ j = 1 := by omega
    all_goals rfl)
theorem cut_any (w : World) (ao bo co : Option Addr) (m n k c1 c2 c3 : Nat) (h1 : m ≤ c1) (h2 : n ≤ c2) (h3 : k ≤ c3) (x1 : c1 ≤ 9223372036854775807) (x2 : c2 ≤ 9223372036854775807) (x3 : c3 ≤ 9223372036854775807) :
    Calls Try.prog 8 #[.slice ao m c1, .slice bo n c2, .slice co k c3] w fun e w' => e = .returned (.tuple #[.slice ao (min m 20) c1, .slice bo (min n 257) c2, .slice co (min k 257) c3]) ∧ Still w w' := by
  obtain ⟨m', hm'⟩ : ∃ m', m' = min m 20 := ⟨_, rfl⟩
  obtain ⟨n', hn'⟩ : ∃ n', n' = min n 257 := ⟨_, rfl⟩
  obtain ⟨k', hk'⟩ : ∃ k', k' = min k 257 := ⟨_, rfl⟩
  have hif1 : (if (20 : Int) < (m : Int) then (20 : Int) else (m : Int)) = (m' : Int) := by split <;> omega
  have hif2 : (if (257 : Int) < (n : Int) then (257 : Int) else (n : Int)) = (n' : Int) := by split <;> omega
  have hif3 : (if (257 : Int) < (k : Int) then (257 : Int) else (k : Int)) = (k' : Int) := by split <;> omega
  have l1 : m' ≤ c1 := by omega
  have l2 : n' ≤ c2 := by omega
  have l3 : k' ≤ c3 := by omega
  rw [← hm', ← hn', ← hk']
  clear hm' hn' hk' h1 h2 h3
  go_enter Try.func8, Try.ntmps8
  go_wp2_with fail
  go_quiet (fail)
  go_wp2_with fail
  go_ret3
  exact ⟨by first | rfl | simp, (Turned.refl _ _).drewN _⟩
end Go.Proofs.Ytlnbgfglpdkifaa
