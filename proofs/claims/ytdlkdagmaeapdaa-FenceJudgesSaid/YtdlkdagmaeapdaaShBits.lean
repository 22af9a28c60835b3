/- What the statements' own helpers of layer 16 do: who had a place, three places, cuts. No condition. -/
import Derived.Test.YtdlkdagmaeapdaaSameOw
import Derived.Test.YtdlkdagmaeapdaaHasInt
import Derived.OwnWalk
namespace Go.Proofs.Ytdlkdagmaeapdaa
open Go.RowKit
set_option linter.unusedVariables false
set_option linter.unusedSimpArgs false
set_option maxRecDepth 100000

theorem had_cons (o : Own) (os : List Own) (p : Plc) : hadI (o :: os) p = if o.1 = p then o.2 else hadI os p := by
  unfold hadI
  rw [List.find?_cons]
  by_cases h : o.1 = p
  · rw [decide_eq_true h, if_pos h]
  · rw [decide_eq_false h, if_neg h]
theorem had_drop {os : List Own} {k : Nat} {o : Own} (p : Plc) (h : os[k]? = some o) : hadI (os.drop k) p = if o.1 = p then o.2 else hadI (os.drop (k + 1)) p := by
  obtain ⟨hk, e⟩ := List.getElem?_eq_some_iff.1 h
  rw [List.drop_eq_getElem_cons hk, had_cons, e]
set_option maxHeartbeats 1000000 in
theorem hadR_any (w : World) (ao : Option Addr) (A : List Own) (n c : Nat) (p : Plc) (hn : n = A.length) (hl : n ≤ 4611686018427387904) (hA : OwAt w ao A) :
    Calls Try.prog 59 #[.slice ao n c, .agg #[.int .i64 p.1, .int .i64 p.2]] w fun e w' => e = .returned (.int .i64 (hadI A p)) ∧ Still w w' := by
  have HN := Lib.hid hn
  have HA := Lib.hid hA
  obtain ⟨pt, pp⟩ := p
  dsimp only
  clear hn hA
  go_enter Try.func59, Try.ntmps59
  go_wp2_with fail
  go_loopw [5] (fun i wr => ∃ k : Nat, k ≤ n ∧ i = .int .i64 k ∧ hadI (A.drop k) (pt, pp) = hadI A (pt, pp) ∧ Still (w.alloc (.cells #[.int .i64 pt, .int .i64 pp] 54)) wr) (fun i _ => n - (intOf i).toNat)
  case atStart => exact ⟨0, Nat.zero_le _, rfl, by simp, Turned.refl _ _⟩
  case round =>
    obtain ⟨k, hk, rfl, ht, hs⟩ := hrel
    by_cases hlt : k < n
    · obtain ⟨x, hx⟩ := get_some (l := A) (i := k) (by rw [← HN.out]; exact hlt)
      obtain ⟨b, o, rfl, hcx⟩ := HA.out k x hx
      have hd := had_drop (pt, pp) hx
      rw [hd] at ht
      obtain ⟨⟨xf, xt⟩, xi⟩ := x
      have hs0 : Still w wr := ((Turned.refl _ w).alloc _).trans hs
      have x0 : wr.cell? ⟨b, o + k * 3, none⟩ = some (.int .i64 xf) := still_cell hs0 (hcx 0 _ rfl) (by omega)
      have x1 : wr.cell? ⟨b, o + k * 3 + 1, none⟩ = some (.int .i64 xt) := still_cell hs0 (hcx 1 _ rfl) (by omega)
      have x2 : wr.cell? ⟨b, o + k * 3 + 2, none⟩ = some (.int .i64 xi) := still_cell hs0 (hcx 2 _ rfl) (by omega)
      have hbx : Blk wr w.heap.size [.int .i64 pt, .int .i64 pp] 54 := (Blk.new w _ _).turned hs (fun h => h)
      have y0 := hbx.cell (o := 0) rfl
      have y1 := hbx.cell (o := 1) rfl
      dsimp only at ht
      have hki : (k : Int) < (n : Int) := by omega
      have HT := Lib.hid ht
      have HS := Lib.hid hs
      clear hx hcx hd ht hs hs0 hbx
      by_cases hxy : xf = pt ∧ xt = pp
      · obtain ⟨rfl, rfl⟩ := hxy
        rw [if_pos rfl] at HT
        go_wp2_with fail
        go_quiet (fail)
        go_wp2_with fail
        go_ret
        exact ⟨by rw [← HT.out]; rfl, (((Turned.refl _ w).alloc _).trans HS.out).drewN _⟩
      · rw [if_neg (by simpa using hxy)] at HT
        have hxy' : xf ≠ pt ∨ (xf = pt ∧ xt ≠ pp) := by
          by_cases h1 : xf = pt
          · exact .inr ⟨h1, fun h2 => hxy ⟨h1, h2⟩⟩
          · exact .inl h1
        clear hxy
        rcases hxy' with h1 | ⟨rfl, h1⟩
        all_goals (
          go_wp2_with fail
          go_quiet (fail)
          go_wp2_with fail
          go_roundw
          case rel => exact ⟨k + 1, by omega, by go_num, HT.out, HS.out.drewN _⟩
          case measure => simp [intOf]; omega)
    · obtain rfl : k = n := by omega
      clear hlt
      go_wp2_with fail
      go_ret
      refine ⟨?_, ((Turned.refl _ w).alloc _).trans hs⟩
      rw [← ht, List.drop_of_length_le (by rw [HN.out]; omega)]; rfl

end Go.Proofs.Ytdlkdagmaeapdaa
