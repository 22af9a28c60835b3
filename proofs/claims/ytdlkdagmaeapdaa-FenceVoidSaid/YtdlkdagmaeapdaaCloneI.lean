/- slices.Clone of numbers. No condition. -/
import Derived.Test.YtdlkdagmaeapdaaIntsCopy
import Derived.Lib.SliceRun
namespace Go.Proofs.Ytdlkdagmaeapdaa
open Go.RowKit
set_option linter.unusedVariables false
set_option linter.unusedSimpArgs false
set_option maxRecDepth 100000

theorem clone_ints (w : World) (ad : Addr) (l : List Int) (n cap : Nat) (hn : n = l.length) (hA : NumsAt w (some ad) l) (hmax : n ≤ 70368744177) :
    Calls Try.prog 72 #[.slice (some ad) n cap] w (IntsPost w l n) := by
  obtain ⟨i0, hi, hz0, hz1, hz2⟩ := info_parts infoIntW
  have HC := Lib.hid (show ∀ (j : Nat) (u : Value), (ints l)[j]? = some u → (w.alloc (.cells #[] 3)).cell? (ad.add j) = some u from fun j u hj => by
    simp only [ints, List.getElem?_map, Option.map_eq_some_iff] at hj
    obtain ⟨x, hx, rfl⟩ := hj
    obtain ⟨b, o, e, hc⟩ := (hA.still ((Turned.refl (fun _ => False) w).alloc (.cells #[] 3))) j x hx
    cases e
    rw [Addr.add_lit]
    exact hc)
  have H1 := Lib.hid (show ∀ u ∈ ints l, u.oneCell' = true from ow_ints (by simp [ints, isIntW]))
  have HL := Lib.hid (show (ints l).length = n * 1 by rw [ints_length, hn, Nat.mul_one])
  have hnil := fun W : World => Lib.run_eql_slice_nil (P := Try.prog) W 44 3 (some ad) n cap 0 0 Try.underlying44
  simp only [Option.isNone_some] at hnil
  clear hA hn
  go_enter Try.func72, Try.ntmps72
  go_wp2_with (at_builtin; refine wpList_append_own_at _ rfl _ _ 44 rfl w.heap.size 3 i0 (.int .i64 0) 1 8 Try.underlying44 hi hz0 hz1 hz2 rfl (by decide) _ _ _ rfl (World.ownsRow_made w #[] 0 (Nat.le_refl _) (by simp) (by simp)) ad n cap (ints l) rfl HL.out HC.out H1.out (by unfold maxLen; omega) (by omega) (by simp) ?_; intro v' w1 hown hgrow hnil hat; obtain ⟨aa, cc, rfl⟩ := ow_slice hown)
  go_ret
  rw [Nat.zero_add] at hown
  obtain ⟨aa, rfl⟩ : ∃ x, aa = some x := by
    cases aa with
    | none => rcases hat with h | h <;> cases h
    | some x => exact ⟨x, rfl⟩
  exact ⟨aa, cc, rfl, hown, ((Turned.refl (fun _ => False) w).alloc _).grown hgrow (fun k e => .inr (by cases e; exact Nat.le_refl _))⟩
end Go.Proofs.Ytdlkdagmaeapdaa
