/- Live, asked of a slot of a book; the chapter's examples. No condition. -/
import Derived.Test.YtefjlanibemdaaaHandleEach
namespace Go.Proofs.Ytefjlanibemdaaa
open Go.RowKit
set_option linter.unusedVariables false
set_option maxRecDepth 100000

theorem haIs_of {k : Nat} {g : Int} (hk : k < 128) (hg : genOk g) : haIs (g * 128 + (k : Nat) + 1) := by
  obtain ⟨h1, h2⟩ := hg
  exact ⟨by omega, by omega⟩
theorem split_of {k : Nat} {g : Int} (hk : k < 128) (hg : genOk g) : spV (g * 128 + (k : Nat) + 1) = .tuple #[.int .i64 k, .int .i64 g, .int .i64 0] := by
  rw [spV_ok (haIs_of hk hg), show (g * 128 + (k : Nat) + 1 - 1) % 128 = (k : Int) by omega, show (g * 128 + (k : Nat) + 1 - 1) / 128 = g by omega]
theorem next_of {k : Nat} {g : Int} (hk : k < 128) (h0 : 0 ≤ g) (hg : g < 1099511627775) : neV (g * 128 + (k : Nat) + 1) = .tuple #[.int .i64 ((g + 1) * 128 + (k : Nat) + 1), .int .i64 0] := by
  rw [neV_ok ⟨haIs_of hk ⟨h0, by omega⟩, by omega⟩, show (g * 128 + (k : Nat) + 1 + 128) = (g + 1) * 128 + (k : Nat) + 1 by omega]

theorem live_at (w : World) (ao : Option Addr) (book : List Int) (m cap k : Nat) (g x : Int) (hm : m = book.length) (hk : k < 128) (hg : genOk g) (hx : book[k]? = some x) (hA : NumsAt w ao book) :
    Calls Try.prog 18 #[.slice ao m cap, .int .i64 (g * 128 + (k : Nat) + 1)] w fun e w' => e = .returned (if x = g then .tuple #[.int .i64 k, .int .i64 0] else .tuple #[.int .i64 0, .int .i64 40]) ∧ w = w' := by
  have H := split_any (g * 128 + (k : Nat) + 1) w
  rw [split_of hk hg] at H
  have hkm : k < m := by rw [hm]; exact get_lt hx
  obtain ⟨b, o, rfl, hc⟩ := hA k x hx
  generalize g * 128 + (k : Nat) + 1 = h at *
  clear hA hx hm hg
  by_cases e : x = g
  · subst e
    rw [if_pos rfl]
    go_enter Try.func18, Try.ntmps18
    go_wp2_with (go_at_call 21; refine H.mono ?_; rintro e w' ⟨rfl, rfl⟩)
    go_ret2
    exact ⟨rfl, rfl⟩
  · rw [if_neg e]
    go_enter Try.func18, Try.ntmps18
    go_wp2_with (go_at_call 21; refine H.mono ?_; rintro e w' ⟨rfl, rfl⟩)
    go_ret2
    exact ⟨rfl, rfl⟩

theorem ex4_of0 : haV 3 0 = .tuple #[.int .i64 4, .int .i64 0] := by rw [haV_ok (by unfold sgOk; omega)]; rfl
theorem ex4_of2 : haV 3 2 = .tuple #[.int .i64 260, .int .i64 0] := by rw [haV_ok (by unfold sgOk; omega)]; rfl
theorem live4 (w : World) (b : Nat) (hb : b = w.heap.size) : Calls Try.prog 18 #[.slice (some ⟨b, 0, none⟩) 4 4, .int .i64 4] (w.alloc (.cells #[.int .i64 0, .int .i64 0, .int .i64 0, .int .i64 2] 3))
    fun e w' => e = .returned (.tuple #[.int .i64 0, .int .i64 40]) ∧ w.alloc (.cells #[.int .i64 0, .int .i64 0, .int .i64 0, .int .i64 2] 3) = w' := by
  have hN : NumsAt (w.alloc (.cells #[.int .i64 0, .int .i64 0, .int .i64 0, .int .i64 2] 3)) (some ⟨b, 0, none⟩) [0, 0, 0, 2] := NumsAt.of_blk (Blk.newAt w (ints [0, 0, 0, 2]) 3 hb rfl)
  exact live_at _ _ [0, 0, 0, 2] 4 4 3 0 2 rfl (by omega) (by unfold genOk; omega) rfl hN
theorem live260 (w : World) (b : Nat) (hb : b = w.heap.size) : Calls Try.prog 18 #[.slice (some ⟨b, 0, none⟩) 4 4, .int .i64 260] (w.alloc (.cells #[.int .i64 0, .int .i64 0, .int .i64 0, .int .i64 2] 3))
    fun e w' => e = .returned (.tuple #[.int .i64 3, .int .i64 0]) ∧ w.alloc (.cells #[.int .i64 0, .int .i64 0, .int .i64 0, .int .i64 2] 3) = w' := by
  have hN : NumsAt (w.alloc (.cells #[.int .i64 0, .int .i64 0, .int .i64 0, .int .i64 2] 3)) (some ⟨b, 0, none⟩) [0, 0, 0, 2] := NumsAt.of_blk (Blk.newAt w (ints [0, 0, 0, 2]) 3 hb rfl)
  exact live_at _ _ [0, 0, 0, 2] 4 4 3 2 2 rfl (by omega) (by unfold genOk; omega) rfl hN

theorem works4 (w : World) : Calls Try.prog 15 #[] w fun e w' => e = .returned (.bool true) ∧ Still w w' := by
  have H1 := fun W => of_any 3 0 W
  have H2 := fun W => of_any 3 2 W
  rw [ex4_of0] at H1
  rw [ex4_of2] at H2
  go_enter Try.func15, Try.ntmps15
  go_wp2_with fail
  refine (H1 _).mono ?_
  rintro e w' ⟨rfl, rfl⟩
  go_wp2_with fail
  refine (H2 _).mono ?_
  rintro e w' ⟨rfl, rfl⟩
  go_wp2_with fail
  refine (live4 _ _ rfl).mono ?_
  rintro e w' ⟨rfl, rfl⟩
  go_wp2_with fail
  refine (live260 _ _ (by simp)).mono ?_
  rintro e w' ⟨rfl, rfl⟩
  go_wp2_with fail
  go_ret
  refine ⟨by simp, ?_⟩
  exact ((Turned.refl (fun _ => False) w).alloc _).alloc _
end Go.Proofs.Ytefjlanibemdaaa
