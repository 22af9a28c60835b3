/- What the statements of layer 3 have in common: the beginning of some hundred bytes, and the chapter's examples. No condition. -/
import Derived.Test.YtdbmieofcdafkaaHashRef
namespace Go.Proofs.Ytdbmieofcdafkaa
open Go.RowKit
set_option linter.unusedVariables false
set_option maxRecDepth 100000

theorem few3_any (w : World) (ao : Option Addr) (n cap : Nat) (hle : n ≤ cap) (hm : cap ≤ 9223372036854775807) :
    Calls Try.prog 19 #[.slice ao n cap] w fun e w' => e = .returned (.slice ao (min n 300) cap) ∧ w = w' := by
  by_cases h : n ≤ 300
  · have hif : (if (300 : Int) < (n : Int) then (300 : Int) else (n : Int)) = (n : Int) := if_neg (by omega)
    have HM := Lib.hid (show min n 300 = n by omega)
    have hx : (n : Int) ≤ (cap : Int) := by omega
    go_enter Try.func19, Try.ntmps19
    go_wp2
    go_ret
    exact ⟨by rw [HM.out]; rfl, rfl⟩
  · have hif : (if (300 : Int) < (n : Int) then (300 : Int) else (n : Int)) = 300 := if_pos (by omega)
    have HM := Lib.hid (show min n 300 = 300 by omega)
    have hx : (300 : Int) ≤ (cap : Int) := by omega
    go_enter Try.func19, Try.ntmps19
    go_wp2
    go_ret
    exact ⟨by rw [HM.out]; rfl, rfl⟩

/-- A slice of bytes that came in, cut. -/
structure Fb (w : World) (s : Sl UInt8) : Prop where
  len : (s.xs.take 300).length = min s.len 300
  le : s.len ≤ s.cap
  max : s.cap ≤ 9223372036854775807
  at_ : BytesAt w s.a (s.xs.take 300)
  none : s.a = none → s.cap = 0
  small : (s.xs.take 300).length ≤ 300

theorem fb_of {w : World} {s : Sl UInt8} (h : SlOk encB okB 1 w s) : Fb w s :=
  ⟨by rw [List.length_take, h.len]; omega, h.le, by have := h.max; unfold maxLen at this; omega, (BytesAt.of_row h.row).take 300, fun e => (h.none e).2, by rw [List.length_take]; omega⟩

theorem few3_at {w : World} {s : Sl UInt8} (h : Fb w s) : Calls Try.prog 19 #[.slice s.a s.len s.cap] w fun e w' => e = .returned (.slice s.a (s.xs.take 300).length s.cap) ∧ w = w' := by
  rw [h.len]; exact few3_any w s.a s.len s.cap h.le h.max

theorem one_at (W : World) : BytesAt (W.alloc (.cells #[.int .u8 97] 5)) (some ⟨W.heap.size, 0, none⟩) [97] := BytesAt.of_blk (r := []) (Blk.new W [.int .u8 97] 5)
theorem ex_part : partV 4 [97] = .tuple #[.int .i64 0, .int .i64 0] := by
  have : partOf 4 [97] = 0 := by decide +kernel
  simp [partV, this, partErr]
theorem ex_small : sum32 [97] = 3826002220 := by decide +kernel
theorem part97 (W : World) : Calls Try.prog 30 #[.int .i64 4, .slice (some ⟨W.heap.size, 0, none⟩) 1 1] (W.alloc (.cells #[.int .u8 97] 5)) fun e w' => e = .returned (.tuple #[.int .i64 0, .int .i64 0]) ∧ W.alloc (.cells #[.int .u8 97] 5) = w' :=
  (part_any 4 _ _ [97] 1 (by omega) (one_at W) (by simp)).mono fun e w' ⟨h, hw⟩ => ⟨by rw [h, ex_part], hw⟩
theorem small97 (W : World) (b : Nat) (hb : b = W.heap.size) : Calls Try.prog 25 #[.slice (some ⟨b, 0, none⟩) 1 1] (W.alloc (.cells #[.int .u8 97] 5)) fun e w' => e = .returned (.int .u32 3826002220) ∧ W.alloc (.cells #[.int .u8 97] 5) = w' := by
  subst hb; exact (small_any _ _ [97] 1 (one_at W) (by simp)).mono fun e w' ⟨h, hw⟩ => ⟨by rw [h, ex_small]; rfl, hw⟩
theorem sum97 (W : World) (b : Nat) (hb : b = W.heap.size) : Calls Try.prog 23 #[.slice (some ⟨b, 0, none⟩) 1 1] (W.alloc (.cells #[.int .u8 97] 5)) fun e w' => e = .returned (.int .u64 (sum64 [97] : Nat)) ∧ W.alloc (.cells #[.int .u8 97] 5) = w' := by
  subst hb; exact sum_any _ _ [97] 1 (one_at W) (by simp)
theorem sum0 (W : World) : Calls Try.prog 23 #[.slice none 0 0] W fun e w' => e = .returned (.int .u64 14695981039346656037) ∧ W = w' :=
  sum_any W none [] 0 (BytesAt.nil _ _) (by simp)
theorem texta (W : World) : Calls Try.prog 27 #[.string ⟨#[97]⟩] W fun e w' => e = .returned (.int .u64 (sum64 [97] : Nat)) ∧ Still W w' :=
  text_any W ⟨#[97]⟩ (by decide)

theorem works3 (w : World) : Calls Try.prog 29 #[] w fun e w' => e = .returned (.bool true) ∧ Still w w' := by
  obtain ⟨T, hT⟩ : ∃ T, T = sum64 [97] := ⟨_, rfl⟩
  have h6 := sum97
  have h7 := texta
  rw [← hT] at h6 h7
  clear hT
  go_enter Try.func29, Try.ntmps29
  go_wp2_with fail
  refine (part97 w).mono ?_
  rintro e w' ⟨rfl, rfl⟩
  go_wp2_with fail
  refine (sum0 _).mono ?_
  rintro e w' ⟨rfl, rfl⟩
  go_wp2_with fail
  refine (small97 _ _ (by simp)).mono ?_
  rintro e w' ⟨rfl, rfl⟩
  go_wp2_with fail
  refine (h7 _).mono ?_
  rintro e w2 ⟨rfl, hst⟩
  have HST := Lib.hid hst
  clear hst
  go_wp2_with fail
  refine (h6 _ _ (by simp)).mono ?_
  rintro e w' ⟨rfl, rfl⟩
  go_wp2_with fail
  go_ret
  refine ⟨by simp, ?_⟩
  exact ((((Turned.refl (fun _ => False) w).alloc _).alloc _).trans HST.out).alloc _
end Go.Proofs.Ytdbmieofcdafkaa
