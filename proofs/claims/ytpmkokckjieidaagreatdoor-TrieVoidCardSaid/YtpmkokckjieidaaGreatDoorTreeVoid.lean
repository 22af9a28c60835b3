/- The words of a tree that no call made. No condition. -/
import Derived.Test.YtpmkokckjieidaaGreatDoorTrieVoidW
namespace Go.Proofs.YtpmkokckjieidaaGreatDoor
open Go.RowKit
set_option linter.unusedVariables false
set_option linter.unusedSimpArgs false
set_option maxRecDepth 100000

/-- A tree that no call made: none, or one with no root. -/
def voidV (p : Option Addr) (W : World) : Prop := p = none ∨ ∃ b, p = some ⟨b, 0, none⟩ ∧ Blk W b [.pointer none, .int .i64 0] 57
theorem voidV.still {p : Option Addr} {W W' : World} (h : voidV p W) (hs : Still W W') : voidV p W' := by
  rcases h with h | ⟨b, h, hb⟩
  · exact .inl h
  · exact .inr ⟨b, h, hb.turned hs (fun h => h)⟩
theorem vmade_any {p : Option Addr} {w : World} (h : voidV p w) : Calls Tryz.prog 46 #[.pointer p] w fun e w' => e = .returned (.bool false) ∧ w' = w := by
  rcases h with rfl | ⟨b, rfl, hb⟩
  · go_enter Tryz.func46, Tryz.ntmps46
    go_wp2
    go_ret
    exact ⟨rfl, rfl⟩
  · have c0 := hb.cell (o := 0) rfl
    clear hb
    go_enter Tryz.func46, Tryz.ntmps46
    go_wp2
    go_ret
    exact ⟨rfl, rfl⟩
theorem vlevels_any {p : Option Addr} {w : World} (h : voidV p w) (f : Txt) : Calls Tryz.prog 44 #[.pointer p, tx f] w fun e w' => e = .returned (.tuple #[.slice none 0 0, .int .i64 1]) ∧ w' = w := by
  have HM := Lib.hid (vmade_any h)
  clear h
  unfold tx
  go_enter Tryz.func44, Tryz.ntmps44
  go_wp2_with (go_at_call 46; ((with_reducible refine HM.out.mono ?_)); rintro e w1 ⟨rfl, rfl⟩)
  go_ret2
  exact ⟨rfl, rfl⟩
theorem vpair_any {p : Option Addr} {w : World} (h : voidV p w) (f : Txt) (n : Int) : Calls Tryz.prog 34 #[.pointer p, tx f, .int .i64 n] w fun e w' => e = .returned (.tuple #[.slice none 0 0, .int .i64 1]) ∧ w' = w := by
  have HM := Lib.hid (vlevels_any h f)
  clear h
  unfold tx at *
  go_enter Tryz.func34, Tryz.ntmps34
  go_wp2_with (go_at_call 44; ((with_reducible refine HM.out.mono ?_)); rintro e w1 ⟨rfl, rfl⟩)
  go_ret2
  exact ⟨rfl, rfl⟩
theorem vput_any {p : Option Addr} {w : World} (h : voidV p w) (f : Txt) (n : Int) : Calls Tryz.prog 13 #[.pointer p, tx f, .int .i64 n] w fun e w' => e = .returned (.int .i64 1) ∧ Still w w' := by
  have HM := Lib.hid (vpair_any h f n)
  clear h
  unfold tx at *
  go_enter Tryz.func13, Tryz.ntmps13
  go_wp2_with (go_at_call 34; ((with_reducible refine HM.out.mono ?_)); rintro e w1 ⟨rfl, rfl⟩)
  go_ret
  exact ⟨rfl, Turned.refl _ _⟩
theorem vtake_any {p : Option Addr} {w : World} (h : voidV p w) (f : Txt) (n : Int) : Calls Tryz.prog 15 #[.pointer p, tx f, .int .i64 n] w fun e w' => e = .returned (.int .i64 1) ∧ Still w w' := by
  have HM := Lib.hid (vpair_any h f n)
  clear h
  unfold tx at *
  go_enter Tryz.func15, Tryz.ntmps15
  go_wp2_with (go_at_call 34; ((with_reducible refine HM.out.mono ?_)); rintro e w1 ⟨rfl, rfl⟩)
  go_ret
  exact ⟨rfl, Turned.refl _ _⟩
theorem vmatch_any {p : Option Addr} {w : World} (h : voidV p w) (f : Txt) : Calls Tryz.prog 22 #[.pointer p, tx f] w fun e w' => (∃ a n c, e = .returned (.tuple #[.slice a n c, .int .i64 1])) ∧ Still w w' := by
  have HM := Lib.hid (vmade_any h)
  clear h
  unfold tx at *
  go_enter Tryz.func22, Tryz.ntmps22
  go_wp2_with (go_at_call 46; ((with_reducible refine HM.out.mono ?_)); rintro e w1 ⟨rfl, rfl⟩)
  go_ret2
  exact ⟨⟨_, _, _, rfl⟩, Turned.refl _ _⟩
theorem vof_any {p : Option Addr} {w : World} (h : voidV p w) (f : Txt) : Calls Tryz.prog 19 #[.pointer p, tx f] w fun e w' => (∃ a n c, e = .returned (.tuple #[.slice a n c, .int .i64 1])) ∧ Still w w' := by
  have HM := Lib.hid (vlevels_any h f)
  clear h
  unfold tx at *
  go_enter Tryz.func19, Tryz.ntmps19
  go_wp2_with (go_at_call 44; ((with_reducible refine HM.out.mono ?_)); rintro e w1 ⟨rfl, rfl⟩)
  go_ret2
  exact ⟨⟨_, _, _, rfl⟩, Turned.refl _ _⟩
theorem vfilters_any {p : Option Addr} {w : World} (h : voidV p w) : Calls Tryz.prog 28 #[.pointer p] w fun e w' => e = .returned (.slice none 0 0) ∧ w' = w := by
  have HM := Lib.hid (vmade_any h)
  clear h
  go_enter Tryz.func28, Tryz.ntmps28
  go_wp2_with (go_at_call 46; ((with_reducible refine HM.out.mono ?_)); rintro e w1 ⟨rfl, rfl⟩)
  go_ret
  exact ⟨rfl, rfl⟩
theorem vpairs_any {p : Option Addr} {w : World} (h : voidV p w) : Calls Tryz.prog 24 #[.pointer p] w fun e w' => e = .returned (.int .i64 0) ∧ Still w w' := by
  have HM := Lib.hid (vmade_any h)
  clear h
  go_enter Tryz.func24, Tryz.ntmps24
  go_wp2_with (go_at_call 46; ((with_reducible refine HM.out.mono ?_)); rintro e w1 ⟨rfl, rfl⟩)
  go_ret
  exact ⟨rfl, Turned.refl _ _⟩
theorem vnodes_any {p : Option Addr} {w : World} (h : voidV p w) : Calls Tryz.prog 29 #[.pointer p] w fun e w' => e = .returned (.int .i64 0) ∧ Still w w' := by
  have HM := Lib.hid (vmade_any h)
  clear h
  go_enter Tryz.func29, Tryz.ntmps29
  go_wp2_with (go_at_call 46; ((with_reducible refine HM.out.mono ?_)); rintro e w1 ⟨rfl, rfl⟩)
  go_ret
  exact ⟨rfl, Turned.refl _ _⟩
theorem vdrop_any {p : Option Addr} {w : World} (h : voidV p w) (n : Int) : Calls Tryz.prog 17 #[.pointer p, .int .i64 n] w fun e w' => e = .returned (.int .i64 0) ∧ Still w w' := by
  have HM := Lib.hid (vfilters_any h)
  clear h
  go_enter Tryz.func17, Tryz.ntmps17
  go_wp2_with (go_at_call 28; ((with_reducible refine HM.out.mono ?_)); rintro e w1 ⟨rfl, e1⟩; rw [e1]; clear e1)
  go_loopw [5, 11] (fun h i wr => h = .int .i64 0 ∧ i = .int .i64 0 ∧ wr = w) (fun _ _ _ => 0)
  case atStart => exact ⟨rfl, rfl, rfl⟩
  case round =>
    obtain ⟨rfl, rfl, rfl⟩ := hrel
    go_wp2_with fail
    go_ret
    exact ⟨rfl, Turned.refl _ _⟩

theorem void_trie : VoidTrie voidV zeroTrie where
  nil_ := fun _ => .inl rfl
  zero := fun W => .inr ⟨_, rfl, Blk.new W [.pointer none, .int .i64 0] 57⟩
  still := fun h hs => h.still hs
  mtch := fun s _ h => vmatch_any h s
  of := fun f _ h => vof_any h f
  put := fun f n _ h => vput_any h f n
  take := fun f n _ h => vtake_any h f n
  drop := fun n h => vdrop_any h n
  filters := fun h => (vfilters_any h).mono fun e w' ⟨h1, h2⟩ => ⟨⟨_, _, h1⟩, by rw [h2]; exact Turned.refl _ _⟩
  pairs := fun h => vpairs_any h
  nodes := fun h => vnodes_any h
end Go.Proofs.YtpmkokckjieidaaGreatDoor
