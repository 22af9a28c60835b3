/- The program's partition that no call made: what its calls answer. No condition. -/
import Derived.Test.YtbljjmehjkmjaaaBdPart
import Derived.Test.YtbljjmehjkmjaaaRingNil
import Derived.Test.YtbljjmehjkmjaaaPoolNil
import Derived.Test.YtbljjmehjkmjaaaPtVoidW
namespace Go.Proofs.Ytbljjmehjkmjaaa
open Go.RowKit Go.Shelf
attribute [local go_sem] Oper.semAt_some
set_option linter.unusedVariables false
set_option linter.unusedSimpArgs false
set_option maxRecDepth 100000

/-- A pointer to a partition that no call made. -/
def NilX (p : Option Addr) (W : World) : Prop := p = none ∨ ∃ b, p = some ⟨b, 0, none⟩ ∧ Blk W b [.pointer none, .pointer none, .int .i64 0] 48
theorem NilX.still {p : Option Addr} {W W' : World} (h : NilX p W) (ht : Still W W') : NilX p W' := by
  rcases h with rfl | ⟨b, rfl, hb⟩
  · exact .inl rfl
  · exact .inr ⟨b, rfl, hb.turned ht (fun h => h)⟩

theorem nxmade {p : Option Addr} {W : World} (hp : NilX p W) : Calls Try.prog 43 #[.pointer p] W fun e w' => e = .returned (.bool false) ∧ W = w' := by
  rcases hp with rfl | ⟨b, rfl, hb⟩
  · go_enter Try.func43, Try.ntmps43
    go_wp2
    go_ret
    exact ⟨rfl, rfl⟩
  · have c1 : W.cell? ⟨b, 1, none⟩ = some (.pointer none) := hb.cell rfl
    clear hb
    go_enter Try.func43, Try.ntmps43
    go_wp2
    go_ret
    exact ⟨rfl, rfl⟩

section
variable {p : Option Addr} {W : World}

theorem nxwin (hp : NilX p W) : Calls Try.prog 28 #[.pointer p] W fun e w' => e = .returned (.pointer none) ∧ W = w' := by
  have HM := Lib.hid (nxmade hp)
  clear hp
  go_enter Try.func28, Try.ntmps28
  go_wp2_with (go_at_call 43; ((with_reducible refine HM.out.mono ?_)); rintro e w' ⟨rfl, rfl⟩)
  go_ret
  exact ⟨rfl, rfl⟩
theorem nxhead (hp : NilX p W) : Calls Try.prog 14 #[.pointer p] W fun e w' => e = .returned (.int .i64 0) ∧ Still W w' := by
  have HW := Lib.hid (nxwin hp)
  have HC := Lib.hid (void_ring.head (p := none) (W := W) (.inl rfl))
  clear hp
  go_enter Try.func14, Try.ntmps14
  go_wp2_with (first
    | (go_at_call 28; ((with_reducible refine HW.out.mono ?_)); rintro e w' ⟨rfl, rfl⟩)
    | (go_at_call 34; ((with_reducible refine HC.out.mono ?_)); rintro e w1 ⟨rfl, hs⟩; have H1 := Lib.hid hs; clear hs))
  go_ret
  exact ⟨rfl, H1.out⟩
theorem nxtail (hp : NilX p W) : Calls Try.prog 15 #[.pointer p] W fun e w' => e = .returned (.int .i64 0) ∧ Still W w' := by
  have HW := Lib.hid (nxwin hp)
  have HC := Lib.hid (void_ring.tail (p := none) (W := W) (.inl rfl))
  clear hp
  go_enter Try.func15, Try.ntmps15
  go_wp2_with (first
    | (go_at_call 28; ((with_reducible refine HW.out.mono ?_)); rintro e w' ⟨rfl, rfl⟩)
    | (go_at_call 35; ((with_reducible refine HC.out.mono ?_)); rintro e w1 ⟨rfl, hs⟩; have H1 := Lib.hid hs; clear hs))
  go_ret
  exact ⟨rfl, H1.out⟩
theorem nxready (n : Int) (hp : NilX p W) : Calls Try.prog 20 #[.pointer p, .int .i64 n] W fun e w' => e = .returned (.int .i64 0) ∧ Still W w' := by
  have HW := Lib.hid (nxwin hp)
  have HC := Lib.hid (void_ring.ready (p := none) (W := W) n (.inl rfl))
  clear hp
  go_enter Try.func20, Try.ntmps20
  go_wp2_with (first
    | (go_at_call 28; ((with_reducible refine HW.out.mono ?_)); rintro e w' ⟨rfl, rfl⟩)
    | (go_at_call 40; ((with_reducible refine HC.out.mono ?_)); rintro e w1 ⟨rfl, hs⟩; have H1 := Lib.hid hs; clear hs))
  go_ret
  exact ⟨rfl, H1.out⟩
theorem nxpub (n : Int) (hp : NilX p W) : Calls Try.prog 12 #[.pointer p, .int .i64 n] W fun e w' => e = .returned (.int .i64 1) ∧ Still W w' := by
  have HW := Lib.hid (nxwin hp)
  have HC := Lib.hid (void_ring.pub (p := none) (W := W) n (.inl rfl))
  clear hp
  go_enter Try.func12, Try.ntmps12
  go_wp2_with (first
    | (go_at_call 28; ((with_reducible refine HW.out.mono ?_)); rintro e w' ⟨rfl, rfl⟩)
    | (go_at_call 32; ((with_reducible refine HC.out.mono ?_)); rintro e w1 ⟨rfl, hs⟩; have H1 := Lib.hid hs; clear hs))
  go_ret
  exact ⟨rfl, H1.out⟩
theorem nxread (n : Int) (hp : NilX p W) : Calls Try.prog 13 #[.pointer p, .int .i64 n] W fun e w' => e = .returned (.tuple #[.int .i64 0, .int .i64 1]) ∧ Still W w' := by
  have HW := Lib.hid (nxwin hp)
  have HC := Lib.hid (void_ring.get (p := none) (W := W) n (.inl rfl))
  clear hp
  go_enter Try.func13, Try.ntmps13
  go_wp2_with (first
    | (go_at_call 28; ((with_reducible refine HW.out.mono ?_)); rintro e w' ⟨rfl, rfl⟩)
    | (go_at_call 29; ((with_reducible refine HC.out.mono ?_)); rintro e w1 ⟨rfl, hs⟩; have H1 := Lib.hid hs; clear hs))
  go_ret2
  exact ⟨rfl, H1.out⟩
theorem nxpeek (n : Int) (hp : NilX p W) : Calls Try.prog 16 #[.pointer p, .int .i64 n] W fun e w' => (∃ a c, e = .returned (.tuple #[.slice a 0 c, .int .i64 1])) ∧ Still W w' := by
  have HW := Lib.hid (nxwin hp)
  have HC := Lib.hid (void_ring.get (p := none) (W := W) n (.inl rfl))
  clear hp
  go_enter Try.func16, Try.ntmps16
  go_wp2_with (first
    | (go_at_call 28; ((with_reducible refine HW.out.mono ?_)); rintro e w' ⟨rfl, rfl⟩)
    | (go_at_call 29; ((with_reducible refine HC.out.mono ?_)); rintro e w1 ⟨rfl, hs⟩; have H1 := Lib.hid hs; clear hs))
  go_ret2
  exact ⟨⟨none, 0, rfl⟩, H1.out⟩
theorem nxfill (n : Int) (hp : NilX p W) : Calls Try.prog 11 #[.pointer p, .int .i64 n, .slice none 0 0] W fun e w' => e = .returned (.int .i64 1) ∧ Still W w' := by
  have HW := Lib.hid (nxwin hp)
  have HC := Lib.hid (void_ring.get (p := none) (W := W) n (.inl rfl))
  clear hp
  go_enter Try.func11, Try.ntmps11
  go_wp2_with (first
    | (go_at_call 28; ((with_reducible refine HW.out.mono ?_)); rintro e w' ⟨rfl, rfl⟩)
    | (go_at_call 29; ((with_reducible refine HC.out.mono ?_)); rintro e w1 ⟨rfl, hs⟩; have H1 := Lib.hid hs; clear hs))
  go_ret
  exact ⟨rfl, H1.out⟩
theorem nxtrim (n : Int) (hp : NilX p W) : Calls Try.prog 19 #[.pointer p, .int .i64 n] W fun e w' => e = .returned (.tuple #[.int .i64 0, .int .i64 1]) ∧ Still W w' := by
  have HW := Lib.hid (nxwin hp)
  have HC := Lib.hid (void_ring.trim (p := none) (W := W) n (.inl rfl))
  clear hp
  go_enter Try.func19, Try.ntmps19
  go_wp2_with (first
    | (go_at_call 28; ((with_reducible refine HW.out.mono ?_)); rintro e w' ⟨rfl, rfl⟩)
    | (go_at_call 38; ((with_reducible refine HC.out.mono ?_)); rintro e w1 ⟨⟨a, c, rfl⟩, hs⟩; have H1 := Lib.hid hs; clear hs))
  go_loopw [19] (fun i wr => i = .int .i64 0 ∧ Still W wr) (fun i _ => 0)
  case atStart => exact ⟨rfl, H1.out⟩
  case round =>
    obtain ⟨rfl, hs⟩ := hrel
    have H2 := Lib.hid hs
    clear hs
    go_wp2_with fail
    go_ret2
    exact ⟨rfl, H2.out⟩
theorem nxclaim (n : Int) (hp : NilX p W) : Calls Try.prog 10 #[.pointer p, .int .i64 n] W fun e w' => e = .returned (.tuple #[.int .i64 0, .int .i64 0, .int .i64 1]) ∧ Still W w' := by
  have HM := Lib.hid (nxmade hp)
  have HC := Lib.hid (show Calls Try.prog 24 #[.pointer p, .int .i64 n] W fun e w' => e = .returned (.int .i64 1) ∧ W = w' from by
    clear hp
    go_enter Try.func24, Try.ntmps24
    go_wp2_with (go_at_call 43; ((with_reducible refine HM.out.mono ?_)); rintro e w' ⟨rfl, rfl⟩)
    go_ret
    exact ⟨rfl, rfl⟩)
  clear hp HM
  go_enter Try.func10, Try.ntmps10
  go_wp2_with (go_at_call 24; ((with_reducible refine HC.out.mono ?_)); rintro e w' ⟨rfl, rfl⟩)
  go_ret3
  exact ⟨rfl, Turned.refl _ _⟩
theorem nxmake : Calls Try.prog 9 #[.pointer none, .int .i64 1, .int .i64 0] W fun e w' => e = .returned (.tuple #[.pointer none, .int .i64 1]) ∧ Still W w' := by
  have HS := Lib.hid (void_api.slots (p := none) (W := W) (.inl rfl))
  go_enter Try.func9, Try.ntmps9
  go_wp2_with (go_at_call 22; ((with_reducible refine HS.out.mono ?_)); rintro e w1 ⟨rfl, hs⟩; have H1 := Lib.hid hs; clear hs)
  go_ret2
  exact ⟨rfl, H1.out⟩
end

/-- A pointer that is void as long as it stays, and the box that holds it. -/
def nilR (B : Nat) (p : Option Addr) (W0 : World) : Thing where
  at_ w W := (blkT B [.pointer p] 30).at_ w (· = B) ∧ NilX p w ∧ ∀ k, W k ↔ k = B ∨ ∃ a, p = some a ∧ k = a.block
  lt := by
    rintro w W ⟨h1, h2, hW⟩ k hk
    rcases (hW k).1 hk with rfl | ⟨a, rfl, rfl⟩
    · exact h1.1.lt
    · rcases h2 with h2 | ⟨b, h2, hb⟩
      · cases h2
      · cases h2; exact hb.lt
  keep := by
    rintro w w' W S ⟨h1, h2, hW⟩ ht hs
    refine ⟨(blkT B [.pointer p] 30).keep h1 ht (fun k e => hs k ((hW k).2 (.inl e))), ?_, hW⟩
    rcases h2 with rfl | ⟨b, rfl, hb⟩
    · exact .inl rfl
    · exact .inr ⟨b, rfl, hb.turned ht (hs b ((hW b).2 (.inr ⟨_, rfl, rfl⟩)))⟩

theorem nxenvs_it (B : Nat) (p : Option Addr) (W0 : World) : IterT 61 #[.pointer (some ⟨B, 0, none⟩)] encE ([] : List (Nat × Int)) (nilR B p W0) := by
  intro l J W Q S hR h0 hd hY
  obtain ⟨⟨h1, _⟩, h2, _⟩ := hR
  have HM := Lib.hid (nxmade h2)
  have c0 := h1.cell (o := 0) rfl
  have HEnd := Lib.hid (show Goes (J ([] : List (Nat × Int)).length) Q W W from (Since.refl _ _).goes h0)
  have hf1 : Fence.wide.fn 43 := trivial
  clear h1 h2 h0 hd hY
  refine (callsIn_wide (n := 9)).1 (callsIn_of_wp Try.func61 rfl trivial ?_ rfl)
  simp only [Try.ntmps61, List.size_toArray, List.length_cons, List.length_nil, Nat.reduceAdd, Nat.reduceSub, Array.replicate_succ, Array.replicate_zero, List.push_toArray, List.append_toArray, List.nil_append, List.cons_append]
  gi_wp2_with (gi_at_call 43; ((with_reducible refine (callsIn_wide.2 HM.out).mono ?_)); rintro e w4 ⟨rfl, rfl⟩)
  refine bodyPost_ret (results_none rfl _ _ _) rfl ?_
  exact ⟨⟨_, rfl⟩, HEnd.out⟩

set_option maxHeartbeats 2000000 in
theorem nxhandles {p : Option Addr} {w : World} (hp : NilX p w) : Calls Try.prog 21 #[.pointer p] w fun e w' => (∃ a c, e = .returned (.slice a 0 c)) ∧ Still w w' := by
  obtain ⟨W1, hW1⟩ : ∃ W1, W1 = w.alloc (.cells #[.slice none 0 0] 23) := ⟨_, rfl⟩
  have hs1 : Still w W1 := by rw [hW1]; exact (Turned.refl _ _).alloc _
  have hb1 : Blk W1 w.heap.size [.slice none 0 0] 23 := by rw [hW1]; exact Blk.new w [.slice none 0 0] 23
  have hz1' : W1.heap.size = w.heap.size + 1 := by rw [hW1]; simp
  have hpl : ∀ a, p = some a → a.block < w.heap.size := fun a e => by
    rcases hp with h | ⟨b, h, hb⟩
    · rw [h] at e; cases e
    · rw [h] at e; cases e; exact hb.lt
  have HE := Lib.hid (xenvs_any p W1)
  have ht2 : Still W1 (W1.alloc (.cells #[.pointer p] 30)) := (Turned.refl _ _).alloc _
  have HIt := Lib.hid (nxenvs_it W1.heap.size p w)
  have HR := Lib.hid (show (nilR W1.heap.size p w).at_ (W1.alloc (.cells #[.pointer p] 30)) (fun k => k = W1.heap.size ∨ ∃ a, p = some a ∧ k = a.block) from
    ⟨⟨Blk.new W1 [.pointer p] 30, fun _ => Iff.rfl⟩, hp.still (hs1.trans ht2), fun _ => Iff.rfl⟩)
  have HB := Lib.hid (show (blkT w.heap.size [.slice none 0 0] 23).at_ (W1.alloc (.cells #[.pointer p] 30)) (· = w.heap.size) from ⟨hb1.turned ht2 (fun h => h), fun _ => Iff.rfl⟩)
  have HD := Lib.hid (show ∀ k, k = w.heap.size → ¬ (k = W1.heap.size ∨ ∃ a, p = some a ∧ k = a.block) from by
    rintro k rfl (hk | ⟨a, e, hk⟩)
    · omega
    · have := hpl a e; omega)
  have HSt := Lib.hid (hs1.trans ht2)
  have HZ1 := Lib.hid hz1'
  clear hp ht2 hb1 hz1' hpl
  refine (callsIn_wide (n := 9)).1 (callsIn_of_wp_marks Try.func21 rfl trivial ?_ rfl)
  simp only [Try.ntmps21, List.size_toArray, List.length_cons, List.length_nil, Nat.reduceAdd, Nat.reduceSub, Array.replicate_succ, Array.replicate_zero, List.push_toArray, List.append_toArray, List.nil_append, List.cons_append]
  have hf1 : Fence.wide.fn 41 := trivial
  gi_wp2_with (gi_at_call 41; rw [← hW1]; ((with_reducible refine (callsIn_wide.2 HE.out).mono ?_)); rintro e w2 ⟨rfl, rfl⟩)
  rw [← hW1, show w.heap.size + 1 = W1.heap.size from HZ1.out.symm]
  clear hW1
  refine loopT_outerE rfl (enters_of Try.func61 (by kernel_rfl) rfl) HIt.out (by exact fun _ => rfl) (fun _ => blkT w.heap.size [.slice none 0 0] 23) HR.out HB.out HD.out ?_ ?_
  · rintro ⟨y, z⟩
    apply Exists.intro
    apply And.intro
    · intro l1 V K hK
      dsimp only [encE]
      gi_wp2
      exact hK
    · intro l1 k V Q' hr hl1 hx hI hQl hsk
      cases hx
  · intro D V Q' hD hK hQD hI hsk
    obtain ⟨hB, hQ⟩ := hI
    have cc := hB.cell (o := 0) rfl
    have hD1 : w.heap.size ≤ D := Nat.le_trans HSt.out.size hD
    have hT0 : Turned (fun k => w.heap.size ≤ k) w V := (HSt.out.mono (fun _ _ h => h.elim)).trans (hsk.turn.mono (fun k _ h => by omega))
    have hp := putObj_since (.deferred none) (Array.getElem?_eq_some_iff.1 hK).1
    have HP := Lib.hid (show Still w (V.putObj D (.deferred none)) from
      (hT0.trans (hp.mono (fun k _ e => by rw [e]; exact hD1))).mono (fun k hk hh => by omega))
    clear hB hQ hT0 hsk hp
    gi_wp2
    refine ⟨by simp, .inl ⟨_, _, rfl, run_takeDeferred hK, ?_⟩⟩
    refine ⟨_, results_tmp rfl _ _ _, ⟨none, 0, rfl⟩, HP.out⟩

theorem void_part : VoidPart NilX zeroPart where
  nil_ := fun W => .inl rfl
  zero := fun W => .inr ⟨_, rfl, Blk.new W [.pointer none, .pointer none, .int .i64 0] 48⟩
  still := fun h ht => h.still ht
  make := nxmake
  claim := fun n hp => nxclaim n hp
  fill := fun n hp => nxfill n hp
  pub := fun n hp => nxpub n hp
  read := fun n hp => nxread n hp
  peek := fun n hp => nxpeek n hp
  trim := fun n hp => nxtrim n hp
  head := fun hp => nxhead hp
  tail := fun hp => nxtail hp
  ready := fun n hp => nxready n hp
  handles := fun hp => nxhandles hp
end Go.Proofs.Ytbljjmehjkmjaaa
