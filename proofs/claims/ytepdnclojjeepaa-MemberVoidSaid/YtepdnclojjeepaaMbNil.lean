/- The words of a list that no call made: nil, and the struct's noughts. No condition. -/
import Derived.Test.YtepdnclojjeepaaMbVoidW
import Derived.Test.YtepdnclojjeepaaMbEach
namespace Go.Proofs.Ytepdnclojjeepaa
open Go.RowKit Go.Shelf
attribute [local go_sem] Oper.semAt_some
set_option linter.unusedVariables false
set_option linter.unusedSimpArgs false
set_option maxRecDepth 100000

/-- A list that no call made. -/
def nilMT (p : Option Addr) : Thing where
  at_ w W := (p = none ∧ ∀ k, ¬ W k) ∨ ∃ b, p = some ⟨b, 0, none⟩ ∧ (blkT b [.slice none 0 0, .int .i64 0] 48).at_ w W
  lt := by
    rintro w W (⟨_, h⟩ | ⟨b, _, h⟩) k hk
    · exact (h k hk).elim
    · exact (blkT b [.slice none 0 0, .int .i64 0] 48).lt h k hk
  keep := by
    rintro w w' W S (⟨h1, h⟩ | ⟨b, h1, h⟩) ht hs
    · exact .inl ⟨h1, h⟩
    · exact .inr ⟨b, h1, (blkT b [.slice none 0 0, .int .i64 0] 48).keep h ht hs⟩
def NilM (p : Option Addr) (w : World) : Prop := ∃ W, (nilMT p).at_ w W
theorem NilM.still {p : Option Addr} {w w' : World} (h : NilM p w) (ht : Still w w') : NilM p w' := by
  obtain ⟨W, h⟩ := h
  exact ⟨W, (nilMT p).keep h ht (fun _ _ h => h)⟩

section
variable {p : Option Addr} {w : World}
theorem nmmade_any (h : NilM p w) : Calls Try.prog 30 #[.pointer p] w fun e w' => e = .returned (.bool false) ∧ w = w' := by
  obtain ⟨W, ⟨rfl, _⟩ | ⟨b, rfl, hb, _⟩⟩ := h
  · go_enter Try.func30, Try.ntmps30
    go_wp2_with fail
    go_ret
    exact ⟨rfl, rfl⟩
  · have c0 := hb.cell (o := 0) rfl
    clear hb
    go_enter Try.func30, Try.ntmps30
    go_wp2_with fail
    go_ret
    exact ⟨rfl, rfl⟩
theorem nmref_any (n : Int) (h : NilM p w) : Calls Try.prog 34 #[.pointer p, .int .i64 n] w fun e w' => e = .returned (.int .i64 1) ∧ w = w' := by
  have HM := Lib.hid (nmmade_any h)
  clear h
  go_enter Try.func34, Try.ntmps34
  go_wp2_with (go_at_call 30; ((with_reducible refine HM.out.mono ?_)); rintro e w1 ⟨rfl, rfl⟩)
  go_ret
  exact ⟨rfl, rfl⟩
theorem nmjoin_any (n : Int) (h : NilM p w) : Calls Try.prog 10 #[.pointer p, .int .i64 n] w fun e w' => e = .returned (.tuple #[.int .i64 0, .int .i64 1]) ∧ Still w w' := by
  have HM := Lib.hid (nmmade_any h)
  clear h
  go_enter Try.func10, Try.ntmps10
  go_wp2_with (go_at_call 30; ((with_reducible refine HM.out.mono ?_)); rintro e w1 ⟨rfl, rfl⟩)
  go_ret2
  exact ⟨rfl, Turned.refl _ _⟩
theorem nmleave_any (n : Int) (h : NilM p w) : Calls Try.prog 12 #[.pointer p, .int .i64 n] w fun e w' => e = .returned (.tuple #[.int .i64 0, .int .i64 1]) ∧ Still w w' := by
  have HM := Lib.hid (nmref_any n h)
  clear h
  go_enter Try.func12, Try.ntmps12
  go_wp2_with (go_at_call 34; ((with_reducible refine HM.out.mono ?_)); rintro e w1 ⟨rfl, rfl⟩)
  go_ret2
  exact ⟨rfl, Turned.refl _ _⟩
theorem nmsince_any (n : Int) (h : NilM p w) : Calls Try.prog 14 #[.pointer p, .int .i64 n] w fun e w' => e = .returned (.tuple #[.int .i64 0, .int .i64 1]) ∧ Still w w' := by
  have HM := Lib.hid (nmref_any n h)
  clear h
  go_enter Try.func14, Try.ntmps14
  go_wp2_with (go_at_call 34; ((with_reducible refine HM.out.mono ?_)); rintro e w1 ⟨rfl, rfl⟩)
  go_ret2
  exact ⟨rfl, Turned.refl _ _⟩
theorem nmrank_any (n : Int) (h : NilM p w) : Calls Try.prog 16 #[.pointer p, .int .i64 n] w fun e w' => e = .returned (.tuple #[.int .i64 0, .int .i64 1]) ∧ Still w w' := by
  have HM := Lib.hid (nmref_any n h)
  clear h
  go_enter Try.func16, Try.ntmps16
  go_wp2_with (go_at_call 34; ((with_reducible refine HM.out.mono ?_)); rintro e w1 ⟨rfl, rfl⟩)
  go_ret2
  exact ⟨rfl, Turned.refl _ _⟩
theorem nmeld_any (h : NilM p w) : Calls Try.prog 18 #[.pointer p] w fun e w' => e = .returned (.tuple #[.int .i64 0, .int .i64 1]) ∧ Still w w' := by
  have HM := Lib.hid (nmmade_any h)
  clear h
  go_enter Try.func18, Try.ntmps18
  go_wp2_with (go_at_call 30; ((with_reducible refine HM.out.mono ?_)); rintro e w1 ⟨rfl, rfl⟩)
  go_ret2
  exact ⟨rfl, Turned.refl _ _⟩
theorem nmhas_any (n : Int) (h : NilM p w) : Calls Try.prog 20 #[.pointer p, .int .i64 n] w fun e w' => e = .returned (.bool false) ∧ Still w w' := by
  have HM := Lib.hid (nmref_any n h)
  clear h
  go_enter Try.func20, Try.ntmps20
  go_wp2_with (go_at_call 34; ((with_reducible refine HM.out.mono ?_)); rintro e w1 ⟨rfl, rfl⟩)
  go_ret
  exact ⟨rfl, Turned.refl _ _⟩
theorem nmtime_any (h : NilM p w) : Calls Try.prog 25 #[.pointer p] w fun e w' => e = .returned (.int .i64 0) ∧ Still w w' := by
  have HM := Lib.hid (nmmade_any h)
  clear h
  go_enter Try.func25, Try.ntmps25
  go_wp2_with (go_at_call 30; ((with_reducible refine HM.out.mono ?_)); rintro e w1 ⟨rfl, rfl⟩)
  go_ret
  exact ⟨rfl, Turned.refl _ _⟩
theorem nmmemb_it (p : Option Addr) (B : Nat) : IterS 37 #[.pointer (some ⟨B, 0, none⟩)] encM ([] : List (Nat × Nat)) ((blkT B [.pointer p] 23).sep (nilMT p)) := by
  intro l J Jx W Q S hR h0 hd hY
  obtain ⟨U1, U2, ⟨u1, _⟩, u2, _⟩ := hR
  have e1 := u1.cell (o := 0) rfl
  have HMd := Lib.hid (nmmade_any ⟨_, u2⟩)
  have HJ := Lib.hid (show Goes (J 0) Q W W from ⟨Q, h0, Turned.refl _ _, fun _ h => .inl h⟩)
  have hf1 : Fence.wide.fn 30 := trivial
  clear u1 u2 h0 hd hY
  refine (callsIn_wide (n := 9)).1 (callsIn_of_wp Try.func37 rfl trivial ?_ rfl)
  simp only [Try.ntmps37, List.size_toArray, List.length_cons, List.length_nil, Nat.reduceAdd, Nat.reduceSub, Array.replicate_succ, Array.replicate_zero, List.push_toArray, List.append_toArray, List.nil_append, List.cons_append]
  gi_wp2_with (gi_at_call 30; ((with_reducible refine (callsIn_wide.2 HMd.out).mono ?_)); rintro e w4 ⟨rfl, rfl⟩)
  refine bodyPost_ret (results_none rfl _ _ _) rfl ?_
  exact ⟨⟨_, rfl⟩, .inl HJ.out⟩
theorem nmit_new (h : NilM p w) : ∃ S : Nat → Prop, (∀ k, S k → k = w.heap.size + 1 ∨ k < w.heap.size) ∧ ((blkT (w.heap.size + 1) [.pointer p] 23).sep (nilMT p)).at_ ((w.alloc (.cells #[.slice none 0 0] 35)).alloc (.cells #[.pointer p] 23)) S := by
  obtain ⟨W, h⟩ := h
  have hlt := (nilMT p).lt h
  have hb := Blk.new (w.alloc (.cells #[.slice none 0 0] 35)) [.pointer p] 23
  rw [World.size_alloc] at hb
  exact ⟨fun k => k = w.heap.size + 1 ∨ W k, fun k hk => hk.imp id (hlt k), (· = w.heap.size + 1), W, ⟨hb, fun _ => Iff.rfl⟩, (nilMT p).keep h (((Turned.refl _ _).alloc _).alloc _) (fun _ _ h => h), fun k e hk => by have := hlt k hk; omega, fun _ => Iff.rfl⟩
set_option maxHeartbeats 2000000 in
theorem nmall_any (h : NilM p w) : Calls Try.prog 23 #[.pointer p] w fun e w' => (∃ a c, e = .returned (.slice a 0 c)) ∧ Still w w' := by
  obtain ⟨S, hSl, hS⟩ := nmit_new h
  obtain ⟨W1, hW1⟩ : ∃ W1, W1 = w.alloc (.cells #[.slice none 0 0] 35) := ⟨_, rfl⟩
  have hs1 : Still w W1 := by rw [hW1]; exact (Turned.refl _ _).alloc _
  have hb1 : Blk W1 w.heap.size [.slice none 0 0] 35 := by rw [hW1]; exact Blk.new w [.slice none 0 0] 35
  have hz1' : W1.heap.size = w.heap.size + 1 := by rw [hW1]; simp
  rw [← hW1, ← hz1'] at hS
  have HIt := Lib.hid (nmmemb_it p W1.heap.size).all
  have HE := Lib.hid (mbmembers_any p W1)
  have HR := Lib.hid hS
  have ht2 : Still W1 (W1.alloc (.cells #[.pointer p] 23)) := (Turned.refl _ _).alloc _
  have HB := Lib.hid (show (blkT w.heap.size [.slice none 0 0] 35).at_ (W1.alloc (.cells #[.pointer p] 23)) (· = w.heap.size) from ⟨hb1.turned ht2 (fun h => h), fun _ => Iff.rfl⟩)
  have HD := Lib.hid (show ∀ k, k = w.heap.size → ¬ S k from by
    rintro k rfl hk
    have := hSl _ hk; omega)
  have HSt := Lib.hid (hs1.trans ht2)
  have HZ1 := Lib.hid hz1'
  clear h hSl hS ht2 hb1 hz1' hs1
  refine (callsIn_wide (n := 9)).1 (callsIn_of_wp_marks Try.func23 rfl trivial ?_ rfl)
  simp only [Try.ntmps23, List.size_toArray, List.length_cons, List.length_nil, Nat.reduceAdd, Nat.reduceSub, Array.replicate_succ, Array.replicate_zero, List.push_toArray, List.append_toArray, List.nil_append, List.cons_append]
  have hf1 : Fence.wide.fn 36 := trivial
  gi_wp2_with (gi_at_call 36; rw [← hW1]; ((with_reducible refine (callsIn_wide.2 HE.out).mono ?_)); rintro e w2 ⟨rfl, rfl⟩)
  rw [← hW1, show w.heap.size + 1 = W1.heap.size from HZ1.out.symm]
  clear hW1
  refine loopX_outer (i0 := 0) rfl (enters_of Try.func37 (by kernel_rfl) rfl) (nmmemb_it p W1.heap.size) (by exact fun _ => rfl) (fun _ => blkT w.heap.size [.slice none 0 0] 35) (fun _ => noT) HR.out HB.out HD.out ?_ ?_ ?_
  · rintro ⟨y, z⟩
    apply Exists.intro
    apply And.intro
    · intro l1 V K hK
      dsimp only [encM]
      gi_wp2
      exact hK
    · intro l1 k V Q' hr hl1 hx hI hQl hsk
      simp at hx
  · intro D V Q' hD hK hQD hI hsk
    obtain ⟨hB, hQ⟩ := hI
    have cc := hB.cell (o := 0) rfl
    have hD1 : w.heap.size ≤ D := Nat.le_trans HSt.out.size hD
    have hT0 : Turned (fun k => w.heap.size ≤ k) w V := (HSt.out.mono (fun _ _ h => h.elim)).trans (hsk.turn.mono (fun k _ h => by omega))
    have hp := putObj_since (.deferred none) (Array.getElem?_eq_some_iff.1 hK).1
    have HP := Lib.hid (show Still w (V.putObj D (.deferred none)) from (hT0.trans (hp.mono (fun k _ e => by rw [e]; exact hD1))).mono (fun k hk hh => by omega))
    clear hB hQ hT0 hsk hp hQD
    gi_wp2
    refine ⟨by simp, .inl ⟨_, _, rfl, run_takeDeferred hK, ?_⟩⟩
    refine ⟨_, results_tmp rfl _ _ _, ?_⟩
    exact ⟨⟨_, _, rfl⟩, HP.out⟩
  · intro D k V Q' hD hK hQD hk hI hsk
    exact hI.elim
end
theorem void_member : VoidMember NilM zeroMb where
  nil_ := fun W => ⟨fun _ => False, .inl ⟨rfl, fun _ h => h⟩⟩
  zero := fun W => ⟨(· = W.heap.size), .inr ⟨W.heap.size, rfl, Blk.new W [.slice none 0 0, .int .i64 0] 48, fun _ => Iff.rfl⟩⟩
  still := fun h ht => h.still ht
  join := fun n h => nmjoin_any n h
  leave := fun n h => nmleave_any n h
  since := fun n h => nmsince_any n h
  rank := fun n h => nmrank_any n h
  eldest := fun h => nmeld_any h
  has := fun n h => nmhas_any n h
  all_ := fun h => nmall_any h
  time := fun h => nmtime_any h
end Go.Proofs.Ytepdnclojjeepaa
