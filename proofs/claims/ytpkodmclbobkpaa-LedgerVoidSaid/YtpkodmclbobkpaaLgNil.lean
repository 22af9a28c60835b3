/- The words of a ledger that no call made: nil, and the struct's noughts. No condition. -/
import Derived.Test.YtpkodmclbobkpaaLgVoidW
import Derived.Test.YtpkodmclbobkpaaLgOut
namespace Go.Proofs.Ytpkodmclbobkpaa
open Go.RowKit Go.Shelf
attribute [local go_sem] Oper.semAt_some
set_option linter.unusedVariables false
set_option linter.unusedSimpArgs false
set_option maxRecDepth 100000

/-- A ledger that no call made. -/
def nilLT (p : Option Addr) : Thing where
  at_ w W := (p = none ∧ ∀ k, ¬ W k) ∨ ∃ b, p = some ⟨b, 0, none⟩ ∧ (blkT b [.slice none 0 0, .bool false] 53).at_ w W
  lt := by
    rintro w W (⟨_, h⟩ | ⟨b, _, h⟩) k hk
    · exact (h k hk).elim
    · exact (blkT b [.slice none 0 0, .bool false] 53).lt h k hk
  keep := by
    rintro w w' W S (⟨h1, h⟩ | ⟨b, h1, h⟩) ht hs
    · exact .inl ⟨h1, h⟩
    · exact .inr ⟨b, h1, (blkT b [.slice none 0 0, .bool false] 53).keep h ht hs⟩
def NilL (p : Option Addr) (w : World) : Prop := ∃ W, (nilLT p).at_ w W
theorem NilL.still {p : Option Addr} {w w' : World} (h : NilL p w) (ht : Still w w') : NilL p w' := by
  obtain ⟨W, h⟩ := h
  exact ⟨W, (nilLT p).keep h ht (fun _ _ h => h)⟩

section
variable {p : Option Addr} {w : World}
theorem nmade_any (h : NilL p w) : Calls Try.prog 32 #[.pointer p] w fun e w' => e = .returned (.bool false) ∧ w = w' := by
  obtain ⟨W, ⟨rfl, _⟩ | ⟨b, rfl, hb, _⟩⟩ := h
  · go_enter Try.func32, Try.ntmps32
    go_wp2_with fail
    go_ret
    exact ⟨rfl, rfl⟩
  · have c0 := hb.cell (o := 0) rfl
    clear hb
    go_enter Try.func32, Try.ntmps32
    go_wp2_with fail
    go_ret
    exact ⟨rfl, rfl⟩
theorem nspans_any (p : Option Addr) (kd : Bool) (w : World) : Calls Try.prog 35 #[.pointer p, .bool kd] w fun e w' => e = .returned (.func (.func 40) #[] #[.pointer (some ⟨w.heap.size, 0, none⟩), .pointer (some ⟨w.heap.size + 1, 0, none⟩)]) ∧
    w' = (w.alloc (.cells #[.pointer p] 23)).alloc (.cells #[.bool kd] 4) := by
  go_enter Try.func35, Try.ntmps35
  go_wp2
  go_ret
  exact ⟨by first | rfl | simp, rfl⟩
theorem nspans_it (p : Option Addr) (B1 B2 : Nat) : IterS 40 #[.pointer (some ⟨B1, 0, none⟩), .pointer (some ⟨B2, 0, none⟩)] encSpA ([] : List (Int × Int)) ((blkT B1 [.pointer p] 23).sep (nilLT p)) := by
  intro l J Jx W Q S hR h0 hd hY
  obtain ⟨U1, U2, ⟨u1, _⟩, u2, _⟩ := hR
  have e1 := u1.cell (o := 0) rfl
  have HMd := Lib.hid (nmade_any ⟨_, u2⟩)
  have HJ := Lib.hid (show Goes (J 0) Q W W from ⟨Q, h0, Turned.refl _ _, fun _ h => .inl h⟩)
  have hf1 : Fence.wide.fn 32 := trivial
  clear u1 u2 h0 hd hY
  refine (callsIn_wide (n := 9)).1 (callsIn_of_wp Try.func40 rfl trivial ?_ rfl)
  simp only [Try.ntmps40, List.size_toArray, List.length_cons, List.length_nil, Nat.reduceAdd, Nat.reduceSub, Array.replicate_succ, Array.replicate_zero, List.push_toArray, List.append_toArray, List.nil_append, List.cons_append]
  gi_wp2_with (gi_at_call 32; ((with_reducible refine (callsIn_wide.2 HMd.out).mono ?_)); rintro e w4 ⟨rfl, rfl⟩)
  refine bodyPost_ret (results_none rfl _ _ _) rfl ?_
  exact ⟨⟨_, rfl⟩, .inl HJ.out⟩
theorem nit_new (kd : Bool) (h : NilL p w) : ∃ S : Nat → Prop, ((blkT w.heap.size [.pointer p] 23).sep (nilLT p)).at_ ((w.alloc (.cells #[.pointer p] 23)).alloc (.cells #[.bool kd] 4)) S := by
  obtain ⟨W, h⟩ := h
  have hlt := (nilLT p).lt h
  exact ⟨_, (· = w.heap.size), W, ⟨(Blk.new w [.pointer p] 23).alloc _, fun _ => Iff.rfl⟩, (nilLT p).keep h (((Turned.refl _ _).alloc _).alloc _) (fun _ _ h => h), fun k e hk => by have := hlt k hk; omega, fun _ => Iff.rfl⟩
theorem nout_any (h : NilL p w) (kd : Bool) : Calls Try.prog 36 #[.func (.func 40) #[] #[.pointer (some ⟨w.heap.size, 0, none⟩), .pointer (some ⟨w.heap.size + 1, 0, none⟩)]] ((w.alloc (.cells #[.pointer p] 23)).alloc (.cells #[.bool kd] 4)) fun e w' => (∃ a c, e = .returned (.slice a 0 c)) ∧ Still w w' := by
  obtain ⟨S, hS⟩ := nit_new kd h
  exact (lgcoll_any (n := 0) (nspans_it p w.heap.size (w.heap.size + 1)) (enters_of Try.func40 (by kernel_rfl) rfl) hS rfl (by omega)).mono fun e w' ⟨a, c, he, _, hs⟩ => ⟨⟨a, c, he⟩, (((Turned.refl _ w).alloc _).alloc _).trans hs⟩
theorem naccepted_any (h : NilL p w) : Calls Try.prog 25 #[.pointer p] w fun e w' => (∃ a c, e = .returned (.slice a 0 c)) ∧ Still w w' := by
  have HS := Lib.hid (nspans_any p true w)
  have HC := Lib.hid (nout_any h true)
  clear h
  go_enter Try.func25, Try.ntmps25
  go_wp2_with (first
    | (go_at_call 35; ((with_reducible refine HS.out.mono ?_)); rintro e w1 ⟨rfl, rfl⟩)
    | (go_at_call 36; ((with_reducible refine HC.out.mono ?_)); rintro e w2 ⟨⟨a2, c2, rfl⟩, hs⟩; have H2 := Lib.hid hs; clear hs))
  go_ret
  exact ⟨⟨_, _, rfl⟩, H2.out⟩
theorem nskipped_any (h : NilL p w) : Calls Try.prog 27 #[.pointer p] w fun e w' => (∃ a c, e = .returned (.slice a 0 c)) ∧ Still w w' := by
  have HS := Lib.hid (nspans_any p false w)
  have HC := Lib.hid (nout_any h false)
  clear h
  go_enter Try.func27, Try.ntmps27
  go_wp2_with (first
    | (go_at_call 35; ((with_reducible refine HS.out.mono ?_)); rintro e w1 ⟨rfl, rfl⟩)
    | (go_at_call 36; ((with_reducible refine HC.out.mono ?_)); rintro e w2 ⟨⟨a2, c2, rfl⟩, hs⟩; have H2 := Lib.hid hs; clear hs))
  go_ret
  exact ⟨⟨_, _, rfl⟩, H2.out⟩
theorem nis_any (n : Int) (h : NilL p w) : Calls Try.prog 20 #[.pointer p, .int .i64 n] w fun e w' => e = .returned (.tuple #[.bool false, .int .i64 1]) ∧ Still w w' := by
  have HM := Lib.hid (nmade_any h)
  clear h
  go_enter Try.func20, Try.ntmps20
  go_wp2_with (go_at_call 32; ((with_reducible refine HM.out.mono ?_)); rintro e w1 ⟨rfl, rfl⟩)
  go_ret2
  exact ⟨rfl, Turned.refl _ _⟩
theorem ngoon_any (n : Int) (kd : Bool) (h : NilL p w) : Calls Try.prog 31 #[.pointer p, .int .i64 n, .bool kd] w fun e w' => e = .returned (.int .i64 1) ∧ Still w w' := by
  have HM := Lib.hid (nmade_any h)
  clear h
  go_enter Try.func31, Try.ntmps31
  go_wp2_with (go_at_call 32; ((with_reducible refine HM.out.mono ?_)); rintro e w1 ⟨rfl, rfl⟩)
  go_ret
  exact ⟨rfl, Turned.refl _ _⟩
theorem nacc_any (n : Int) (h : NilL p w) : Calls Try.prog 15 #[.pointer p, .int .i64 n] w fun e w' => e = .returned (.int .i64 1) ∧ Still w w' := by
  have HG := Lib.hid (ngoon_any n true h)
  clear h
  go_enter Try.func15, Try.ntmps15
  go_wp2_with (go_at_call 31; ((with_reducible refine HG.out.mono ?_)); rintro e w1 ⟨rfl, hs⟩; have H1 := Lib.hid hs; clear hs)
  go_ret
  exact ⟨rfl, H1.out⟩
theorem nskp_any (n : Int) (h : NilL p w) : Calls Try.prog 17 #[.pointer p, .int .i64 n] w fun e w' => e = .returned (.int .i64 1) ∧ Still w w' := by
  have HG := Lib.hid (ngoon_any n false h)
  clear h
  go_enter Try.func17, Try.ntmps17
  go_wp2_with (go_at_call 31; ((with_reducible refine HG.out.mono ?_)); rintro e w1 ⟨rfl, hs⟩; have H1 := Lib.hid hs; clear hs)
  go_ret
  exact ⟨rfl, H1.out⟩
theorem nback_any (n : Int) (h : NilL p w) : Calls Try.prog 18 #[.pointer p, .int .i64 n] w fun e w' => e = .returned (.int .i64 1) ∧ Still w w' := by
  have HM := Lib.hid (nmade_any h)
  clear h
  go_enter Try.func18, Try.ntmps18
  go_wp2_with (go_at_call 32; ((with_reducible refine HM.out.mono ?_)); rintro e w1 ⟨rfl, rfl⟩)
  go_ret
  exact ⟨rfl, Turned.refl _ _⟩
theorem nfrom_any (h : NilL p w) : Calls Try.prog 22 #[.pointer p] w fun e w' => e = .returned (.int .i64 0) ∧ Still w w' := by
  have HM := Lib.hid (nmade_any h)
  clear h
  go_enter Try.func22, Try.ntmps22
  go_wp2_with (go_at_call 32; ((with_reducible refine HM.out.mono ?_)); rintro e w1 ⟨rfl, rfl⟩)
  go_ret
  exact ⟨rfl, Turned.refl _ _⟩
theorem nend_any (h : NilL p w) : Calls Try.prog 23 #[.pointer p] w fun e w' => e = .returned (.int .i64 0) ∧ Still w w' := by
  have HM := Lib.hid (nmade_any h)
  clear h
  go_enter Try.func23, Try.ntmps23
  go_wp2_with (go_at_call 32; ((with_reducible refine HM.out.mono ?_)); rintro e w1 ⟨rfl, rfl⟩)
  go_ret
  exact ⟨rfl, Turned.refl _ _⟩
theorem ncopy_any (h : NilL p w) : Calls Try.prog 29 #[.pointer p] w fun e w' => e = .returned (.pointer none) ∧ Still w w' := by
  have HM := Lib.hid (nmade_any h)
  clear h
  go_enter Try.func29, Try.ntmps29
  go_wp2_with (go_at_call 32; ((with_reducible refine HM.out.mono ?_)); rintro e w1 ⟨rfl, rfl⟩)
  go_ret
  exact ⟨rfl, Turned.refl _ _⟩
end
theorem void_ledger : VoidLedger NilL zeroLg where
  nil_ := fun W => ⟨fun _ => False, .inl ⟨rfl, fun _ h => h⟩⟩
  zero := fun W => ⟨(· = W.heap.size), .inr ⟨W.heap.size, rfl, Blk.new W [.slice none 0 0, .bool false] 53, fun _ => Iff.rfl⟩⟩
  still := fun h ht => h.still ht
  is_ := fun n h => nis_any n h
  acc := fun n h => nacc_any n h
  skp := fun n h => nskp_any n h
  back := fun n h => nback_any n h
  from_ := fun h => nfrom_any h
  end_ := fun h => nend_any h
  accepted := fun h => naccepted_any h
  skipped := fun h => nskipped_any h
  copy := fun h => ncopy_any h
end Go.Proofs.Ytpkodmclbobkpaa
