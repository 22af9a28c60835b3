/- The words of a table that no call made: nil, and the struct's noughts. No condition. -/
import Derived.Test.YtdlkdagmaeapdaaRbVoidW
import Derived.Test.YtdlkdagmaeapdaaBdRb
namespace Go.Proofs.Ytdlkdagmaeapdaa
open Go.RowKit Go.Shelf
attribute [local go_sem] Oper.semAt_some
set_option linter.unusedVariables false
set_option linter.unusedSimpArgs false
set_option maxRecDepth 100000

/-- A table that no call made. -/
def nilBT (p : Option Addr) : Thing where
  at_ w W := (p = none ∧ ∀ k, ¬ W k) ∨ ∃ b, p = some ⟨b, 0, none⟩ ∧ (blkT b [.slice none 0 0, .slice none 0 0, .int .i64 0, .bool false] 93).at_ w W
  lt := by
    rintro w W (⟨_, h⟩ | ⟨b, _, h⟩) k hk
    · exact (h k hk).elim
    · exact (blkT b [.slice none 0 0, .slice none 0 0, .int .i64 0, .bool false] 93).lt h k hk
  keep := by
    rintro w w' W S (⟨h1, h⟩ | ⟨b, h1, h⟩) ht hs
    · exact .inl ⟨h1, h⟩
    · exact .inr ⟨b, h1, (blkT b [.slice none 0 0, .slice none 0 0, .int .i64 0, .bool false] 93).keep h ht hs⟩
def NilB (p : Option Addr) (w : World) : Prop := ∃ W, (nilBT p).at_ w W
theorem NilB.still {p : Option Addr} {w w' : World} (h : NilB p w) (ht : Still w w') : NilB p w' := by
  obtain ⟨W, h⟩ := h
  exact ⟨W, (nilBT p).keep h ht (fun _ _ h => h)⟩

theorem cell_end0 {F : Fence} {n : Nat} {V : World} {B : Nat} {y : Int} {p : Tmp} {a : Act} {fn : Func} {R : Ending → World → Prop} (hfn : fn.results = #[.cell p 24])
    (h4 : a.tmps.getD p undef = .pointer (some ⟨B, 0, none⟩)) (hd : a.defers = []) (hB : Blk V B [.int .i64 y] 24) (hR : R (.returned (.int .i64 y)) V) : bodyPostM F n Try.prog fn R .ret a V := by
  show LeavesInM F n Try.prog fn a.tmps R a.defers .returning V
  rw [hd]
  have b1 : V.cell? ⟨B, 0, none⟩ = some (.int .i64 y) := hB.cell rfl
  refine ⟨.int .i64 y, ?_, hR⟩
  rw [results_cellE hfn, h4]
  go_simp

section
variable {p : Option Addr} {w : World}
theorem nbmade_any (h : NilB p w) : Calls Try.prog 55 #[.pointer p] w fun e w' => e = .returned (.bool false) ∧ w = w' := by
  obtain ⟨W, ⟨rfl, _⟩ | ⟨b, rfl, hb, _⟩⟩ := h
  · go_enter Try.func55, Try.ntmps55
    go_wp2_with fail
    go_ret
    exact ⟨by first | rfl | simp, rfl⟩
  · have c0 := hb.cell (o := 3) rfl
    clear hb
    go_enter Try.func55, Try.ntmps55
    go_wp2_with fail
    go_ret
    exact ⟨by first | rfl | simp, rfl⟩
theorem nbit_it (p : Option Addr) (B : Nat) : IterS 94 #[.pointer (some ⟨B, 0, none⟩)] encT17 ([] : List (Own × Own)) ((blkT B [.pointer p] 55).sep (nilBT p)) := by
  intro l J Jx W Q S hR h0 hd hY
  obtain ⟨U1, U2, ⟨u1, _⟩, u2, _⟩ := hR
  have e1 := u1.cell (o := 0) rfl
  have HMd := Lib.hid (nbmade_any ⟨_, u2⟩)
  have HJ := Lib.hid (show Goes (J 0) Q W W from ⟨Q, h0, Turned.refl _ _, fun _ h => .inl h⟩)
  have hf1 : Fence.wide.fn 55 := trivial
  clear u1 u2 h0 hd hY
  refine (callsIn_wide (n := 9)).1 (callsIn_of_wp Try.func94 rfl trivial ?_ rfl)
  simp only [Try.ntmps94, List.size_toArray, List.length_cons, List.length_nil, Nat.reduceAdd, Nat.reduceSub, Array.replicate_succ, Array.replicate_zero, List.push_toArray, List.append_toArray, List.nil_append, List.cons_append]
  gi_wp2_with (gi_at_call 55; ((with_reducible refine (callsIn_wide.2 HMd.out).mono ?_)); rintro e w4 ⟨rfl, rfl⟩)
  refine bodyPost_ret (results_none rfl _ _ _) rfl ?_
  exact ⟨⟨_, rfl⟩, .inl HJ.out⟩
theorem nbit_at (h : NilB p w) : ItAt w p (([] : List Own).zip ([] : List Own)) (fun B => (blkT B [.pointer p] 55).sep (nilBT p)) where
  it B := nbit_it p B
  new_ V hs := by
    obtain ⟨W, h⟩ := h
    have hlt := (nilBT p).lt h
    have hV := hs.size
    exact ⟨fun k => k = V.heap.size ∨ W k, ⟨(· = V.heap.size), W, ⟨Blk.new V [.pointer p] 55, fun _ => Iff.rfl⟩, (nilBT p).keep h (hs.trans ((Turned.refl _ _).alloc _)) (fun _ _ h => h), fun k e hk => by have := hlt k hk; omega, fun _ => Iff.rfl⟩, fun k hk => hk.imp id (hlt k)⟩
theorem tok_nil : TOk [] [] := ⟨rfl, Nat.zero_le _, (fun _ h => by cases h), by decide, List.nodup_nil⟩
theorem nbbegin_any {bo ao : Option Addr} {n m c1 c2 : Nat} (h : NilB p w) : Calls Try.prog 33 #[.pointer p, .slice bo n c1, .slice ao m c2] w fun e w' => e = .returned (.tuple #[.bool false, .int .i64 1]) ∧ Still w w' := by
  have HM := Lib.hid (nbmade_any h)
  clear h
  go_enter Try.func33, Try.ntmps33
  go_wp2_with (go_at_call 55; ((with_reducible refine HM.out.mono ?_)); rintro e w1 ⟨rfl, rfl⟩)
  go_ret2
  exact ⟨rfl, Turned.refl _ _⟩
theorem nback_any (n : Int) (h : NilB p w) : Calls Try.prog 35 #[.pointer p, .int .i64 n] w fun e w' => e = .returned (.tuple #[.bool false, .int .i64 1]) ∧ Still w w' := by
  have HM := Lib.hid (nbmade_any h)
  clear h
  go_enter Try.func35, Try.ntmps35
  go_wp2_with (go_at_call 55; ((with_reducible refine HM.out.mono ?_)); rintro e w1 ⟨rfl, rfl⟩)
  go_ret2
  exact ⟨rfl, Turned.refl _ _⟩
theorem nbgen_any (h : NilB p w) : Calls Try.prog 67 #[.pointer p] w fun e w' => e = .returned (.int .i64 0) ∧ Still w w' := by
  have HM := Lib.hid (nbmade_any h)
  clear h
  go_enter Try.func67, Try.ntmps67
  go_wp2_with (go_at_call 55; ((with_reducible refine HM.out.mono ?_)); rintro e w1 ⟨rfl, rfl⟩)
  go_ret
  exact ⟨rfl, Turned.refl _ _⟩
theorem nbhas_any (x f t : Int) (h : NilB p w) : Calls Try.prog 66 #[.pointer p, .int .i64 x, .agg #[.int .i64 f, .int .i64 t]] w fun e w' => e = .returned (.int .i64 1) ∧ Still w w' := by
  obtain ⟨W1, hW1⟩ : ∃ W1, W1 = ((w.alloc (.cells #[.int .i64 x] 3)).alloc (.cells #[.int .i64 f, .int .i64 t] 54)).alloc (.cells #[.int .i64 0] 24) := ⟨_, rfl⟩
  obtain ⟨B, hB⟩ : ∃ b, b = w.heap.size + 2 := ⟨_, rfl⟩
  have hs1 : Still w W1 := by rw [hW1]; exact (((Turned.refl _ _).alloc _).alloc _).alloc _
  have hb2 : Blk W1 B [.int .i64 0] 24 := by
    have := Blk.new ((w.alloc (.cells #[.int .i64 x] 3)).alloc (.cells #[.int .i64 f, .int .i64 t] 54)) [.int .i64 0] 24
    rw [World.size_alloc, World.size_alloc] at this
    rw [hW1, hB]; exact this
  have HM := Lib.hid (nbmade_any (h.still hs1))
  have cB := hb2.cell (o := 0) rfl
  have fB := hb2.free 0
  have HB := Lib.hid (show Blk (W1.setCell ⟨B, 0, none⟩ (.int .i64 1)) B [.int .i64 1] 24 ∧ Still w (W1.setCell ⟨B, 0, none⟩ (.int .i64 1)) from ⟨hb2.set 0 _, by
    have t2 : Turned (fun k => w.heap.size ≤ k) W1 (W1.setCell ⟨B, 0, none⟩ (.int .i64 1)) := (Turned.refl _ W1).setCell (p := ⟨B, 0, none⟩) (.inl (by show w.heap.size ≤ B; omega)) _
    exact ((hs1.mono (fun _ _ h => h.elim)).trans t2).mono (fun k hk hh => by omega)⟩)
  have HN := Lib.hid (show w.heap.size + 1 + 1 = B from hB.symm)
  clear h hs1 hb2
  refine (callsIn_wide (n := 9)).1 (callsIn_of_wp_marks Try.func66 rfl trivial ?_ rfl)
  simp only [Try.ntmps66, List.size_toArray, List.length_cons, List.length_nil, Nat.reduceAdd, Nat.reduceSub, Array.replicate_succ, Array.replicate_zero, List.push_toArray, List.append_toArray, List.nil_append, List.cons_append]
  have hf2 : Fence.wide.fn 55 := trivial
  clear hB
  gi_wp2_with (gi_at_call 55; rw [← hW1, HN.out]; ((with_reducible refine (callsIn_wide.2 HM.out).mono ?_)); rintro e w2 ⟨rfl, rfl⟩; clear hW1)
  try rw [Exit.noGoto_ret]
  exact cell_end0 rfl rfl rfl HB.out.1 ⟨rfl, HB.out.2⟩
end

end Go.Proofs.Ytdlkdagmaeapdaa
