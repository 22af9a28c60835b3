/- The words of a track that no call made: nil, and the struct's noughts. No condition. -/
import Derived.Test.YtdlkdagmaeapdaaFnVoidW
import Derived.Test.YtdlkdagmaeapdaaFnLay
namespace Go.Proofs.Ytdlkdagmaeapdaa
open Go.RowKit
set_option linter.unusedVariables false
set_option linter.unusedSimpArgs false
set_option maxRecDepth 100000

/-- A track that no call made. -/
def nilFT (p : Option Addr) : Thing where
  at_ w W := (p = none ∧ ∀ k, ¬ W k) ∨ ∃ b, p = some ⟨b, 0, none⟩ ∧ (blkT b [.pointer none, .int .i64 0] 71).at_ w W
  lt := by
    rintro w W (⟨_, h⟩ | ⟨b, _, h⟩) k hk
    · exact (h k hk).elim
    · exact (blkT b [.pointer none, .int .i64 0] 71).lt h k hk
  keep := by
    rintro w w' W S (⟨h1, h⟩ | ⟨b, h1, h⟩) ht hs
    · exact .inl ⟨h1, h⟩
    · exact .inr ⟨b, h1, (blkT b [.pointer none, .int .i64 0] 71).keep h ht hs⟩
def NilF (p : Option Addr) (w : World) : Prop := ∃ W, (nilFT p).at_ w W
theorem NilF.still {p : Option Addr} {w w' : World} (h : NilF p w) (ht : Still w w') : NilF p w' := by
  obtain ⟨W, h⟩ := h
  exact ⟨W, (nilFT p).keep h ht (fun _ _ h => h)⟩
section
variable {p : Option Addr} {w : World}
theorem nfmade_any (h : NilF p w) : Calls Try.prog 43 #[.pointer p] w fun e w' => e = .returned (.bool false) ∧ w = w' := by
  obtain ⟨W, ⟨rfl, _⟩ | ⟨b, rfl, hb, _⟩⟩ := h
  · go_enter Try.func43, Try.ntmps43
    go_wp2_with fail
    go_ret
    exact ⟨by first | rfl | (simp; done) | (simp; omega), rfl⟩
  · have c0 := hb.cell (o := 0) rfl
    clear hb
    go_enter Try.func43, Try.ntmps43
    go_wp2_with fail
    go_ret
    exact ⟨by first | rfl | (simp; done) | (simp; omega), rfl⟩
theorem nfpeek_any (a b : Int) (h : NilF p w) : Calls Try.prog 20 #[.pointer p, .int .i64 a, .int .i64 b] w fun e w' => e = .returned (.tuple #[.int .i64 0, .int .i64 1]) ∧ w = w' := by
  have HM := Lib.hid (nfmade_any h)
  clear h
  go_enter Try.func20, Try.ntmps20
  go_wp2_with (go_at_call 43; ((with_reducible refine HM.out.mono ?_)); rintro e w1 ⟨rfl, rfl⟩)
  go_ret2
  exact ⟨rfl, rfl⟩
theorem nfdel_any (a b : Int) (h : NilF p w) : Calls Try.prog 13 #[.pointer p, .int .i64 a, .int .i64 b] w fun e w' => (∃ v, e = .returned (.tuple #[.int .i64 v, .int .i64 1])) ∧ Still w w' := by
  have HM := Lib.hid (nfpeek_any a b h)
  clear h
  go_enter Try.func13, Try.ntmps13
  go_wp2_with (go_at_call 20; ((with_reducible refine HM.out.mono ?_)); rintro e w1 ⟨rfl, rfl⟩)
  go_ret2
  exact ⟨⟨_, rfl⟩, Turned.refl _ _⟩
theorem nfcom_any (n : Int) (h : NilF p w) : Calls Try.prog 15 #[.pointer p, .int .i64 n] w fun e w' => e = .returned (.int .i64 1) ∧ Still w w' := by
  have HM := Lib.hid (nfmade_any h)
  clear h
  go_enter Try.func15, Try.ntmps15
  go_wp2_with (go_at_call 43; ((with_reducible refine HM.out.mono ?_)); rintro e w1 ⟨rfl, rfl⟩)
  go_ret
  exact ⟨rfl, Turned.refl _ _⟩
theorem nfseek_any (n a b : Int) (h : NilF p w) : Calls Try.prog 17 #[.pointer p, .int .i64 n, .int .i64 a, .int .i64 b] w fun e w' => e = .returned (.int .i64 1) ∧ Still w w' := by
  have HM := Lib.hid (nfmade_any h)
  clear h
  go_enter Try.func17, Try.ntmps17
  go_wp2_with (go_at_call 43; ((with_reducible refine HM.out.mono ?_)); rintro e w1 ⟨rfl, rfl⟩)
  go_ret
  exact ⟨rfl, Turned.refl _ _⟩
theorem nfback_any (h : NilF p w) : Calls Try.prog 19 #[.pointer p] w fun e w' => e = .returned (.tuple #[]) ∧ Still w w' := by
  have HM := Lib.hid (nfmade_any h)
  clear h
  go_enter Try.func19, Try.ntmps19
  go_wp2_with (go_at_call 43; ((with_reducible refine HM.out.mono ?_)); rintro e w1 ⟨rfl, rfl⟩)
  go_end0
  exact ⟨rfl, Turned.refl _ _⟩
theorem nfnext_any (h : NilF p w) : Calls Try.prog 25 #[.pointer p] w fun e w' => e = .returned (.int .i64 0) ∧ Still w w' := by
  have HM := Lib.hid (nfmade_any h)
  clear h
  go_enter Try.func25, Try.ntmps25
  go_wp2_with (go_at_call 43; ((with_reducible refine HM.out.mono ?_)); rintro e w1 ⟨rfl, rfl⟩)
  go_ret
  exact ⟨rfl, Turned.refl _ _⟩
theorem nfcommitted_any (h : NilF p w) : Calls Try.prog 23 #[.pointer p] w fun e w' => e = .returned (.int .i64 0) ∧ Still w w' := by
  have HM := Lib.hid (nfmade_any h)
  clear h
  go_enter Try.func23, Try.ntmps23
  go_wp2_with (go_at_call 43; ((with_reducible refine HM.out.mono ?_)); rintro e w1 ⟨rfl, rfl⟩)
  go_ret
  exact ⟨rfl, Turned.refl _ _⟩
theorem nfledger_any (h : NilF p w) : Calls Try.prog 26 #[.pointer p] w fun e w' => e = .returned (.pointer none) ∧ Still w w' := by
  have HM := Lib.hid (nfmade_any h)
  clear h
  go_enter Try.func26, Try.ntmps26
  go_wp2_with (go_at_call 43; ((with_reducible refine HM.out.mono ?_)); rintro e w1 ⟨rfl, rfl⟩)
  go_ret
  exact ⟨rfl, Turned.refl _ _⟩
end
theorem void_fence : VoidFence NilF zeroFn where
  nil_ W := ⟨fun _ => False, .inl ⟨rfl, fun _ h => h⟩⟩
  zero W := ⟨(· = W.heap.size), .inr ⟨_, rfl, Blk.new W [.pointer none, .int .i64 0] 71, fun _ => Iff.rfl⟩⟩
  still h hs := h.still hs
  back h := nfback_any h
  peek a b h := (nfpeek_any a b h).mono fun e w' ⟨he, hw⟩ => ⟨⟨_, he⟩, by rw [← hw]; exact Turned.refl _ _⟩
  del a b h := nfdel_any a b h
  com n h := nfcom_any n h
  seek n a b h := nfseek_any n a b h
  next h := nfnext_any h
  committed h := nfcommitted_any h
  ledger h := nfledger_any h
end Go.Proofs.Ytdlkdagmaeapdaa
