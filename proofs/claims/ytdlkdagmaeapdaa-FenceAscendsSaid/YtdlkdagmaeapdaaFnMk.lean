/- The document's track: Make. No condition. -/
import Derived.Test.YtdlkdagmaeapdaaFnRef
import Derived.Test.YtdlkdagmaeapdaaLgRefDo
namespace Go.Proofs.Ytdlkdagmaeapdaa
open Go.RowKit
set_option linter.unusedVariables false
set_option linter.unusedSimpArgs false
set_option maxRecDepth 100000

/-- A new track. -/
def FNew (FT : Nat → FnM → Thing) (w : World) (M : FnM) (q : Nat) (w' : World) : Prop := ∃ W, (FT q M).at_ w' W ∧ Still w w' ∧ ∀ k, W k → w.heap.size ≤ k
theorem zfnmake_no (b : Int) (w : World) (h : ¬ (0 ≤ b ∧ b ≤ 1099511627776)) : Calls Try.prog 9 #[.int .i64 b] w fun e w' => e = .returned (.tuple #[.pointer none, .int .i64 2]) ∧ Still w w' := by
  have HM := Lib.hid (zlgmake_no b w h)
  clear h
  go_enter Try.func9, Try.ntmps9
  go_wp2_with (go_at_call 40; ((with_reducible refine HM.out.mono ?_)); rintro e w1 ⟨rfl, hs⟩; have HS := Lib.hid hs; clear hs)
  go_ret2
  exact ⟨rfl, HS.out⟩
theorem zfnmake_ok (b : Int) (w : World) (h0 : 0 ≤ b) (h1 : b ≤ 1099511627776) : Calls Try.prog 9 #[.int .i64 b] w fun e w' => ∃ q, e = .returned (.tuple #[.pointer (some ⟨q, 0, none⟩), .int .i64 0]) ∧ FNew zfT w (FnM.new b) q w' := by
  have HM := Lib.hid (zlgmake_ok b w h0 h1)
  clear h0 h1
  go_enter Try.func9, Try.ntmps9
  go_wp2_with (go_at_call 40; ((with_reducible refine HM.out.mono ?_)); rintro e w1 ⟨l, rfl, hn⟩; have HN := Lib.hid hn; clear hn)
  go_ret2
  obtain ⟨W, h, hs, hlo⟩ := HN.out
  refine ⟨_, rfl, fun k => k = w1.heap.size ∨ W k, ⟨l, (· = w1.heap.size), W, ⟨Blk.new w1 [.pointer (some ⟨l, 0, none⟩), .int .i64 b] 35, fun _ => Iff.rfl⟩, Thing.keep _ h ((Turned.refl _ _).alloc _) (fun _ _ h => h), fun k e hk => ?_, fun _ => Iff.rfl⟩, hs.alloc _, fun k hk => ?_⟩
  · have := Thing.lt _ h k hk; omega
  · rcases hk with rfl | hk
    · exact hs.size
    · exact hlo k hk
end Go.Proofs.Ytdlkdagmaeapdaa
