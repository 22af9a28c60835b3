/- The program's ring keeps the words that the statements of layer 7 want of it, once its readers keep theirs. No condition but that. -/
import Derived.Test.YtliaaggjefjbeaaRingApi7
import Derived.Test.YtliaaggjefjbeaaRingClaim
import Derived.Test.YtliaaggjefjbeaaRingMake
namespace Go.Proofs.Ytliaaggjefjbeaa
open Go.RowKit
set_option linter.unusedVariables false

theorem ring7_of
    (hl : ∀ {w : World} {W : Nat → Prop} {q : Nat} {M : RM} {N : Nat}, (rT q M).at_ w W → M.Ok N → N < 1000000 → ∀ x : Int, w64 x →
      Calls Try.prog 24 #[.int .i64 x, .pointer (some ⟨q, 0, none⟩)] w fun e w' => e = .returned (.tuple #[.agg #[.int .i64 (M.lsF x), .int .i64 (M.lsT x)], .int .i64 (M.mvE x)]) ∧ Still w w')
    (hx : ∀ {w : World} {W : Nat → Prop} {q : Nat} {M : RM} {N : Nat}, (rT q M).at_ w W → M.Ok N → N < 1000000 → ∀ x : Int, w64 x →
      Calls Try.prog 22 #[.int .i64 x, .pointer (some ⟨q, 0, none⟩)] w fun e w' => e = .returned (.tuple #[.int .i64 (M.nxR x), .int .i64 (M.nxT x), .int .i64 (M.nxE x)]) ∧ Still w w') : RingApi7 rT where
  make_ok := fun n ov w h1 h2 => rmake_ok n ov w h1 h2
  claim := fun h hM hN x hx => rclaim_any h hM hN x hx
  pub := fun h hM hN x hx => rpub_any h hM hN x hx
  head := fun ⟨_, _, _, _, H⟩ hM _ => (rhead_any H hM.pos).mono fun e w' ⟨h1, h2⟩ => ⟨h1, h2 ▸ Turned.refl _ _⟩
  tail := fun {w W q M N} ⟨_, _, _, _, H⟩ hM hN => rtail_any H hM.pos M.tail (by rw [RM.refs_len]; rfl) (by have := hM.low; omega)
  lost := hl
  next := hx
end Go.Proofs.Ytliaaggjefjbeaa
