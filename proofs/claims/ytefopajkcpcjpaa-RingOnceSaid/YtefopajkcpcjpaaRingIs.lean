/- The program's ring keeps the words that the statements want of it. No condition. -/
import Derived.Test.YtefopajkcpcjpaaRingApi
import Derived.Test.YtefopajkcpcjpaaRingTrim
import Derived.Test.YtefopajkcpcjpaaRingClaim
import Derived.Test.YtefopajkcpcjpaaRingMake
namespace Go.Proofs.Ytefopajkcpcjpaa
open Go.RowKit
set_option linter.unusedVariables false

theorem ring_api : RingApi rT where
  make_no := fun n p w _ _ h => rmake_no n p w h
  make_ok := fun n ov w h1 h2 => rmake_ok n ov w h1 h2
  claim := fun h hM hN x hx => rclaim_any h hM hN x hx
  pub := fun h hM hN x hx => rpub_any h hM hN x hx
  get := fun h hM hN x hx => rget_any h hM hN x hx
  trim := fun h hM hN x _ => rtrim_any h hM hN x
  ready := fun h hM hN x _ => rready_any h hM hN x
  head := fun ⟨_, _, _, _, H⟩ hM _ => (rhead_any H hM.pos).mono fun e w' ⟨h1, h2⟩ => ⟨h1, h2 ▸ Turned.refl _ _⟩
  tail := fun {w W q M N} ⟨_, _, _, _, H⟩ hM hN => rtail_any H hM.pos M.tail (by rw [RM.refs_len]; rfl) (by have := hM.low; omega)
  room := fun ⟨_, _, _, _, H⟩ hM _ => (rroom_any H hM.pos).mono fun e w' ⟨h1, h2⟩ => ⟨h1, h2 ▸ Turned.refl _ _⟩
  refs := fun h hM hN n hn => rrefs_any h hM hN n hn
end Go.Proofs.Ytefopajkcpcjpaa
