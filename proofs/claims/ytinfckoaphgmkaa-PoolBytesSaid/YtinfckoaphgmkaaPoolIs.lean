/- The program's pool keeps the words that the statements want of it. No condition. -/
import Derived.Test.YtinfckoaphgmkaaPoolTake
import Derived.Test.YtinfckoaphgmkaaPoolMade
import Derived.Test.YtinfckoaphgmkaaPoolGive
namespace Go.Proofs.Ytinfckoaphgmkaa
open Go.RowKit
set_option linter.unusedVariables false

theorem pool_api : PoolApi pT where
  make_no := fun n s w _ _ h => pmake_no n s w h
  make_ok := fun n s w h1 h2 h3 h4 => pmake_ok n s w h1 h2 h3 h4
  take := fun h hM hN n _ => take_any h hM hN n
  fill := fun h hM _ k _ ao b m cap hm hA _ hle _ hno => fill_any h hM k ao b m cap hm hA hno hle
  keep := fun h hM hN k _ => keep_any h hM hN k
  drop := fun h hM hN k _ => drop_any h hM hN k
  bytes := fun h hM _ k _ => getBytes_any h hM k
  count := fun h hM _ k _ => count_any h hM k
  gen := fun h hM _ k _ => (gen_any h hM k).mono fun e w' ⟨h1, h2⟩ => ⟨h1, h2 ▸ Turned.refl _ _⟩
  free := fun h hM _ n hn => free_any h hM n hn
  slots := fun h hM _ => (slots_any h hM).mono fun e w' ⟨h1, h2⟩ => ⟨h1, h2 ▸ Turned.refl _ _⟩
  size := fun h hM _ => (size_any h hM).mono fun e w' ⟨h1, h2⟩ => ⟨h1, h2 ▸ Turned.refl _ _⟩
end Go.Proofs.Ytinfckoaphgmkaa
