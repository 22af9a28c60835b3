/- The program's track keeps the words of layer 18. No condition. -/
import Derived.Test.YtdlkdagmaeapdaaFnApi
import Derived.Test.YtdlkdagmaeapdaaFnDo
namespace Go.Proofs.Ytdlkdagmaeapdaa
open Go.RowKit
set_option linter.unusedVariables false
set_option linter.unusedSimpArgs false
set_option maxRecDepth 100000

theorem fence_api : FenceApi fnT lgT where
  make_no := fnmake_no
  make_ok := fnmake_ok
  peek := fun h hM x t _ _ _ _ => (fnpeek_any h x t).mono fun e w' ⟨he, hw⟩ => ⟨he, by rw [← hw]; exact Turned.refl _ _⟩
  del := fun h hM x t _ _ _ _ => fndel_any h hM x t
  com := fun h hM x _ _ => fncom_any h hM x
  seek := fun h hM x a b _ _ _ _ _ _ => fnseek_any h hM x a b
  back := fun h hM => fnback_any h hM
  next := fun h hM => fnnext_any h
  committed := fun h hM => fncommitted_any h hM
  ledger := fun h hM => fnledger_any h hM
end Go.Proofs.Ytdlkdagmaeapdaa
