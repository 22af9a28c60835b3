/- The program's names keep the words that the walks want of them. No condition. -/
import Derived.Test.YthioimecelaaiaaNameHold
namespace Go.Proofs.Ythioimecelaaiaa
open Go.RowKit

theorem name_api : NameApi where
  check := fun l w h => chk_any l w (by omega)
  levels := fun l w h => levels_any8 l w (by omega)
  of := fun ls w ao n cap hn hA hW h20 hs => of_any8 ls w ao n cap hn hA hW h20 hs
  depth := fun l w h => depth_any8 l w (by omega)
  hidden := fun l w h => hidden_any8 l w (by omega)
  above := fun l d w h hd => above_any8 l d w h hd
  compare := fun a b w ha hb => compare_any8 a b w (by omega) (by omega)
end Go.Proofs.Ythioimecelaaiaa
