/- The program's ledger keeps its words. No condition. -/
import Derived.Test.YtdlkdagmaeapdaaLgApi
import Derived.Test.YtdlkdagmaeapdaaLgIn
import Derived.Test.YtdlkdagmaeapdaaLgAdd
import Derived.Test.YtdlkdagmaeapdaaLgBack
import Derived.Test.YtdlkdagmaeapdaaLgCopy
namespace Go.Proofs.Ytdlkdagmaeapdaa
open Go.RowKit
set_option linter.unusedVariables false
set_option maxRecDepth 100000

theorem ledger_api : LedgerApi lgT where
  make_no := lgmake_no
  make_ok := lgmake_ok
  accept := fun h hM x _ _ => lgaccept_any h hM x
  skip := fun h hM x _ _ => lgskip_any h hM x
  from_ := fun h hM => lgfrom_any h
  end_ := fun h hM => lgend_any h hM
  accepted := fun h hM m hm => lgaccepted_any h hM hm
  skipped := fun h hM m hm => lgskipped_any h hM hm
  copy := fun h hM => lgcopy_any h hM
end Go.Proofs.Ytdlkdagmaeapdaa
