/- The program's shares keep the words of layer 16. No condition. -/
import Derived.Test.YtlnbgfglpdkifaaShAsg
import Derived.Test.YtlnbgfglpdkifaaShMov
import Derived.Test.YtlnbgfglpdkifaaShEvn
import Derived.Test.YtlnbgfglpdkifaaShApi
namespace Go.Proofs.Ytlnbgfglpdkifaa
open Go.RowKit
set_option linter.unusedVariables false
set_option maxRecDepth 100000

theorem share_api : ShareApi where
  assign {w ao bo co ms ps os m n k c1 c2 c3} hm hn hk h1 h2 h3 hA hB hC E l r hE hl hr := by
    subst hE hl
    refine (shasg_any w ao bo co ms ps os m n k c1 c2 c3 r hm hn hk h1 h2 h3 hA hB hC hr).mono ?_
    rintro e w' ⟨a, c, he, ho, hs⟩
    exact ⟨a, c, he, RowAt.of_own encOw_len ho hr, hs⟩
  of_ {w co os k c3} hk h1 hC hnd x r hr := shof_any w co os k c3 r x hk h1 hC hnd hr
  moved {w ao bo was now m n c1 c2} hm hn h1 h2 hA hB hnd l r hl hr := by
    subst hl
    exact shmov_any w ao bo was now m n c2 c1 r hm hn h1 h2 hA hB hnd hr
  even {w ao co ms os m k c1 c3} hm hk h1 h2 hA hC hc hnd x hx := by
    subst hx
    exact sheven_any w ao co ms os m k c1 c3 hm hk h1 h2 hc hA hC hnd
end Go.Proofs.Ytlnbgfglpdkifaa
