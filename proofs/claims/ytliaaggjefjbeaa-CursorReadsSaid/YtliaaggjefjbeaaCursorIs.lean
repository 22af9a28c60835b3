/- The program's calls on windows keep the words that the statements of layer 7 want of them. No condition. -/
import Derived.Test.YtliaaggjefjbeaaCursorDo
import Derived.Test.YtliaaggjefjbeaaCursorSlow
import Derived.Test.YtliaaggjefjbeaaCursorApi
namespace Go.Proofs.Ytliaaggjefjbeaa
open Go.RowKit
set_option linter.unusedVariables false

theorem cursor_api : CursorApi where
  check := fun h t w _ _ => (ccheck7_any h t w).mono fun e w' ⟨h1, h2⟩ => ⟨h1, h2 ▸ Turned.refl _ _⟩
  move := fun a h t w _ _ _ => cmove7_any a h t w
  behind := fun a h t w _ _ _ => cbehind7_any a h t w
  seek := fun a h t w _ _ _ => (cseek7_any a h t w).mono fun e w' ⟨h1, h2⟩ => ⟨h1, h2 ▸ Turned.refl _ _⟩
  slow := fun w ao l n cap hn hA hm => (cslow7_any w ao l n cap hn hA hm).mono fun e w' ⟨h1, h2⟩ => ⟨h1, h2 ▸ Turned.refl _ _⟩
end Go.Proofs.Ytliaaggjefjbeaa
