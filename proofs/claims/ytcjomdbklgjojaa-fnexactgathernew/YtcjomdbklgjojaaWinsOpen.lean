/-
  A list of windows that comes in is opened.
-/
import Derived.Test.YtcjomdbklgjojaaWinsTo
import Derived.Test.YtcjomdbklgjojaaItemOpen
set_option linter.unusedVariables false
namespace Go.Proofs.Ytcjomdbklgjojaa
open Go.RowKit Go.Maps Go.Deep

end Go.Proofs.Ytcjomdbklgjojaa
