/-
  One item's marks written, and found again.
-/
import Derived.Test.YtcjomdbklgjojaaItemTo
import Derived.Test.YtcjomdbklgjojaaMarkHeld
set_option linter.unusedVariables false
namespace Go.Proofs.Ytcjomdbklgjojaa
open Go.RowKit Go.Maps Go.Deep

end Go.Proofs.Ytcjomdbklgjojaa
