/-
  A list of items that comes in is opened.
-/
import Derived.Test.YtcjomdbklgjojaaItemList
import Derived.ProofKit
import Derived.OpenShut
set_option linter.unusedVariables false
namespace Go.Proofs.Ytcjomdbklgjojaa
open Go.RowKit Go.Maps Go.Deep

end Go.Proofs.Ytcjomdbklgjojaa
