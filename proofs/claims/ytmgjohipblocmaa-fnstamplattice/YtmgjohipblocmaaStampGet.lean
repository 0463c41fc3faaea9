/-
  StampGet of both sides.
-/
import Derived.Test.YtmgjohipblocmaaStampI
import Derived.Test.YtmgjohipblocmaaStampGetM
set_option linter.unusedVariables false
namespace Go.Proofs.Ytmgjohipblocmaa
open Go.RowKit Go.Maps Go.Deep

def getOut (ns : List MarkV) (s : ByteArray) : Int := if mstampB ns then getV ns s else 0
end Go.Proofs.Ytmgjohipblocmaa
