/-
  DiskWrite of the program, at its face.
-/
import Derived.Test.YtmippilikkfgjaaWriteFace
set_option linter.unusedVariables false
namespace Go.Proofs.Ytmippilikkfgjaa
open Go.RowKit Go.Maps Go.Deep

def wrV (d : DiskV) (bs : List UInt8) : DiskV := if diskOkB d = true then wrOut d bs else noDisk
def wrI (d : DiskV) (bs : List UInt8) : Int := if diskOkB d = true then wrCode d bs else 1
end Go.Proofs.Ytmippilikkfgjaa
