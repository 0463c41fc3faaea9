/-
  The specification's spoiling of bytes: one turned, cut, or more behind.
-/
import Derived.Test.YtjflakafphbkmaaDraw33
import Derived.Test.YtjflakafphbkmaaRowBits
import Derived.Test.YtjflakafphbkmaaByReader
set_option linter.unusedVariables false
namespace Go.Proofs.Ytjflakafphbkmaa
open Go.RowKit Go.Maps Go.Deep

def RetT33 (base g N B L : Nat) (w0 w : World) (e : Ending) (w' : World) : Prop := ∃ a n c bs, e = .returned (.slice a n c) ∧ Hid (ByRow B w' (.slice a n c) bs) ∧ Hid (bs.length ≤ L) ∧ Hid (Rdy base g N w0 w') ∧ Hid (w.heap.size ≤ w'.heap.size)
end Go.Proofs.Ytjflakafphbkmaa
