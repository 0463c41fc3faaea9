/-
  The specification's draws of bytes.
-/
import Derived.Test.YtcpjcdbhcllbiaaRdy
import Derived.Test.YtcpjcdbhcllbiaaByAppend
import Derived.Test.YtcpjcdbhcllbiaaRecBytes
import Derived.Test.YtcpjcdbhcllbiaaRecApp
import Derived.Handy
import Derived.Deep.DeepCutAuto
set_option linter.unusedVariables false
namespace Go.Proofs.Ytcpjcdbhcllbiaa
open Go.RowKit Go.Maps Go.Deep

theorem ByRow.turnG {B : Nat} {g : Nat} {w w' : World} {v : Value} {bs : List UInt8} (h : ByRow B w v bs) (ht : Turn [g] w w') (hg : g < B) : ByRow B w' v bs := h.turn ht (fun k hk hm => by have := h.ge k hk; simp at hm; omega)
theorem RcRow.turnG {B : Nat} {g : Nat} {w w' : World} {v : Value} {rs : List RecV} (h : RcRow B w v rs) (ht : Turn [g] w w') (hg : g < B) : RcRow B w' v rs := h.keep (fun k hk => ht.block k (h.lt k hk) (fun hm => by have := h.ge k hk; simp at hm; omega))
def RetRaw (base g N n : Nat) (w0 w : World) (e : Ending) (w' : World) : Prop := ∃ a c bs, e = .returned (.slice a n c) ∧ Hid (ByRow w.heap.size w' (.slice a n c) bs) ∧ bs.length = n ∧ Hid (Rdy base g N w0 w') ∧ Hid (w.heap.size ≤ w'.heap.size)
end Go.Proofs.Ytcpjcdbhcllbiaa
