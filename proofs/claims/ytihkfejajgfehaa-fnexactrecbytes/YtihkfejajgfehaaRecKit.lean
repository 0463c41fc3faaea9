/-
  The laws' helpers over one record, in the form in which the walks of exact laws take them.
-/
import Derived.Test.YtihkfejajgfehaaRecLaw
set_option linter.unusedVariables false
namespace Go.Proofs.Ytihkfejajgfehaa
open Go.RowKit Go.Maps Go.Deep

theorem szRec_kit (r : RecV) (w : World) (hf : RecFit r) :
    Calls Try.prog 5 #[.agg #[.int .i64 r.kind, .string r.name, .int .i64 r.num, .string r.text], .int .i64 1048576] w fun e w' => ∃ q : Int, e = .returned (.int .i64 q) ∧ Hid (0 ≤ q → r.name.size ≤ 1048576 ∧ r.text.size ≤ 1048576) ∧ Below w.heap.size w w' := szRec_any r w hf
theorem toRec_kit (r : RecV) (w : World) : Calls Try.prog 7 #[.agg #[.int .i64 r.kind, .string r.name, .int .i64 r.num, .string r.text]] w fun e w' => e = .returned (.agg #[.int .i64 r.kind, .string r.name, .int .i64 r.num, .string r.text]) ∧ Below w.heap.size w w' := toRec_any r w
end Go.Proofs.Ytihkfejajgfehaa
