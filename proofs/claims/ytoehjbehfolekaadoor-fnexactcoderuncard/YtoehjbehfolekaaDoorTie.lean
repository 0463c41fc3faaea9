/-
  DERIVED. GIVEN WITH THE SEED: THE PROGRAM's TIES (one call each: nine closed facts by the kernel) AND EACH ROW's TIE, after the 31st guide's Derived/Test/Toyas{Tie, Card}.lean. No idea stands in it: it is a product of the set-up. Laid BY PROGRAM, IN A SANDBOX (cutbox-door.mjs). By AI agents, Wed Nov 11 2026. No macro, syntax, notation, axiom, sorry.
-/
import Derived.Test.YtoehjbehfolekaaDoorRows
import Derived.LaidByTextLater
import Derived.SevenTiedAt
import Derived.LaidSub
import Derived.LaidOnce
namespace Go.Proofs.YtoehjbehfolekaaDoor
open Go
set_option maxRecDepth 100000
theorem seatTie1 : Tryd.prog.laidByTextLater [("loop.example/headrace/impl.shapes", Rows.laid_loop_example_headrace_impl_shapes), ("loop.example/headrace/impl.signWords", Rows.laid_loop_example_headrace_impl_signWords)] [.data, .data] true :=
  Program.laidByTextLater_by_one 42 8 73 (by kernel_rfl) (by kernel_rfl) (by kernel_rfl) (by kernel_rfl) (by kernel_rfl) (by kernel_rfl) (fun _ _ => by kernel_rfl)
theorem noOwnUnsafe : Tryd.pinned.checked.prog.headLifts.contains "ownunsafe" = false := by kernel_rfl
theorem tie : Tryd.prog.laidByTextLater [("loop.example/headrace/impl.shapes", Rows.laid_loop_example_headrace_impl_shapes), ("loop.example/headrace/impl.signWords", Rows.laid_loop_example_headrace_impl_signWords)] [.data, .data] true :=
  Program.laidByTextLater.sub seatTie1 ["loop.example/headrace/impl.shapes", "loop.example/headrace/impl.signWords"] (by kernel_rfl) (by kernel_rfl)
theorem fnExactCodeRun_row_tie : Rows.fnExactCodeRunRow.laidByTextAt .later Tryd.pinned [.data, .data] true :=
  OpenClaim.laidByTextAt_later rfl rfl tie noOwnUnsafe
theorem fnExactCodeRunUpto_row_tie : Rows.fnExactCodeRunUptoRow.laidByTextAt .later Tryd.pinned [.data, .data] true :=
  OpenClaim.laidByTextAt_later rfl rfl tie noOwnUnsafe
end Go.Proofs.YtoehjbehfolekaaDoor
