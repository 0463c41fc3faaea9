/-
  WindowOk of the program.
-/
import Derived.Test.YtnnhdgaokifcoaaWinOf
set_option linter.unusedVariables false
namespace Go.Proofs.Ytnnhdgaokifcoaa
open Go.RowKit Go.Maps Go.Deep

theorem retWin_form {w : World} {ns : List ItemV} {e : Ending} {w' : World} (h : RetWin w ns e w') : ∃ p, e = .returned (.tuple #[p, .bool (windowB orderOut ns)]) := by
  rcases h with ⟨h1, h2⟩ | ⟨h1, g, xs, h2, _⟩
  · exact ⟨_, by rw [h1]; exact h2⟩
  · exact ⟨_, by rw [h1]; exact h2⟩
theorem specWindow_ok (ns : List ItemV) (v : Value) (w : World) (hs : SmallItemS ns) (h : ItemSRd w v ns) : Calls Try.prog 19 #[v] w fun e w' => e = .returned (.bool (windowB orderOut ns)) ∧ Below w.heap.size w w' := specWindow_any orderOut ordSaid ns v w hs h
end Go.Proofs.Ytnnhdgaokifcoaa
