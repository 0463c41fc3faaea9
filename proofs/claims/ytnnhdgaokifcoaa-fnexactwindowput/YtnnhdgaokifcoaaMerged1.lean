/-
  WindowOk of the program.
-/
/-
  WindowFind of the specification.
-/
import Derived.Test.YtnnhdgaokifcoaaWinOf
import Derived.Test.YtnnhdgaokifcoaaWinS
import Derived.Test.YtnnhdgaokifcoaaStampGetM
set_option linter.unusedVariables false
namespace Go.Proofs.Ytnnhdgaokifcoaa
open Go.RowKit Go.Maps Go.Deep

theorem retWin_form {w : World} {ns : List ItemV} {e : Ending} {w' : World} (h : RetWin w ns e w') : ∃ p, e = .returned (.tuple #[p, .bool (windowB orderOut ns)]) := by
  rcases h with ⟨h1, h2⟩ | ⟨h1, g, xs, h2, _⟩
  · exact ⟨_, by rw [h1]; exact h2⟩
  · exact ⟨_, by rw [h1]; exact h2⟩
theorem specWindow_ok (ns : List ItemV) (v : Value) (w : World) (hs : SmallItemS ns) (h : ItemSRd w v ns) : Calls Try.prog 19 #[v] w fun e w' => e = .returned (.bool (windowB orderOut ns)) ∧ Below w.heap.size w w' := specWindow_any orderOut ordSaid ns v w hs h
end Go.Proofs.Ytnnhdgaokifcoaa

set_option linter.unusedVariables false
namespace Go.Proofs.Ytnnhdgaokifcoaa
open Go.RowKit Go.Maps Go.Deep

/-- has an item a version of a source, and at most this one? -/
def hitB (x : ItemV) (s : ByteArray) (ver : Int) : Bool := decide (0 < getV x.a1 s) && decide (getV x.a1 s ≤ ver)
/-- the last of the first k that has -/
def findN (ns : List ItemV) (s : ByteArray) (ver : Int) : Nat → Int
  | 0 => -1
  | k + 1 => if h : k < ns.length then (if hitB ns[k] s ver then (k : Int) else findN ns s ver k) else findN ns s ver k
def findOut (ord : List MarkV → List MarkV → Int) (ns : List ItemV) (s : ByteArray) (ver : Int) : Int := if windowB ord ns then findN ns s ver ns.length else -1
theorem find_hit {ns : List ItemV} {s : ByteArray} {ver : Int} {k : Nat} (h : k < ns.length) (hh : hitB ns[k] s ver = true) : findN ns s ver (k + 1) = (k : Int) := by simp [findN, h, hh]
theorem find_miss {ns : List ItemV} {s : ByteArray} {ver : Int} {k : Nat} (h : k < ns.length) (hh : hitB ns[k] s ver = false) : findN ns s ver (k + 1) = findN ns s ver k := by simp [findN, h, hh]
end Go.Proofs.Ytnnhdgaokifcoaa
