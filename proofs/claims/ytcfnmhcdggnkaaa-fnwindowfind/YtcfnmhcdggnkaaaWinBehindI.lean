/-
  Windows: the program's comesBehind.
-/
import Derived.Test.YtcfnmhcdggnkaaaMerged28
import Derived.Test.YtcfnmhcdggnkaaaWinS
import Derived.Test.YtcfnmhcdggnkaaaOrderS
set_option linter.unusedVariables false
namespace Go.Proofs.Ytcfnmhcdggnkaaa
open Go.RowKit Go.Maps Go.Deep

theorem ordSaid : OrdSaid orderOut := fun xa va xb vb w hsa hsb hA hB => specOrder_any xa va xb vb w hsa hsb hA hB
set_option maxHeartbeats 3200000 in
theorem comesBehind_any (xa : List MarkV) (va : Value) (xb : List MarkV) (vb : Value) (w : World) (hsa : SmallMarkS xa) (hsb : SmallMarkS xb) (hA : MarkSRd w va xa) (hB : MarkSRd w vb xb) :
    Calls Try.prog 40 #[va, vb] w fun e w' => e = .returned (.bool (aboveB orderOut xa xb)) ∧ Below w.heap.size w w' := by
  have HS := hide (fun W (bb : Below w.heap.size w W) => equalFunc_any xa va xb vb W hsa hsb (hA.up bb) (hB.up bb))
  have HO := hide (fun W (bb : Below w.heap.size w W) => implOrder_any xa va xb vb W hsa hsb (hA.up bb) (hB.up bb))
  obtain ⟨a, n, c, rfl⟩ := hA.form
  obtain ⟨a2, n2, c2, rfl⟩ := hB.form
  clear hA hB hsa hsb
  unfold aboveB
  generalize srcB xa xb = s at *
  generalize orderOut xa xb = o at *
  go_enter Try.func40, Try.ntmps40
  go_wp2_with fail
  refine (unhide HS _ (by go_grown)).mono ?_
  rintro e w1 ⟨rfl, b1⟩
  have B1 := hide (show Below w.heap.size w w1 from Below.trans (by go_grown) (b1.mono (by simp)))
  clear b1 HS
  cases s
  · go_wp2_with fail
    go_ret
    exact ⟨rfl, unhide B1⟩
  · go_wp2_with fail
    refine (unhide HO _ (unhide B1)).mono ?_
    rintro e w2 ⟨rfl, b2⟩
    have B2 := hide ((unhide B1).trans (b2.mono (unhide B1).size))
    clear b2
    go_wp2_with fail
    go_ret
    exact ⟨by simp, unhide B2⟩
end Go.Proofs.Ytcfnmhcdggnkaaa
