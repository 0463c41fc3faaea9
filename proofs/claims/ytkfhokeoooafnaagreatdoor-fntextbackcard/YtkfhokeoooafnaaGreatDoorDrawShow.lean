/-
  The tree that the specification draws out of a law's input of bytes, for the laws on its text.
-/
import Derived.Test.YtkfhokeoooafnaaGreatDoorSpoil
namespace Go.Proofs.YtkfhokeoooafnaaGreatDoor
open Go.RowKit Go.Maps Go.Deep Go.ChangeShapes Go.WideShapes Go.ChangeAt

def RetDrTree (w : World) (e : Ending) (w' : World) : Prop :=
  ∃ k cap ns, e = .returned (.slice (some ⟨k, 0, none⟩) ns.length cap) ∧ NodesAt w' k 0 ns ∧ ns.length ≤ cap ∧ k < w'.heap.size ∧ w.heap.size ≤ k ∧ ns.length ≤ 20000 ∧ ShortNames ns ∧ Turn [] w w'
set_option maxHeartbeats 1600000 in
theorem drawTreeShow_any (w : World) (a : Option Addr) (n cap : Nat) (hn : n ≤ maxLen) (hc : n ≤ cap) (hb : BytesIn w a n) :
    Calls Tryz.prog 5 #[.slice a n cap] w fun e w' => RetDrTree w e w' := by
  have HB := hide (l1Open_any w a n cap hn hc hb)
  clear hb
  go_enter Tryz.func5, Tryz.ntmps5
  go_wp2_with fail
  refine (unhide HB).mono ?_
  rintro e w1 ⟨g, rfl, hr1, ht1⟩
  have HT1 := hide ht1
  have HR1 := hide hr1
  have hs1 := ht1.size
  have hgl := hr1.lt
  have hgb := hr1.above
  clear ht1 hr1
  go_wp2_with fail
  refine (l31Body_any w1 w.heap.size g 0 (by omega) (unhide HR1)).mono ?_
  rintro e w2 ⟨⟨k, kc, ns, rfl, hrow, hn1, hn2, hsn⟩, ht2, q, hq1, hq2, hr2⟩
  have hkb := hrow.block
  have HX := hide (l31Spoil_any w2 w.heap.size g q w1.heap.size k kc ns (by omega) hr2 hrow (by omega) (by omega) hn1 (by omega) hsn)
  have HT2 := hide ((unhide HT1).join ht2 (by simp; omega))
  clear hrow hsn ht2 hr2
  go_wp2_with fail
  refine (unhide HX).mono ?_
  rintro e w3 ⟨k3, c3, n3, rfl, m3, l3, z3, b3, s3, sn3, ht3, _⟩
  have HP := hide (show RetDrTree w (.returned (.slice (some ⟨k3, 0, none⟩) n3.length c3)) w3 from ⟨k3, c3, n3, rfl, m3, l3, z3, b3, by omega, sn3, (unhide HT2).join ht3 (by simp; omega)⟩)
  clear m3 sn3 ht3
  go_wp2_with fail
  go_ret
  exact unhide HP
end Go.Proofs.YtkfhokeoooafnaaGreatDoor
