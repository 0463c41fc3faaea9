/-
  StampOnly of both sides, whatever comes.
-/
import Derived.Test.YtmgmmgjlagkdoaaOnlyI
set_option linter.unusedVariables false
namespace Go.Proofs.Ytmgmmgjlagkdoaa
open Go.RowKit Go.Maps Go.Deep

theorem retOnly_no {ns : List MarkV} {names : List ByteArray} {w w' : World} (h : mstampB ns = false) (hb : Below w.heap.size w w') : RetOnly ns names w (.returned (.slice none 0 0)) w' :=
  ⟨_, rfl, hide (by unfold onlyV; rw [h, if_neg (by simp)]; exact MkRow.nil _ _), hb⟩
theorem specOnly_any (ns : List MarkV) (va : Value) (names : List ByteArray) (vb : Value) (w : World) (hsa : SmallMarkS ns) (hsb : SmallStringS names) (hA : MarkSRd w va ns) (hB : StringSRd w vb names) :
    Calls Try.prog 9 #[va, vb] w fun e w' => RetOnly ns names w e w' := by
  have HO1 := hide (fun W (bb : Below w.heap.size w W) => specStampOk_any ns va W hsa (hA.up bb))
  obtain ⟨a, ca, rfl, hA⟩ := hA
  obtain ⟨b, cb, rfl, hB⟩ := hB
  cases oa : mstampB ns
  · have NO := hide (fun w' => retOnly_no (names := names) (w := w) (w' := w') oa)
    rw [oa] at HO1
    clear hA hB hsa hsb oa
    generalize ns.length = n at *
    generalize names.length = n' at *
    go_enter Try.func9, Try.ntmps9
    go_wp2_with fail
    refine (unhide HO1 _ (Below.refl _ _)).mono ?_
    rintro e w1 ⟨rfl, b1⟩
    have B1 := hide b1
    clear b1
    go_wp2_with fail
    go_ret
    exact unhide NO _ (unhide B1)
  · exact specOnly_yes a b ca cb ns names w hsa hsb oa hA hB
theorem implOnly_any (ns : List MarkV) (va : Value) (names : List ByteArray) (vb : Value) (w : World) (hsa : SmallMarkS ns) (hsb : SmallStringS names) (hA : MarkSRd w va ns) (hB : StringSRd w vb names) :
    Calls Try.prog 7 #[va, vb] w fun e w' => RetOnly ns names w e w' := by
  have HO1 := hide (fun W (bb : Below w.heap.size w W) => implStampOk_any ns va W hsa (hA.up bb))
  obtain ⟨a, ca, rfl, hA⟩ := hA
  obtain ⟨b, cb, rfl, hB⟩ := hB
  cases oa : mstampB ns
  · have NO := hide (fun w' => retOnly_no (names := names) (w := w) (w' := w') oa)
    rw [oa] at HO1
    clear hA hB hsa hsb oa
    generalize ns.length = n at *
    generalize names.length = n' at *
    go_enter Try.func7, Try.ntmps7
    go_wp2_with fail
    refine (unhide HO1 _ (Below.refl _ _)).mono ?_
    rintro e w1 ⟨rfl, b1⟩
    have B1 := hide b1
    clear b1
    go_wp2_with fail
    go_ret
    exact unhide NO _ (unhide B1)
  · exact implOnly_yes a b ca cb ns names w hsa hsb oa hA hB
theorem small_only {ns : List MarkV} (h : SmallMarkS ns) (names : List ByteArray) : SmallMarkS (onlyV ns names) := by
  unfold onlyV
  split
  · have hm : ∀ x ∈ onlyL names ns, x ∈ ns := fun x hx => (List.mem_filter.1 hx).1
    exact ⟨⟨by have := onlyL_len names ns; have := h.1.1; omega, fun x hx => h.1.2 x (hm x hx)⟩, fun x hx => h.2 x (hm x hx)⟩
  · exact ⟨⟨by simp, by simp⟩, by intro x hx; simp at hx⟩
theorem specOnly_kit (ns : List MarkV) (va : Value) (names : List ByteArray) (vb : Value) (w : World) (hsa : SmallMarkS ns) (hsb : SmallStringS names) (hA : MarkSRd w va ns) (hB : StringSRd w vb names) :
    Calls Try.prog 9 #[va, vb] w fun e w' => ∃ v, e = .returned v ∧ Hid (MarkSRd w' v (onlyV ns names)) ∧ Below w.heap.size w w' := by
  refine (specOnly_any ns va names vb w hsa hsb hA hB).mono ?_
  rintro e w' ⟨v, rfl, h, b⟩
  exact ⟨v, rfl, hide (unhide h).rd, b⟩
theorem implOnly_kit (ns : List MarkV) (va : Value) (names : List ByteArray) (vb : Value) (w : World) (hsa : SmallMarkS ns) (hsb : SmallStringS names) (hA : MarkSRd w va ns) (hB : StringSRd w vb names) :
    Calls Try.prog 7 #[va, vb] w fun e w' => ∃ v S, e = .returned v ∧ Hid (MarkSOwn S w' v (onlyV ns names)) ∧ Hid (∀ k ∈ S, w.heap.size ≤ k) ∧ Below w.heap.size w w' := by
  refine (implOnly_any ns va names vb w hsa hsb hA hB).mono ?_
  rintro e w' ⟨v, rfl, h, b⟩
  obtain ⟨S, h1, h2, _⟩ := (unhide h).own
  exact ⟨v, S, rfl, h1, h2, b⟩
end Go.Proofs.Ytmgmmgjlagkdoaa
