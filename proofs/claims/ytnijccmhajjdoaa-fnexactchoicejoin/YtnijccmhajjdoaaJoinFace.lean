/-
  StampJoin of both sides, whatever marks come.
-/
import Derived.Test.YtnijccmhajjdoaaJoinI
set_option linter.unusedVariables false
namespace Go.Proofs.Ytnijccmhajjdoaa
open Go.RowKit Go.Maps Go.Deep Go.Shelf

attribute [local go_sem] Oper.semAt_some

theorem retJoin_no {xa xb : List MarkV} {w w' : World} (h : mstampB xa = false ∨ mstampB xb = false) (hb : Below w.heap.size w w') : RetJoin xa xb w (.returned (.tuple #[.slice none 0 0, .bool false])) w' := by
  have hE : joinOkB xa xb = false := by
    unfold joinOkB
    rcases h with h | h <;> simp [h]
  exact ⟨_, by rw [hE], hide (by unfold joinV; rw [hE, if_neg (by simp)]; exact MkRow.nil _ _), hb⟩
set_option maxHeartbeats 1600000 in
theorem specJoin_any (xa : List MarkV) (va : Value) (xb : List MarkV) (vb : Value) (w : World) (hsa : SmallMarkS xa) (hsb : SmallMarkS xb) (hA : MarkSRd w va xa) (hB : MarkSRd w vb xb) :
    Calls Try.prog 27 #[va, vb] w fun e w' => RetJoin xa xb w e w' := by
  have HO1 := hide (fun W (bb : Below w.heap.size w W) => specStampOk_any xa va W hsa (hA.up bb))
  have HO2 := hide (fun W (bb : Below w.heap.size w W) => specStampOk_any xb vb W hsb (hB.up bb))
  obtain ⟨a, ca, rfl, hA⟩ := hA
  obtain ⟨b, cb, rfl, hB⟩ := hB
  cases oa : mstampB xa
  · have NO := hide (fun w' => retJoin_no (xa := xa) (xb := xb) (w := w) (w' := w') (.inl oa))
    rw [oa] at HO1
    clear hA hB hsa hsb oa
    generalize xa.length = n at *
    generalize xb.length = n' at *
    go_enter Try.func27, Try.ntmps27
    go_wp2_with fail
    refine (unhide HO1 _ (Below.refl _ _)).mono ?_
    rintro e w1 ⟨rfl, b1⟩
    have B1 := hide b1
    clear b1
    go_wp2_with fail
    refine bodyPost_ret (v := .tuple #[.slice none 0 0, .bool false]) (by simp [results, Try.results27, go_sem]) rfl ?_
    exact unhide NO _ (unhide B1)
  · cases ob : mstampB xb
    · have NO := hide (fun w' => retJoin_no (xa := xa) (xb := xb) (w := w) (w' := w') (.inr ob))
      rw [oa] at HO1
      rw [ob] at HO2
      clear hA hB hsa hsb oa ob
      generalize xa.length = n at *
      generalize xb.length = n' at *
      go_enter Try.func27, Try.ntmps27
      go_wp2_with fail
      refine (unhide HO1 _ (Below.refl _ _)).mono ?_
      rintro e w1 ⟨rfl, b1⟩
      have B1 := hide b1
      clear b1
      go_wp2_with fail
      refine (unhide HO2 _ (unhide B1)).mono ?_
      rintro e w2 ⟨rfl, b2⟩
      have B2 := hide ((unhide B1).trans (b2.mono (unhide B1).size))
      clear b2
      go_wp2_with fail
      refine bodyPost_ret (v := .tuple #[.slice none 0 0, .bool false]) (by simp [results, Try.results27, go_sem]) rfl ?_
      exact unhide NO _ (unhide B2)
    · exact specJoin_yes a b ca cb xa xb w hsa hsb oa ob hA hB
set_option maxHeartbeats 3200000 in
set_option maxRecDepth 20000 in
theorem implJoin_any (xa : List MarkV) (va : Value) (xb : List MarkV) (vb : Value) (w : World) (hsa : SmallMarkS xa) (hsb : SmallMarkS xb) (hA : MarkSRd w va xa) (hB : MarkSRd w vb xb) :
    Calls Try.prog 29 #[va, vb] w fun e w' => RetJoin xa xb w e w' := by
  have HO1 := hide (fun W (bb : Below w.heap.size w W) => implStampOk_any xa va W hsa (hA.up bb))
  have HO2 := hide (fun W (bb : Below w.heap.size w W) => implStampOk_any xb vb W hsb (hB.up bb))
  obtain ⟨a, ca, rfl, hA⟩ := hA
  obtain ⟨b, cb, rfl, hB⟩ := hB
  have bR := (Boxed.new w 30 (.slice none 0 0)).alloc (.cells #[.bool false] 4)
  have bQ := Boxed.new (w.alloc (.cells #[.slice none 0 0] 30)) 4 (.bool false)
  rw [World.size_alloc] at bQ
  have bl := ((Below.refl w.heap.size w).alloc (Nat.le_refl _) (.cells #[.slice none 0 0] 30)).alloc (by simp) (.cells #[.bool false] 4)
  cases oa : mstampB xa
  · have NO := hide (fun w' => retJoin_no (xa := xa) (xb := xb) (w := w) (w' := w') (.inl oa))
    rw [oa] at HO1
    refine (callsIn_wide (n := 3)).1 ?_
    refine callsIn_of_wp_marks Try.func29 rfl trivial ?_ rfl
    simp only [Try.ntmps29, List.size_toArray, List.length_cons, List.length_nil, Nat.reduceAdd, Nat.reduceSub, Array.replicate_succ, Array.replicate_zero, List.push_toArray, List.append_toArray, List.nil_append, List.cons_append]
    gi_wp2_with fail
    generalize (w.alloc (.cells #[.slice none 0 0] 30)).alloc (.cells #[.bool false] 4) = w0 at *
    refine ⟨trivial, ?_⟩
    refine (callsIn_wide.2 (unhide HO1 _ bl)).mono ?_
    rintro e w1 ⟨rfl, b1⟩
    have bR1 := boxed_up bR b1
    have bQ1 := boxed_up bQ b1
    have bl1 := bl.trans (b1.mono bl.size)
    have cR := bR1.cell
    have fR := bR1.frozen
    have cQ := bQ1.cell
    have fQ := bQ1.frozen
    have n1 : ¬ (w.heap.size = w.heap.size + 1) := by omega
    clear b1 bR bQ bl
    gi_wp2
    refine ⟨trivial, ?_⟩
    gi_wp2
    have hc5 := ((bR1.set (.slice none 0 0)).other (B' := w.heap.size + 1) (by omega) (.bool false)).cell
    have hc6 := ((bQ1.other (B' := w.heap.size) (by omega) (.slice none 0 0)).set (.bool false)).cell
    refine ⟨.tuple #[.slice none 0 0, .bool false], ?_, unhide NO _ ((bl1.setCell (p := ⟨w.heap.size, 0, none⟩) (by simp) _).setCell (p := ⟨w.heap.size + 1, 0, none⟩) (by simp) _)⟩
    simp [results, Try.f29, go_sem, hc5, hc6]
  · cases ob : mstampB xb
    · have NO := hide (fun w' => retJoin_no (xa := xa) (xb := xb) (w := w) (w' := w') (.inr ob))
      rw [oa] at HO1
      rw [ob] at HO2
      refine (callsIn_wide (n := 3)).1 ?_
      refine callsIn_of_wp_marks Try.func29 rfl trivial ?_ rfl
      simp only [Try.ntmps29, List.size_toArray, List.length_cons, List.length_nil, Nat.reduceAdd, Nat.reduceSub, Array.replicate_succ, Array.replicate_zero, List.push_toArray, List.append_toArray, List.nil_append, List.cons_append]
      gi_wp2_with fail
      generalize (w.alloc (.cells #[.slice none 0 0] 30)).alloc (.cells #[.bool false] 4) = w0 at *
      refine ⟨trivial, ?_⟩
      refine (callsIn_wide.2 (unhide HO1 _ bl)).mono ?_
      rintro e w1 ⟨rfl, b1⟩
      have bR1 := boxed_up bR b1
      have bQ1 := boxed_up bQ b1
      have bl1 := bl.trans (b1.mono bl.size)
      clear b1 bR bQ bl
      gi_wp2_with fail
      refine ⟨trivial, ?_⟩
      refine (callsIn_wide.2 (unhide HO2 _ bl1)).mono ?_
      rintro e w2 ⟨rfl, b2⟩
      have bR2 := boxed_up bR1 b2
      have bQ2 := boxed_up bQ1 b2
      have bl2 := bl1.trans (b2.mono bl1.size)
      have cR := bR2.cell
      have fR := bR2.frozen
      have cQ := bQ2.cell
      have fQ := bQ2.frozen
      have n1 : ¬ (w.heap.size = w.heap.size + 1) := by omega
      clear b2 bR1 bQ1 bl1
      gi_wp2
      have hc5 := ((bR2.set (.slice none 0 0)).other (B' := w.heap.size + 1) (by omega) (.bool false)).cell
      have hc6 := ((bQ2.other (B' := w.heap.size) (by omega) (.slice none 0 0)).set (.bool false)).cell
      refine ⟨.tuple #[.slice none 0 0, .bool false], ?_, unhide NO _ ((bl2.setCell (p := ⟨w.heap.size, 0, none⟩) (by simp) _).setCell (p := ⟨w.heap.size + 1, 0, none⟩) (by simp) _)⟩
      simp [results, Try.f29, go_sem, hc5, hc6]
    · exact (callsIn_wide (n := 3)).1 (join_yesyes a b ca cb xa xb w hsa hsb oa ob hA hB)
theorem getV_range {ns : List MarkV} (h : MarkOk ns) (s : ByteArray) : -9223372036854775808 ≤ getV ns s ∧ getV ns s ≤ 9223372036854775807 := by
  induction ns with
  | nil => simp [getV]
  | cons x xs ih =>
    unfold getV
    split
    · exact (h x (by simp)).2
    · exact ih (fun y hy => h y (by simp [hy]))
theorem small_join {xa xb : List MarkV} (hsa : SmallMarkS xa) (hsb : SmallMarkS xb) : SmallMarkS (joinV xa xb) := by
  unfold joinV
  split
  · rename_i hok
    unfold joinOkB at hok
    simp only [Bool.and_eq_true, decide_eq_true_eq] at hok
    obtain ⟨⟨oa, ob⟩, hl⟩ := hok
    have key : ∀ z ∈ joinL xa xb, z.a0.size ≤ 1048576 ∧ (-9223372036854775808 ≤ z.a1 ∧ z.a1 ≤ 9223372036854775807) := fun z hz => by
      obtain ⟨s, hs, rfl⟩ := joinL_src (asc_of_stamp oa) (asc_of_stamp ob) hz
      rw [maxP_src, maxP_ver]
      refine ⟨?_, ?_⟩
      · rcases hs with ⟨x, hx, rfl⟩ | ⟨x, hx, rfl⟩
        · exact hsa.1.2 x hx
        · exact hsb.1.2 x hx
      · split
        · exact getV_range hsb.2 s
        · exact getV_range hsa.2 s
    exact ⟨⟨by omega, fun z hz => (key z hz).1⟩, fun z hz => ⟨by have := (key z hz).1; unfold maxLen; omega, (key z hz).2⟩⟩
  · exact ⟨⟨by simp, by simp⟩, by intro x hx; simp at hx⟩
theorem specJoin_kit (xa : List MarkV) (va : Value) (xb : List MarkV) (vb : Value) (w : World) (hsa : SmallMarkS xa) (hsb : SmallMarkS xb) (hA : MarkSRd w va xa) (hB : MarkSRd w vb xb) :
    Calls Try.prog 27 #[va, vb] w fun e w' => ∃ v, e = .returned (.tuple #[v, .bool (joinOkB xa xb)]) ∧ Hid (MarkSRd w' v (joinV xa xb)) ∧ Below w.heap.size w w' := by
  refine (specJoin_any xa va xb vb w hsa hsb hA hB).mono ?_
  rintro e w' ⟨v, rfl, h, b⟩
  exact ⟨v, rfl, hide (unhide h).rd, b⟩
theorem implJoin_kit (xa : List MarkV) (va : Value) (xb : List MarkV) (vb : Value) (w : World) (hsa : SmallMarkS xa) (hsb : SmallMarkS xb) (hA : MarkSRd w va xa) (hB : MarkSRd w vb xb) :
    Calls Try.prog 29 #[va, vb] w fun e w' => ∃ v S, e = .returned (.tuple #[v, .bool (joinOkB xa xb)]) ∧ Hid (MarkSOwn S w' v (joinV xa xb)) ∧ Hid (∀ k ∈ S, w.heap.size ≤ k) ∧ Below w.heap.size w w' := by
  refine (implJoin_any xa va xb vb w hsa hsb hA hB).mono ?_
  rintro e w' ⟨v, rfl, h, b⟩
  obtain ⟨S, h1, h2, _⟩ := (unhide h).own
  exact ⟨v, S, rfl, h1, h2, b⟩
end Go.Proofs.Ytnijccmhajjdoaa
