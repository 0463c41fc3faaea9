/-
  The specification's drawing of a body, whole; and how one in ten is spoiled.
-/
import Derived.Test.YtmoepeaolacidaaDoorDrawBody
namespace Go.Proofs.YtmoepeaolacidaaDoor
open Go.RowKit Go.Maps Go.Deep

theorem Turn.join {S S' : List Nat} {a b c : World} (h : Turn S a b) (k : Turn S' b c) (hS : ∀ x ∈ S', x ∈ S ∨ a.heap.size ≤ x) : Turn S a c :=
  ⟨k.os.trans h.os, k.tape.trans h.tape, k.output.trans h.output, Nat.le_trans h.size k.size,
    fun i hi hm => (k.block i (Nat.lt_of_lt_of_le hi h.size) (fun e => (hS i e).elim hm (fun e => by omega))).trans (h.block i hi hm)⟩
theorem RetDraw.weaken {base g p q K C K' C' : Nat} {w w0 : World} {e : Ending} {w' : World} (h : RetDraw base g q K C w e w') (ht : Turn [g] w0 w) (hK : K ≤ K') (hpq : p ≤ q) (hC : q + C ≤ p + C') : RetDraw base g p K' C' w0 e w' := by
  obtain ⟨⟨k, cap, ns, rfl, hrow, h1, h2, h3⟩, ht2, q2, hq1, hq2, hr⟩ := h
  exact ⟨⟨k, cap, ns, rfl, hrow.mono ht.size, h1, by omega, h3⟩, ht.trans ht2, q2, by omega, by omega, hr⟩

set_option maxHeartbeats 6400000 in
theorem l31Body_any (w : World) (base g p : Nat) (hp : p ≤ 100000000000) (hr : RdIn base w g p) :
    Calls Tryd.prog 17 #[.pointer (some ⟨g, 0, none⟩)] w fun e w' => RetDraw base g p 10000 70000 w e w' := by
  have hgw := hr.lt
  have hgb := hr.above
  have HR := hide hr
  clear hr
  go_enter Tryd.func17, Tryd.ntmps17
  go_wp2_with fail
  refine (pick_any _ base g p 40 (by omega) (by omega) (by omega) (unhide HR)).mono ?_
  rintro e w1 ⟨v, rfl, hv0, hv1, hr1, ht1⟩
  have hs1 := ht1.size
  have hTA : Turn [] w1 (w1.alloc (.cells #[.int .i64 (10 + v)] 3)) := Turn.of_alloc _ _ _
  have HR1 := hide (hr1.turn hTA (by simp) (by simp))
  have HT1 := hide (ht1.trans (hTA.mono (by simp)))
  clear hr1 ht1 hTA
  go_wp2_with fail
  refine (pick_any _ base g (p + 1) 7 (by omega) (by omega) (by omega) (unhide HR1)).mono ?_
  rintro e w2 ⟨u, rfl, hu0, hu1, hr2, ht2⟩
  have hs2 := ht2.size
  simp at hs2
  have hcl : w2.cell? ⟨w1.heap.size, 0, none⟩ = some (.int .i64 (10 + v)) := (ht2.cell (by simp) (by simp; omega)).trans (World.cell?_alloc_at _ _ _ _ rfl)
  have hfl : w2.frozen? ⟨w1.heap.size, 0, none⟩ = false := (ht2.frozen (by simp) (by simp; omega)).trans (World.frozen?_alloc_at _ _ _ _ rfl)
  have HT2 := hide ((unhide HT1).trans ht2)
  obtain ⟨d, hd⟩ := Int.eq_ofNat_of_zero_le (show 0 ≤ 2 + u by omega)
  have hd8 : d ≤ 8 := by omega
  have hNd := nN_le d hd8
  have hNp := nN_pos d
  have HC := hide (l31Tree_any d (by omega) w2 base g w1.heap.size (p + 1 + 1) (10 + v) hr2 (by omega) (by omega) (by omega) (by omega) hcl hfl (by omega) (by omega))
  rw [← hd] at HC
  clear hr2 ht2 hcl hfl hd
  go_wp2_with fail
  refine (unhide HC).mono ?_
  rintro e w3 ⟨⟨k, cap, ns, rfl, hrow, hn1, hn2, hsn⟩, q, L', hq1, hq2, hr3, _, _, _, _, ht3⟩
  have HT3 := hide ((unhide HT2).join ht3 (by simp; omega))
  have HR3 := hide hr3
  have HROW := hide (And.intro hrow hsn)
  have hs3 := ht3.size
  clear hr3 ht3 hrow hsn HC
  go_wp2_with fail
  refine (pick_any _ base g q 40 (by omega) (by omega) (by omega) (unhide HR3)).mono ?_
  rintro e w4 ⟨z, rfl, hz0, hz1, hr4, ht4⟩
  have hkb := (unhide HROW).1.block
  have HT4 := hide ((unhide HT3).trans ht4)
  have HROW4 := hide (And.intro ((unhide HROW).1.turn ht4 (by simp; omega)) (unhide HROW).2)
  have HR4 := hide hr4
  have hs4 := ht4.size
  clear hr4 ht4
  by_cases e0 : z = 0
  · have e0' : (z == 0) = true := by simp [e0]
    clear e0
    go_wp2_with fail
    refine (pick_any _ base g (q + 1) 4 (by omega) (by omega) (by omega) (unhide HR4)).mono ?_
    rintro e w5 ⟨y, rfl, hy0, hy1, hr5, ht5⟩
    have HT5 := hide ((unhide HT4).trans ht5)
    have HR5 := hide hr5
    clear hr5 ht5
    go_wp2_with fail
    refine (l31Chain_any _ base g (q + 1 + 1) _ (by omega) (by omega) (by omega) (unhide HR5)).mono ?_
    intro e w6 hret
    have HX := hide (hret.weaken (p := p) (K' := 10000) (C' := 70000) (unhide HT5) (by omega) (by omega) (by omega))
    obtain ⟨⟨k6, cap6, n6, rfl, _⟩, _⟩ := hret
    go_wp2_with fail
    go_ret
    exact unhide HX
  · have e0' : (z == 0) = false := by simp [e0]
    clear e0
    by_cases e1 : z = 1
    · have e1' : (z == 1) = true := by simp [e1]
      clear e1
      go_wp2_with fail
      refine (pick_any _ base g (q + 1) 5 (by omega) (by omega) (by omega) (unhide HR4)).mono ?_
      rintro e w5 ⟨y, rfl, hy0, hy1, hr5, ht5⟩
      have HT5 := hide ((unhide HT4).trans ht5)
      have HR5 := hide hr5
      clear hr5 ht5
      go_wp2_with fail
      refine (l31Wide_any _ base g (q + 1 + 1) (398 + y).toNat (by omega) (by omega) _ (by omega) (unhide HR5)).mono ?_
      intro e w6 hret
      have HX := hide (hret.weaken (p := p) (K' := 10000) (C' := 70000) (unhide HT5) (by omega) (by omega) (by omega))
      obtain ⟨⟨k6, cap6, n6, rfl, _⟩, _⟩ := hret
      go_wp2_with fail
      go_ret
      exact unhide HX
    · have e1' : (z == 1) = false := by simp [e1]
      clear e1
      by_cases e2 : z = 2
      · have e2' : (z == 2) = true := by simp [e2]
        clear e2
        go_wp2_with fail
        refine (l31Heavy_any _ base g (q + 1) (by omega) (unhide HR4)).mono ?_
        intro e w6 hret
        have HX := hide (hret.weaken (p := p) (K' := 10000) (C' := 70000) (unhide HT4) (by omega) (by omega) (by omega))
        obtain ⟨⟨k6, cap6, n6, rfl, _⟩, _⟩ := hret
        go_wp2_with fail
        go_ret
        exact unhide HX
      · have e2' : (z == 2) = false := by simp [e2]
        clear e2
        have HX := hide (show RetDraw base g p 10000 70000 w (.returned (.slice (some ⟨k, 0, none⟩) ns.length cap)) w4 from
          ⟨⟨k, cap, ns, rfl, (unhide HROW4).1.mono (by omega), hn1, by omega, (unhide HROW4).2⟩, unhide HT4, q + 1, by omega, by omega, unhide HR4⟩)
        go_wp2_with fail
        go_ret
        exact unhide HX

end Go.Proofs.YtmoepeaolacidaaDoor
