/-
  The program's latest: one of the windows that share a source, whose item has the latest version of it.
-/
import Derived.Test.YtpiapgjiaeddjaaMaxI
import Derived.Test.YtpiapgjiaeddjaaNewChI
set_option linter.unusedVariables false
namespace Go.Proofs.Ytpiapgjiaeddjaa
open Go.RowKit Go.Maps Go.Deep

theorem cmp_neg (x y : Int) : decide (cmpI x y < 0) = decide (x < y) := by
  unfold cmpI
  by_cases h1 : x < y
  · simp [h1]
  · rw [if_neg h1]
    split <;> simp [h1]
set_option maxRecDepth 20000 in
set_option maxHeartbeats 800000 in
theorem latest_any {w : World} {bc bm nn g c : Nat} {D : DataW Unit} {G : ByteArray → Hd} {ws : List (List ItemV)} {q : List Int} {ns : List Nat} {s : ByteArray} (h : Sees w bc ws q) (hs : SmallItemSS ws) (h6 : ws.length ≤ 6) (hq : InR ws q) (hm : HdMap w bm nn D G) (b2 : w.cell? ⟨bc, 2, none⟩ = some (.map (some bm)))
    (hsz : s.size ≤ maxLen) (hG : G s = some (g, ns.length, c)) (hc : ∀ i (h : i < ns.length), w.cell? ⟨g, i, none⟩ = some (.int .i64 ((ns[i] : Nat) : Int))) (h0 : 0 < ns.length) (hl : ns.length ≤ 1000000) (hn : ∀ a ∈ ns, a < ws.length) (V : Nat → Int) (hV : ∀ i, V i = verC ws q i s) (mx mn : Nat) (hmx : mx = maxFP V ns (ns.length - 1)) (hmn : mn = minFP V ns (ns.length - 1)) :
    Calls Try.prog 34 #[.pointer (some ⟨bc, 0, none⟩), .string s] w fun e w' => e = .returned (.tuple #[.int .i64 (mx : Int), .bool (decide (V mn < V mx))]) ∧ Below w.heap.size w w' := by
  have FACTS : ∀ (X : World) (p2 p3 : Nat), Below w.heap.size w X → X.cell? ⟨p2, 0, none⟩ = some (.pointer (some ⟨bc, 0, none⟩)) → X.cell? ⟨p3, 0, none⟩ = some (.string s) →
      (Instr.lookup 58 (.map (some bm)) (.string s) false).run Try.prog X = .ok (.slice (some ⟨g, 0, none⟩) ns.length c) X ∧ X.cell? ⟨bc, 2, none⟩ = some (.map (some bm)) ∧
      (Calls Try.prog 49 #[.slice (some ⟨g, 0, none⟩) ns.length c, .func (.func 46) #[] #[.pointer (some ⟨p2, 0, none⟩), .pointer (some ⟨p3, 0, none⟩)]] X fun e w' => e = .returned (.int .i64 (mx : Int)) ∧ Below X.heap.size X w') ∧
      (Calls Try.prog 50 #[.slice (some ⟨g, 0, none⟩) ns.length c, .func (.func 46) #[] #[.pointer (some ⟨p2, 0, none⟩), .pointer (some ⟨p3, 0, none⟩)]] X fun e w' => e = .returned (.int .i64 (mn : Int)) ∧ Below X.heap.size X w') ∧
      (Calls Try.prog 46 #[.int .i64 (mn : Int), .int .i64 (mx : Int), .pointer (some ⟨p2, 0, none⟩), .pointer (some ⟨p3, 0, none⟩)] X fun e w' => e = .returned (.int .i64 (cmpI (V mn) (V mx))) ∧ Below X.heap.size X w') := by
    intro X p2 p3 bX c2 c3
    have by0 : ∀ Y, Below X.heap.size X Y → ∀ a b : Nat, a < ws.length → b < ws.length → Calls Try.prog 46 #[.int .i64 (a : Int), .int .i64 (b : Int), .pointer (some ⟨p2, 0, none⟩), .pointer (some ⟨p3, 0, none⟩)] Y fun e w' => e = .returned (.int .i64 (cmpI (V a) (V b))) ∧ Below Y.heap.size Y w' := by
      intro Y bY a b ha hb
      rw [hV, hV]
      exact byVer_any ((h.up bX).up bY) hs h6 hq s ((bY.cell (lt_of_cell0 c2)).trans c2) ((bY.cell (lt_of_cell0 c3)).trans c3) a ha b hb
    have hcX : ∀ i (h : i < ns.length), X.cell? ⟨g, i, none⟩ = some (.int .i64 ((ns[i] : Nat) : Int)) := fun i hi => (bX.cell (lt_of_cell0 (hc i hi))).trans (hc i hi)
    have hx := maxFP_of V h0
    have hy := minFP_of V h0
    refine ⟨?_, (bX.cell (lt_of_cell0 b2)).trans b2, ?_, ?_, by0 X (Below.refl _ _) mn mx (by rw [hmn]; exact hn _ hy.1) (by rw [hmx]; exact hn _ hx.1)⟩
    · have := (hm.up bX).look hsz Try.underlying58
      rw [hG] at this
      exact this
    · rw [hmx]
      exact maxF_any by0 hcX h0 hl hn
    · rw [hmn]
      exact minF_any by0 hcX h0 hl hn
  have HF := hide FACTS
  have HLT := hide (cmp_neg (V mn) (V mx))
  clear FACTS h hs hq hm b2 hG hc hn hV hmx hmn
  generalize cmpI (V mn) (V mx) = cc at *
  generalize decide (V mn < V mx) = dd at *
  go_enter Try.func34, Try.ntmps34
  go_wp2_with fail
  obtain ⟨W, hW⟩ : ∃ W, W = (w.alloc (.cells #[.pointer (some ⟨bc, 0, none⟩)] 43)).alloc (.cells #[.string s] 9) := ⟨_, rfl⟩
  have bW : Below w.heap.size w W := by rw [hW]; exact ((Below.refl _ _).alloc (Nat.le_refl _) _).alloc (by simp) _
  have b1 : Below (w.alloc (.cells #[.pointer (some ⟨bc, 0, none⟩)] 43)).heap.size (w.alloc (.cells #[.pointer (some ⟨bc, 0, none⟩)] 43)) W := by rw [hW]; exact (Below.refl _ _).alloc (Nat.le_refl _) _
  have c2 : W.cell? ⟨w.heap.size, 0, none⟩ = some (.pointer (some ⟨bc, 0, none⟩)) := (b1.cell (by simp)).trans (World.cell?_alloc_at _ _ _ _ rfl)
  have c3 : W.cell? ⟨w.heap.size + 1, 0, none⟩ = some (.string s) := by
    have := (World.cell?_alloc_at _ _ _ _ rfl : ((w.alloc (.cells #[.pointer (some ⟨bc, 0, none⟩)] 43)).alloc (.cells #[.string s] 9)).cell? ⟨(w.alloc (.cells #[.pointer (some ⟨bc, 0, none⟩)] 43)).heap.size, 0, none⟩ = some (.string s))
    rw [show (w.alloc (.cells #[.pointer (some ⟨bc, 0, none⟩)] 43)).heap.size = w.heap.size + 1 by simp] at this
    rw [hW]
    exact this
  rw [← hW]
  generalize hp2 : w.heap.size + 1 = p3 at *
  have BW := hide bW
  clear hW b1 bW hp2
  have HX := hide (fun (x : LaterW W) => (unhide HF) x.to w.heap.size p3 ((unhide BW).trans (x.bel.mono (unhide BW).size)) (x.cell c2) (x.cell c3))
  have r0 : ∀ x : LaterW W, x.to.cell? ⟨w.heap.size, 0, none⟩ = some (.pointer (some ⟨bc, 0, none⟩)) := fun x => x.cell c2
  have r1 : ∀ x : LaterW W, x.to.cell? ⟨p3, 0, none⟩ = some (.string s) := fun x => x.cell c3
  have r2 : ∀ x : LaterW W, x.to.cell? ⟨bc, 2, none⟩ = some (.map (some bm)) := fun x => (unhide HX x).2.1
  have r3 : ∀ x : LaterW W, (Instr.lookup 58 (.map (some bm)) (.string s) false).run Try.prog x.to = .ok (.slice (some ⟨g, 0, none⟩) ns.length c) x.to := fun x => (unhide HX x).1
  refine wp_region_later (by kernel_rfl) (by kernel_rfl) ?_
  repeat (go_big_quiet_step ((go_at_call 49; exact quiet_ret (unhide HX _).2.2.1)))
  refine wpQuiet_nil ?_
  rintro _ ⟨x, rfl⟩
  have B1 := hide ((unhide BW).trans (x.bel.mono (unhide BW).size))
  have d2 := x.cell c2
  have d3 := x.cell c3
  clear r0 r1 r2 r3 HX c2 c3
  generalize x.to = U at *
  clear x
  have HY := hide (fun (x : LaterW U) => (unhide HF) x.to w.heap.size p3 ((unhide B1).trans (x.bel.mono (unhide B1).size)) (x.cell d2) (x.cell d3))
  have r0 : ∀ x : LaterW U, x.to.cell? ⟨w.heap.size, 0, none⟩ = some (.pointer (some ⟨bc, 0, none⟩)) := fun x => x.cell d2
  have r1 : ∀ x : LaterW U, x.to.cell? ⟨p3, 0, none⟩ = some (.string s) := fun x => x.cell d3
  have r2 : ∀ x : LaterW U, x.to.cell? ⟨bc, 2, none⟩ = some (.map (some bm)) := fun x => (unhide HY x).2.1
  have r3 : ∀ x : LaterW U, (Instr.lookup 58 (.map (some bm)) (.string s) false).run Try.prog x.to = .ok (.slice (some ⟨g, 0, none⟩) ns.length c) x.to := fun x => (unhide HY x).1
  go_wp2_with fail
  refine wp_region_later (by kernel_rfl) (by kernel_rfl) ?_
  repeat (go_big_quiet_step (first | (go_at_call 50; exact quiet_ret (unhide HY _).2.2.2.1) | (go_at_call 46; exact quiet_ret (unhide HY _).2.2.2.2)))
  refine wpQuiet_nil ?_
  rintro _ ⟨x, rfl⟩
  have B2 := hide ((unhide B1).trans (x.bel.mono (unhide B1).size))
  clear r0 r1 r2 r3 HY
  go_wp2_with fail
  refine bodyPost_ret (v := .tuple #[.int .i64 (mx : Int), .bool dd]) ?_ rfl ?_
  · rw [← unhide HLT]
    simp [results, Try.results34, go_sem]
  exact ⟨rfl, unhide B2⟩
end Go.Proofs.Ytpiapgjiaeddjaa
