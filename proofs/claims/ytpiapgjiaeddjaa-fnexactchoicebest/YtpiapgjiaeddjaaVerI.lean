/-
  The version that a choice has of a source, and how two are compared: the program's.
-/
import Derived.Test.YtpiapgjiaeddjaaBestM
import Derived.Test.YtpiapgjiaeddjaaMerged10
import Derived.Test.YtpiapgjiaeddjaaMerged6
import Derived.Handy
set_option linter.unusedVariables false
namespace Go.Proofs.Ytpiapgjiaeddjaa
open Go.RowKit Go.Maps Go.Deep

/-- what a chooser's calls read: its windows, its places -/
structure Sees (w : World) (bc : Nat) (ws : List (List ItemV)) (q : List Int) : Prop where
  ex : ∃ b off cap gp pc, w.cell? ⟨bc, 0, none⟩ = some (.slice (some ⟨b, off, none⟩) ws.length cap) ∧ w.cell? ⟨bc, 1, none⟩ = some (.slice (some ⟨gp, 0, none⟩) ws.length pc) ∧ b < w.heap.size ∧ gp < w.heap.size ∧ WinsAt w b off ws ∧ IntsAt w gp 0 q
theorem Sees.up {w w' : World} {bc : Nat} {ws : List (List ItemV)} {q : List Int} (h : Sees w bc ws q) (hb : Below w.heap.size w w') : Sees w' bc ws q := by
  obtain ⟨b, off, cap, gp, pc, h1, h2, h3, h4, h5, h6⟩ := h
  exact ⟨b, off, cap, gp, pc, (hb.cell (lt_of_cell0 h1)).trans h1, (hb.cell (lt_of_cell0 h2)).trans h2, Nat.lt_of_lt_of_le h3 hb.size, Nat.lt_of_lt_of_le h4 hb.size, h5.up h3 hb, h6.up h4 hb⟩
set_option maxHeartbeats 1600000 in
theorem version_any {w : World} {bc : Nat} {ws : List (List ItemV)} {q : List Int} (h : Sees w bc ws q) (hs : SmallItemSS ws) (h6 : ws.length ≤ 6) (hq : InR ws q) (a : Nat) (ha : a < ws.length) (s : ByteArray) :
    Calls Try.prog 48 #[.pointer (some ⟨bc, 0, none⟩), .int .i64 (a : Int), .string s] w fun e w' => e = .returned (.int .i64 (verC ws q a s)) ∧ Below w.heap.size w w' := by
  obtain ⟨b, off, cap, gp, pc, b0, b1, hb, hg, hc, hp⟩ := h
  obtain ⟨k, bi, oi, ni, ci, ma, mn, mc, e1, hk, hni, c1, d1, hm1, hsm1, -⟩ := choice_reach hs hc (show a < q.length by rw [hq.1]; exact ha) (by rw [hq.1]; exact Nat.le_refl _) hq.2
  have p1 := hp a (by rw [hq.1]; exact ha)
  rw [e1, Nat.zero_add] at p1
  have HV := hide (fun (x : LaterW w) => verIn_any (stampAt ws q a) (.slice ma mn mc) s x.to hsm1 (hm1.up x.bel))
  have hve : verC ws q a s = getV (stampAt ws q a) s := rfl
  rw [hve]
  generalize getV (stampAt ws q a) s = v at *
  have r0 : ∀ x : LaterW w, x.to.cell? ⟨bc, 0, none⟩ = some (.slice (some ⟨b, off, none⟩) ws.length cap) := fun x => x.cell b0
  have r1 : ∀ x : LaterW w, x.to.cell? ⟨bc, 1, none⟩ = some (.slice (some ⟨gp, 0, none⟩) ws.length pc) := fun x => x.cell b1
  have r2 : ∀ x : LaterW w, x.to.cell? ⟨gp, a, none⟩ = some (.int .i64 (k : Int)) := fun x => x.cell p1
  have r3 : ∀ x : LaterW w, x.to.cell? ⟨b, off + a, none⟩ = some (.slice (some ⟨bi, oi, none⟩) ni ci) := fun x => x.cell c1
  have r4 : ∀ x : LaterW w, x.to.cell? ⟨bi, oi + k * 2 + 1, none⟩ = some (.slice ma mn mc) := fun x => x.cell d1
  clear hm1 hsm1 hve hs hc hp c1 d1 p1 e1 b0 b1 hq
  go_enter Try.func48, Try.ntmps48
  go_wp2_with fail
  refine wp_region_later (by kernel_rfl) (by kernel_rfl) ?_
  repeat (go_big_quiet_step ((go_at_call 64; exact quiet_ret (unhide HV _))))
  refine wpQuiet_nil ?_
  rintro _ ⟨x, rfl⟩
  have B3 := hide x.bel
  go_wp2_with fail
  go_ret
  exact ⟨rfl, unhide B3⟩
def cmpI (x y : Int) : Int := if x < y then -1 else if y < x then 1 else 0
theorem nan_any (x : Int) (w : World) : Calls Try.prog 63 #[.int .i64 x] w fun e w' => e = .returned (.bool false) ∧ Below w.heap.size w w' := by
  go_enter Try.func63, Try.ntmps63
  go_wp2_with fail
  go_ret
  exact ⟨by simp, Below.refl _ _⟩
set_option maxHeartbeats 1600000 in
theorem cmp_any (x y : Int) (w : World) : Calls Try.prog 47 #[.int .i64 x, .int .i64 y] w fun e w' => e = .returned (.int .i64 (cmpI x y)) ∧ Below w.heap.size w w' := by
  have HN := hide nan_any
  have HC : Hid (cmpI x y = if x < y then -1 else if y < x then 1 else 0) := rfl
  generalize cmpI x y = c at *
  by_cases h1 : x < y
  · have HE := hide (show c = -1 by rw [unhide HC, if_pos h1])
    go_enter Try.func47, Try.ntmps47
    go_wp2_with fail
    refine (unhide HN _ _).mono ?_
    rintro e w1 ⟨rfl, k1⟩
    have B1 := hide k1
    clear k1
    go_wp2_with fail
    refine (unhide HN _ _).mono ?_
    rintro e w2 ⟨rfl, k2⟩
    have B2 := hide ((unhide B1).trans (k2.mono (unhide B1).size))
    clear k2
    go_wp2_with fail
    go_ret
    exact ⟨by rw [unhide HE]; rfl, unhide B2⟩
  · by_cases h2 : y < x
    · have HE := hide (show c = 1 by rw [unhide HC, if_neg h1, if_pos h2])
      go_enter Try.func47, Try.ntmps47
      go_wp2_with fail
      refine (unhide HN _ _).mono ?_
      rintro e w1 ⟨rfl, k1⟩
      have B1 := hide k1
      clear k1
      go_wp2_with fail
      refine (unhide HN _ _).mono ?_
      rintro e w2 ⟨rfl, k2⟩
      have B2 := hide ((unhide B1).trans (k2.mono (unhide B1).size))
      clear k2
      go_wp2_with fail
      go_ret
      exact ⟨by rw [unhide HE]; rfl, unhide B2⟩
    · have HE := hide (show c = 0 by rw [unhide HC, if_neg h1, if_neg h2])
      go_enter Try.func47, Try.ntmps47
      go_wp2_with fail
      refine (unhide HN _ _).mono ?_
      rintro e w1 ⟨rfl, k1⟩
      have B1 := hide k1
      clear k1
      go_wp2_with fail
      refine (unhide HN _ _).mono ?_
      rintro e w2 ⟨rfl, k2⟩
      have B2 := hide ((unhide B1).trans (k2.mono (unhide B1).size))
      clear k2
      go_wp2_with fail
      go_ret
      exact ⟨by rw [unhide HE]; rfl, unhide B2⟩
set_option maxRecDepth 20000 in
set_option maxHeartbeats 400000 in
/-- two windows compared by their version of a source -/
theorem byVer_any {w : World} {bc p2 p3 : Nat} {ws : List (List ItemV)} {q : List Int} (h : Sees w bc ws q) (hs : SmallItemSS ws) (h6 : ws.length ≤ 6) (hq : InR ws q) (s : ByteArray) (c2 : w.cell? ⟨p2, 0, none⟩ = some (.pointer (some ⟨bc, 0, none⟩))) (c3 : w.cell? ⟨p3, 0, none⟩ = some (.string s)) (a : Nat) (ha : a < ws.length) (b : Nat) (hb : b < ws.length) :
    Calls Try.prog 46 #[.int .i64 (a : Int), .int .i64 (b : Int), .pointer (some ⟨p2, 0, none⟩), .pointer (some ⟨p3, 0, none⟩)] w fun e w' => e = .returned (.int .i64 (cmpI (verC ws q a s) (verC ws q b s))) ∧ Below w.heap.size w w' := by
  obtain ⟨V, hV⟩ : ∃ V : Nat → Int, ∀ i, V i = verC ws q i s := ⟨_, fun _ => rfl⟩
  have HA := hide (fun (i : Nat) (hi : i < ws.length) (x : LaterW w) => show Calls Try.prog 48 #[.pointer (some ⟨bc, 0, none⟩), .int .i64 (i : Int), .string s] x.to fun e w' => e = .returned (.int .i64 (V i)) ∧ Below x.to.heap.size x.to w' by
    rw [hV]
    exact version_any (h.up x.bel) hs h6 hq i hi s)
  rw [← hV a, ← hV b]
  have HC := hide (fun (x : LaterW w) => cmp_any (V a) (V b) x.to)
  generalize cmpI (V a) (V b) = c at *
  clear hV
  have r0 : ∀ x : LaterW w, x.to.cell? ⟨p2, 0, none⟩ = some (.pointer (some ⟨bc, 0, none⟩)) := fun x => x.cell c2
  have r1 : ∀ x : LaterW w, x.to.cell? ⟨p3, 0, none⟩ = some (.string s) := fun x => x.cell c3
  clear h hs hq c2 c3
  go_enter Try.func46, Try.ntmps46
  go_wp2_with fail
  refine wp_region_later (by kernel_rfl) (by kernel_rfl) ?_
  repeat (go_big_quiet_step (first | (go_at_call 48; refine quiet_ret (unhide HA _ ?_ _); assumption) | (go_at_call 47; exact quiet_ret (unhide HC _))))
  refine wpQuiet_nil ?_
  rintro _ ⟨x, rfl⟩
  have B3 := hide x.bel
  go_wp2_with fail
  go_ret
  exact ⟨rfl, unhide B3⟩
end Go.Proofs.Ytpiapgjiaeddjaa
