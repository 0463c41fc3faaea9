/-
  What comes of a feed, in plain words.
-/
/-
  The version that a choice has of a source, and how two are compared: the program's.
-/
/-
  The greatest and the least of some windows by their version of a source: the program's slices.MaxFunc, slices.MinFunc. (Made by mkmax.py.)
-/
import Derived.Test.YtknkdbfgfcgkiaaGreatDoorMerged24
import Derived.Test.YtknkdbfgfcgkiaaGreatDoorWinPutI
import Derived.Test.YtknkdbfgfcgkiaaGreatDoorMerged34
import Derived.Test.YtknkdbfgfcgkiaaGreatDoorMerged23
import Derived.Test.YtknkdbfgfcgkiaaGreatDoorMerged16
import Derived.Test.YtknkdbfgfcgkiaaGreatDoorMerged7
import Derived.Handy
set_option linter.unusedVariables false
namespace Go.Proofs.YtknkdbfgfcgkiaaGreatDoor
open Go.RowKit Go.Maps Go.Deep

structure FeedV where
 inn : Int
 item : ItemV
structure ShowV where
 vals : List Int
 stamp : List MarkV
/-- the window of an input -/
def winAt (g : GatherV) (f : FeedV) : List ItemV := g.wins.getD f.inn.toNat []
def feedB (g : GatherV) (f : FeedV) : Bool := gatherB g && (decide (0 ≤ f.inn) && decide (f.inn < (g.ins.length : Int)))
def gpW (g : GatherV) (f : FeedV) : List (List ItemV) := g.wins.set f.inn.toNat (putV (winAt g f) f.item)
/-- the values of a choice -/
def valsAt (ws : List (List ItemV)) (ps : List Int) : List Int := (List.range ps.length).map fun i => (((ws.getD i [])[(ps.getD i 0).toNat]?).map (fun x => x.a0)).getD 0
noncomputable def gpJ (g : GatherV) (f : FeedV) : List MarkV := chV (gpW g f) (bestV (gpW g f))
noncomputable def gpC (g : GatherV) (f : FeedV) : Int :=
 if feedB g f = false then 2
 else if putI (winAt g f) f.item = 1 then 2
 else if putI (winAt g f) f.item = 2 then 3
 else if bestB (gpW g f) = false then 0
 else if chB (gpW g f) (bestV (gpW g f)) = false then 4
 else if orderOut g.shown (gpJ g f) = 1 then 1 else 0
noncomputable def gpG (g : GatherV) (f : FeedV) : GatherV :=
 if gpC g f = 2 then ⟨[], [], []⟩ else if gpC g f = 3 then g else if gpC g f = 1 then ⟨g.ins, gpW g f, gpJ g f⟩ else ⟨g.ins, gpW g f, g.shown⟩
noncomputable def gpS (g : GatherV) (f : FeedV) : ShowV := if gpC g f = 1 then ⟨valsAt (gpW g f) (bestV (gpW g f)), gpJ g f⟩ else ⟨[], []⟩
/-- the ways that a feed may go -/
inductive GpWay (g : GatherV) (f : FeedV) : Prop
 | no (h : feedB g f = false) (c : gpC g f = 2) (e : gpG g f = ⟨[], [], []⟩) (s : gpS g f = ⟨[], []⟩)
 | bad (h : feedB g f = true) (p : putI (winAt g f) f.item = 1) (c : gpC g f = 2) (e : gpG g f = ⟨[], [], []⟩) (s : gpS g f = ⟨[], []⟩)
 | old (h : feedB g f = true) (p : putI (winAt g f) f.item = 2) (c : gpC g f = 3) (e : gpG g f = g) (s : gpS g f = ⟨[], []⟩)
 | none (h : feedB g f = true) (p : putI (winAt g f) f.item = 0) (b : bestB (gpW g f) = false) (c : gpC g f = 0) (e : gpG g f = ⟨g.ins, gpW g f, g.shown⟩) (s : gpS g f = ⟨[], []⟩)
 | full (h : feedB g f = true) (p : putI (winAt g f) f.item = 0) (b : bestB (gpW g f) = true) (j : chB (gpW g f) (bestV (gpW g f)) = false) (c : gpC g f = 4) (e : gpG g f = ⟨g.ins, gpW g f, g.shown⟩) (s : gpS g f = ⟨[], []⟩)
 | kept (h : feedB g f = true) (p : putI (winAt g f) f.item = 0) (b : bestB (gpW g f) = true) (j : chB (gpW g f) (bestV (gpW g f)) = true) (o : orderOut g.shown (gpJ g f) ≠ 1) (c : gpC g f = 0) (e : gpG g f = ⟨g.ins, gpW g f, g.shown⟩) (s : gpS g f = ⟨[], []⟩)
 | shows (h : feedB g f = true) (p : putI (winAt g f) f.item = 0) (b : bestB (gpW g f) = true) (j : chB (gpW g f) (bestV (gpW g f)) = true) (o : orderOut g.shown (gpJ g f) = 1) (c : gpC g f = 1) (e : gpG g f = ⟨g.ins, gpW g f, gpJ g f⟩) (s : gpS g f = ⟨valsAt (gpW g f) (bestV (gpW g f)), gpJ g f⟩)
theorem putI_three (ns : List ItemV) (it : ItemV) : putI ns it = 0 ∨ putI ns it = 1 ∨ putI ns it = 2 := by
 unfold putI
 split
 ·rcases takeC_form ns it with h | ⟨h, -⟩
  ·exact .inr (.inl h.1)
  ·rcases h with h | h
   ·exact .inl h
   ·exact .inr (.inr h)
 ·exact .inr (.inl rfl)
theorem gpWay (g : GatherV) (f : FeedV) : GpWay g f := by
 cases h : feedB g f
 ·have c : gpC g f = 2 := by unfold gpC; rw [if_pos h]
  exact .no h c (by unfold gpG; rw [if_pos c]) (by unfold gpS; rw [if_neg (by rw [c]; decide)])
 have hn : ¬ (feedB g f = false) := by rw [h]; decide
 rcases putI_three (winAt g f) f.item with p | p | p
 ·have p1 : ¬ (putI (winAt g f) f.item = 1) := by rw [p]; decide
  have p2 : ¬ (putI (winAt g f) f.item = 2) := by rw [p]; decide
  have hc : gpC g f = if bestB (gpW g f) = false then 0 else if chB (gpW g f) (bestV (gpW g f)) = false then 4 else if orderOut g.shown (gpJ g f) = 1 then 1 else 0 := by
   unfold gpC
   rw [if_neg hn, if_neg p1, if_neg p2]
  cases b : bestB (gpW g f)
  ·have c : gpC g f = 0 := by rw [hc, if_pos b]
   exact .none h p b c (by unfold gpG; rw [c]; rfl) (by unfold gpS; rw [c]; rfl)
  cases j : chB (gpW g f) (bestV (gpW g f))
  ·have c : gpC g f = 4 := by rw [hc, if_neg (by rw [b]; decide), if_pos j]
   exact .full h p b j c (by unfold gpG; rw [c]; rfl) (by unfold gpS; rw [c]; rfl)
  by_cases o : orderOut g.shown (gpJ g f) = 1
  ·have c : gpC g f = 1 := by rw [hc, if_neg (by rw [b]; decide), if_neg (by rw [j]; decide), if_pos o]
   exact .shows h p b j o c (by unfold gpG; rw [c]; rfl) (by unfold gpS; rw [c]; rfl)
  ·have c : gpC g f = 0 := by rw [hc, if_neg (by rw [b]; decide), if_neg (by rw [j]; decide), if_neg o]
   exact .kept h p b j o c (by unfold gpG; rw [c]; rfl) (by unfold gpS; rw [c]; rfl)
 ·have c : gpC g f = 2 := by unfold gpC; rw [if_neg hn, if_pos p]
  exact .bad h p c (by unfold gpG; rw [if_pos c]) (by unfold gpS; rw [if_neg (by rw [c]; decide)])
 ·have c : gpC g f = 3 := by unfold gpC; rw [if_neg hn, if_neg (by rw [p]; decide), if_pos p]
  exact .old h p c (by unfold gpG; rw [c]; rfl) (by unfold gpS; rw [c]; rfl)
theorem feedB_parts {g : GatherV} {f : FeedV} (h : feedB g f = true) : gatherB g = true ∧ insB g.ins = true ∧ g.wins.length = g.ins.length ∧ winsB g.wins = true ∧ mstampB g.shown = true ∧ ∃ k : Nat, f.inn = (k : Int) ∧ k < g.wins.length ∧ winAt g f = g.wins.getD k [] := by
 unfold feedB at h
 simp only [Bool.and_eq_true, decide_eq_true_eq] at h
 obtain ⟨hg, h0, h1⟩ := h
 have hg' := hg
 unfold gatherB at hg
 simp only [Bool.and_eq_true, decide_eq_true_eq] at hg
 obtain ⟨a, b, c, d⟩ := hg
 refine ⟨hg', a, b, c, d, f.inn.toNat, by omega, by omega, rfl⟩
/-- what is put into a good window is a good window -/
theorem putV_items {ns : List ItemV} {it x : ItemV} (h : x ∈ putV ns it) : x ∈ ns ∨ x = it := by
 unfold putV at h
 split at h
 ·split at h
  ·cases h
  split at h
  ·unfold putN at h
   split at h
   ·simp at h; exact h
   ·simp at h
    rcases h with h | h
    ·exact .inl (List.mem_of_mem_tail h)
    ·exact .inr h
  ·exact .inl h
 ·cases h
end Go.Proofs.YtknkdbfgfcgkiaaGreatDoor

set_option linter.unusedVariables false
namespace Go.Proofs.YtknkdbfgfcgkiaaGreatDoor
open Go.RowKit Go.Maps Go.Deep

/-- what a chooser's calls read: its windows, its places -/
structure Sees (w : World) (bc : Nat) (ws : List (List ItemV)) (q : List Int) : Prop where
 ex : ∃ b off cap gp pc, w.cell? ⟨bc, 0, none⟩ = some (.slice (some ⟨b, off, none⟩) ws.length cap) ∧ w.cell? ⟨bc, 1, none⟩ = some (.slice (some ⟨gp, 0, none⟩) ws.length pc) ∧ b < w.heap.size ∧ gp < w.heap.size ∧ WinsAt w b off ws ∧ IntsAt w gp 0 q
theorem Sees.up {w w' : World} {bc : Nat} {ws : List (List ItemV)} {q : List Int} (h : Sees w bc ws q) (hb : Below w.heap.size w w') : Sees w' bc ws q := by
 obtain ⟨b, off, cap, gp, pc, h1, h2, h3, h4, h5, h6⟩ := h
 exact ⟨b, off, cap, gp, pc, (hb.cell (lt_of_cell0 h1)).trans h1, (hb.cell (lt_of_cell0 h2)).trans h2, Nat.lt_of_lt_of_le h3 hb.size, Nat.lt_of_lt_of_le h4 hb.size, h5.up h3 hb, h6.up h4 hb⟩
set_option maxHeartbeats 1600000 in
theorem version_any {w : World} {bc : Nat} {ws : List (List ItemV)} {q : List Int} (h : Sees w bc ws q) (hs : SmallItemSS ws) (h6 : ws.length ≤ 6) (hq : InR ws q) (a : Nat) (ha : a < ws.length) (s : ByteArray) :
  Calls Tryz.prog 137 #[.pointer (some ⟨bc, 0, none⟩), .int .i64 (a : Int), .string s] w fun e w' => e = .returned (.int .i64 (verC ws q a s)) ∧ Below w.heap.size w w' := by
 obtain ⟨b, off, cap, gp, pc, b0, b1, hb, hg, hc, hp⟩ := h
 obtain ⟨k, bi, oi, ni, ci, ma, mn, mc, e1, hk, hni, c1, d1, hm1, hsm1, -⟩ := choice_reach hs hc (show a < q.length by rw [hq.1]; exact ha) (by rw [hq.1]; exact Nat.le_refl _) hq.2
 have p1 := hp a (by rw [hq.1]; exact ha)
 rw [e1, Nat.zero_add] at p1
 have HV := hide (fun (x : LaterW w) => verIn_any (stampAt ws q a) (.slice ma mn mc) s x.to hsm1 (hm1.up x.bel))
 have hve : verC ws q a s = getV (stampAt ws q a) s := rfl
 rw [hve]
 generalize getV (stampAt ws q a) s = v at *
 have r0 : ∀ x : LaterW w, x.to.cell? ⟨bc, 0, none⟩ = some (.slice (some ⟨b, off, none⟩) ws.length cap) := fun x => x.cell b0
 have r1 : ∀ x : LaterW w, x.to.cell? ⟨bc, 1, none⟩ = some (.slice (some ⟨gp, 0, none⟩) ws.length pc) := fun x => x.cell b1
 have r2 : ∀ x : LaterW w, x.to.cell? ⟨gp, a, none⟩ = some (.int .i64 (k : Int)) := fun x => x.cell p1
 have r3 : ∀ x : LaterW w, x.to.cell? ⟨b, off + a, none⟩ = some (.slice (some ⟨bi, oi, none⟩) ni ci) := fun x => x.cell c1
 have r4 : ∀ x : LaterW w, x.to.cell? ⟨bi, oi + k * 2 + 1, none⟩ = some (.slice ma mn mc) := fun x => x.cell d1
 clear hm1 hsm1 hve hs hc hp c1 d1 p1 e1 b0 b1 hq
 go_enter Tryz.func137, Tryz.ntmps137
 go_wp2_with fail
 refine wp_region_later (by kernel_rfl) (by kernel_rfl) ?_
 repeat (go_big_quiet_step ((go_at_call 145; exact quiet_ret (unhide HV _))))
 refine wpQuiet_nil ?_
 rintro _ ⟨x, rfl⟩
 have B3 := hide x.bel
 go_wp2_with fail
 go_ret
 exact ⟨rfl, unhide B3⟩
def cmpI (x y : Int) : Int := if x < y then -1 else if y < x then 1 else 0
theorem nan_any (x : Int) (w : World) : Calls Tryz.prog 144 #[.int .i64 x] w fun e w' => e = .returned (.bool false) ∧ Below w.heap.size w w' := by
 go_enter Tryz.func144, Tryz.ntmps144
 go_wp2_with fail
 go_ret
 exact ⟨by simp, Below.refl _ _⟩
set_option maxHeartbeats 1600000 in
theorem cmp_any (x y : Int) (w : World) : Calls Tryz.prog 136 #[.int .i64 x, .int .i64 y] w fun e w' => e = .returned (.int .i64 (cmpI x y)) ∧ Below w.heap.size w w' := by
 have HN := hide nan_any
 have HC : Hid (cmpI x y = if x < y then -1 else if y < x then 1 else 0) := rfl
 generalize cmpI x y = c at *
 by_cases h1 : x < y
 ·have HE := hide (show c = -1 by rw [unhide HC, if_pos h1])
  go_enter Tryz.func136, Tryz.ntmps136
  go_wp2_with fail
  refine (unhide HN _ _).mono ?_
  rintro e w1 ⟨rfl, k1⟩
  have B1 := hide k1
  clear k1
  go_wp2_with fail
  refine (unhide HN _ _).mono ?_
  rintro e w2 ⟨rfl, k2⟩
  have B2 := hide ((unhide B1).trans (k2.mono (unhide B1).size))
  clear k2
  go_wp2_with fail
  go_ret
  exact ⟨by rw [unhide HE]; rfl, unhide B2⟩
 ·by_cases h2 : y < x
  ·have HE := hide (show c = 1 by rw [unhide HC, if_neg h1, if_pos h2])
   go_enter Tryz.func136, Tryz.ntmps136
   go_wp2_with fail
   refine (unhide HN _ _).mono ?_
   rintro e w1 ⟨rfl, k1⟩
   have B1 := hide k1
   clear k1
   go_wp2_with fail
   refine (unhide HN _ _).mono ?_
   rintro e w2 ⟨rfl, k2⟩
   have B2 := hide ((unhide B1).trans (k2.mono (unhide B1).size))
   clear k2
   go_wp2_with fail
   go_ret
   exact ⟨by rw [unhide HE]; rfl, unhide B2⟩
  ·have HE := hide (show c = 0 by rw [unhide HC, if_neg h1, if_neg h2])
   go_enter Tryz.func136, Tryz.ntmps136
   go_wp2_with fail
   refine (unhide HN _ _).mono ?_
   rintro e w1 ⟨rfl, k1⟩
   have B1 := hide k1
   clear k1
   go_wp2_with fail
   refine (unhide HN _ _).mono ?_
   rintro e w2 ⟨rfl, k2⟩
   have B2 := hide ((unhide B1).trans (k2.mono (unhide B1).size))
   clear k2
   go_wp2_with fail
   go_ret
   exact ⟨by rw [unhide HE]; rfl, unhide B2⟩
set_option maxRecDepth 20000 in
set_option maxHeartbeats 400000 in
/-- two windows compared by their version of a source -/
theorem byVer_any {w : World} {bc p2 p3 : Nat} {ws : List (List ItemV)} {q : List Int} (h : Sees w bc ws q) (hs : SmallItemSS ws) (h6 : ws.length ≤ 6) (hq : InR ws q) (s : ByteArray) (c2 : w.cell? ⟨p2, 0, none⟩ = some (.pointer (some ⟨bc, 0, none⟩))) (c3 : w.cell? ⟨p3, 0, none⟩ = some (.string s)) (a : Nat) (ha : a < ws.length) (b : Nat) (hb : b < ws.length) :
  Calls Tryz.prog 135 #[.int .i64 (a : Int), .int .i64 (b : Int), .pointer (some ⟨p2, 0, none⟩), .pointer (some ⟨p3, 0, none⟩)] w fun e w' => e = .returned (.int .i64 (cmpI (verC ws q a s) (verC ws q b s))) ∧ Below w.heap.size w w' := by
 obtain ⟨V, hV⟩ : ∃ V : Nat → Int, ∀ i, V i = verC ws q i s := ⟨_, fun _ => rfl⟩
 have HA := hide (fun (i : Nat) (hi : i < ws.length) (x : LaterW w) => show Calls Tryz.prog 137 #[.pointer (some ⟨bc, 0, none⟩), .int .i64 (i : Int), .string s] x.to fun e w' => e = .returned (.int .i64 (V i)) ∧ Below x.to.heap.size x.to w' by
  rw [hV]
  exact version_any (h.up x.bel) hs h6 hq i hi s)
 rw [← hV a, ← hV b]
 have HC := hide (fun (x : LaterW w) => cmp_any (V a) (V b) x.to)
 generalize cmpI (V a) (V b) = c at *
 clear hV
 have r0 : ∀ x : LaterW w, x.to.cell? ⟨p2, 0, none⟩ = some (.pointer (some ⟨bc, 0, none⟩)) := fun x => x.cell c2
 have r1 : ∀ x : LaterW w, x.to.cell? ⟨p3, 0, none⟩ = some (.string s) := fun x => x.cell c3
 clear h hs hq c2 c3
 go_enter Tryz.func135, Tryz.ntmps135
 go_wp2_with fail
 refine wp_region_later (by kernel_rfl) (by kernel_rfl) ?_
 repeat (go_big_quiet_step (first | (go_at_call 137; refine quiet_ret (unhide HA _ ?_ _); assumption) | (go_at_call 136; exact quiet_ret (unhide HC _))))
 refine wpQuiet_nil ?_
 rintro _ ⟨x, rfl⟩
 have B3 := hide x.bel
 go_wp2_with fail
 go_ret
 exact ⟨rfl, unhide B3⟩
end Go.Proofs.YtknkdbfgfcgkiaaGreatDoor

set_option linter.unusedVariables false
namespace Go.Proofs.YtknkdbfgfcgkiaaGreatDoor
open Go.RowKit Go.Maps Go.Deep

def maxFP (V : Nat → Int) (ns : List Nat) : Nat → Nat
 | 0 => ns.getD 0 0
 | i + 1 => if V (maxFP V ns i) < V (ns.getD (i + 1) 0) then ns.getD (i + 1) 0 else maxFP V ns i
set_option maxRecDepth 20000 in
set_option maxHeartbeats 1600000 in
theorem maxF_any {w : World} {g cap L : Nat} {ns : List Nat} {V : Nat → Int} {P2 P3 : Value} (H : ∀ X, Below w.heap.size w X → ∀ a b : Nat, a < L → b < L → Calls Tryz.prog 135 #[.int .i64 (a : Int), .int .i64 (b : Int), P2, P3] X fun e w' => e = .returned (.int .i64 (cmpI (V a) (V b))) ∧ Below X.heap.size X w')
  (hc : ∀ i (h : i < ns.length), w.cell? ⟨g, i, none⟩ = some (.int .i64 ((ns[i] : Nat) : Int))) (h0 : 0 < ns.length) (hl : ns.length ≤ 1000000) (hn : ∀ a ∈ ns, a < L) :
  Calls Tryz.prog 138 #[.slice (some ⟨g, 0, none⟩) ns.length cap, .func (.func 135) #[] #[P2, P3]] w fun e w' => e = .returned (.int .i64 ((maxFP V ns (ns.length - 1) : Nat) : Int)) ∧ Below w.heap.size w w' := by
 have HH := hide H
 have HC := hide hc
 have HN := hide hn
 have c0 := hc 0 h0
 have HP0 := hide (show ns[0] = maxFP V ns 0 by simp [maxFP, List.getD_eq_getElem?_getD, h0])
 have HM0 := hide (show ns[0] ∈ ns ∧ ∀ j (h : j < ns.length), j < 1 → V ns[j] ≤ V ns[0] from ⟨List.getElem_mem h0, fun j h hj => by
  have e : j = 0 := Nat.lt_one_iff.1 hj
  subst e
  exact Int.le_refl _⟩)
 generalize ns[0] = m0 at *
 clear H hc hn
 go_enter Tryz.func138, Tryz.ntmps138
 go_wp2_with fail
 clear c0
 go_loopw [5, 6] (fun mv iv wr => ∃ (i m : Nat), 1 ≤ i ∧ i ≤ ns.length ∧ mv = .int .i64 (m : Int) ∧ iv = .int .i64 (i : Int) ∧ Hid (m = maxFP V ns (i - 1)) ∧ Hid (m ∈ ns ∧ ∀ j (h : j < ns.length), j < i → V ns[j] ≤ V m) ∧ Hid (Below w.heap.size w wr)) (fun _ iv _ => ns.length - (intOf iv).toNat)
 case atStart => exact ⟨1, m0, Nat.le_refl _, by omega, rfl, rfl, HP0, HM0, Below.refl _ _⟩
 case round =>
  obtain ⟨i, m, hi1, hi, rfl, rfl, HP, HM, HB⟩ := hrel
  by_cases hlt : i < ns.length
  ·have c1 := ((unhide HB).cell (show g < w.heap.size from lt_of_cell0 (unhide HC 0 h0))).trans (unhide HC i hlt)
   have HX := hide (show ns[i] ∈ ns from List.getElem_mem hlt)
   have HY := hide (show (V m < V ns[i] → ns[i] = maxFP V ns (i + 1 - 1)) ∧ (¬ V m < V ns[i] → m = maxFP V ns (i + 1 - 1)) by
    have hp := unhide HP
    obtain ⟨k, rfl⟩ : ∃ k, i = k + 1 := ⟨i - 1, by omega⟩
    rw [Nat.add_sub_cancel] at hp ⊢
    have hg : ns.getD (k + 1) 0 = ns[k + 1] := by rw [List.getD_eq_getElem?_getD, List.getElem?_eq_getElem hlt]; rfl
    unfold maxFP
    rw [hg, ← hp]
    exact ⟨fun h => (if_pos h).symm, fun h => (if_neg h).symm⟩)
   have HS := hide (show (V m < V ns[i] → ns[i] ∈ ns ∧ ∀ j (h : j < ns.length), j < i + 1 → V ns[j] ≤ V ns[i]) ∧ (¬ V m < V ns[i] → m ∈ ns ∧ ∀ j (h : j < ns.length), j < i + 1 → V ns[j] ≤ V m) from
    ⟨fun hb => ⟨List.getElem_mem hlt, fun j h hj => by
     by_cases e : j = i
     ·subst e; exact Int.le_refl _
     ·have := (unhide HM).2 j h (by omega); omega⟩, fun hb => ⟨(unhide HM).1, fun j h hj => by
     by_cases e : j = i
     ·subst e; omega
     ·exact (unhide HM).2 j h (by omega)⟩⟩)
   have HQ := hide (unhide HH wr (unhide HB) ns[i] m (unhide HN _ (List.getElem_mem hlt)) (unhide HN _ (unhide HM).1))
   generalize ns[i] = x at *
   by_cases hb : V m < V x
   ·have HE := hide ((unhide HS).1 hb)
    have HE2 := hide ((unhide HY).1 hb)
    have hv : cmpI (V x) (V m) = 1 := by unfold cmpI; rw [if_neg (by omega), if_pos hb]
    rw [hv] at HQ
    clear HS HM HY HP
    go_wp2_with (go_at_call 135; refine (unhide HQ).mono ?_; rintro e w1 ⟨rfl, k1⟩; have B1 := hide ((unhide HB).trans (k1.mono (unhide HB).size)); have c2 := (k1.cell (lt_of_cell0 c1)).trans c1; clear k1)
    clear c1 c2
    go_roundw
    case rel => exact ⟨i + 1, x, by omega, by omega, rfl, by go_num, HE2, HE, B1⟩
    case measure => simp [intOf]; omega
   ·have HE := hide ((unhide HS).2 hb)
    have HE2 := hide ((unhide HY).2 hb)
    obtain ⟨c, hcv, hle⟩ : ∃ c : Int, cmpI (V x) (V m) = c ∧ c ≤ 0 := ⟨_, rfl, by unfold cmpI; split <;> (try split) <;> omega⟩
    rw [hcv] at HQ
    clear HS HM HY HP hcv
    go_wp2_with (go_at_call 135; refine (unhide HQ).mono ?_; rintro e w1 ⟨rfl, k1⟩; have B1 := hide ((unhide HB).trans (k1.mono (unhide HB).size)); clear k1)
    clear c1
    go_roundw
    case rel => exact ⟨i + 1, m, by omega, by omega, rfl, by go_num, HE2, HE, B1⟩
    case measure => simp [intOf]; omega
  ·obtain rfl : i = ns.length := by omega
   have HE := unhide HP
   go_wp2_with fail
   go_ret
   exact ⟨by rw [← HE]; rfl, unhide HB⟩
theorem maxFP_is (V : Nat → Int) (ns : List Nat) : ∀ i, i < ns.length → maxFP V ns i ∈ ns ∧ ∀ j (h : j < ns.length), j ≤ i → V ns[j] ≤ V (maxFP V ns i)
 | 0, h0 => by
  have e : maxFP V ns 0 = ns[0] := by simp [maxFP, List.getD_eq_getElem?_getD, h0]
  rw [e]
  refine ⟨List.getElem_mem h0, fun j h hj => ?_⟩
  have e : j = 0 := Nat.le_zero.1 hj
  subst e
  exact Int.le_refl _
 | i + 1, h => by
  obtain ⟨h1, h2⟩ := maxFP_is V ns i (by omega)
  have hg : ns.getD (i + 1) 0 = ns[i + 1] := by rw [List.getD_eq_getElem?_getD, List.getElem?_eq_getElem h]; rfl
  unfold maxFP
  rw [hg]
  split
  ·refine ⟨List.getElem_mem h, fun j hj hji => ?_⟩
   by_cases e : j = i + 1
   ·subst e; exact Int.le_refl _
   ·have := h2 j hj (by omega); omega
  ·refine ⟨h1, fun j hj hji => ?_⟩
   by_cases e : j = i + 1
   ·subst e; omega
   ·exact h2 j hj (by omega)
theorem maxFP_of (V : Nat → Int) {ns : List Nat} (h0 : 0 < ns.length) : maxFP V ns (ns.length - 1) ∈ ns ∧ ∀ a ∈ ns, V a ≤ V (maxFP V ns (ns.length - 1)) := by
 obtain ⟨h1, h2⟩ := maxFP_is V ns (ns.length - 1) (by omega)
 refine ⟨h1, fun a ha => ?_⟩
 obtain ⟨j, hj, rfl⟩ := List.getElem_of_mem ha
 exact h2 j hj (by omega)
def minFP (V : Nat → Int) (ns : List Nat) : Nat → Nat
 | 0 => ns.getD 0 0
 | i + 1 => if V (ns.getD (i + 1) 0) < V (minFP V ns i) then ns.getD (i + 1) 0 else minFP V ns i
set_option maxRecDepth 20000 in
set_option maxHeartbeats 1600000 in
theorem minF_any {w : World} {g cap L : Nat} {ns : List Nat} {V : Nat → Int} {P2 P3 : Value} (H : ∀ X, Below w.heap.size w X → ∀ a b : Nat, a < L → b < L → Calls Tryz.prog 135 #[.int .i64 (a : Int), .int .i64 (b : Int), P2, P3] X fun e w' => e = .returned (.int .i64 (cmpI (V a) (V b))) ∧ Below X.heap.size X w')
  (hc : ∀ i (h : i < ns.length), w.cell? ⟨g, i, none⟩ = some (.int .i64 ((ns[i] : Nat) : Int))) (h0 : 0 < ns.length) (hl : ns.length ≤ 1000000) (hn : ∀ a ∈ ns, a < L) :
  Calls Tryz.prog 139 #[.slice (some ⟨g, 0, none⟩) ns.length cap, .func (.func 135) #[] #[P2, P3]] w fun e w' => e = .returned (.int .i64 ((minFP V ns (ns.length - 1) : Nat) : Int)) ∧ Below w.heap.size w w' := by
 have HH := hide H
 have HC := hide hc
 have HN := hide hn
 have c0 := hc 0 h0
 have HP0 := hide (show ns[0] = minFP V ns 0 by simp [minFP, List.getD_eq_getElem?_getD, h0])
 have HM0 := hide (show ns[0] ∈ ns ∧ ∀ j (h : j < ns.length), j < 1 → V ns[0] ≤ V ns[j] from ⟨List.getElem_mem h0, fun j h hj => by
  have e : j = 0 := Nat.lt_one_iff.1 hj
  subst e
  exact Int.le_refl _⟩)
 generalize ns[0] = m0 at *
 clear H hc hn
 go_enter Tryz.func139, Tryz.ntmps139
 go_wp2_with fail
 clear c0
 go_loopw [5, 6] (fun mv iv wr => ∃ (i m : Nat), 1 ≤ i ∧ i ≤ ns.length ∧ mv = .int .i64 (m : Int) ∧ iv = .int .i64 (i : Int) ∧ Hid (m = minFP V ns (i - 1)) ∧ Hid (m ∈ ns ∧ ∀ j (h : j < ns.length), j < i → V m ≤ V ns[j]) ∧ Hid (Below w.heap.size w wr)) (fun _ iv _ => ns.length - (intOf iv).toNat)
 case atStart => exact ⟨1, m0, Nat.le_refl _, by omega, rfl, rfl, HP0, HM0, Below.refl _ _⟩
 case round =>
  obtain ⟨i, m, hi1, hi, rfl, rfl, HP, HM, HB⟩ := hrel
  by_cases hlt : i < ns.length
  ·have c1 := ((unhide HB).cell (show g < w.heap.size from lt_of_cell0 (unhide HC 0 h0))).trans (unhide HC i hlt)
   have HX := hide (show ns[i] ∈ ns from List.getElem_mem hlt)
   have HY := hide (show (V ns[i] < V m → ns[i] = minFP V ns (i + 1 - 1)) ∧ (¬ V ns[i] < V m → m = minFP V ns (i + 1 - 1)) by
    have hp := unhide HP
    obtain ⟨k, rfl⟩ : ∃ k, i = k + 1 := ⟨i - 1, by omega⟩
    rw [Nat.add_sub_cancel] at hp ⊢
    have hg : ns.getD (k + 1) 0 = ns[k + 1] := by rw [List.getD_eq_getElem?_getD, List.getElem?_eq_getElem hlt]; rfl
    unfold minFP
    rw [hg, ← hp]
    exact ⟨fun h => (if_pos h).symm, fun h => (if_neg h).symm⟩)
   have HS := hide (show (V ns[i] < V m → ns[i] ∈ ns ∧ ∀ j (h : j < ns.length), j < i + 1 → V ns[i] ≤ V ns[j]) ∧ (¬ V ns[i] < V m → m ∈ ns ∧ ∀ j (h : j < ns.length), j < i + 1 → V m ≤ V ns[j]) from
    ⟨fun hb => ⟨List.getElem_mem hlt, fun j h hj => by
     by_cases e : j = i
     ·subst e; exact Int.le_refl _
     ·have := (unhide HM).2 j h (by omega); omega⟩, fun hb => ⟨(unhide HM).1, fun j h hj => by
     by_cases e : j = i
     ·subst e; omega
     ·exact (unhide HM).2 j h (by omega)⟩⟩)
   have HQ := hide (unhide HH wr (unhide HB) ns[i] m (unhide HN _ (List.getElem_mem hlt)) (unhide HN _ (unhide HM).1))
   generalize ns[i] = x at *
   by_cases hb : V x < V m
   ·have HE := hide ((unhide HS).1 hb)
    have HE2 := hide ((unhide HY).1 hb)
    have hv : cmpI (V x) (V m) = -1 := by unfold cmpI; rw [if_pos hb]
    rw [hv] at HQ
    clear HS HM HY HP
    go_wp2_with (go_at_call 135; refine (unhide HQ).mono ?_; rintro e w1 ⟨rfl, k1⟩; have B1 := hide ((unhide HB).trans (k1.mono (unhide HB).size)); have c2 := (k1.cell (lt_of_cell0 c1)).trans c1; clear k1)
    clear c1 c2
    go_roundw
    case rel => exact ⟨i + 1, x, by omega, by omega, rfl, by go_num, HE2, HE, B1⟩
    case measure => simp [intOf]; omega
   ·have HE := hide ((unhide HS).2 hb)
    have HE2 := hide ((unhide HY).2 hb)
    obtain ⟨c, hcv, hle⟩ : ∃ c : Int, cmpI (V x) (V m) = c ∧ 0 ≤ c := ⟨_, rfl, by unfold cmpI; split <;> (try split) <;> omega⟩
    rw [hcv] at HQ
    clear HS HM HY HP hcv
    go_wp2_with (go_at_call 135; refine (unhide HQ).mono ?_; rintro e w1 ⟨rfl, k1⟩; have B1 := hide ((unhide HB).trans (k1.mono (unhide HB).size)); clear k1)
    clear c1
    go_roundw
    case rel => exact ⟨i + 1, m, by omega, by omega, rfl, by go_num, HE2, HE, B1⟩
    case measure => simp [intOf]; omega
  ·obtain rfl : i = ns.length := by omega
   have HE := unhide HP
   go_wp2_with fail
   go_ret
   exact ⟨by rw [← HE]; rfl, unhide HB⟩
theorem minFP_is (V : Nat → Int) (ns : List Nat) : ∀ i, i < ns.length → minFP V ns i ∈ ns ∧ ∀ j (h : j < ns.length), j ≤ i → V (minFP V ns i) ≤ V ns[j]
 | 0, h0 => by
  have e : minFP V ns 0 = ns[0] := by simp [minFP, List.getD_eq_getElem?_getD, h0]
  rw [e]
  refine ⟨List.getElem_mem h0, fun j h hj => ?_⟩
  have e : j = 0 := Nat.le_zero.1 hj
  subst e
  exact Int.le_refl _
 | i + 1, h => by
  obtain ⟨h1, h2⟩ := minFP_is V ns i (by omega)
  have hg : ns.getD (i + 1) 0 = ns[i + 1] := by rw [List.getD_eq_getElem?_getD, List.getElem?_eq_getElem h]; rfl
  unfold minFP
  rw [hg]
  split
  ·refine ⟨List.getElem_mem h, fun j hj hji => ?_⟩
   by_cases e : j = i + 1
   ·subst e; exact Int.le_refl _
   ·have := h2 j hj (by omega); omega
  ·refine ⟨h1, fun j hj hji => ?_⟩
   by_cases e : j = i + 1
   ·subst e; omega
   ·exact h2 j hj (by omega)
theorem minFP_of (V : Nat → Int) {ns : List Nat} (h0 : 0 < ns.length) : minFP V ns (ns.length - 1) ∈ ns ∧ ∀ a ∈ ns, V (minFP V ns (ns.length - 1)) ≤ V a := by
 obtain ⟨h1, h2⟩ := minFP_is V ns (ns.length - 1) (by omega)
 refine ⟨h1, fun a ha => ?_⟩
 obtain ⟨j, hj, rfl⟩ := List.getElem_of_mem ha
 exact h2 j hj (by omega)
end Go.Proofs.YtknkdbfgfcgkiaaGreatDoor
