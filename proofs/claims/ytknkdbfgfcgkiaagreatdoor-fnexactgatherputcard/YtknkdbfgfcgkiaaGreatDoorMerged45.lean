/-
  The program's GatherPut.
-/
/-
  A gatherer's parts when a window is written, and when a stamp is.
-/
import Derived.Test.YtknkdbfgfcgkiaaGreatDoorMerged44
import Derived.BigRegion
import Derived.Test.YtknkdbfgfcgkiaaGreatDoorMerged25
set_option linter.unusedVariables false
namespace Go.Proofs.YtknkdbfgfcgkiaaGreatDoor
open Go.RowKit Go.Maps Go.Deep

/-- where errors.As finds what an error is -/
def ErrT (w : World) : Prop := w.cell? ⟨0, 0, none⟩ = some (.iface 150 (.agg #[.pointer (some ⟨1, 77, none⟩)]))
theorem ErrT.lt {w : World} (h : ErrT w) : 0 < w.heap.size := by
  rcases Nat.lt_or_ge 0 w.heap.size with h0 | h0
  · exact h0
  · unfold ErrT at h
    simp [World.cell?, Array.getElem?_eq_none h0] at h
theorem ErrT.up {w w' : World} (h : ErrT w) (hb : Below w.heap.size w w') : ErrT w' := (hb.cell (show 0 < w.heap.size from h.lt)).trans h
theorem asHit_any (s : ByteArray) (t : Nat) (old : Value) (w : World) (h : ErrT w) (ht : w.cell? ⟨t, 0, none⟩ = some old) (hf : w.frozen? ⟨t, 0, none⟩ = false) (B : Nat) (hB : B ≤ w.heap.size) (htB : B ≤ t) :
    Calls Tryz.prog 34 #[.iface 81 (.agg #[.string s]), .iface 83 (.pointer (some ⟨t, 0, none⟩))] w fun e w' => e = .returned (.bool true) ∧ Below B w w' := by
  refine (as_hit s t old w h ht hf).mono ?_
  rintro e w' ⟨he, hw⟩
  refine ⟨he, ?_⟩
  rw [hw]
  have b1 := (Below.refl B w).alloc hB (.cells #[.pointer (some ⟨t, 0, none⟩)] 83)
  have b2 := b1.alloc (by simp; omega) (.cells #[.pointer (some ⟨1, 83, none⟩), .pointer (some ⟨w.heap.size, 0, none⟩), .int .u64 150] 123)
  have b3 := b2.alloc (by simp; omega) (.cells #[.pointer (some ⟨1, 83, none⟩), .pointer (some ⟨w.heap.size, 0, none⟩), .int .u64 150] 123)
  have b4 := b3.alloc (by simp; omega) (.cells #[.string s] 81)
  exact b4.setCell htB _
theorem asNil_any (t : Value) (w : World) : Calls Tryz.prog 34 #[.nilIface, t] w fun e w' => e = .returned (.bool false) ∧ Below w.heap.size w w' := by
  refine (as_nil t w).mono ?_
  rintro e w' ⟨he, hw⟩
  rw [hw]
  exact ⟨he, Below.refl _ _⟩
theorem boxes4 (w : World) (A B C D : List Value) (TA TB TC TD : TypeId) :
    BoxF ((((w.alloc (.cells A.toArray TA)).alloc (.cells B.toArray TB)).alloc (.cells C.toArray TC)).alloc (.cells D.toArray TD)) w.heap.size A ∧ BoxF ((((w.alloc (.cells A.toArray TA)).alloc (.cells B.toArray TB)).alloc (.cells C.toArray TC)).alloc (.cells D.toArray TD)) (w.heap.size + 1) B ∧ BoxF ((((w.alloc (.cells A.toArray TA)).alloc (.cells B.toArray TB)).alloc (.cells C.toArray TC)).alloc (.cells D.toArray TD)) (w.heap.size + 2) C ∧ BoxF ((((w.alloc (.cells A.toArray TA)).alloc (.cells B.toArray TB)).alloc (.cells C.toArray TC)).alloc (.cells D.toArray TD)) (w.heap.size + 3) D ∧ Below w.heap.size w ((((w.alloc (.cells A.toArray TA)).alloc (.cells B.toArray TB)).alloc (.cells C.toArray TC)).alloc (.cells D.toArray TD)) ∧ ((((w.alloc (.cells A.toArray TA)).alloc (.cells B.toArray TB)).alloc (.cells C.toArray TC)).alloc (.cells D.toArray TD)).heap.size = w.heap.size + 4 := by
  obtain ⟨a, b, c, bl, hz⟩ := boxes3 w A B C TA TB TC
  generalize ((w.alloc (.cells A.toArray TA)).alloc (.cells B.toArray TB)).alloc (.cells C.toArray TC) = w3 at *
  have d := boxF_new w3 D TD
  have u := (Below.refl w3.heap.size w3).alloc (Nat.le_refl _) (.cells D.toArray TD)
  have z : (w3.alloc (.cells D.toArray TD)).heap.size = w3.heap.size + 1 := by simp
  rw [hz] at d
  exact ⟨a.up u, b.up u, c.up u, d, bl.trans (u.mono bl.size), by omega⟩
def ShowRd (w : World) (v : Value) (s : ShowV) : Prop := ∃ a b, v = .agg #[a, b] ∧ IntSRd w a s.vals ∧ MarkSRd w b s.stamp
def ShowOwn (S : List Nat) (w : World) (v : Value) (s : ShowV) : Prop := ∃ a b S0 S1, v = .agg #[a, b] ∧ S = S0 ++ S1 ∧ IntSOwn S0 w a s.vals ∧ MarkSOwn S1 w b s.stamp ∧ Far S0 S1
theorem ShowRd.up {w w' : World} {v : Value} {s : ShowV} (h : ShowRd w v s) (hb : Below w.heap.size w w') : ShowRd w' v s := by
  obtain ⟨a, b, e, h1, h2⟩ := h
  exact ⟨a, b, e, h1.up hb, h2.up hb⟩
theorem ShowRd.form {w : World} {v : Value} {s : ShowV} (h : ShowRd w v s) : ∃ a0 n0 c0 a1 n1 c1, v = .agg #[.slice a0 n0 c0, .slice a1 n1 c1] := by
  obtain ⟨a, b, rfl, h1, h2⟩ := h
  obtain ⟨a0, n0, c0, rfl⟩ := h1.form
  obtain ⟨a1, n1, c1, rfl⟩ := h2.form
  exact ⟨a0, n0, c0, a1, n1, c1, rfl⟩
theorem ShowOwn.rd {S : List Nat} {w : World} {v : Value} {s : ShowV} (h : ShowOwn S w v s) : ShowRd w v s := by
  obtain ⟨a, b, S0, S1, e, -, h1, h2, -⟩ := h
  exact ⟨a, b, e, h1.rd, h2.rd⟩
theorem ShowOwn.lt {S : List Nat} {w : World} {v : Value} {s : ShowV} (h : ShowOwn S w v s) : ∀ k ∈ S, k < w.heap.size := by
  obtain ⟨a, b, S0, S1, e, rfl, h1, h2, -⟩ := h
  intro k hk
  rcases List.mem_append.1 hk with hk | hk
  · exact h1.lt k hk
  · exact h2.lt k hk
theorem ShowOwn.turn {S S' : List Nat} {w w' : World} {v : Value} {s : ShowV} (h : ShowOwn S w v s) (ht : Turn S' w w') (hS : ∀ k ∈ S, k ∉ S') : ShowOwn S w' v s := by
  obtain ⟨a, b, S0, S1, e, rfl, h1, h2, hf⟩ := h
  exact ⟨a, b, S0, S1, e, rfl, h1.turn ht (fun k hk => hS k (List.mem_append.2 (.inl hk))), h2.turn ht (fun k hk => hS k (List.mem_append.2 (.inr hk))), hf⟩
theorem ShowOwn.up {S : List Nat} {w w' : World} {v : Value} {s : ShowV} (h : ShowOwn S w v s) (hb : Below w.heap.size w w') : ShowOwn S w' v s := h.turn (Turn.of_below (S := []) hb) (by simp)
theorem showNone (w : World) : ShowOwn [] w (.agg #[.slice none 0 0, .slice none 0 0]) ⟨[], []⟩ := ⟨_, _, [], [], rfl, rfl, .inl ⟨rfl, rfl, none, 0, rfl⟩, .inl ⟨rfl, rfl, none, 0, rfl⟩, fun k h => by cases h⟩
theorem gatherNone (w : World) : GatherFull [] w (.agg #[.slice none 0 0, .slice none 0 0, .slice none 0 0]) ⟨[], [], []⟩ := ⟨_, _, _, [], [], [], rfl, rfl, .inl ⟨rfl, rfl, none, 0, rfl⟩, ⟨none, 0, rfl, by simp, .inl rfl⟩, .inl ⟨rfl, rfl, none, 0, rfl⟩, (fun _ h => by cases h), (fun _ h => by cases h), (fun _ h => by cases h)⟩
theorem BoxF.twoF {w : World} {g : Nat} {a b : Value} (h : BoxF w g [a, b]) : (w.cell? ⟨g, 0, none⟩ = some a ∧ w.cell? ⟨g, 1, none⟩ = some b) ∧ (w.frozen? ⟨g, 0, none⟩ = false ∧ w.frozen? ⟨g, 1, none⟩ = false) :=
  ⟨h.1.two, h.2 0 (by simp), h.2 1 (by simp)⟩
/-- what GatherPut hands back -/
def RetGF (G : GatherV) (s : ShowV) (c : Int) (w : World) (e : Ending) (w' : World) : Prop :=
  ∃ gv Sg sv Ss, e = .returned (.tuple #[gv, sv, .int .i64 c]) ∧ Hid (GatherFull Sg w' gv G) ∧ Hid (∀ k ∈ Sg, w.heap.size ≤ k) ∧ Hid (ShowOwn Ss w' sv s) ∧ Hid (∀ k ∈ Ss, w.heap.size ≤ k) ∧ Hid (Far Sg Ss) ∧ Hid (GatherRoom gv) ∧ Below w.heap.size w w'
set_option maxRecDepth 20000 in
set_option maxHeartbeats 6400000 in
theorem gput_bad (v u : Value) (g : GatherV) (f : FeedV) (w : World) (hv : GatherRd w v g) (hu : FeedRd w u f) (hE : ErrT w) (h : ∀ W, Below w.heap.size w W → Calls Tryz.prog 33 #[v, u] W fun e w' => RetNo W e w') :
    Calls Tryz.prog 9 #[v, u] w fun e w' => RetGF ⟨[], [], []⟩ ⟨[], []⟩ 2 w e w' := by
  obtain ⟨a0, n0, c0, a1, n1, c1, a2, n2, c2, rfl⟩ := hv.form
  obtain ⟨fv, rfl, hfv⟩ := hu
  obtain ⟨sa, sn, sc, rfl⟩ := hfv.form
  have HO := hide h
  have HE := hide hE
  clear h hfv hv hE
  obtain ⟨X0, X1, X2, X3, b0, hz⟩ := boxes4 w [.slice a0 n0 c0, .slice a1 n1 c1, .slice a2 n2 c2] [.int .i64 f.inn, .int .i64 f.item.a0, .slice sa sn sc] [.slice none 0 0, .slice none 0 0, .slice none 0 0] [.slice none 0 0, .slice none 0 0] 36 46 36 39
  simp only [List.toArray] at X0 X1 X2 X3 b0 hz
  unfold RetNo at HO
  generalize f.inn = inn at *
  generalize f.item.a0 = z at *
  go_enter Tryz.func9, Tryz.ntmps9
  go_wp2_with fail
  generalize (((w.alloc (.cells #[.slice a0 n0 c0, .slice a1 n1 c1, .slice a2 n2 c2] 36)).alloc (.cells #[.int .i64 inn, .int .i64 z, .slice sa sn sc] 46)).alloc (.cells #[.slice none 0 0, .slice none 0 0, .slice none 0 0] 36)).alloc (.cells #[.slice none 0 0, .slice none 0 0] 39) = W at *
  obtain ⟨⟨x0, x1, x2⟩, -⟩ := X0.three
  obtain ⟨⟨y0, y1, y2⟩, -⟩ := X1.three
  go_wp2_with fail
  refine (unhide HO _ b0).mono ?_
  rintro e w1 ⟨s, rfl, b1⟩
  have B1 := hide (b0.trans (b1.mono b0.size))
  have R0 := hide (X2.up b1)
  have R1 := hide (X3.up b1)
  have hzl : w.heap.size + 4 ≤ w1.heap.size := by rw [← hz]; exact b1.size
  clear x0 x1 x2 y0 y1 y2 b1 X0 X1 X2 X3 b0 hz
  have XA := boxF_new w1 [.string ⟨#[]⟩] 81
  have ba := (Below.refl w1.heap.size w1).alloc (Nat.le_refl _) (.cells #[.string ⟨#[]⟩] 81)
  simp only [List.toArray] at XA
  have wa1 : w1.heap.size ≤ (w1.alloc (.cells #[.string ⟨#[]⟩] 81)).heap.size := ba.size
  have EA := hide (asHit_any s w1.heap.size _ _ ((unhide HE).up ((unhide B1).trans (ba.mono (unhide B1).size))) (XA.1.2 0 _ rfl) (XA.2 0 (by simp)) w1.heap.size wa1 (Nat.le_refl _))
  have BA := hide ba
  clear XA ba
  go_wp2_with fail
  refine (unhide EA).mono ?_
  rintro e w2 ⟨rfl, b2⟩
  have B2 := hide ((unhide B1).trans (((unhide BA).trans b2).mono (unhide B1).size))
  have R2 := (unhide R0).up ((unhide BA).trans b2)
  have R3 := (unhide R1).up ((unhide BA).trans b2)
  have Z2 := hide (show w.heap.size + 4 ≤ w2.heap.size from Nat.le_trans hzl (Nat.le_trans wa1 b2.size))
  obtain ⟨⟨p0, p1, p2⟩, f0, f1, f2⟩ := R2.three
  obtain ⟨⟨s0, s1⟩, h0, h1⟩ := R3.twoF
  have XB := ((((((R2.set 0 (.slice none 0 0) (by simp)).set 1 (.slice none 0 0) (by simp)).set 2 (.slice none 0 0) (by simp)).far 0 (.slice none 0 0) (show w.heap.size + 2 ≠ w.heap.size + 3 by omega))).far 1 (.slice none 0 0) (show w.heap.size + 2 ≠ w.heap.size + 3 by omega))
  have XC := ((((((R3.far 0 (.slice none 0 0) (show w.heap.size + 3 ≠ w.heap.size + 2 by omega)).far 1 (.slice none 0 0) (show w.heap.size + 3 ≠ w.heap.size + 2 by omega)).far 2 (.slice none 0 0) (show w.heap.size + 3 ≠ w.heap.size + 2 by omega)).set 0 (.slice none 0 0) (by simp)).set 1 (.slice none 0 0) (by simp)))
  simp only [List.set] at XB XC
  have TT : Turn [w.heap.size + 2, w.heap.size + 3] w2 (((((w2.setCell ⟨w.heap.size + 2, 0, none⟩ (.slice none 0 0)).setCell ⟨w.heap.size + 2, 1, none⟩ (.slice none 0 0)).setCell ⟨w.heap.size + 2, 2, none⟩ (.slice none 0 0)).setCell ⟨w.heap.size + 3, 0, none⟩ (.slice none 0 0)).setCell ⟨w.heap.size + 3, 1, none⟩ (.slice none 0 0)) := (((((Turn.refl _ _).setCell (by simp) _ _).setCell (by simp) _ _).setCell (by simp) _ _).setCell (by simp) _ _).setCell (by simp) _ _
  have BF := hide ((unhide B2).trans (TT.below (unhide B2).size (fun k hk => by simp at hk; omega)))
  clear b2 TT R2 R3 wa1
  go_wp2_with fail
  clear p0 p1 p2 f0 f1 f2 s0 s1 h0 h1
  generalize ((((w2.setCell ⟨w.heap.size + 2, 0, none⟩ (.slice none 0 0)).setCell ⟨w.heap.size + 2, 1, none⟩ (.slice none 0 0)).setCell ⟨w.heap.size + 2, 2, none⟩ (.slice none 0 0)).setCell ⟨w.heap.size + 3, 0, none⟩ (.slice none 0 0)).setCell ⟨w.heap.size + 3, 1, none⟩ (.slice none 0 0) = WF at *
  obtain ⟨⟨q0, q1, q2⟩, -⟩ := XB.three
  obtain ⟨⟨q3, q4⟩, -⟩ := XC.twoF
  refine bodyPost_ret (v := .tuple #[.agg #[.slice none 0 0, .slice none 0 0, .slice none 0 0], .agg #[.slice none 0 0, .slice none 0 0], .int .i64 2]) ?_ rfl ?_
  · simp [results, Tryz.results9, go_sem, q0, q1, q2, q3, q4]
  exact ⟨_, [], _, [], rfl, hide (gatherNone _), hide (by simp), hide (showNone _), hide (by simp), hide (fun k h => by cases h), hide (fun a n c v1 v2 e => by simp at e; omega), unhide BF⟩
set_option maxRecDepth 20000 in
set_option maxHeartbeats 6400000 in
theorem gput_old (v u : Value) (g : GatherV) (f : FeedV) (w : World) (hs : SmallGather g) (hgb : gatherB g = true) (hv : GatherRd w v g) (hu : FeedRd w u f) (h : ∀ W, Below w.heap.size w W → Calls Tryz.prog 33 #[v, u] W fun e w' => RetOld W e w') :
    Calls Tryz.prog 9 #[v, u] w fun e w' => RetGF g ⟨[], []⟩ 3 w e w' := by
  have HG := hide (fun (W : World) (bW : Below w.heap.size w W) => ownGather_any g v W hs hgb (hv.up bW))
  obtain ⟨a0, n0, c0, a1, n1, c1, a2, n2, c2, rfl⟩ := hv.form
  obtain ⟨fv, rfl, hfv⟩ := hu
  obtain ⟨sa, sn, sc, rfl⟩ := hfv.form
  have HO := hide h
  clear h hfv hv hs hgb
  obtain ⟨X0, X1, X2, X3, b0, hz⟩ := boxes4 w [.slice a0 n0 c0, .slice a1 n1 c1, .slice a2 n2 c2] [.int .i64 f.inn, .int .i64 f.item.a0, .slice sa sn sc] [.slice none 0 0, .slice none 0 0, .slice none 0 0] [.slice none 0 0, .slice none 0 0] 36 46 36 39
  simp only [List.toArray] at X0 X1 X2 X3 b0 hz
  unfold RetOld at HO
  unfold RetGP at HG
  generalize f.inn = inn at *
  generalize f.item.a0 = z at *
  obtain ⟨ins, wins, shown⟩ := g
  simp only at HG
  go_enter Tryz.func9, Tryz.ntmps9
  go_wp2_with fail
  generalize (((w.alloc (.cells #[.slice a0 n0 c0, .slice a1 n1 c1, .slice a2 n2 c2] 36)).alloc (.cells #[.int .i64 inn, .int .i64 z, .slice sa sn sc] 46)).alloc (.cells #[.slice none 0 0, .slice none 0 0, .slice none 0 0] 36)).alloc (.cells #[.slice none 0 0, .slice none 0 0] 39) = W at *
  obtain ⟨⟨x0, x1, x2⟩, -⟩ := X0.three
  obtain ⟨⟨y0, y1, y2⟩, -⟩ := X1.three
  go_wp2_with fail
  refine (unhide HO _ b0).mono ?_
  rintro e w1 ⟨rfl, b1⟩
  have B1 := hide (b0.trans (b1.mono b0.size))
  have R0 := hide (X2.up b1)
  have R1 := hide (X3.up b1)
  have XG := hide (X0.up b1)
  have hzl : w.heap.size + 4 ≤ w1.heap.size := by rw [← hz]; exact b1.size
  clear x0 x1 x2 y0 y1 y2 b1 X0 X1 X2 X3 b0 hz
  have BA := hide ((Below.refl w1.heap.size w1).alloc (Nat.le_refl _) (.cells #[.string ⟨#[]⟩] 81))
  go_wp2_with fail
  refine (asNil_any _ _).mono ?_
  rintro e w2 ⟨rfl, b2⟩
  have k2 := (unhide BA).trans (b2.mono (unhide BA).size)
  have B2 := hide ((unhide B1).trans (k2.mono (unhide B1).size))
  have R02 := hide ((unhide R0).up k2)
  have R12 := hide ((unhide R1).up k2)
  have hz2 : w.heap.size + 4 ≤ w2.heap.size := Nat.le_trans hzl k2.size
  obtain ⟨⟨x0, x1, x2⟩, -⟩ := ((unhide XG).up k2).three
  clear k2 b2 BA R0 R1 XG
  go_wp2_with fail
  refine (unhide HG _ (unhide B2)).mono ?_
  rintro e w3 ⟨ua, uc, gb, gc, ma, mc, vs, G, rfl, HP, b3⟩
  have B3 := hide ((unhide B2).trans (b3.mono (unhide B2).size))
  have R03 := hide ((unhide R02).up b3)
  have R13 := hide ((unhide R12).up b3)
  have hz3 : w2.heap.size ≤ w3.heap.size := b3.size
  clear x0 x1 x2 b3 R02 R12
  have XT := boxF_new w3 [.slice ua ins.length uc, .slice (some ⟨gb, 0, none⟩) wins.length gc, .slice ma shown.length mc] 36
  have bt := (Below.refl w3.heap.size w3).alloc (Nat.le_refl _) (.cells #[.slice ua ins.length uc, .slice (some ⟨gb, 0, none⟩) wins.length gc, .slice ma shown.length mc] 36)
  simp only [List.toArray] at XT
  go_wp2_with fail
  have ht3 : w3.heap.size < (w3.alloc (.cells #[.slice ua ins.length uc, .slice (some ⟨gb, 0, none⟩) wins.length gc, .slice ma shown.length mc] 36)).heap.size := by simp
  have XT3 := hide XT
  have BT := hide bt
  clear XT bt
  refine (staleLeave_any _ _).mono ?_
  rintro e w4 ⟨rfl, b4⟩
  have k4 := (unhide BT).trans (b4.mono (unhide BT).size)
  have B4 := hide ((unhide B3).trans (k4.mono (unhide B3).size))
  have XT4 := hide ((unhide XT3).up b4)
  have R04 := hide ((unhide R03).up k4)
  have R14 := hide ((unhide R13).up k4)
  have P4 := hide ((unhide HP).up k4)
  clear k4 b4 R03 R13 HP XT3 BT
  go_wp2_with fail
  refine (tell_stale _).mono ?_
  rintro e w5 ⟨rfl, b5⟩
  have B5 := hide ((unhide B4).trans (b5.mono (unhide B4).size))
  have XT5 := hide ((unhide XT4).up b5)
  have R05 := hide ((unhide R04).up b5)
  have R15 := hide ((unhide R14).up b5)
  have P5 := hide ((unhide P4).up b5)
  have ZT := hide (show w.heap.size + 4 ≤ w3.heap.size from Nat.le_trans hz2 hz3)
  clear b5 XT4 R04 R14 P4
  have XS := boxF_new w5 [.slice none 0 0, .slice none 0 0] 39
  have bs := (Below.refl w5.heap.size w5).alloc (Nat.le_refl _) (.cells #[.slice none 0 0, .slice none 0 0] 39)
  simp only [List.toArray] at XS
  have XT6 := hide ((unhide XT5).up bs)
  have R06 := hide ((unhide R05).up bs)
  have R16 := hide ((unhide R15).up bs)
  have B6 := hide ((unhide B5).trans (bs.mono (unhide B5).size))
  have BS6 := hide bs
  have hgs : w3.heap.size < w5.heap.size := (unhide XT5).1.1
  have hgt : w.heap.size + 4 ≤ w3.heap.size := unhide ZT
  have XS6 := hide XS
  clear XS bs
  obtain ⟨⟨x0, x1, x2⟩, -⟩ := (unhide XT6).three
  obtain ⟨⟨y0, y1⟩, -⟩ := (unhide XS6).twoF
  obtain ⟨⟨p0, p1, p2⟩, f0, f1, f2⟩ := (unhide R06).three
  obtain ⟨⟨s0, s1⟩, h0, h1⟩ := (unhide R16).twoF
  go_wp2_with fail
  generalize w5.alloc (.cells #[.slice none 0 0, .slice none 0 0] 39) = W6 at *
  go_region
  clear p0 p1 p2 f0 f1 f2 s0 s1 h0 h1 x0 x1 x2 y0 y1
  have XB := (((((((unhide R06).set 0 (.slice ua ins.length uc) (by simp)).set 1 (.slice (some ⟨gb, 0, none⟩) wins.length gc) (by simp)).set 2 (.slice ma shown.length mc) (by simp)).far 0 (.slice none 0 0) (show w.heap.size + 2 ≠ w.heap.size + 3 by omega)).far 1 (.slice none 0 0) (show w.heap.size + 2 ≠ w.heap.size + 3 by omega))).up ((Below.refl _ _).drew)
  have XC := (((((((unhide R16).far 0 (.slice ua ins.length uc) (show w.heap.size + 3 ≠ w.heap.size + 2 by omega)).far 1 (.slice (some ⟨gb, 0, none⟩) wins.length gc) (show w.heap.size + 3 ≠ w.heap.size + 2 by omega)).far 2 (.slice ma shown.length mc) (show w.heap.size + 3 ≠ w.heap.size + 2 by omega)).set 0 (.slice none 0 0) (by simp)).set 1 (.slice none 0 0) (by simp))).up ((Below.refl _ _).drew)
  simp only [List.set] at XB XC
  have TT : Turn [w.heap.size + 2, w.heap.size + 3] W6 ((((((W6.setCell ⟨w.heap.size + 2, 0, none⟩ (.slice ua ins.length uc)).setCell ⟨w.heap.size + 2, 1, none⟩ (.slice (some ⟨gb, 0, none⟩) wins.length gc)).setCell ⟨w.heap.size + 2, 2, none⟩ (.slice ma shown.length mc)).setCell ⟨w.heap.size + 3, 0, none⟩ (.slice none 0 0)).setCell ⟨w.heap.size + 3, 1, none⟩ (.slice none 0 0))) := ((((((Turn.refl _ _).setCell (by simp) _ _).setCell (by simp) _ _).setCell (by simp) _ _).setCell (by simp) _ _).setCell (by simp) _ _)
  have hw6 := (unhide B6).size
  have BF := hide (((unhide B6).trans (TT.below hw6 (fun k hk => by simp at hk; omega))).drew)
  have PF := hide (((((unhide P5).up (unhide BS6)).turn TT (fun k hk => by have := (unhide B2).size; simp at hk; omega)).up ((Below.refl _ _).drew)))
  clear TT
  go_wp2_with fail
  generalize (((((W6.setCell ⟨w.heap.size + 2, 0, none⟩ (.slice ua ins.length uc)).setCell ⟨w.heap.size + 2, 1, none⟩ (.slice (some ⟨gb, 0, none⟩) wins.length gc)).setCell ⟨w.heap.size + 2, 2, none⟩ (.slice ma shown.length mc)).setCell ⟨w.heap.size + 3, 0, none⟩ (.slice none 0 0)).setCell ⟨w.heap.size + 3, 1, none⟩ (.slice none 0 0)).drew = WF at *
  obtain ⟨⟨q0, q1, q2⟩, -⟩ := XB.three
  obtain ⟨⟨q3, q4⟩, -⟩ := XC.twoF
  refine bodyPost_ret (v := .tuple #[.agg #[.slice ua ins.length uc, .slice (some ⟨gb, 0, none⟩) wins.length gc, .slice ma shown.length mc], .agg #[.slice none 0 0, .slice none 0 0], .int .i64 3]) ?_ rfl ?_
  · simp [results, Tryz.results9, go_sem, q0, q1, q2, q3, q4]
  obtain ⟨Sg, hS, hSB, -⟩ := (unhide PF).full
  exact ⟨_, Sg, _, [], rfl, hide hS, hide (fun k hk => Nat.le_trans (unhide B2).size (hSB k hk)), hide (showNone _), hide (by simp), hide (fun k h hm => by cases hm), hide (fun a n c v1 v2 e => by
    simp only [Value.agg.injEq, Array.mk.injEq, List.cons.injEq, Value.slice.injEq] at e
    obtain ⟨⟨rfl, rfl, rfl⟩, -⟩ := e
    exact (unhide PF).tx.room), unhide BF⟩
end Go.Proofs.YtknkdbfgfcgkiaaGreatDoor

set_option linter.unusedVariables false
namespace Go.Proofs.YtknkdbfgfcgkiaaGreatDoor
open Go.RowKit Go.Maps Go.Deep

/-- the blocks of the parts -/
def PartOf (u0 u1 u2 : Value) (G : Nat → List Nat) (n : Nat) (q : Nat) : Prop := u0.ownBlock = some q ∨ u1.ownBlock = some q ∨ (∃ i, i < n ∧ q ∈ G i) ∨ u2.ownBlock = some q
theorem GParts.lt {B : Nat} {w : World} {u0 u1 u2 : Value} {vs : List Value} {G : Nat → List Nat} {ins : List ByteArray} {wins : List (List ItemV)} {shown : List MarkV} (h : GParts B w u0 u1 u2 vs G ins wins shown) : ∀ q, PartOf u0 u1 u2 G wins.length q → q < w.heap.size := by
  intro q hq
  rcases hq with e | e | ⟨i, hi, e⟩ | e
  · exact h.tx.lt q e
  · exact h.wi.row.lt q e
  · exact h.wi.lt i hi q e
  · exact h.mr.lt q e
theorem GParts.ge {B : Nat} {w : World} {u0 u1 u2 : Value} {vs : List Value} {G : Nat → List Nat} {ins : List ByteArray} {wins : List (List ItemV)} {shown : List MarkV} (h : GParts B w u0 u1 u2 vs G ins wins shown) : ∀ q, PartOf u0 u1 u2 G wins.length q → B ≤ q := by
  intro q hq
  rcases hq with e | e | ⟨i, hi, e⟩ | e
  · exact h.tx.ge q e
  · exact h.wi.row.ge q e
  · exact (h.wi.ge i hi q e).1
  · exact h.mr.ge q e
theorem GParts.keep {B : Nat} {S : List Nat} {w w' : World} {u0 u1 u2 : Value} {vs : List Value} {G : Nat → List Nat} {ins : List ByteArray} {wins : List (List ItemV)} {shown : List MarkV} (h : GParts B w u0 u1 u2 vs G ins wins shown) (t : Turn S w w') (hS : ∀ q, PartOf u0 u1 u2 G wins.length q → q ∉ S) : GParts B w' u0 u1 u2 vs G ins wins shown :=
  ⟨h.tx.keep (fun g hg => t.block g (h.tx.lt g hg) (hS g (.inl hg))),
   ⟨h.wi.row.keep (fun g hg => t.block g (h.wi.row.lt g hg) (hS g (.inr (.inl hg)))), h.wi.len, fun i h1 h2 => (h.wi.each i h1 h2).turn t (fun q hq => hS q (.inr (.inr (.inl ⟨i, h2, hq⟩)))), h.wi.apart, h.wi.ge⟩,
   h.mr.keep (fun g hg => t.block g (h.mr.lt g hg) (hS g (.inr (.inr (.inr hg))))), h.f01, h.f02, h.f12⟩
theorem GParts.fullOf {B : Nat} {w : World} {u0 u1 u2 : Value} {vs : List Value} {G : Nat → List Nat} {ins : List ByteArray} {wins : List (List ItemV)} {shown : List MarkV} (h : GParts B w u0 u1 u2 vs G ins wins shown) :
    ∃ S, GatherFull S w (.agg #[u0, u1, u2]) ⟨ins, wins, shown⟩ ∧ (∀ k ∈ S, B ≤ k) ∧ ∀ k ∈ S, PartOf u0 u1 u2 G wins.length k := by
  obtain ⟨S, h1, h2, h3⟩ := h.full
  refine ⟨S, h1, h2, fun k hk => ?_⟩
  rcases h3 k hk with e | (e | e) | e
  · exact .inl e
  · exact .inr (.inl e)
  · exact .inr (.inr (.inl e))
  · exact .inr (.inr (.inr e))
/-- one window is written -/
theorem GParts.put {B B' : Nat} {w : World} {u0 u2 y : Value} {gb n c k : Nat} {T : List Nat} {x : List ItemV} {vs : List Value} {G : Nat → List Nat} {ins : List ByteArray} {wins : List (List ItemV)} {shown : List MarkV} (h : GParts B w u0 (.slice (some ⟨gb, 0, none⟩) n c) u2 vs G ins wins shown)
    (hy : ItemSFull T w y x) (hT : ∀ q ∈ T, B' ≤ q ∧ q < B) (hB : B' ≤ B) : GParts B' (w.setCell ⟨gb, k, none⟩ y) u0 (.slice (some ⟨gb, 0, none⟩) n c) u2 (vs.set k y) (fun i => if i = k then T else G i) ins (wins.set k x) shown := by
  have t : Turn [gb] w (w.setCell ⟨gb, k, none⟩ y) := (Turn.refl _ _).setCell (by simp) k _
  have hgb : B ≤ gb := h.wi.row.ge gb rfl
  have hlen := h.wi.len
  have g0 : ∀ i, i < wins.length → gb ∉ G i := fun i hi hm => (h.wi.ge i hi gb hm).2 rfl
  refine ⟨(h.tx.keep (fun g hg => t.block g (h.tx.lt g hg) (fun hm => by simp at hm; subst hm; exact (h.f01 g hg).1 rfl))).mono hB, ⟨(h.wi.row.set k y).mono hB, by rw [List.length_set, List.length_set, hlen], fun i h1 h2 => ?_, fun i j hi hj hij q hq hm => ?_, fun i hi q hq => ?_⟩, (h.mr.keep (fun g hg => t.block g (h.mr.lt g hg) (fun hm => by simp at hm; subst hm; exact (h.f12 g hg).1 rfl))).mono hB, fun q hq => ⟨(h.f01 q hq).1, fun i hi hm => ?_⟩, h.f02, fun q hq => ⟨(h.f12 q hq).1, fun i hi hm => ?_⟩⟩
  · rw [List.length_set] at h1 h2
    by_cases e : i = k
    · subst e
      simp only [List.getElem_set_self, if_true]
      exact hy.turn t (fun q hq hm => by have := (hT q hq).2; simp at hm; omega)
    · simp only [if_neg e]
      rw [List.getElem_set_ne (fun h => e h.symm), List.getElem_set_ne (fun h => e h.symm)]
      exact (h.wi.each i h1 h2).turn t (fun q hq hm => by simp at hm; subst hm; exact g0 i h2 hq)
  · rw [List.length_set] at hi hj
    by_cases e1 : i = k <;> by_cases e2 : j = k
    · omega
    · simp only [if_pos e1] at hq
      simp only [if_neg e2] at hm
      have := (hT q hq).2
      have := (h.wi.ge j hj q hm).1
      omega
    · simp only [if_neg e1] at hq
      simp only [if_pos e2] at hm
      have := (hT q hm).2
      have := (h.wi.ge i hi q hq).1
      omega
    · simp only [if_neg e1] at hq
      simp only [if_neg e2] at hm
      exact h.wi.apart i j hi hj hij q hq hm
  · rw [List.length_set] at hi
    by_cases e1 : i = k
    · simp only [if_pos e1] at hq
      refine ⟨(hT q hq).1, fun e => ?_⟩
      simp only [Value.ownBlock, Option.some.injEq] at e
      have := (hT q hq).2
      omega
    · simp only [if_neg e1] at hq
      exact ⟨Nat.le_trans hB (h.wi.ge i hi q hq).1, (h.wi.ge i hi q hq).2⟩
  · rw [List.length_set] at hi
    by_cases e1 : i = k
    · simp only [if_pos e1] at hm
      have := (hT q hm).2
      have := h.tx.ge q hq
      omega
    · simp only [if_neg e1] at hm
      exact (h.f01 q hq).2 i hi hm
  · rw [List.length_set] at hi
    by_cases e1 : i = k
    · simp only [if_pos e1] at hm
      have := (hT q hm).2
      have := h.mr.ge q hq
      omega
    · simp only [if_neg e1] at hm
      exact (h.f12 q hq).2 i hi hm
/-- another stamp -/
theorem GParts.stamp {B N : Nat} {w w' : World} {u0 u1 u2 u3 : Value} {vs : List Value} {G : Nat → List Nat} {ins : List ByteArray} {wins : List (List ItemV)} {shown ms : List MarkV} (h : GParts B w u0 u1 u2 vs G ins wins shown) (hb : Below w.heap.size w w') (hr : MkRow N w' u3 ms) (hN : w.heap.size ≤ N) (hB : B ≤ N) : GParts B w' u0 u1 u3 vs G ins wins ms := by
  have h' := h.up hb
  refine ⟨h'.tx, h'.wi, hr.mono hB, h.f01, fun q hq e => ?_, fun q hq => ⟨fun e => ?_, fun i hi hm => ?_⟩⟩
  · have := h.tx.lt q hq; have := hr.ge q e; omega
  · have := h.wi.row.lt q e; have := hr.ge q hq; omega
  · have := h.wi.lt i hi q hm; have := hr.ge q hq; omega
end Go.Proofs.YtknkdbfgfcgkiaaGreatDoor
