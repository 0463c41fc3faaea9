/-
  How much a gatherer holds; the laws' helpers over shows; what is small.
-/
/-
  A law's call with two copies in place, and its two answers stored: what is there while the region runs, whatever order was drawn.
-/
/-
  The program's GatherPut as the law calls it.
-/
/-
  The specification's GatherPut as the law calls it.
-/
/-
  What GatherPut answers is small.
-/
import Derived.Test.YtknkdbfgfcgkiaaGreatDoorMerged49
import Derived.Test.YtknkdbfgfcgkiaaGreatDoorMerged47
set_option linter.unusedVariables false
namespace Go.Proofs.YtknkdbfgfcgkiaaGreatDoor
open Go.RowKit Go.Maps Go.Deep Go.ChangeShapes Go.WideShapes Go.ChangeAt

theorem szItemSSF_kitL (ns : List (List ItemV)) (v : Value) (left : Int) (w : World) (h0 : 0 ≤ left) (h1 : left ≤ 1048576) (hf : ItemSSFit ns) (h : ItemSSRd w v ns) :
    Calls Tryz.prog 19 #[v, .int .i64 left] w fun e w' => ∃ q : Int, e = .returned (.int .i64 q) ∧ q ≤ left ∧ Hid (0 ≤ q → SmallItemSSF ns) ∧ Below w.heap.size w w' := by
  obtain ⟨a, c, rfl, h⟩ := h
  rcases h with rfl | ⟨b, off, rfl, hb, hc⟩
  · refine (szItemSS_none w a c left h0 h1).mono ?_
    rintro e w' ⟨rfl, rfl⟩
    exact ⟨_, rfl, Int.le_refl _, hide (fun _ => ⟨⟨by simp, fun _ h => by cases h⟩, by simp [wItemSS, wwTo]⟩), Below.refl _ _⟩
  · refine (szItemSS_wt w b off c ns left h0 h1 hf.1 hc hb hf.2).mono ?_
    rintro e w' ⟨r, rfl, h2, h3, h4⟩
    exact ⟨_, rfl, h2, hide (fun h => ⟨(unhide h3 h).1, by have := (unhide h3 h).2; omega⟩), h4⟩
set_option maxHeartbeats 1600000 in
theorem szGatherP_kitL (d : GatherV) (v : Value) (left : Int) (w : World) (hl0 : 0 ≤ left) (hl1 : left ≤ 1048576) (hf : GatherFit d) (h : GatherRd w v d) :
    Calls Tryz.prog 4 #[v, .int .i64 left] w fun e w' => ∃ q : Int, e = .returned (.int .i64 q) ∧ q ≤ left ∧ Hid (0 ≤ q → SmallGatherP d) ∧ Below w.heap.size w w' := by
  have HF := hide hf
  have HR := hide h
  obtain ⟨a0, n0, c0, a1, n1, c1, a2, n2, c2, rfl⟩ := h.form
  have HP := hide (fun W (b : Below w.heap.size w W) => show StringSRd W (.slice a0 n0 c0) d.ins ∧ ItemSSRd W (.slice a1 n1 c1) d.wins ∧ MarkSRd W (.slice a2 n2 c2) d.shown from by
    obtain ⟨v0, v1, v2, e, h0, h1, h2⟩ := (unhide HR).up b
    simp only [Value.agg.injEq, Array.mk.injEq, List.cons.injEq, and_true] at e
    obtain ⟨rfl, rfl, rfl⟩ := e
    exact ⟨h0, h1, h2⟩)
  obtain ⟨bx, bb, zz⟩ := boxNew3 w (.slice a0 n0 c0) (.slice a1 n1 c1) (.slice a2 n2 c2) 26
  clear h hf HR
  obtain ⟨x0, x1, x2⟩ := bx.three
  go_enter Tryz.func4, Tryz.ntmps4
  go_wp2_with fail
  generalize w.alloc (.cells #[.slice a0 n0 c0, .slice a1 n1 c1, .slice a2 n2 c2] 26) = W at *
  have BX := hide bx
  have B0 := hide bb
  clear bx bb zz x0 x1 x2
  refine (szStringS_kitL d.ins _ left W (by omega) (by omega) (unhide HF).1 (unhide HP _ (unhide B0)).1).mono ?_
  rintro e w1 ⟨q1, rfl, hq1, H1, b1⟩
  have BX1 := hide ((unhide BX).up b1)
  have B1 := hide ((unhide B0).trans (b1.mono (unhide B0).size))
  clear b1 BX B0
  obtain ⟨x0, x1, x2⟩ := (unhide BX1).three
  by_cases g1 : q1 < 0
  · go_wp2_with fail
    go_ret
    exact ⟨-1, rfl, by omega, hide (fun h => by omega), unhide B1⟩
  go_wp2_with fail
  clear x0 x1 x2
  refine (szItemSSF_kitL d.wins _ q1 w1 (by omega) (by omega) (unhide HF).2.1 (unhide HP _ (unhide B1)).2.1).mono ?_
  rintro e w2 ⟨q2, rfl, hq2, H2, b2⟩
  have BX2 := hide ((unhide BX1).up b2)
  have B2 := hide ((unhide B1).trans (b2.mono (unhide B1).size))
  clear b2 BX1 B1
  obtain ⟨x0, x1, x2⟩ := (unhide BX2).three
  by_cases g2 : q2 < 0
  · go_wp2_with fail
    go_ret
    exact ⟨-1, rfl, by omega, hide (fun h => by omega), unhide B2⟩
  go_wp2_with fail
  clear x0 x1 x2
  refine (szMarkS_kitL d.shown _ q2 w2 (by omega) (by omega) (unhide HF).2.2 (unhide HP _ (unhide B2)).2.2).mono ?_
  rintro e w3 ⟨q3, rfl, hq3, H3, b3⟩
  have B3 := hide ((unhide B2).trans (b3.mono (unhide B2).size))
  clear b3 BX2 B2
  by_cases g3 : q3 < 0
  · go_wp2_with fail
    go_ret
    exact ⟨-1, rfl, by omega, hide (fun h => by omega), unhide B3⟩
  have HE := hide (show SmallGatherP d from ⟨unhide H1 (by omega), unhide H2 (by omega), unhide H3 (by omega)⟩)
  go_wp2_with fail
  go_ret
  exact ⟨q3, rfl, by omega, hide (fun _ => unhide HE), unhide B3⟩
def SmallShow (s : ShowV) : Prop := SmallIntS s.vals ∧ SmallMarkS s.stamp
def nShow (s : ShowV) : Nat := nIntS s.vals + nMarkS s.stamp
theorem nShow_le {s : ShowV} (h : SmallShow s) : nShow s ≤ 100000000 := by
  have := h.1.1
  have := h.2.1.1
  unfold nShow nIntS nMarkS
  omega
def marksShow (k : Nat) (s : ShowV) : ShowV := ⟨marksIntS k s.vals, marksMarkS (k + nIntS s.vals) s.stamp⟩
set_option maxHeartbeats 1600000 in
theorem eqShow_kit (s : ShowV) (v v' : Value) (w : World) (hs : SmallShow s) (h : ShowRd w v s) (h' : ShowRd w v' s) :
    Calls Tryz.prog 11 #[v, v'] w fun e w' => e = .returned (.bool true) ∧ Below w.heap.size w w' := by
  obtain ⟨a, b, rfl, hi, hm⟩ := h
  obtain ⟨a', b', rfl, hi', hm'⟩ := h'
  have HI := hide (fun (W : World) (bW : Below w.heap.size w W) => eqIntS_kit s.vals a a' W hs.1 (hi.up bW) (hi'.up bW))
  have HM := hide (fun (W : World) (bW : Below w.heap.size w W) => eqMarkS_kit s.stamp b b' W hs.2 (hm.up bW) (hm'.up bW))
  obtain ⟨a0, n0, c0, rfl⟩ := hi.form
  obtain ⟨a1, n1, c1, rfl⟩ := hm.form
  obtain ⟨a2, n2, c2, rfl⟩ := hi'.form
  obtain ⟨a3, n3, c3, rfl⟩ := hm'.form
  clear hi hm hi' hm' hs
  obtain ⟨x0, x1, b0, hz⟩ := boxesF2 w [.slice a0 n0 c0, .slice a1 n1 c1] [.slice a2 n2 c2, .slice a3 n3 c3] 39 39
  simp only [List.toArray] at x0 x1 b0 hz
  go_enter Tryz.func11, Tryz.ntmps11
  go_wp2_with fail
  generalize (w.alloc (.cells #[.slice a0 n0 c0, .slice a1 n1 c1] 39)).alloc (.cells #[.slice a2 n2 c2, .slice a3 n3 c3] 39) = W at *
  obtain ⟨⟨p0, p1⟩, -⟩ := x0.twoF
  obtain ⟨⟨q0, q1⟩, -⟩ := x1.twoF
  go_wp2_with fail
  refine (unhide HI _ b0).mono ?_
  rintro e w1 ⟨rfl, b1⟩
  have B1 := hide (b0.trans (b1.mono b0.size))
  have X0 := x0.up b1
  have X1 := x1.up b1
  clear p0 p1 q0 q1 b1 b0 x0 x1
  obtain ⟨⟨p0, p1⟩, -⟩ := X0.twoF
  obtain ⟨⟨q0, q1⟩, -⟩ := X1.twoF
  go_wp2_with fail
  refine (unhide HM _ (unhide B1)).mono ?_
  rintro e w2 ⟨rfl, b2⟩
  go_wp2_with fail
  go_ret
  exact ⟨rfl, (unhide B1).trans (b2.mono (unhide B1).size)⟩
set_option maxHeartbeats 1600000 in
theorem markShow_kit (S : List Nat) (s : ShowV) (v : Value) (w : World) (k n : Nat) (K : Int) (hK : K = (k : Int)) (hn : nShow s = n) (hk : k ≤ 500000000) (hs : SmallShow s) (h : ShowOwn S w v s) :
    Calls Tryz.prog 15 #[v, .int .i64 K] w fun e w' => e = .returned (.int .i64 (K + (n : Int))) ∧ Hid (ShowOwn S w' v (marksShow k s) ∧ Turn S w w') := by
  obtain ⟨a, b, S0, S1, rfl, rfl, hi, hm, hf⟩ := h
  have HLI := hide hi.lt
  have HLM := hide hm.lt
  have hni : nIntS s.vals ≤ 1048576 := hs.1.1
  obtain ⟨ni, hni'⟩ : ∃ ni, nIntS s.vals = ni := ⟨_, rfl⟩
  obtain ⟨nm, hnm'⟩ : ∃ nm, nMarkS s.stamp = nm := ⟨_, rfl⟩
  have hnn : n = ni + nm := by rw [← hn, ← hni', ← hnm']; rfl
  subst hK
  have HI := hide (fun (W : World) (bW : Below w.heap.size w W) => markIntS_kit S0 s.vals a W k ni (k : Int) rfl hni' (by omega) hs.1 (hi.up bW))
  have HM := hide (fun (W : World) (h : MarkSOwn S1 W b s.stamp) => markMarkS_kit S1 s.stamp b W (k + ni) nm ((k : Int) + (ni : Int)) (by omega) hnm' (by omega) hs.2 h)
  have HMO := hide hm
  have HF := hide hf
  obtain ⟨a0, n0, c0, rfl⟩ := hi.rd.form
  obtain ⟨a1, n1, c1, rfl⟩ := hm.rd.form
  have hnil : ni ≤ 1048576 := by omega
  have hnml : nm ≤ 100000000 := by rw [← hnm']; exact nMarkS_le hs.2
  have HNI := hide hni'
  clear hi hm hs hf hn hni hni' hnm'
  subst hnn
  have bx := boxF_new w [.slice a0 n0 c0, .slice a1 n1 c1] 39
  have bb := (Below.refl w.heap.size w).alloc (Nat.le_refl _) (.cells #[.slice a0 n0 c0, .slice a1 n1 c1] 39)
  simp only [List.toArray] at bx
  go_enter Tryz.func15, Tryz.ntmps15
  go_wp2_with fail
  generalize w.alloc (.cells #[.slice a0 n0 c0, .slice a1 n1 c1] 39) = W at *
  obtain ⟨⟨p0, p1⟩, -⟩ := bx.twoF
  go_wp2_with fail
  refine (unhide HI _ bb).mono ?_
  rintro e w1 ⟨rfl, P⟩
  have hwl : ∀ q ∈ S0, q < w.heap.size := unhide HLI
  have T1 := hide ((Turn.of_below (S := S0) bb).trans (unhide P).2)
  have X1 := bx.turn (unhide P).2 (fun hm => by have := hwl _ hm; omega)
  have M1 := hide ((unhide HMO).turn (unhide T1) (fun q hq hm => unhide HF q hm hq))
  have I1 := hide (unhide P).1
  clear p0 p1 bb bx P
  obtain ⟨⟨p0, p1⟩, -⟩ := X1.twoF
  go_wp2_with fail
  refine (unhide HM _ (unhide M1)).mono ?_
  rintro e w2 ⟨rfl, P2⟩
  have R := hide (show ShowOwn (S0 ++ S1) w2 (.agg #[.slice a0 n0 c0, .slice a1 n1 c1]) (marksShow k s) ∧ Turn (S0 ++ S1) w w2 from by
    obtain ⟨h2, t2⟩ := unhide P2
    refine ⟨⟨_, _, S0, S1, rfl, rfl, (unhide I1).turn t2 (fun q hq hm => unhide HF q hq hm), ?_, unhide HF⟩, ((unhide T1).mono (fun q hq => .inl (List.mem_append.2 (.inl hq)))).trans (t2.mono (fun q hq => .inl (List.mem_append.2 (.inr hq))))⟩
    show MarkSOwn S1 w2 _ (marksMarkS (k + nIntS s.vals) s.stamp)
    rw [unhide HNI]
    exact h2)
  go_wp2_with fail
  go_ret
  exact ⟨by rw [show (k : Int) + ((ni + nm : Nat) : Int) = (k : Int) + (ni : Int) + (nm : Int) by omega]; rfl, R⟩
set_option maxHeartbeats 1600000 in
theorem heldShow_kit (s : ShowV) (v : Value) (w : World) (k n : Nat) (K : Int) (hK : K = (k : Int)) (hn : nShow s = n) (hk : k ≤ 500000000) (hs : SmallShow s) (h : ShowRd w v (marksShow k s)) :
    Calls Tryz.prog 17 #[v, .int .i64 K] w fun e w' => e = .returned (.int .i64 (K + (n : Int))) ∧ Below w.heap.size w w' := by
  obtain ⟨a, b, rfl, hi, hm⟩ := h
  have hni : nIntS s.vals ≤ 1048576 := hs.1.1
  obtain ⟨ni, hni'⟩ : ∃ ni, nIntS s.vals = ni := ⟨_, rfl⟩
  obtain ⟨nm, hnm'⟩ : ∃ nm, nMarkS s.stamp = nm := ⟨_, rfl⟩
  have hnn : n = ni + nm := by rw [← hn, ← hni', ← hnm']; rfl
  subst hK
  have hm2 : MarkSRd w b (marksMarkS (k + ni) s.stamp) := by rw [← hni']; exact hm
  have HI := hide (fun (W : World) (bW : Below w.heap.size w W) => heldIntS_kit s.vals a W k ni (k : Int) rfl hni' (by omega) hs.1 (hi.up bW))
  have HM := hide (fun (W : World) (bW : Below w.heap.size w W) => heldMarkS_kit s.stamp b W (k + ni) nm ((k : Int) + (ni : Int)) (by omega) hnm' (by omega) hs.2 (hm2.up bW))
  obtain ⟨a0, n0, c0, rfl⟩ := hi.form
  obtain ⟨a1, n1, c1, rfl⟩ := hm.form
  have hnil : ni ≤ 1048576 := by omega
  have hnml : nm ≤ 100000000 := by rw [← hnm']; exact nMarkS_le hs.2
  clear hi hm hm2 hs hn hni hni' hnm'
  subst hnn
  have bx := boxF_new w [.slice a0 n0 c0, .slice a1 n1 c1] 39
  have bb := (Below.refl w.heap.size w).alloc (Nat.le_refl _) (.cells #[.slice a0 n0 c0, .slice a1 n1 c1] 39)
  simp only [List.toArray] at bx
  go_enter Tryz.func17, Tryz.ntmps17
  go_wp2_with fail
  generalize w.alloc (.cells #[.slice a0 n0 c0, .slice a1 n1 c1] 39) = W at *
  obtain ⟨⟨p0, p1⟩, -⟩ := bx.twoF
  go_wp2_with fail
  refine (unhide HI _ bb).mono ?_
  rintro e w1 ⟨rfl, b1⟩
  have B1 := hide (bb.trans (b1.mono bb.size))
  have X1 := bx.up b1
  clear p0 p1 bb bx b1
  obtain ⟨⟨p0, p1⟩, -⟩ := X1.twoF
  have hneg : ¬ ((k : Int) + (ni : Int) < 0) := by omega
  go_wp2_with fail
  refine (unhide HM _ (unhide B1)).mono ?_
  rintro e w2 ⟨rfl, b2⟩
  have B2 := hide ((unhide B1).trans (b2.mono (unhide B1).size))
  have hneg2 : ¬ ((k : Int) + (ni : Int) + (nm : Int) < 0) := by omega
  go_wp2_with fail
  go_ret
  exact ⟨by rw [show (k : Int) + ((ni + nm : Nat) : Int) = (k : Int) + (ni : Int) + (nm : Int) by omega]; rfl, unhide B2⟩
end Go.Proofs.YtknkdbfgfcgkiaaGreatDoor

set_option linter.unusedVariables false
namespace Go.Proofs.YtknkdbfgfcgkiaaGreatDoor
open Go.RowKit Go.Maps Go.Deep

/-- one statement that every leaf of a tree comes to -/
structure KeptAt (P : Prop) : Prop where
  it : P
theorem key_at {P Q : Prop} (walk : KeptAt P → Q) (pf : P) : Q := walk ⟨pf⟩
def nilG : List Value := [.slice none 0 0, .slice none 0 0, .slice none 0 0]
def nilS : List Value := [.slice none 0 0, .slice none 0 0]
/-- while the two copies are made: P: what is known of them; ga, gb: the blocks of the answers -/
structure TS (W0 : World) (P : World → Prop) (ga gb : Option Nat) (W : World) : Prop where
  bel : Below W0.heap.size W0 W
  p : P W
  keep : ∀ X Y, Below X.heap.size X Y → P X → P Y
  boxA : ∀ g, ga = some g → W0.heap.size ≤ g ∧ BoxF W g nilG
  boxB : ∀ g, gb = some g → W0.heap.size ≤ g ∧ BoxF W g nilS
  ne : ∀ g h, ga = some g → gb = some h → g ≠ h
def P0 : World → Prop := fun _ => True
def P1 (v : Value) (d : GatherV) : World → Prop := fun W => GatherOwn [] W v d
def P2 (v u : Value) (d : GatherV) (f : FeedV) : World → Prop := fun W => GatherOwn [] W v d ∧ FeedRd W u f
/-- behind the call -/
structure TF (W0 : World) (gv sv : Value) (G : GatherV) (s : ShowV) (ga gb : Option Nat) (W : World) : Prop where
  bel : Below W0.heap.size W0 W
  res : ∃ (lo : Nat) (V : World), Below V.heap.size V W ∧ (∀ (S : List Nat) (X : World), (∀ q ∈ S, q < lo ∨ V.heap.size ≤ q) → Turn S V X → GatherRd X gv G ∧ ShowRd X sv s) ∧ (∀ g, ga = some g → g < lo ∨ V.heap.size ≤ g) ∧ (∀ g, gb = some g → g < lo ∨ V.heap.size ≤ g)
  boxA : ∀ g, ga = some g → W0.heap.size ≤ g ∧ BoxF W g nilG
  boxB : ∀ g, gb = some g → W0.heap.size ≤ g ∧ BoxF W g nilS
  ne : ∀ g h, ga = some g → gb = some h → g ≠ h
theorem TS.start {W0 W : World} (h : Below W0.heap.size W0 W) : TS W0 P0 none none W :=
  ⟨h, trivial, fun _ _ _ _ => trivial, (fun _ e => by cases e), (fun _ e => by cases e), (fun _ _ e => by cases e)⟩
theorem TS.ups {W0 W W' : World} {P : World → Prop} {ga gb : Option Nat} (h : TS W0 P ga gb W) (b : Below W.heap.size W W') : TS W0 P ga gb W' :=
  ⟨h.bel.trans (b.mono h.bel.size), h.keep _ _ b h.p, h.keep, fun g e => ⟨(h.boxA g e).1, (h.boxA g e).2.up b⟩, fun g e => ⟨(h.boxB g e).1, (h.boxB g e).2.up b⟩, h.ne⟩
theorem TS.to {W0 W : World} {P Q : World → Prop} {ga gb : Option Nat} (h : TS W0 P ga gb W) (q : Q W) (k : ∀ X Y, Below X.heap.size X Y → Q X → Q Y) : TS W0 Q ga gb W :=
  ⟨h.bel, q, k, h.boxA, h.boxB, h.ne⟩
theorem TS.one {W0 W W' : World} {ga gb : Option Nat} {v : Value} {d : GatherV} {S : List Nat} (h : TS W0 P0 ga gb W) (b : Below W.heap.size W W') (hv : GatherP S W' v d) : TS W0 (P1 v d) ga gb W' :=
  (h.ups b).to (Q := P1 v d) hv.own (fun X Y b h => GatherOwn.up h b)
theorem TS.two {W0 W W' : World} {ga gb : Option Nat} {v u : Value} {d : GatherV} {f : FeedV} {S : List Nat} (h : TS W0 (P1 v d) ga gb W) (b : Below W.heap.size W W') (hu : FeedOwn S W' u f) : TS W0 (P2 v u d f) ga gb W' :=
  (h.ups b).to (Q := P2 v u d f) ⟨(h.ups b).p, hu.rd⟩ (fun X Y b h => ⟨GatherOwn.up h.1 b, FeedRd.up h.2 b⟩)
theorem TS.three {W0 W W' : World} {P : World → Prop} {ga gb : Option Nat} {gv sv : Value} {G : GatherV} {s : ShowV} (h : TS W0 P ga gb W) (b : Below W.heap.size W W') (r : ∀ (S : List Nat) (X : World), (∀ q ∈ S, q < W.heap.size ∨ W'.heap.size ≤ q) → Turn S W' X → GatherRd X gv G ∧ ShowRd X sv s) : TF W0 gv sv G s ga gb W' :=
  ⟨(h.ups b).bel, ⟨W.heap.size, W', Below.refl _ _, r, fun g e => .inl (h.boxA g e).2.1.1, fun g e => .inl (h.boxB g e).2.1.1⟩, (h.ups b).boxA, (h.ups b).boxB, h.ne⟩
def newG (W : World) : World := W.alloc (.cells #[.slice none 0 0, .slice none 0 0, .slice none 0 0] 36)
def newS (W : World) : World := W.alloc (.cells #[.slice none 0 0, .slice none 0 0] 39)
theorem newG_below (W : World) : Below W.heap.size W (newG W) := (Below.refl W.heap.size W).alloc (Nat.le_refl _) _
theorem newS_below (W : World) : Below W.heap.size W (newS W) := (Below.refl W.heap.size W).alloc (Nat.le_refl _) _
theorem TS.newA {W0 W : World} {P : World → Prop} {gb : Option Nat} (h : TS W0 P none gb W) : TS W0 P (some W.heap.size) gb (W.alloc (.cells #[.slice none 0 0, .slice none 0 0, .slice none 0 0] 36)) := by
  have h' := h.ups (newG_below W)
  refine ⟨h'.bel, h'.p, h.keep, fun g e => ?_, h'.boxB, fun g k e1 e2 e3 => ?_⟩
  · cases e
    exact ⟨h.bel.size, boxF_new W nilG 36⟩
  · cases e1
    have := (h.boxB k e2).2.1.1
    omega
theorem TS.newB {W0 W : World} {P : World → Prop} {ga : Option Nat} (h : TS W0 P ga none W) : TS W0 P ga (some W.heap.size) (W.alloc (.cells #[.slice none 0 0, .slice none 0 0] 39)) := by
  have h' := h.ups (newS_below W)
  refine ⟨h'.bel, h'.p, h.keep, h'.boxA, fun g e => ?_, fun g k e1 e2 e3 => ?_⟩
  · cases e
    exact ⟨h.bel.size, boxF_new W nilS 39⟩
  · cases e2
    have := (h.boxA g e1).2.1.1
    omega
theorem TF.ups {W0 W W' : World} {gv sv : Value} {G : GatherV} {s : ShowV} {ga gb : Option Nat} (h : TF W0 gv sv G s ga gb W) (b : Below W.heap.size W W') : TF W0 gv sv G s ga gb W' := by
  obtain ⟨lo, V, h1, h2, h3, h4⟩ := h.res
  exact ⟨h.bel.trans (b.mono h.bel.size), ⟨lo, V, h1.trans (b.mono h1.size), h2, h3, h4⟩, fun g e => ⟨(h.boxA g e).1, (h.boxA g e).2.up b⟩, fun g e => ⟨(h.boxB g e).1, (h.boxB g e).2.up b⟩, h.ne⟩
theorem TF.newA {W0 W : World} {gv sv : Value} {G : GatherV} {s : ShowV} {gb : Option Nat} (h : TF W0 gv sv G s none gb W) : TF W0 gv sv G s (some W.heap.size) gb (W.alloc (.cells #[.slice none 0 0, .slice none 0 0, .slice none 0 0] 36)) := by
  have h' := h.ups (newG_below W)
  obtain ⟨lo, V, h1, h2, h3, h4⟩ := h.res
  refine ⟨h'.bel, ⟨lo, V, h1.trans ((newG_below W).mono h1.size), h2, fun g e => ?_, h4⟩, fun g e => ?_, h'.boxB, fun g k e1 e2 e3 => ?_⟩
  · cases e
    exact .inr h1.size
  · cases e
    exact ⟨h.bel.size, boxF_new W nilG 36⟩
  · cases e1
    have := (h.boxB k e2).2.1.1
    omega
theorem TF.newB {W0 W : World} {gv sv : Value} {G : GatherV} {s : ShowV} {ga : Option Nat} (h : TF W0 gv sv G s ga none W) : TF W0 gv sv G s ga (some W.heap.size) (W.alloc (.cells #[.slice none 0 0, .slice none 0 0] 39)) := by
  have h' := h.ups (newS_below W)
  obtain ⟨lo, V, h1, h2, h3, h4⟩ := h.res
  refine ⟨h'.bel, ⟨lo, V, h1.trans ((newS_below W).mono h1.size), h2, h3, fun g e => ?_⟩, h'.boxA, fun g e => ?_, fun g k e1 e2 e3 => ?_⟩
  · cases e
    exact .inr h1.size
  · cases e
    exact ⟨h.bel.size, boxF_new W nilS 39⟩
  · cases e2
    have := (h.boxA g e1).2.1.1
    omega
/-- the two answers stored -/
theorem TF.done {W0 W : World} {a b c x y : Value} {G : GatherV} {s : ShowV} {ga gb : Nat} (h : TF W0 (.agg #[a, b, c]) (.agg #[x, y]) G s (some ga) (some gb) W) :
    let Y := (((W.setCell ⟨ga, 0, none⟩ a).setCell ⟨ga, 1, none⟩ b).setCell ⟨ga, 2, none⟩ c)
    let Z := ((Y.setCell ⟨gb, 0, none⟩ x).setCell ⟨gb, 1, none⟩ y)
    BoxF W ga [.slice none 0 0, .slice none 0 0, .slice none 0 0] ∧ BoxF W gb [.slice none 0 0, .slice none 0 0] ∧ ¬ (ga = gb) ∧ ¬ (gb = ga) ∧
    Hid (Below W0.heap.size W0 Y) ∧ Hid (Below W0.heap.size W0 Z) ∧ Hid (BoxIs Z ga [a, b, c]) ∧ Hid (BoxIs Z gb [x, y]) ∧ Hid (GatherRd Z (.agg #[a, b, c]) G) ∧ Hid (ShowRd Z (.agg #[x, y]) s) := by
  intro Y Z
  obtain ⟨la, fa⟩ := h.boxA ga rfl
  obtain ⟨lb, fb⟩ := h.boxB gb rfl
  obtain ⟨lo, V, h1, h2, h3, h4⟩ := h.res
  have ne := h.ne ga gb rfl rfl
  have tY : Turn [ga, gb] W Y := (((Turn.refl _ _).setCell (by simp) _ _).setCell (by simp) _ _).setCell (by simp) _ _
  have tZ : Turn [ga, gb] W Z := (((((Turn.refl _ _).setCell (by simp) _ _).setCell (by simp) _ _).setCell (by simp) _ _).setCell (by simp) _ _).setCell (by simp) _ _
  have hlow : ∀ k ∈ [ga, gb], W0.heap.size ≤ k := fun k hk => by simp at hk; omega
  have fZa : BoxF Z ga [a, b, c] := by
    have := ((((fa.set 0 a (by simp [nilG])).set 1 b (by simp [nilG])).set 2 c (by simp [nilG])).far (g' := gb) 0 x ne).far (g' := gb) 1 y ne
    simpa [nilG, List.set] using this
  have fZb : BoxF Z gb [x, y] := by
    have ne' : gb ≠ ga := fun e => ne e.symm
    have := ((((fb.far (g' := ga) 0 a ne').far (g' := ga) 1 b ne').far (g' := ga) 2 c ne').set 0 x (by simp [nilS])).set 1 y (by simp [nilS])
    simpa [nilS, List.set] using this
  have r := h2 [ga, gb] Z (fun q hq => by
    have e1 := h3 ga rfl
    have e2 := h4 gb rfl
    simp at hq
    rcases hq with rfl | rfl
    · exact e1
    · exact e2) ((Turn.of_below h1).trans tZ)
  exact ⟨fa, fb, ne, fun e => ne e.symm, hide (h.bel.trans (tY.below h.bel.size hlow)), hide (h.bel.trans (tZ.below h.bel.size hlow)), hide fZa.1, hide fZb.1, hide r.1, hide r.2⟩
end Go.Proofs.YtknkdbfgfcgkiaaGreatDoor

set_option linter.unusedVariables false
namespace Go.Proofs.YtknkdbfgfcgkiaaGreatDoor
open Go.RowKit Go.Maps Go.Deep

theorem GatherRd.rd {w : World} {v : Value} {g : GatherV} (h : GatherRd w v g) : GatherRd w v g := h
theorem ShowRd.rd {w : World} {v : Value} {s : ShowV} (h : ShowRd w v s) : ShowRd w v s := h
def RetTwo (G : GatherV) (s : ShowV) (c : Int) (w : World) (e : Ending) (w' : World) : Prop :=
  ∃ (a0 : Option Addr) (n0 c0 : Nat) (a1 : Option Addr) (n1 c1 : Nat) (a2 : Option Addr) (n2 c2 : Nat) (b0 : Option Addr) (m0 k0 : Nat) (b1 : Option Addr) (m1 k1 : Nat),
    e = .returned (.tuple #[.agg #[.slice a0 n0 c0, .slice a1 n1 c1, .slice a2 n2 c2], .agg #[.slice b0 m0 k0, .slice b1 m1 k1], .int .i64 c]) ∧
    Hid (∀ (S : List Nat) (X : World), (∀ q ∈ S, q < w.heap.size ∨ w'.heap.size ≤ q) → Turn S w' X → GatherRd X (.agg #[.slice a0 n0 c0, .slice a1 n1 c1, .slice a2 n2 c2]) G ∧ ShowRd X (.agg #[.slice b0 m0 k0, .slice b1 m1 k1]) s) ∧ Below w.heap.size w w'
theorem retTwo {G : GatherV} {s : ShowV} {c : Int} {w w' : World} {e : Ending} {gv sv : Value} (he : e = .returned (.tuple #[gv, sv, .int .i64 c])) (h : ∀ (S : List Nat) (X : World), (∀ q ∈ S, q < w.heap.size ∨ w'.heap.size ≤ q) → Turn S w' X → GatherRd X gv G ∧ ShowRd X sv s) (b : Below w.heap.size w w') : RetTwo G s c w e w' := by
  have r := h [] w' (fun q hq => by cases hq) (Turn.refl _ _)
  obtain ⟨a0, n0, c0, a1, n1, c1, a2, n2, c2, rfl⟩ := r.1.form
  obtain ⟨b0, m0, k0, b1, m1, k1, rfl⟩ := r.2.form
  exact ⟨a0, n0, c0, a1, n1, c1, a2, n2, c2, b0, m0, k0, b1, m1, k1, he, hide h, b⟩
theorem small_gather {d : GatherV} (h : SmallGatherP d) : SmallGather d := ⟨h.1, h.2.1.1, h.2.2⟩
theorem impl_two (d : GatherV) (f : FeedV) (v u : Value) (w : World) (hs : SmallGatherP d) (hf : SmallFeed f) (h : GatherOwn [] w v d) (hu : FeedRd w u f) (hE : ErrT w) :
    Calls Tryz.prog 9 #[v, u] w fun e w' => RetTwo (gpG d f) (gpS d f) (gpC d f) w e w' := by
  refine (implGPut_any d f v u w (small_gather hs) hf h hu hE).mono ?_
  rintro e w' ⟨gv, Sg, sv, Ss, he, h1, h2, h3, h4, h5, h6, b⟩
  refine retTwo he (fun S X hS t => ⟨((unhide h1).turn t (fun k hk hm => ?_)).rd, ((unhide h3).turn t (fun k hk hm => ?_)).rd⟩) b
  · have := (unhide h1).lt k hk
    have := unhide h2 k hk
    rcases hS k hm with e | e <;> omega
  · have := (unhide h3).lt k hk
    have := unhide h4 k hk
    rcases hS k hm with e | e <;> omega
theorem impl_kit {S : List Nat} (d : GatherV) (v : Value) (f : FeedV) (u : Value) (w : World) (hs : SmallGatherP d) (hf : SmallFeed f) (h : GatherP S w v d) (hu : FeedRd w u f) (hE : ErrT w) :
    Calls Tryz.prog 9 #[v, u] w fun e w' => ∃ gv Sg sv Ss, e = .returned (.tuple #[gv, sv, .int .i64 (gpC d f)]) ∧ Hid (GatherFull Sg w' gv (gpG d f)) ∧ Hid (∀ k ∈ Sg, w.heap.size ≤ k) ∧ Hid (ShowOwn Ss w' sv (gpS d f)) ∧ Hid (∀ k ∈ Ss, w.heap.size ≤ k) ∧ Hid (∀ k ∈ Sg, k ∉ Ss) ∧ Below w.heap.size w w' := by
  refine (implGPut_any d f v u w (small_gather hs) hf h.own hu hE).mono ?_
  rintro e w' ⟨gv, Sg, sv, Ss, he, h1, h2, h3, h4, h5, h6, b⟩
  exact ⟨gv, Sg, sv, Ss, he, h1, h2, h3, h4, hide (unhide h5), b⟩
end Go.Proofs.YtknkdbfgfcgkiaaGreatDoor

set_option linter.unusedVariables false
namespace Go.Proofs.YtknkdbfgfcgkiaaGreatDoor
open Go.RowKit Go.Maps Go.Deep

theorem spec_two (d : GatherV) (f : FeedV) (v u : Value) (w : World) (hs : SmallGatherP d) (hf : SmallFeed f) (h : GatherOwn [] w v d) (hu : FeedRd w u f) :
    Calls Tryz.prog 6 #[v, u] w fun e w' => RetTwo (gpG d f) (gpS d f) (gpC d f) w e w' := by
  refine (specGPut_any d f v u w (small_gather hs) hf h hu).mono ?_
  rintro e w' ⟨gv, sv, he, h1, b⟩
  exact retTwo he (unhide h1) b
end Go.Proofs.YtknkdbfgfcgkiaaGreatDoor

set_option linter.unusedVariables false
namespace Go.Proofs.YtknkdbfgfcgkiaaGreatDoor
open Go.RowKit Go.Maps Go.Deep

/-- windows of few items weigh little -/
theorem win_w {ns : List ItemV} (hl : ns.length ≤ 5) (hm : ∀ x ∈ ns, x.a1.length ≤ 12) : wItemS ns ≤ 100 := by
  have key : ∀ l : List ItemV, (∀ x ∈ l, x.a1.length ≤ 12) → (l.map (fun x => x.a1.length)).sum ≤ 12 * l.length := by
    intro l
    induction l with
    | nil => intro _; simp
    | cons x xs ih =>
      intro h
      have h1 := h x (by simp)
      have h2 := ih (fun y hy => h y (by simp [hy]))
      simp only [List.map_cons, List.sum_cons, List.length_cons]
      omega
  have := key ns hm
  unfold wItemS wTo
  rw [List.take_length]
  omega
theorem wins_w {ws : List (List ItemV)} (h6 : ws.length ≤ 6) (h : ∀ x ∈ ws, wItemS x ≤ 100) : wItemSS ws ≤ 1048576 := by
  have key : ∀ l : List (List ItemV), (∀ x ∈ l, wItemS x ≤ 100) → (l.map wItemS).sum ≤ 100 * l.length := by
    intro l
    induction l with
    | nil => intro _; simp
    | cons x xs ih =>
      intro h
      have h1 := h x (by simp)
      have h2 := ih (fun y hy => h y (by simp [hy]))
      simp only [List.map_cons, List.sum_cons, List.length_cons]
      omega
  have := key ws h
  unfold wItemSS wwTo
  rw [List.take_length]
  omega
theorem put_len {ns : List ItemV} {it : ItemV} (hw : windowB orderOut ns = true) (h : putI ns it = 0) : (putV ns it).length ≤ 5 ∧ ∀ x ∈ putV ns it, x.a1.length ≤ 12 := by
  have hwi := win_item hw
  have hc : takeC ns it = 0 := by
    unfold putI at h
    rw [if_pos hw] at h
    exact h
  have hit : itemB it = true := by
    rcases takeC_form ns it with e | e
    · omega
    · exact e.2
  have hl : it.a1.length ≤ 12 := by
    unfold itemB at hit
    simp only [Bool.and_eq_true] at hit
    exact mstamp_len hit.1
  refine ⟨?_, fun x hx => ?_⟩
  · unfold putV
    rw [if_pos hw, if_neg (by omega), if_pos hc]
    unfold putN
    split
    · simp; omega
    · simp; omega
  · rcases putV_items hx with hx | rfl
    · obtain ⟨j, hj, rfl⟩ := List.getElem_of_mem hx
      exact (hwi.2 j hj).2
    · exact hl
theorem small_gpG {g : GatherV} {f : FeedV} (hs : SmallGatherP g) (hf : SmallFeed f) : SmallGatherP (gpG g f) := by
  have nil : SmallGatherP ⟨[], [], []⟩ := ⟨⟨by simp, fun _ h => by cases h⟩, ⟨⟨by simp, fun _ h => by cases h⟩, by simp [wItemSS, wwTo]⟩, ⟨⟨by simp, fun _ h => by cases h⟩, fun _ h => by cases h⟩⟩
  have key : ∀ (hy : feedB g f = true) (p : putI (winAt g f) f.item = 0), SmallItemSSF (gpW g f) := fun hy p => by
    obtain ⟨-, -, -, hwb, -, k, hk, hkl, hwa⟩ := feedB_parts hy
    refine ⟨small_gpW hs.2.1.1 hf.2 (small_winAt hs.2.1.1 f), wins_w (by rw [gpW_len]; exact (winsB_len hwb).2) (fun x hx => ?_)⟩
    have hwin : windowB orderOut (winAt g f) = true := by
      rw [hwa, List.getD_eq_getElem?_getD, List.getElem?_eq_getElem hkl]
      exact winsB_each hwb _ (List.getElem_mem hkl)
    unfold gpW at hx
    rcases List.mem_or_eq_of_mem_set hx with hx | rfl
    · have := win_item (winsB_each hwb x hx)
      exact win_w (by omega) (fun y hy => by obtain ⟨j, hj, rfl⟩ := List.getElem_of_mem hy; exact (this.2 j hj).2)
    · have := put_len hwin p
      exact win_w this.1 this.2
  rcases gpWay g f with ⟨h1, c, e, s⟩ | ⟨h1, p1, c, e, s⟩ | ⟨h1, p1, c, e, s⟩ | ⟨h1, p1, b, c, e, s⟩ | ⟨h1, p1, b, j, c, e, s⟩ | ⟨h1, p1, b, j, o, c, e, s⟩ | ⟨h1, p1, b, j, o, c, e, s⟩ <;> rw [e]
  · exact nil
  · exact nil
  · exact hs
  · exact ⟨hs.1, key h1 p1, hs.2.2⟩
  · exact ⟨hs.1, key h1 p1, hs.2.2⟩
  · exact ⟨hs.1, key h1 p1, hs.2.2⟩
  · exact ⟨hs.1, key h1 p1, small_ch (key h1 p1).1⟩
theorem small_gpS {g : GatherV} {f : FeedV} (hs : SmallGatherP g) (hf : SmallFeed f) : SmallShow (gpS g f) := by
  have nil : SmallShow ⟨[], []⟩ := ⟨⟨by simp, fun _ h => by cases h⟩, ⟨⟨by simp, fun _ h => by cases h⟩, fun _ h => by cases h⟩⟩
  rcases gpWay g f with ⟨h1, c, e, s⟩ | ⟨h1, p1, c, e, s⟩ | ⟨h1, p1, c, e, s⟩ | ⟨h1, p1, b, c, e, s⟩ | ⟨h1, p1, b, j, c, e, s⟩ | ⟨h1, p1, b, j, o, c, e, s⟩ | ⟨h1, p1, b, j, o, c, e, s⟩ <;> rw [s]
  all_goals first | exact nil | skip
  have hsw : SmallItemSS (gpW g f) := small_gpW hs.2.1.1 hf.2 (small_winAt hs.2.1.1 f)
  refine ⟨⟨?_, fun t ht => ?_⟩, small_ch hsw⟩
  · have := (small_best (gpW g f) hsw).1
    simp [valsAt]
    omega
  · unfold valsAt at ht
    obtain ⟨i, -, rfl⟩ := List.mem_map.1 ht
    have zero : IntFit 0 := by unfold IntFit; omega
    cases hx : ((gpW g f).getD i [])[((bestV (gpW g f)).getD i 0).toNat]? with
    | none => exact zero
    | some x =>
      have hm := List.mem_of_getElem? hx
      by_cases hi : i < (gpW g f).length
      · rw [List.getD_eq_getElem?_getD, List.getElem?_eq_getElem hi] at hm
        exact ((hsw.2 _ (List.getElem_mem hi)).2 x hm).1
      · rw [List.getD_eq_getElem?_getD, List.getElem?_eq_none (by omega)] at hm
        simp at hm
end Go.Proofs.YtknkdbfgfcgkiaaGreatDoor
