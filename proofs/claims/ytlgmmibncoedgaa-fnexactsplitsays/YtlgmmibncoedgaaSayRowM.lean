/-
  A list of words of one's own: its marks written, and found again.
-/
import Derived.Test.YtlgmmibncoedgaaMerged29
set_option linter.unusedVariables false
namespace Go.Proofs.Ytlgmmibncoedgaa
open Go.RowKit Go.Maps Go.Deep

theorem mark_five {wr w2 : World} {b o : Nat} {s : SayV} {u : Value} (hb : b < wr.heap.size) (h : SayCells wr b o s u) (k0 k1 k2 k4 : Int) (t : ByteArray)
    (b2 : Below (((wr.setCell ⟨b, o, none⟩ (.int .i64 k0)).setCell ⟨b, o + 1, none⟩ (.int .i64 k1)).setCell ⟨b, o + 2, none⟩ (.int .i64 k2)).heap.size (((wr.setCell ⟨b, o, none⟩ (.int .i64 k0)).setCell ⟨b, o + 1, none⟩ (.int .i64 k1)).setCell ⟨b, o + 2, none⟩ (.int .i64 k2)) w2) :
    Turn [b] wr ((w2.setCell ⟨b, o + 3, none⟩ (.string t)).setCell ⟨b, o + 4, none⟩ (.int .i64 k4)) ∧ (∀ i, ((w2.setCell ⟨b, o + 3, none⟩ (.string t)).setCell ⟨b, o + 4, none⟩ (.int .i64 k4)).frozen? ⟨b, i, none⟩ = wr.frozen? ⟨b, i, none⟩) ∧ SayCells ((w2.setCell ⟨b, o + 3, none⟩ (.string t)).setCell ⟨b, o + 4, none⟩ (.int .i64 k4)) b o ⟨k0, k1, k2, t, k4, s.stamp⟩ u ∧
      (∀ i, (i < o ∨ o + 5 < i) → ((w2.setCell ⟨b, o + 3, none⟩ (.string t)).setCell ⟨b, o + 4, none⟩ (.int .i64 k4)).cell? ⟨b, i, none⟩ = wr.cell? ⟨b, i, none⟩) ∧
      (∃ v3 v4, w2.cell? ⟨b, o + 3, none⟩ = some v3 ∧ w2.cell? ⟨b, o + 4, none⟩ = some v4) := by
  have ne : ∀ (X : World) (p q : Nat) (v : Value), p ≠ q → (X.setCell ⟨b, q, none⟩ v).cell? ⟨b, p, none⟩ = X.cell? ⟨b, p, none⟩ := fun X p q v h => World.cell?_setCell_other _ _ _ _ (by intro e; have := congrArg Addr.off e; simp only at this; omega)
  have sm : ∀ (X : World) (p : Nat) (v x : Value), X.cell? ⟨b, p, none⟩ = some x → (X.setCell ⟨b, p, none⟩ v).cell? ⟨b, p, none⟩ = some v := fun X p v x h => World.cell?_setCell_same _ _ _ h
  have hsz : b < (((wr.setCell ⟨b, o, none⟩ (.int .i64 k0)).setCell ⟨b, o + 1, none⟩ (.int .i64 k1)).setCell ⟨b, o + 2, none⟩ (.int .i64 k2)).heap.size := by simpa using hb
  have up : ∀ i, w2.cell? ⟨b, i, none⟩ = (((wr.setCell ⟨b, o, none⟩ (.int .i64 k0)).setCell ⟨b, o + 1, none⟩ (.int .i64 k1)).setCell ⟨b, o + 2, none⟩ (.int .i64 k2)).cell? ⟨b, i, none⟩ := fun i => b2.cell (by exact hsz)
  have d3 : w2.cell? ⟨b, o + 3, none⟩ = some (.string s.name) := by rw [up, ne _ _ _ _ (by omega), ne _ _ _ _ (by omega), ne _ _ _ _ (by omega)]; exact h.c3
  have d4 : w2.cell? ⟨b, o + 4, none⟩ = some (.int .i64 s.val) := by rw [up, ne _ _ _ _ (by omega), ne _ _ _ _ (by omega), ne _ _ _ _ (by omega)]; exact h.c4
  refine ⟨?_, fun i => ?_, ⟨?_, ?_, ?_, ?_, ?_, ?_⟩, fun i hi => ?_, _, _, d3, d4⟩
  · exact ((((((Turn.refl _ _).setCell (by simp) _ _).setCell (by simp) _ _).setCell (by simp) _ _).trans (Turn.of_below b2)).setCell (by simp) _ _).setCell (by simp) _ _
  · rw [World.frozen?_setCell, World.frozen?_setCell, b2.frozen (by exact hsz), World.frozen?_setCell, World.frozen?_setCell, World.frozen?_setCell]
  · rw [ne _ _ _ _ (by omega), ne _ _ _ _ (by omega), up, ne _ _ _ _ (by omega), ne _ _ _ _ (by omega)]; exact sm _ _ _ _ h.c0
  · rw [ne _ _ _ _ (by omega), ne _ _ _ _ (by omega), up, ne _ _ _ _ (by omega)]; exact sm _ _ _ _ (by rw [ne _ _ _ _ (by omega)]; exact h.c1)
  · rw [ne _ _ _ _ (by omega), ne _ _ _ _ (by omega), up]; exact sm _ _ _ _ (by rw [ne _ _ _ _ (by omega), ne _ _ _ _ (by omega)]; exact h.c2)
  · rw [ne _ _ _ _ (by omega)]; exact sm _ _ _ _ d3
  · exact sm _ _ _ _ (by rw [ne _ _ _ _ (by omega)]; exact d4)
  · rw [ne _ _ _ _ (by omega), ne _ _ _ _ (by omega), up, ne _ _ _ _ (by omega), ne _ _ _ _ (by omega), ne _ _ _ _ (by omega)]; exact h.c5
  · rw [ne _ _ _ _ (by omega), ne _ _ _ _ (by omega), up, ne _ _ _ _ (by omega), ne _ _ _ _ (by omega), ne _ _ _ _ (by omega)]
set_option maxRecDepth 20000 in
set_option maxHeartbeats 6400000 in
theorem markSayS_row (S : List Nat) (w : World) (b off cap : Nat) (ns : List SayV) (G : Nat → List Nat) (k : Nat) (hk : k ≤ 100000000) (hs : SmallSayS ns) (hl : ∀ k ∈ S, k < w.heap.size) (h : SayRowOwn S w b off ns G) :
    Calls Try.prog 26 #[.slice (some ⟨b, off, none⟩) ns.length cap, .int .i64 (k : Int)] w fun e w' => e = .returned (.int .i64 ((k + nSayS ns : Nat) : Int)) ∧ Hid (SayRowOwn S w' b off (marksSayS k ns) G ∧ Turn S w w') := by
  have HS := hide hs
  have HL := hide hl
  have hlen := hs.1
  have HO := hide h
  clear hs hl h
  go_enter Try.func26, Try.ntmps26
  go_wp2_with fail
  go_loopw [1, 5] (fun kv i wr => ∃ (j q : Nat), j ≤ ns.length ∧ i = .int .i64 j ∧ kv = .int .i64 (q : Int) ∧ Hid (q = k + nSayS (ns.take j)) ∧ Hid (SayRowOwn S wr b off (mtSayS ns k j) G ∧ Turn S w wr)) (fun _ i _ => ns.length - (intOf i).toNat)
  case atStart => exact ⟨0, k, Nat.zero_le _, rfl, rfl, by simp [nSayS, Hid], hide ⟨by rw [mtSayS_zero]; exact unhide HO, Turn.refl _ _⟩⟩
  case round =>
    obtain ⟨j, q, hj, rfl, rfl, HQ, HR⟩ := hrel
    by_cases hlt : j < ns.length
    · have hq : q ≤ 200000000 := by have := unhide HQ; have := nSayS_take_le (unhide HS) j; omega
      have hxl := mtSayS_len ns k j (by omega)
      have hjx : j < (mtSayS ns k j).length := by omega
      have hat : (mtSayS ns k j)[j] = ns[j] := Option.some.inj ((List.getElem?_eq_getElem hjx).symm.trans (mtSayS_at ns k j hlt))
      have HLr := hide (show ∀ k ∈ S, k < wr.heap.size from fun k hk => Nat.lt_of_lt_of_le (unhide HL k hk) (unhide HR).2.size)
      obtain ⟨hg, v, cc, hv⟩ := (unhide HR).1.at' j hjx
      have hb := unhide HLr b (unhide HR).1.mem
      rw [hat] at hv cc
      have CC := hide cc
      have FZ := hide (show ∀ i, i < 6 → wr.frozen? ⟨b, off + j * 6 + i, none⟩ = false from fun i hi => by have := (unhide HR).1.fz (j * 6 + i) (by omega); rwa [← Nat.add_assoc] at this)
      have f0 := unhide FZ 0 (by omega)
      have f1 := unhide FZ 1 (by omega)
      have f2 := unhide FZ 2 (by omega)
      simp only [Nat.add_zero] at f0
      have HN := hide (show q + 5 + 2 * ns[j].stamp.length = k + nSayS (ns.take (j + 1)) by rw [nSayS_take ns j hlt, unhide HQ]; omega)
      have HV := hide (fun (W : World) (ht : Turn [b] wr W) => (show ((q + 5 : Nat) : Int) = (q : Int) + 1 + 1 + 1 + 1 + 1 by omega) ▸ markVerS_own (G j) W v ns[j].stamp (q + 5) (by omega) (by have := ((unhide HS).2 _ (List.getElem_mem hlt)).2; omega) (hv.turn ht (fun k hk => by simp; intro e; subst e; exact hg hk)))
      have HST := hide (fun (W1 W : World) (t1 : Turn [b] wr W1) (hf : ∀ i, W1.frozen? ⟨b, i, none⟩ = wr.frozen? ⟨b, i, none⟩) (hc : SayCells W1 b (off + j * 6) ⟨(q : Int), (q : Int) + 1, (q : Int) + 1 + 1, mText ((q : Int) + 1 + 1 + 1), (q : Int) + 1 + 1 + 1 + 1, ns[j].stamp⟩ v) (ho : ∀ i, (i < off + j * 6 ∨ off + j * 6 + 5 < i) → W1.cell? ⟨b, i, none⟩ = wr.cell? ⟨b, i, none⟩) (ht : Turn (G j) W1 W) (hm : VerOwn (G j) W v (marksVer (q + 5) ns[j].stamp.length)) => (show SayRowOwn S W b off (mtSayS ns k (j + 1)) G ∧ Turn S w W from by
        have hc2 : SayCells W1 b (off + j * 6) (sayMark q ns[j]) v := ⟨hc.c0, hc.c1, hc.c2.trans (by simp only [sayMark]; congr 2), hc.c3.trans (by simp only [sayMark]; congr 3), hc.c4.trans (by simp only [sayMark]; congr 2), hc.c5⟩
        have e := (unhide HR).1.step (unhide HLr) hjx (sayMark q ns[j]) v t1 hf hc2 ho ht hm
        rw [unhide HQ, mtSayS_step ns k j hlt] at e
        exact ⟨e.1, (unhide HR).2.trans e.2⟩))
      have hkj : (q : Int) + 1 + 1 + 1 ≤ 999999999999999999 := by omega
      have HM := hide (fun W => markText_any ((q : Int) + 1 + 1 + 1) hkj W)
      have HF := hide (fun (w2 : World) b2 => mark_five (wr := wr) (w2 := w2) hb (unhide CC) (q : Int) ((q : Int) + 1) ((q : Int) + 1 + 1) ((q : Int) + 1 + 1 + 1 + 1) (mText ((q : Int) + 1 + 1 + 1)) b2)
      have FU := hide (fun (w2 : World) (i : Nat) (hi : i < 6) (b2 : Below (((wr.setCell ⟨b, off + j * 6, none⟩ (.int .i64 (q : Int))).setCell ⟨b, off + j * 6 + 1, none⟩ (.int .i64 ((q : Int) + 1))).setCell ⟨b, off + j * 6 + 2, none⟩ (.int .i64 ((q : Int) + 1 + 1))).heap.size (((wr.setCell ⟨b, off + j * 6, none⟩ (.int .i64 (q : Int))).setCell ⟨b, off + j * 6 + 1, none⟩ (.int .i64 ((q : Int) + 1))).setCell ⟨b, off + j * 6 + 2, none⟩ (.int .i64 ((q : Int) + 1 + 1))) w2) => show w2.frozen? ⟨b, off + j * 6 + i, none⟩ = false by rw [b2.frozen (by simpa using hb), World.frozen?_setCell, World.frozen?_setCell, World.frozen?_setCell]; exact unhide FZ i hi)
      obtain ⟨va, vc, rfl⟩ := hv.rd.len
      obtain ⟨c0, c1, c2, c3, c4, c5⟩ := cc
      clear hv hat hxl hkj
      generalize mText ((q : Int) + 1 + 1 + 1) = mt at *
      have HSL := hide (show ns[j].stamp.length ≤ 255 from ((unhide HS).2 _ (List.getElem_mem hlt)).2)
      generalize ns[j].stamp.length = nn at *
      go_wp2_with (first
        | (go_at_call 57; refine (unhide HM _).mono ?_; rintro e w2 ⟨rfl, hb2⟩; obtain ⟨T5, F5, C5, O5, v3, v4, d3, d4⟩ := unhide HF w2 hb2; have g3 := unhide FU w2 3 (by omega) hb2; have g4 := unhide FU w2 4 (by omega) hb2; have HT5 := hide T5; have HF5 := hide F5; have HC5 := hide C5; have HO5 := hide O5; obtain ⟨-, -, -, -, -, e5⟩ := C5; clear T5 F5 O5 hb2)
        | fail)
      refine (unhide HV _ (unhide HT5)).mono ?_
      rintro e w6 ⟨rfl, P⟩
      have HR2 := hide (unhide HST _ _ (unhide HT5) (unhide HF5) (unhide HC5) (unhide HO5) (unhide P).2 (unhide P).1)
      clear P HT5 HF5 HC5 HO5 c0 c1 c2 c3 c4 c5 e5 d3 d4 g3 g4 f0 f1 f2
      go_wp2_with fail
      go_roundw
      case rel => exact ⟨j + 1, q + 5 + 2 * nn, by omega, by go_num, by go_num, HN, HR2⟩
      case measure => simp [intOf]; omega
    · have e : j = ns.length := by omega
      subst e
      have HP := hide (show SayRowOwn S wr b off (marksSayS k ns) G ∧ Turn S w wr by rw [← mtSayS_all]; exact unhide HR)
      have HE := hide (show q = k + nSayS ns by have := unhide HQ; rwa [List.take_length] at this)
      go_wp2_with fail
      go_ret
      exact ⟨by rw [unhide HE]; rfl, HP⟩
theorem markSayS_none (w : World) (a : Option Addr) (cap : Nat) (K : Int) : Calls Try.prog 26 #[.slice a 0 cap, .int .i64 K] w fun e w' => e = .returned (.int .i64 K) ∧ w' = w := by
  go_enter Try.func26, Try.ntmps26
  go_wp2
  refine wp_loop_rounds 1 ?_
  rw [rounds_succ]
  go_wp2
  go_ret
  exact ⟨rfl, rfl⟩
theorem markSayS_kit (S : List Nat) (ns : List SayV) (v : Value) (w : World) (k n : Nat) (K : Int) (hK : K = (k : Int)) (hn : nSayS ns = n) (hk : k ≤ 100000000) (hs : SmallSayS ns) (h : SaySOwn S w v ns) :
    Calls Try.prog 26 #[v, .int .i64 K] w fun e w' => e = .returned (.int .i64 (K + (n : Int))) ∧ Hid (SaySOwn S w' v (marksSayS k ns) ∧ Turn S w w') := by
  subst hK hn
  obtain ⟨a, c, rfl, hl, h⟩ := h
  rcases h with rfl | ⟨b, off, G, rfl, h⟩
  · refine (markSayS_none w a c k).mono ?_
    rintro e w' ⟨rfl, rfl⟩
    exact ⟨by simp [nSayS], hide ⟨⟨a, c, rfl, hl, .inl rfl⟩, Turn.refl _ _⟩⟩
  · refine (markSayS_row S w b off c ns G k hk hs hl h).mono ?_
    rintro e w' ⟨rfl, P⟩
    have ht := (unhide P).2
    exact ⟨by rw [Int.natCast_add], hide ⟨⟨_, c, by rw [marksSayS_len], fun k hk => Nat.lt_of_lt_of_le (hl k hk) ht.size, .inr ⟨b, off, G, rfl, (unhide P).1⟩⟩, ht⟩⟩
set_option maxRecDepth 20000 in
set_option maxHeartbeats 6400000 in
theorem heldSayS_row (w : World) (b off cap : Nat) (ns : List SayV) (k : Nat) (hk : k ≤ 100000000) (hs : SmallSayS ns) (hb : b < w.heap.size) (h : SayAt w b off (marksSayS k ns)) :
    Calls Try.prog 27 #[.slice (some ⟨b, off, none⟩) ns.length cap, .int .i64 (k : Int)] w fun e w' => e = .returned (.int .i64 ((k + nSayS ns : Nat) : Int)) ∧ Below w.heap.size w w' := by
  have HS := hide hs
  have hlen := hs.1
  have HO := hide h
  clear hs h
  go_enter Try.func27, Try.ntmps27
  go_wp2_with fail
  go_loopw [1, 5] (fun kv i wr => ∃ (j q : Nat), j ≤ ns.length ∧ i = .int .i64 j ∧ kv = .int .i64 (q : Int) ∧ Hid (q = k + nSayS (ns.take j)) ∧ Hid (Below w.heap.size w wr)) (fun _ i _ => ns.length - (intOf i).toNat)
  case atStart => exact ⟨0, k, Nat.zero_le _, rfl, rfl, by simp [nSayS, Hid], Below.refl _ _⟩
  case round =>
    obtain ⟨j, q, hj, rfl, rfl, HQ, HB⟩ := hrel
    by_cases hlt : j < ns.length
    · have hq : q ≤ 200000000 := by have := unhide HQ; have := nSayS_take_le (unhide HS) j; omega
      have hml := marksSayS_len k ns
      have hjx : j < (marksSayS k ns).length := by omega
      have hat : (marksSayS k ns)[j] = sayMark q ns[j] := by
        have := (List.getElem?_eq_getElem hjx).symm.trans (marksSayS_get k ns j hlt)
        rw [Option.some.inj this, unhide HQ]
      have HCJ := hide (fun (X : World) (bx : Below w.heap.size w X) => show ∃ v, (X.cell? ⟨b, off + j * 6, none⟩ = some (.int .i64 (q : Int)) ∧ X.cell? ⟨b, off + j * 6 + 1, none⟩ = some (.int .i64 ((q : Int) + 1)) ∧ X.cell? ⟨b, off + j * 6 + 2, none⟩ = some (.int .i64 ((q : Int) + 1 + 1)) ∧ X.cell? ⟨b, off + j * 6 + 3, none⟩ = some (.string (mText ((q : Int) + 1 + 1 + 1))) ∧ X.cell? ⟨b, off + j * 6 + 4, none⟩ = some (.int .i64 ((q : Int) + 1 + 1 + 1 + 1)) ∧ X.cell? ⟨b, off + j * 6 + 5, none⟩ = some v) ∧ w.cell? ⟨b, off + j * 6 + 5, none⟩ = some v from by
        obtain ⟨v, c, _⟩ := (unhide HO) j hjx
        rw [hat] at c
        exact ⟨v, ⟨(bx.cell (by exact hb)).trans c.c0, (bx.cell (by exact hb)).trans c.c1, ((bx.cell (by exact hb)).trans c.c2).trans (by simp only [sayMark]; congr 2), ((bx.cell (by exact hb)).trans c.c3).trans (by simp only [sayMark]; congr 3), ((bx.cell (by exact hb)).trans c.c4).trans (by simp only [sayMark]; congr 2), (bx.cell (by exact hb)).trans c.c5⟩, c.c5⟩)
      have HN := hide (show q + 5 + 2 * ns[j].stamp.length = k + nSayS (ns.take (j + 1)) by rw [nSayS_take ns j hlt, unhide HQ]; omega)
      have HV := hide (fun (X : World) (v : Value) (bx : Below w.heap.size w X) (hv : w.cell? ⟨b, off + j * 6 + 5, none⟩ = some v) => (show ((q + 5 : Nat) : Int) = (q : Int) + 1 + 1 + 1 + 1 + 1 by omega) ▸ heldVerS_rd X v ns[j].stamp.length (q + 5) (by omega) (by have := ((unhide HS).2 _ (List.getElem_mem hlt)).2; omega) (by
        obtain ⟨v', c, h'⟩ := (unhide HO) j hjx
        have : v' = v := Option.some.inj (c.c5.symm.trans hv)
        subst this
        rw [hat] at h'
        exact h'.up bx))
      have HFM := hide (show ∀ v, w.cell? ⟨b, off + j * 6 + 5, none⟩ = some v → ∃ a n c, v = .slice a n c from fun v hv => by
        obtain ⟨v', c, h'⟩ := (unhide HO) j hjx
        have : v' = v := Option.some.inj (c.c5.symm.trans hv)
        subst this
        obtain ⟨a, c, e⟩ := h'.len
        exact ⟨a, _, c, e⟩)
      have hkj : (q : Int) + 1 + 1 + 1 ≤ 999999999999999999 := by omega
      have HM := hide (fun W => markText_any ((q : Int) + 1 + 1 + 1) hkj W)
      have HSL := hide (show ns[j].stamp.length ≤ 255 from ((unhide HS).2 _ (List.getElem_mem hlt)).2)
      clear hkj hat hml hjx
      generalize mText ((q : Int) + 1 + 1 + 1) = mt at *
      generalize ns[j].stamp.length = nn at *
      have HBD := hide (unhide HB).drew
      have KP := hide (show ∀ X : World, Below w.heap.size w X → X.cell? ⟨b, off + j * 6 + 3, none⟩ = some (.string mt) ∧ Hid (Below w.heap.size w X) from fun X h => by obtain ⟨v, ⟨_, _, _, c3, _⟩, _⟩ := unhide HCJ X h; exact ⟨c3, hide h⟩)
      obtain ⟨v, ⟨c0, c1, c2, c3, c4, c5⟩, cw⟩ := unhide HCJ wr (unhide HB)
      go_wp2_with fail
      go_region_held3 (fun X => X.cell? ⟨b, off + j * 6 + 3, none⟩ = some (.string mt) ∧ Hid (Below w.heap.size w X)) ((refine unhide KP _ ?_; exact unhide (by assumption)))
        (first | (go_at_call 57; refine (unhide HM _).mono ?_; rintro e w2 ⟨rfl, hb2⟩; have HB2 := hide ((unhide HBD).trans (hb2.mono (unhide HBD).size)); clear hb2))
      all_goals
        clear c0 c1 c2 c3 c4 c5
        obtain ⟨v', ⟨c0, c1, c2, c3, c4, c5⟩, cw'⟩ := unhide HCJ w2 (unhide HB2)
        have HVV := hide (unhide HV w2 v' (unhide HB2) cw')
        obtain ⟨va, vn, vc, rfl⟩ := unhide HFM v' cw'
        have hneg : ¬ ((q + 5 + 2 * nn : Nat) : Int) < 0 := by omega
        clear cw cw' v
        go_wp2_with fail
        refine (unhide HVV).mono ?_
        rintro e w3 ⟨rfl, b3⟩
        have B3 := hide ((unhide HB2).trans (b3.mono (unhide HB2).size))
        clear b3 HVV c0 c1 c2 c3 c4 c5
        go_wp2_with fail
        go_roundw
        case rel => exact ⟨j + 1, q + 5 + 2 * nn, by omega, by go_num, by go_num, HN, B3⟩
        case measure => simp [intOf]; omega
    · have e : j = ns.length := by omega
      subst e
      have HE := hide (show q = k + nSayS ns by have := unhide HQ; rwa [List.take_length] at this)
      go_wp2_with fail
      go_ret
      exact ⟨by rw [unhide HE]; rfl, unhide HB⟩
theorem heldSayS_none (w : World) (a : Option Addr) (cap : Nat) (K : Int) : Calls Try.prog 27 #[.slice a 0 cap, .int .i64 K] w fun e w' => e = .returned (.int .i64 K) ∧ w' = w := by
  go_enter Try.func27, Try.ntmps27
  go_wp2
  refine wp_loop_rounds 1 ?_
  rw [rounds_succ]
  go_wp2
  go_ret
  exact ⟨rfl, rfl⟩
theorem heldSayS_kit (ns : List SayV) (v : Value) (w : World) (k n : Nat) (K : Int) (hK : K = (k : Int)) (hn : nSayS ns = n) (hk : k ≤ 100000000) (hs : SmallSayS ns) (h : SaySRd w v (marksSayS k ns)) :
    Calls Try.prog 27 #[v, .int .i64 K] w fun e w' => e = .returned (.int .i64 (K + (n : Int))) ∧ Below w.heap.size w w' := by
  subst hK hn
  obtain ⟨a, c, rfl, h⟩ := h
  rw [marksSayS_len]
  rcases h with h0 | ⟨b, off, rfl, hb, h⟩
  · have hn : ns = [] := List.eq_nil_of_length_eq_zero (by have := congrArg List.length h0; rwa [marksSayS_len] at this)
    subst hn
    refine (heldSayS_none w a c k).mono ?_
    rintro e w' ⟨rfl, rfl⟩
    exact ⟨by simp [nSayS], Below.refl _ _⟩
  · refine (heldSayS_row w b off c ns k hk hs hb h).mono ?_
    rintro e w' ⟨rfl, b⟩
    exact ⟨by rw [Int.natCast_add], b⟩
end Go.Proofs.Ytlgmmibncoedgaa
