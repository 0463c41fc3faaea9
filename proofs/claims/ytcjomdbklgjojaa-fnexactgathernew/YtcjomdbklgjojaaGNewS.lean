/-
  The specification's GatherNew.
-/
import Derived.Test.YtcjomdbklgjojaaGNewI2
import Derived.Test.YtcjomdbklgjojaaGatherS
set_option linter.unusedVariables false
namespace Go.Proofs.Ytcjomdbklgjojaa
open Go.RowKit Go.Maps Go.Deep

theorem BoxF.low {B : Nat} {w w' : World} {g : Nat} {xs : List Value} (h : BoxF w g xs) (hb : Below B w w') (hg : g < B) : BoxF w' g xs :=
  ⟨⟨Nat.lt_of_lt_of_le h.1.1 hb.size, fun i v hv => (hb.cell (by exact hg)).trans (h.1.2 i v hv)⟩, fun i hi => (hb.frozen (by exact hg)).trans (h.2 i hi)⟩
theorem StringSOwn.low {B : Nat} {S : List Nat} {w w' : World} {v : Value} {ts : List ByteArray} (h : StringSOwn S w v ts) (hb : Below B w w') (hS : ∀ k ∈ S, k < B) : StringSOwn S w' v ts := by
  rcases h with h | ⟨b, off, cap, rfl, rfl, h0, hc, hf⟩
  · exact .inl h
  · have hB : b < B := hS b (by simp)
    exact .inr ⟨b, off, cap, rfl, rfl, Nat.lt_of_lt_of_le h0 hb.size, hc.below hb hB, fun i hi => (hb.frozen (by exact hB)).trans (hf i hi)⟩
set_option maxHeartbeats 6400000 in
theorem specNew_any (ins : List ByteArray) (v : Value) (w : World) (hs : SmallStringS ins) (h : StringSRd w v ins) :
    Calls Try.prog 5 #[v] w fun e w' => ∃ v, e = .returned (.tuple #[v, .bool (insB ins)]) ∧ Hid (GatherRd w' v (newV ins)) ∧ Below w.heap.size w w' := by
  have HI := hide (fun W (bW : Below w.heap.size w W) => l16Ins_any ins v W hs (h.up bW))
  have HR := hide h
  obtain ⟨a, c, rfl, h⟩ := h
  have hl := hs.1
  have bx := boxF_new w [.slice none 0 0, .slice none 0 0, .slice none 0 0] 27
  have bb := (Below.refl w.heap.size w).alloc (Nat.le_refl _) (.cells #[.slice none 0 0, .slice none 0 0, .slice none 0 0] 27)
  simp only [List.toArray] at bx
  cases hin : insB ins
  · have HN := hide (show newV ins = ⟨[], [], []⟩ by simp [newV, hin])
    rw [hin] at HI
    clear hin h hs
    go_enter Try.func5, Try.ntmps5
    go_wp2_with fail
    generalize w.alloc (.cells #[.slice none 0 0, .slice none 0 0, .slice none 0 0] 27) = W at *
    refine (unhide HI _ bb).mono ?_
    rintro e w1 ⟨rfl, b1⟩
    have X1 := hide (bx.up b1)
    have B1 := hide (bb.trans (b1.mono bb.size))
    clear b1 bx bb
    obtain ⟨⟨x0, x1, x2⟩, f0, f1, f2⟩ := (unhide X1).three
    go_wp2_with fail
    have XB := ((((unhide X1).set 0 (.slice none 0 0) (by simp)).set 1 (.slice none 0 0) (by simp)).set 2 (.slice none 0 0) (by simp))
    simp only [List.set] at XB
    have BF := hide ((((unhide B1).setCell (p := ⟨w.heap.size, 0, none⟩) (Nat.le_refl _) (.slice none 0 0)).setCell (p := ⟨w.heap.size, 1, none⟩) (Nat.le_refl _) (.slice none 0 0)).setCell (p := ⟨w.heap.size, 2, none⟩) (Nat.le_refl _) (.slice none 0 0))
    clear x0 x1 x2 f0 f1 f2
    generalize ((w1.setCell ⟨w.heap.size, 0, none⟩ (.slice none 0 0)).setCell ⟨w.heap.size, 1, none⟩ (.slice none 0 0)).setCell ⟨w.heap.size, 2, none⟩ (.slice none 0 0) = WF at *
    obtain ⟨⟨s0, s1, s2⟩, -⟩ := XB.three
    refine bodyPost_ret (v := .tuple #[.agg #[.slice none 0 0, .slice none 0 0, .slice none 0 0], .bool false]) ?_ rfl ?_
    · simp [results, Try.results5, go_sem, s0, s1, s2]
    refine ⟨_, rfl, hide ?_, unhide BF⟩
    rw [unhide HN]
    exact ⟨_, _, _, rfl, ⟨none, 0, rfl, .inl rfl⟩, ⟨none, 0, rfl, .inl rfl⟩, ⟨none, 0, rfl, .inl rfl⟩⟩
  · have HN := hide (show newV ins = ⟨ins, List.replicate ins.length [], []⟩ by simp [newV, hin])
    rw [hin] at HI
    have hl6 := (insB_facts hin)
    rcases h with rfl | ⟨b, off, rfl, hb, hc⟩
    · simp at hl6
    have HC := hide (fun W (bW : Below w.heap.size w W) => hc.below bW hb)
    clear hin hs hc
    go_enter Try.func5, Try.ntmps5
    go_wp2_with fail
    generalize w.alloc (.cells #[.slice none 0 0, .slice none 0 0, .slice none 0 0] 27) = W at *
    refine (unhide HI _ bb).mono ?_
    rintro e w1 ⟨rfl, b1⟩
    have X1 := hide (bx.up b1)
    have B1 := hide (bb.trans (b1.mono bb.size))
    clear b1 bx bb
    have R0 := hide (txLit w1 w1.heap.size (Nat.le_refl _))
    have BA := hide ((unhide B1).alloc (unhide B1).size (.cells #[] 9))
    have BL := hide ((Below.refl w1.heap.size w1).alloc (Nat.le_refl _) (.cells #[] 9))
    have HC0 := hide (unhide HC _ (unhide BA))
    go_wp2_with (first
      | (at_builtin; have _t := BA; refine wpList_txSpread rfl _ _ rfl w1.heap.size _ [] ins b off c rfl rfl (unhide R0) (unhide HC0) (by omega) (by simp; omega) (by simp) ?_; simp only [List.nil_append]; intro g1 n1 c1 w2 r2 hn1 g2; subst hn1; have R2 := hide r2; have BL2 := hide ((unhide BL).grown g2 (by simp) (fun y hy => (unhide R0).ge y hy)); clear r2 g2 BA)
      | fail)
    obtain ⟨S0, hS0, gS0, oS0⟩ := (unhide R2).own
    have lS0 : ∀ k ∈ S0, k < w2.heap.size := fun k hk => (unhide R2).lt k (oS0 k hk)
    have hw12 : w1.heap.size ≤ w2.heap.size := (unhide BL2).size
    have hw01 : w.heap.size < w1.heap.size := (unhide X1).1.1
    have XG := boxF_new w2 [.slice (some ⟨g1, 0, none⟩) ins.length c1, .slice none 0 0, .slice none 0 0] 27
    have ba := (Below.refl w2.heap.size w2).alloc (Nat.le_refl _) (.cells #[.slice (some ⟨g1, 0, none⟩) ins.length c1, .slice none 0 0, .slice none 0 0] 27)
    have za : (w2.alloc (.cells #[.slice (some ⟨g1, 0, none⟩) ins.length c1, .slice none 0 0, .slice none 0 0] 27)).heap.size = w2.heap.size + 1 := by simp
    simp only [List.toArray] at XG
    have X3 := hide (((unhide X1).up (unhide BL2)).up ba)
    have O3 := hide (hS0.up ba)
    have B3 := hide (((unhide B1).trans ((unhide BL2).mono (unhide B1).size)).trans (ba.mono (by omega)))
    have XG3 := hide XG
    have ZA := hide za
    have LS0 := hide lS0
    have GS0 := hide gS0
    clear hS0 gS0 oS0 lS0 R2 BL2 X1 B1 XG ba za R0 BL HC0 HC
    generalize w2.alloc (.cells #[.slice (some ⟨g1, 0, none⟩) ins.length c1, .slice none 0 0, .slice none 0 0] 27) = W3 at *
    go_loopw [5] (fun i wr => ∃ (k : Nat) (ra : Option Addr) (rn rc : Nat), k ≤ ins.length ∧ i = .int .i64 k ∧ Hid (BoxF wr w2.heap.size [.slice (some ⟨g1, 0, none⟩) ins.length c1, .slice ra rn rc, .slice none 0 0]) ∧ Hid (BoxF wr w.heap.size [.slice none 0 0, .slice none 0 0, .slice none 0 0]) ∧ Hid (StringSOwn S0 wr (.slice (some ⟨g1, 0, none⟩) ins.length c1) ins) ∧ Hid (WiRow W3.heap.size wr (.slice ra rn rc) (List.replicate k (.slice none 0 0))) ∧ Hid (Below w.heap.size w wr) ∧ W3.heap.size ≤ wr.heap.size) (fun i _ => ins.length - (intOf i).toNat)
    case atStart => exact ⟨0, none, 0, 0, Nat.zero_le _, rfl, XG3, X3, O3, WiRow.nil _ _, B3, Nat.le_refl _⟩
    case round =>
      obtain ⟨k, ra, rn, rc, hk, rfl, HX, HY, HO, HW, HB, hsz⟩ := hrel
      have hlo : (List.replicate k (Value.slice none 0 0)).length ≤ 1000000 := by simp; omega
      obtain ⟨⟨x0, x1, x2⟩, f0, f1, f2⟩ := (unhide HX).three
      by_cases hlt : k < ins.length
      · have HT := hide (show List.replicate (k + 1) (Value.slice none 0 0) = List.replicate k (Value.slice none 0 0) ++ [.slice none 0 0] from List.replicate_succ')
        generalize List.replicate k (Value.slice none 0 0) = out at *
        have bl := (Below.refl wr.heap.size wr).alloc (Nat.le_refl _) (.cells #[.slice none 0 0] 46)
        have RA1 := hide ((unhide HW).up bl)
        have BA1 := hide (bl.mono hsz)
        have hz1 : W3.heap.size ≤ (wr.alloc (.cells #[.slice none 0 0] 46)).heap.size := by simp; omega
        have ca1 : (wr.alloc (.cells #[.slice none 0 0] 46)).cell? ⟨wr.heap.size, 0, none⟩ = some (.slice none 0 0) := World.cell?_alloc_at _ _ _ _ rfl
        have KX := hide (show ∀ X : World, Below W3.heap.size wr X → BoxF X w2.heap.size [.slice (some ⟨g1, 0, none⟩) ins.length c1, .slice ra rn rc, .slice none 0 0] from fun X b => (unhide HX).low b (by have := unhide ZA; omega))
        clear bl
        go_wp2_with (first
          | (at_builtin; have _g := RA1; refine wpList_wiAppend rfl _ _ rfl W3.heap.size (.slice ra rn rc) out none 0 0 wr.heap.size rfl rfl (unhide RA1) ca1 (by omega) hz1 ?_; intro g4 n4 c4 X4 hr4 hn4 hg4; subst hn4; have RX4 := hide hr4; have BX4 := hide ((unhide BA1).grown hg4 hz1 (fun q hq => (unhide RA1).ge q hq)); clear hr4 hg4 RA1 BA1; obtain ⟨⟨y0, y1, y2⟩, e0, e1, e2⟩ := (unhide KX _ (unhide BX4)).three)
          | fail)
        clear x0 x1 x2 f0 f1 f2 y0 y1 y2 e0 e1 e2
        have T5 : Turn [w2.heap.size] X4 (X4.setCell ⟨w2.heap.size, 1, none⟩ (.slice (some ⟨g4, 0, none⟩) (out.length + 1) c4)) := (Turn.refl _ _).setCell (by simp) _ _
        have HX5 := hide ((unhide KX _ (unhide BX4)).set 1 (.slice (some ⟨g4, 0, none⟩) (out.length + 1) c4) (by simp))
        simp only [List.set] at HX5
        have HY5 := hide (((unhide HY).low (unhide BX4) (by have := unhide ZA; omega)).turn T5 (by simp; omega))
        have HO5 := hide (((unhide HO).low (unhide BX4) (fun k hk => by have := unhide LS0 k hk; have := unhide ZA; omega)).turn T5 (fun k hk hm => by have := unhide LS0 k hk; simp at hm; omega))
        have HW5 := hide ((unhide RX4).keep (fun y hy => T5.block y ((unhide RX4).lt y hy) (by have := (unhide RX4).ge y hy; have := unhide ZA; simp; omega)))
        rw [← unhide HT] at HW5
        have HB5 := hide (((unhide HB).trans ((unhide BX4).mono (by have := unhide ZA; omega))).setCell (p := ⟨w2.heap.size, 1, none⟩) (by show w.heap.size ≤ w2.heap.size; omega) (.slice (some ⟨g4, 0, none⟩) (out.length + 1) c4))
        have hz5 : W3.heap.size ≤ (X4.setCell ⟨w2.heap.size, 1, none⟩ (.slice (some ⟨g4, 0, none⟩) (out.length + 1) c4)).heap.size := by have := (unhide BX4).size; simp; omega
        exact ⟨⟨k + 1, _, _, _, by omega, by go_num, HX5, HY5, HO5, HW5, HB5, hz5⟩, by simp [intOf]; omega⟩
      · obtain rfl : k = ins.length := by omega
        obtain ⟨⟨p0, p1, p2⟩, e0, e1, e2⟩ := (unhide HY).three
        have hne : ¬ (w2.heap.size = w.heap.size) := by omega
        go_wp2_with fail
        clear x0 x1 x2 f0 f1 f2 p0 p1 p2 e0 e1 e2
        have XB := ((((unhide HY).set 0 (.slice (some ⟨g1, 0, none⟩) ins.length c1) (by simp)).set 1 (.slice ra rn rc) (by simp)).set 2 (.slice none 0 0) (by simp))
        simp only [List.set] at XB
        have TT : Turn [w.heap.size] wr (((wr.setCell ⟨w.heap.size, 0, none⟩ (.slice (some ⟨g1, 0, none⟩) ins.length c1)).setCell ⟨w.heap.size, 1, none⟩ (.slice ra rn rc)).setCell ⟨w.heap.size, 2, none⟩ (.slice none 0 0)) := (((Turn.refl _ _).setCell (by simp) _ _).setCell (by simp) _ _).setCell (by simp) _ _
        have Q0 := hide ((unhide HO).turn TT (fun k hk hm => by have := unhide GS0 k hk; simp at hm; omega)).rd
        obtain ⟨S1, h1, g1', _⟩ := (unhide HW).full
        have Q1 := hide (h1.turn TT (fun k hk hm => by have := g1' k hk; have := unhide ZA; simp at hm; omega)).rd
        have BF := hide ((((unhide HB).setCell (p := ⟨w.heap.size, 0, none⟩) (Nat.le_refl _) (.slice (some ⟨g1, 0, none⟩) ins.length c1)).setCell (p := ⟨w.heap.size, 1, none⟩) (Nat.le_refl _) (.slice ra rn rc)).setCell (p := ⟨w.heap.size, 2, none⟩) (Nat.le_refl _) (.slice none 0 0))
        clear TT h1 g1'
        generalize ((wr.setCell ⟨w.heap.size, 0, none⟩ (.slice (some ⟨g1, 0, none⟩) ins.length c1)).setCell ⟨w.heap.size, 1, none⟩ (.slice ra rn rc)).setCell ⟨w.heap.size, 2, none⟩ (.slice none 0 0) = WF at *
        obtain ⟨⟨s0, s1, s2⟩, -⟩ := XB.three
        refine bodyPost_ret (v := .tuple #[.agg #[.slice (some ⟨g1, 0, none⟩) ins.length c1, .slice ra rn rc, .slice none 0 0], .bool true]) ?_ rfl ?_
        · simp [results, Try.results5, go_sem, s0, s1, s2]
        rw [unhide HN]
        exact ⟨_, rfl, hide ⟨_, _, _, rfl, unhide Q0, unhide Q1, ⟨none, 0, rfl, .inl rfl⟩⟩, unhide BF⟩
/-- the laws' own list of texts, with its room -/
def nStringF (ts : List ByteArray) : Nat := nStringS ts
theorem nStringF_le {ts : List ByteArray} (h : SmallStringS ts) : nStringF ts ≤ 100000000 := nStringS_le h
theorem StringFull.rd {S : List Nat} {w : World} {v : Value} {ts : List ByteArray} (h : StringFull S w v ts) : StringSRd w v ts := h.1.rd
theorem StringFull.lt {S : List Nat} {w : World} {v : Value} {ts : List ByteArray} (h : StringFull S w v ts) : ∀ k ∈ S, k < w.heap.size := h.1.lt
theorem StringFull.turn {S S' : List Nat} {w w' : World} {v : Value} {ts : List ByteArray} (h : StringFull S w v ts) (ht : Turn S' w w') (hS : ∀ k ∈ S, k ∉ S') : StringFull S w' v ts := ⟨h.1.turn ht hS, h.2⟩
theorem StringFull.up {S : List Nat} {w w' : World} {v : Value} {ts : List ByteArray} (h : StringFull S w v ts) (hb : Below w.heap.size w w') : StringFull S w' v ts := ⟨h.1.up hb, h.2⟩
theorem szStringF_kit (ts : List ByteArray) (v : Value) (w : World) (hf : StringSFit ts) (h : StringSRd w v ts) :
    Calls Try.prog 4 #[v, .int .i64 1048576] w fun e w' => ∃ q : Int, e = .returned (.int .i64 q) ∧ Hid (0 ≤ q → SmallStringS ts) ∧ Below w.heap.size w w' := by
  refine (szStringS_kitL ts v 1048576 w (by omega) (by omega) hf h).mono ?_
  rintro e w' ⟨q, he, _, hq, b⟩
  exact ⟨q, he, hq, b⟩
theorem toStringF_kit (ts : List ByteArray) (v : Value) (w : World) (hs : SmallStringS ts) (h : StringSRd w v ts) :
    Calls Try.prog 6 #[v] w fun e w' => ∃ v S, e = .returned v ∧ Hid (StringFull S w' v ts) ∧ Hid (∀ k ∈ S, w.heap.size ≤ k) ∧ Below w.heap.size w w' := by
  refine (toStringS_hi ts v w hs h).mono ?_
  rintro e w' ⟨rfl, h1, b⟩
  exact ⟨_, _, rfl, hide ⟨unhide h1, _, _, rfl, Nat.le_refl _⟩, hide (by simp), b⟩
theorem eqStringF_kit (ts : List ByteArray) (v v' : Value) (w : World) (hs : SmallStringS ts) (h : StringSRd w v ts) (h' : StringSRd w v' ts) :
    Calls Try.prog 9 #[v, v'] w fun e w' => e = .returned (.bool true) ∧ Below w.heap.size w w' := eqStringS_kit ts v v' w hs h h'
theorem markStringF_kit (S : List Nat) (ts : List ByteArray) (v : Value) (w : World) (k n : Nat) (K : Int) (hK : K = (k : Int)) (hn : nStringF ts = n) (hk : k ≤ 500000000) (hs : SmallStringS ts) (h : StringFull S w v ts) :
    Calls Try.prog 10 #[v, .int .i64 K] w fun e w' => e = .returned (.int .i64 (K + (n : Int))) ∧ Hid (StringFull S w' v (marksStringS k ts) ∧ Turn S w w') := by
  obtain ⟨h1, a, c, e, hc⟩ := h
  refine (markStringS_kit S ts v w k n K hK hn (by omega) hs h1).mono ?_
  rintro e2 w' ⟨rfl, P⟩
  exact ⟨rfl, hide ⟨⟨(unhide P).1, a, c, by rw [marksStringS_len]; exact e, by rw [marksStringS_len]; exact hc⟩, (unhide P).2⟩⟩
theorem small_new {ins : List ByteArray} (hs : SmallStringS ins) : SmallGatherF (newV ins) := by
  unfold newV
  split
  · rename_i hin
    have hl := (insB_facts hin).2
    refine ⟨hs, ⟨⟨by simp; omega, fun x hx => ?_⟩, ?_⟩, ⟨⟨by simp, fun _ h => by cases h⟩, fun _ h => by cases h⟩⟩
    · obtain ⟨_, rfl⟩ := List.mem_replicate.1 hx
      exact ⟨by simp, fun _ h => by cases h⟩
    · unfold wItemSS wwTo
      rw [List.take_length, List.map_replicate, List.sum_replicate_nat]
      simp [wItemS, wTo]
      omega
  · exact ⟨⟨by simp, fun _ h => by cases h⟩, ⟨⟨by simp, fun _ h => by cases h⟩, by simp [wItemSS, wwTo]⟩, ⟨⟨by simp, fun _ h => by cases h⟩, fun _ h => by cases h⟩⟩
end Go.Proofs.Ytcjomdbklgjojaa
