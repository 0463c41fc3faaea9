/-
  The program's GatherNew.
-/
import Derived.Test.YtcjomdbklgjojaaGNewI1
import Derived.Test.YtcjomdbklgjojaaGatherFull
import Derived.Test.YtcjomdbklgjojaaOwnItem
import Derived.Test.YtcjomdbklgjojaaGatherI
set_option linter.unusedVariables false
namespace Go.Proofs.Ytcjomdbklgjojaa
open Go.RowKit Go.Maps Go.Deep

theorem made_nil (n i : Nat) (hi : i < n) : (madeCells (Value.slice none 0 0).cells (n * 1)).toList[i]? = some (.slice none 0 0) := by
  have e : (madeCells (Value.slice none 0 0).cells (n * 1)).toList = List.replicate n (.slice none 0 0) := by
    rw [Nat.mul_one]
    exact toList_madeCells_one _ _
  rw [e]
  simp [hi]
theorem boxesF2 (w : World) (A B : List Value) (TA TB : TypeId) :
    BoxF ((w.alloc (.cells A.toArray TA)).alloc (.cells B.toArray TB)) w.heap.size A ∧ BoxF ((w.alloc (.cells A.toArray TA)).alloc (.cells B.toArray TB)) (w.heap.size + 1) B ∧ Below w.heap.size w ((w.alloc (.cells A.toArray TA)).alloc (.cells B.toArray TB)) ∧ ((w.alloc (.cells A.toArray TA)).alloc (.cells B.toArray TB)).heap.size = w.heap.size + 2 := by
  have a1 := boxF_new w A TA
  have b1 := (Below.refl w.heap.size w).alloc (Nat.le_refl _) (.cells A.toArray TA)
  have z1 : (w.alloc (.cells A.toArray TA)).heap.size = w.heap.size + 1 := by simp
  generalize w.alloc (.cells A.toArray TA) = w1 at *
  have a2 := boxF_new w1 B TB
  have u2 := (Below.refl w1.heap.size w1).alloc (Nat.le_refl _) (.cells B.toArray TB)
  have z2 : (w1.alloc (.cells B.toArray TB)).heap.size = w1.heap.size + 1 := by simp
  rw [z1] at a2
  exact ⟨a1.up u2, a2, b1.trans (u2.mono b1.size), by omega⟩
set_option maxHeartbeats 6400000 in
theorem ownGather_bare (ts : List ByteArray) (a0 : Option Addr) (n0 c0 n b cap : Nat) (w : World) (hs : SmallStringS ts) (hl : ts.length ≤ 6) (h0 : StringSRd w (.slice a0 n0 c0) ts) (hn : n ≤ 6) (hb : b < w.heap.size) (hc : ∀ i, i < n → w.cell? ⟨b, i, none⟩ = some (.slice none 0 0)) :
    Calls Try.prog 15 #[.agg #[.slice a0 n0 c0, .slice (some ⟨b, 0, none⟩) n cap, .slice none 0 0]] w fun e w' => ∃ v, e = .returned v ∧ Hid (∃ S, GatherFull S w' v ⟨ts, List.replicate n [], []⟩ ∧ ∀ k ∈ S, w.heap.size ≤ k) ∧ Below w.heap.size w w' := by
  have HT := hide (fun W (bW : Below w.heap.size w W) => ownTexts_any ts (.slice a0 n0 c0) W hs (by omega) (h0.up bW))
  have HW := hide (fun W (bW : Below w.heap.size w W) => ownWindows_bare n b cap W hn (Nat.lt_of_lt_of_le hb bW.size) (fun i hi => (bW.cell (by exact hb)).trans (hc i hi)))
  have HM := hide (fun W => ownStamp_any [] (.slice none 0 0) W ⟨⟨by simp, fun _ h => by cases h⟩, fun _ h => by cases h⟩ (by simp) ⟨none, 0, rfl, .inl rfl⟩)
  clear hc h0 hs hb hl
  have hF := boxesF2 w [.slice a0 n0 c0, .slice (some ⟨b, 0, none⟩) n cap, .slice none 0 0] [.slice none 0 0, .slice none 0 0, .slice none 0 0] 27 27
  obtain ⟨x0, x1, b0, hz⟩ := hF
  simp only [List.toArray] at x0 x1 b0 hz
  go_enter Try.func15, Try.ntmps15
  go_wp2_with fail
  generalize (w.alloc (.cells #[.slice a0 n0 c0, .slice (some ⟨b, 0, none⟩) n cap, .slice none 0 0] 27)).alloc (.cells #[.slice none 0 0, .slice none 0 0, .slice none 0 0] 27) = W at *
  have X0 := hide x0
  have X1 := hide x1
  have B0 := hide b0
  have HZ := hide hz
  clear x0 x1 b0 hz
  have KP := hide (show ∀ X : World, Below W.heap.size W X → X.cell? ⟨w.heap.size, 0, none⟩ = some (.slice a0 n0 c0) ∧ X.cell? ⟨w.heap.size, 1, none⟩ = some (.slice (some ⟨b, 0, none⟩) n cap) ∧ X.cell? ⟨w.heap.size, 2, none⟩ = some (.slice none 0 0) from fun X b => ((unhide X0).up b).three.1)
  have KS := hide (show ∀ (X : World) (v0 v1 v2 : Value), Below W.heap.size W X → (((X.setCell ⟨w.heap.size + 1, 0, none⟩ v0).setCell ⟨w.heap.size + 1, 1, none⟩ v1).setCell ⟨w.heap.size + 1, 2, none⟩ v2).cell? ⟨w.heap.size, 0, none⟩ = some (.slice a0 n0 c0) ∧ (((X.setCell ⟨w.heap.size + 1, 0, none⟩ v0).setCell ⟨w.heap.size + 1, 1, none⟩ v1).setCell ⟨w.heap.size + 1, 2, none⟩ v2).cell? ⟨w.heap.size, 1, none⟩ = some (.slice (some ⟨b, 0, none⟩) n cap) ∧ (((X.setCell ⟨w.heap.size + 1, 0, none⟩ v0).setCell ⟨w.heap.size + 1, 1, none⟩ v1).setCell ⟨w.heap.size + 1, 2, none⟩ v2).cell? ⟨w.heap.size, 2, none⟩ = some (.slice none 0 0) from fun X v0 v1 v2 b => (((((unhide X0).up b).far 0 v0 (by omega)).far 1 v1 (by omega)).far 2 v2 (by omega)).three.1)
  have BD := hide ((Below.refl W.heap.size W).drew)
  go_region_held3 (fun X => X.cell? ⟨w.heap.size, 0, none⟩ = some (.slice a0 n0 c0) ∧ X.cell? ⟨w.heap.size, 1, none⟩ = some (.slice (some ⟨b, 0, none⟩) n cap) ∧ X.cell? ⟨w.heap.size, 2, none⟩ = some (.slice none 0 0)) ((first | (refine unhide KP _ ?_; exact unhide (by assumption)) | (refine unhide KS _ _ _ _ ?_; exact unhide (by assumption))))
    (first
      | (go_at_call 27; refine (unhide HT _ ((unhide B0).trans ((unhide BD).mono (unhide B0).size))).mono ?_; rintro e w1 ⟨u1, rfl, R1, b1⟩; obtain ⟨ua, uc, rfl⟩ := (unhide R1).slice; have BB1 := hide ((unhide BD).trans (b1.mono (unhide BD).size)); clear b1)
      | (go_at_call 28; have _t := BB1; refine (unhide HW _ ((unhide B0).trans ((unhide BB1).mono (unhide B0).size))).mono ?_; rintro e w2 ⟨u2, rfl, R2, b2⟩; obtain ⟨ya, yn, yc, rfl⟩ := (unhide R2).form; have R1b := hide ((unhide R1).up b2); have Z2 := hide b2.size; have BB2 := hide ((unhide BB1).trans (b2.mono (unhide BB1).size)); clear b2)
      | (go_at_call 29; have _t := BB2; refine (unhide HM _).mono ?_; rintro e w3 ⟨u3, rfl, R3, b3⟩; obtain ⟨ma, mc, rfl⟩ := (unhide R3).slice; have R1c := hide ((unhide R1b).up b3); have R2c := hide ((unhide R2).up b3); have Z3 := hide b3.size; have BB3 := hide ((unhide BB2).trans (b3.mono (unhide BB2).size)); clear b3; obtain ⟨⟨q0, q1, q2⟩, f0, f1, f2⟩ := ((unhide X1).up (unhide BB3)).three))
  clear q0 q1 q2 f0 f1 f2
  have XB := hide (((((unhide X1).up (unhide BB3)).set 0 (.slice ua ts.length uc) (by simp)).set 1 (.slice ya yn yc) (by simp)).set 2 (.slice ma 0 mc) (by simp))
  simp only [List.set] at XB
  have TT := hide (show Turn [w.heap.size + 1] w3 (((w3.setCell ⟨w.heap.size + 1, 0, none⟩ (.slice ua ts.length uc)).setCell ⟨w.heap.size + 1, 1, none⟩ (.slice ya yn yc)).setCell ⟨w.heap.size + 1, 2, none⟩ (.slice ma 0 mc)) from (((Turn.refl _ _).setCell (by simp) _ _).setCell (by simp) _ _).setCell (by simp) _ _)
  have HG := hide (show ∃ S, GatherFull S w3 (.agg #[.slice ua ts.length uc, .slice ya yn yc, .slice ma 0 mc]) ⟨ts, List.replicate n [], []⟩ ∧ ∀ k ∈ S, W.heap.size ≤ k by
    obtain ⟨S0, h0, g0, o0⟩ := (unhide R1c).own
    obtain ⟨S1, h1, g1, o1⟩ := (unhide R2c).full
    obtain ⟨S2, h2, g2, o2⟩ := (unhide R3).own
    have l0 : ∀ k ∈ S0, k < w1.heap.size := fun k hk => (unhide R1).lt k (o0 k hk)
    have l1 : ∀ k ∈ S1, k < w2.heap.size := fun k hk => (unhide R2).lt k (o1 k hk)
    have z1 := (unhide BB1).size
    have z2 := unhide Z2
    refine ⟨S0 ++ (S1 ++ S2), ⟨_, _, _, S0, S1, S2, rfl, rfl, h0, h1, h2, fun k hk hm => ?_, fun k hk hm => ?_, fun k hk hm => ?_⟩, fun k hk => ?_⟩
    · have := l0 k hk; have := g1 k hm; omega
    · have := l0 k hk; have := g2 k hm; omega
    · have := l1 k hk; have := g2 k hm; omega
    · simp only [List.mem_append] at hk
      rcases hk with hk | hk | hk
      · exact g0 k hk
      · have := g1 k hk; omega
      · have := g2 k hk; omega)
  obtain ⟨S, HG1, HG2⟩ := unhide HG
  have HGF := hide (HG1.turn (unhide TT) (fun k hk hm => by have := HG2 k hk; have := unhide HZ; simp at hm; omega))
  have HGL := hide (show ∀ k ∈ S, w.heap.size ≤ k from fun k hk => by have := HG2 k hk; have := unhide HZ; omega)
  have HBF := hide (show Below w.heap.size w (((w3.setCell ⟨w.heap.size + 1, 0, none⟩ (.slice ua ts.length uc)).setCell ⟨w.heap.size + 1, 1, none⟩ (.slice ya yn yc)).setCell ⟨w.heap.size + 1, 2, none⟩ (.slice ma 0 mc)) from ((unhide B0).trans ((unhide BB3).mono (unhide B0).size)).trans ((unhide TT).below ((unhide B0).trans ((unhide BB3).mono (unhide B0).size)).size (fun k hk => by simp at hk; omega)))
  clear HG HG1 HG2 TT R1 R1b R1c R2 R2c R3 BB1 BB2 BB3 Z2 Z3 X0 X1 KP KS
  rename_i hHeld
  clear hHeld
  generalize ((w3.setCell ⟨w.heap.size + 1, 0, none⟩ (.slice ua ts.length uc)).setCell ⟨w.heap.size + 1, 1, none⟩ (.slice ya yn yc)).setCell ⟨w.heap.size + 1, 2, none⟩ (.slice ma 0 mc) = WF at *
  obtain ⟨⟨s0, s1, s2⟩, -⟩ := (unhide XB).three
  go_wp2_with fail
  refine bodyPost_ret (v := .agg #[.slice ua ts.length uc, .slice ya yn yc, .slice ma 0 mc]) ?_ rfl ?_
  · simp [results, Try.results15, go_sem, s0, s1, s2]
  exact ⟨_, rfl, hide ⟨S, unhide HGF, unhide HGL⟩, unhide HBF⟩
def newV (ins : List ByteArray) : GatherV := if insB ins then ⟨ins, List.replicate ins.length [], []⟩ else ⟨[], [], []⟩
def StringFull (S : List Nat) (w : World) (v : Value) (ts : List ByteArray) : Prop := StringSOwn S w v ts ∧ ∃ a c, v = .slice a ts.length c ∧ ts.length ≤ c
set_option maxHeartbeats 6400000 in
theorem implNew_any (ins : List ByteArray) (v : Value) (w : World) {S : List Nat} (hs : SmallStringS ins) (h : StringFull S w v ins) :
    Calls Try.prog 7 #[v] w fun e w' => ∃ v S, e = .returned (.tuple #[v, .bool (insB ins)]) ∧ Hid (GatherFull S w' v (newV ins)) ∧ Hid (∀ k ∈ S, w.heap.size ≤ k) ∧ Below w.heap.size w w' := by
  have HR := hide h.1.rd
  obtain ⟨-, a, c, rfl, hcap⟩ := h
  have HI := hide (fun W (bW : Below w.heap.size w W) => show Calls Try.prog 14 #[.slice a ins.length c] W fun e w' => e = .returned (.bool (insB ins)) ∧ Below W.heap.size W w' from by
    obtain ⟨a', c', e, h⟩ := (unhide HR).up bW
    simp only [Value.slice.injEq] at e
    obtain ⟨rfl, -, rfl⟩ := e
    exact inputsOk_any ins a c W hs hcap h)
  have hl := hs.1
  have HS := hide hs
  have bx := boxF_new w [.slice none 0 0, .slice none 0 0, .slice none 0 0] 27
  have bb := (Below.refl w.heap.size w).alloc (Nat.le_refl _) (.cells #[.slice none 0 0, .slice none 0 0, .slice none 0 0] 27)
  have zz : (w.alloc (.cells #[.slice none 0 0, .slice none 0 0, .slice none 0 0] 27)).heap.size = w.heap.size + 1 := by simp
  simp only [List.toArray] at bx
  clear hs
  cases hin : insB ins
  · have HN := hide (show newV ins = ⟨[], [], []⟩ by simp [newV, hin])
    rw [hin] at HI
    clear hin
    go_enter Try.func7, Try.ntmps7
    go_wp2_with fail
    generalize w.alloc (.cells #[.slice none 0 0, .slice none 0 0, .slice none 0 0] 27) = W at *
    refine (unhide HI _ bb).mono ?_
    rintro e w1 ⟨rfl, b1⟩
    have X1 := hide (bx.up b1)
    have B1 := hide (bb.trans (b1.mono bb.size))
    clear b1 bx bb zz
    obtain ⟨⟨x0, x1, x2⟩, f0, f1, f2⟩ := (unhide X1).three
    go_wp2_with fail
    have XB := ((((unhide X1).set 0 (.slice none 0 0) (by simp)).set 1 (.slice none 0 0) (by simp)).set 2 (.slice none 0 0) (by simp))
    simp only [List.set] at XB
    have BF := hide ((((unhide B1).setCell (p := ⟨w.heap.size, 0, none⟩) (Nat.le_refl _) (.slice none 0 0)).setCell (p := ⟨w.heap.size, 1, none⟩) (Nat.le_refl _) (.slice none 0 0)).setCell (p := ⟨w.heap.size, 2, none⟩) (Nat.le_refl _) (.slice none 0 0))
    clear x0 x1 x2 f0 f1 f2
    generalize ((w1.setCell ⟨w.heap.size, 0, none⟩ (.slice none 0 0)).setCell ⟨w.heap.size, 1, none⟩ (.slice none 0 0)).setCell ⟨w.heap.size, 2, none⟩ (.slice none 0 0) = WF at *
    obtain ⟨⟨s0, s1, s2⟩, -⟩ := XB.three
    refine bodyPost_ret (v := .tuple #[.agg #[.slice none 0 0, .slice none 0 0, .slice none 0 0], .bool false]) ?_ rfl ?_
    · simp [results, Try.results7, go_sem, s0, s1, s2]
    refine ⟨_, [], rfl, hide ?_, hide (by simp), unhide BF⟩
    rw [unhide HN]
    exact ⟨_, _, _, [], [], [], rfl, rfl, .inl ⟨rfl, rfl, none, 0, rfl⟩, ⟨none, 0, rfl, by simp, .inl rfl⟩, .inl ⟨rfl, rfl, none, 0, rfl⟩, (fun _ h => by cases h), (fun _ h => by cases h), (fun _ h => by cases h)⟩
  · have HN := hide (show newV ins = ⟨ins, List.replicate ins.length [], []⟩ by simp [newV, hin])
    rw [hin] at HI
    have hl6 := (insB_facts hin)
    clear hin
    go_enter Try.func7, Try.ntmps7
    go_wp2_with fail
    generalize w.alloc (.cells #[.slice none 0 0, .slice none 0 0, .slice none 0 0] 27) = W at *
    refine (unhide HI _ bb).mono ?_
    rintro e w1 ⟨rfl, b1⟩
    have X1 := hide (bx.up b1)
    have B1 := hide (bb.trans (b1.mono bb.size))
    clear b1 bx bb zz
    obtain ⟨⟨x0, x1, x2⟩, f0, f1, f2⟩ := (unhide X1).three
    obtain ⟨i0, hi, hz0, hz1, hz2⟩ := info_parts1 infoItemS
    go_wp2_with (first
      | (at_make; refine wpList_make_full _ rfl _ _ 24 rfl w1.heap.size 46 i0 _ 1 Try.underlying24 hi hz0 hz1 _ _ _ _ ins.length rfl rfl rfl rfl (by rw [hz2]; omega) (by unfold maxLen; omega) (Nat.le_refl _) ?_; intro w2 hown hgrow)
      | fail)
    clear hz0 hz1 hz2 hi x0 x1 x2 f0 f1 f2
    have b2 : Below w1.heap.size w1 w2 := (Below.refl _ _).grown hgrow (Nat.le_refl _) (fun k hk => by cases hk)
    have X2 := hide ((unhide X1).up b2)
    have B2 := hide ((unhide B1).trans (b2.mono (unhide B1).size))
    have hg : w1.heap.size < w2.heap.size := by
      rcases hown.2 with ⟨h', _⟩ | ⟨g', cap', cur, h', _, hg, _⟩
      · simp at h'
      · simp only [Value.slice.injEq, Option.some.injEq, Addr.mk.injEq, and_true, true_and] at h'
        obtain ⟨rfl, rfl⟩ := h'
        exact (Array.getElem?_eq_some_iff.1 hg).1
    have HOG := hide (ownGather_bare ins a ins.length c ins.length w1.heap.size ins.length w2 (unhide HS) hl6.2 ((unhide HR).up (unhide B2)) hl6.2 hg (fun i hi => by
      rw [hown.cellAt _ (by omega)]
      exact made_nil _ _ hi))
    clear hown hgrow b2 X1 B1 hg
    obtain ⟨⟨x0, x1, x2⟩, f0, f1, f2⟩ := (unhide X2).three
    go_wp2_with fail
    refine (unhide HOG).mono ?_
    rintro e w3 ⟨gv, rfl, HG, b3⟩
    obtain ⟨S3, HG1, HG2⟩ := unhide HG
    have X3 := hide ((unhide X2).up b3)
    have B3 := hide ((unhide B2).trans (b3.mono (unhide B2).size))
    have HZ := hide (show w.heap.size < w2.heap.size from (unhide X2).1.1)
    clear b3 X2 B2 x0 x1 x2 f0 f1 f2 HG HOG
    obtain ⟨ga0, gn0, gc0, ga1, gn1, gc1, ga2, gn2, gc2, rfl⟩ := HG1.rd.form
    have HGF := hide HG1
    have HGL := hide HG2
    clear HG1 HG2
    obtain ⟨⟨x0, x1, x2⟩, f0, f1, f2⟩ := (unhide X3).three
    go_wp2_with fail
    clear x0 x1 x2 f0 f1 f2
    have XB := ((((unhide X3).set 0 (.slice ga0 gn0 gc0) (by simp)).set 1 (.slice ga1 gn1 gc1) (by simp)).set 2 (.slice ga2 gn2 gc2) (by simp))
    simp only [List.set] at XB
    have TT : Turn [w.heap.size] w3 (((w3.setCell ⟨w.heap.size, 0, none⟩ (.slice ga0 gn0 gc0)).setCell ⟨w.heap.size, 1, none⟩ (.slice ga1 gn1 gc1)).setCell ⟨w.heap.size, 2, none⟩ (.slice ga2 gn2 gc2)) := (((Turn.refl _ _).setCell (by simp) _ _).setCell (by simp) _ _).setCell (by simp) _ _
    have HGT := hide ((unhide HGF).turn TT (fun k hk hm => by have := unhide HGL k hk; have := unhide HZ; simp at hm; omega))
    have HGM := hide (show ∀ k ∈ S3, w.heap.size ≤ k from fun k hk => by have := unhide HGL k hk; have := unhide HZ; omega)
    have BF := hide ((((unhide B3).setCell (p := ⟨w.heap.size, 0, none⟩) (Nat.le_refl _) (.slice ga0 gn0 gc0)).setCell (p := ⟨w.heap.size, 1, none⟩) (Nat.le_refl _) (.slice ga1 gn1 gc1)).setCell (p := ⟨w.heap.size, 2, none⟩) (Nat.le_refl _) (.slice ga2 gn2 gc2))
    clear TT
    generalize ((w3.setCell ⟨w.heap.size, 0, none⟩ (.slice ga0 gn0 gc0)).setCell ⟨w.heap.size, 1, none⟩ (.slice ga1 gn1 gc1)).setCell ⟨w.heap.size, 2, none⟩ (.slice ga2 gn2 gc2) = WF at *
    obtain ⟨⟨s0, s1, s2⟩, -⟩ := XB.three
    refine bodyPost_ret (v := .tuple #[.agg #[.slice ga0 gn0 gc0, .slice ga1 gn1 gc1, .slice ga2 gn2 gc2], .bool true]) ?_ rfl ?_
    · simp [results, Try.results7, go_sem, s0, s1, s2]
    rw [unhide HN]
    exact ⟨_, S3, rfl, HGT, HGM, unhide BF⟩
end Go.Proofs.Ytcjomdbklgjojaa
