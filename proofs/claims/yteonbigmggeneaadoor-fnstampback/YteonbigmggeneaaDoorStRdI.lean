/-
  The program's reader of stamps in memory: one byte is taken, a mark ends.
-/
import Derived.Test.YteonbigmggeneaaDoorLoose
import Derived.Test.YteonbigmggeneaaDoorMksApp
import Derived.Test.YteonbigmggeneaaDoorByAppend
import Derived.Test.YteonbigmggeneaaDoorBoxes
set_option linter.unusedVariables false
namespace Go.Proofs.YteonbigmggeneaaDoor
open Go.RowKit Go.Maps Go.Deep

theorem conv_str {w : World} {a : Option Addr} {m c : Nat} {bs : List UInt8} (h : ByRd w (.slice a m c) bs) : (convert 22 9 (.slice a m c)).run Tryd.prog w = .ok (.string ⟨bs.toArray⟩) w := by
  obtain ⟨a', c', e, hin, _⟩ := h
  simp only [Value.slice.injEq] at e
  obtain ⟨rfl, rfl, rfl⟩ := e
  rcases hin with rfl | ⟨b, off, rfl, hb, hx⟩
  · show (convert 22 9 (.slice a 0 c)).run Tryd.prog w = _
    rw [run_convert_bytes_string w 22 9 5 a 0 c Tryd.underlying22 Tryd.underlying5 Tryd.underlying9]
    cases a <;> simp [Conv.bytesToString, loadCells]
    all_goals rfl
  · exact run_convert_bytes_back w 22 9 5 ⟨b, off, none⟩ c bs Tryd.underlying22 Tryd.underlying5 Tryd.underlying9 (fun j hj => by
      have hadd : (⟨b, off, none⟩ : Addr).add j = ⟨b, off + j, none⟩ := by unfold Addr.add; split <;> simp_all
      rw [hadd]
      exact hx j hj)
theorem mk_by_apart {B B' : Nat} {w : World} {v u : Value} {ms : List MarkV} {bs : List UInt8} (h : MkRow B w v ms) (h' : ByRow B' w u bs) : ∀ k, u.ownBlock = some k → v.ownBlock ≠ some k := by
  intro k hk hv
  rcases h.2 with ⟨rfl, _⟩ | ⟨g, cap, cur, rfl, hB, hg, _⟩
  · simp [Value.ownBlock] at hv
  · rcases h'.2 with ⟨rfl, _⟩ | ⟨g', cap', cur', rfl, hB', hg', _⟩
    · simp [Value.ownBlock] at hk
    · simp [Value.ownBlock] at hk hv
      subst hk
      subst hv
      rw [hg] at hg'
      simp at hg'
/-- all blocks ahead of B but b are as they were -/
structure Off (b B : Nat) (w w' : World) : Prop where
  os : w'.os = w.os
  tape : w'.tape = w.tape
  output : w'.output = w.output
  size : w.heap.size ≤ w'.heap.size
  block : ∀ k, k < B → k ≠ b → w'.heap[k]? = w.heap[k]?
theorem Off.refl (b B : Nat) (w : World) : Off b B w w := ⟨rfl, rfl, rfl, Nat.le_refl _, fun _ _ _ => rfl⟩
theorem Off.trans {b B : Nat} {x y z : World} (h : Off b B x y) (k : Off b B y z) : Off b B x z := ⟨k.os.trans h.os, k.tape.trans h.tape, k.output.trans h.output, Nat.le_trans h.size k.size, fun i h1 h2 => (k.block i h1 h2).trans (h.block i h1 h2)⟩
theorem Off.of_below {b B B' : Nat} {w w' : World} (h : Below B' w w') (hB : B ≤ B') : Off b B w w' := ⟨h.os, h.tape, h.output, h.size, fun k hk _ => h.block k (by omega)⟩
theorem Off.low {b B : Nat} {w w' : World} (h : Off b B w w') (hB : b < B) : Below b w w' := ⟨h.os, h.tape, h.output, h.size, fun k hk => h.block k (by omega) (by omega)⟩
theorem Off.set {b B : Nat} {x w : World} (h : Off b B x w) (i : Nat) (u : Value) : Off b B x (w.setCell ⟨b, i, none⟩ u) := by
  have t : Turn [b] w (w.setCell ⟨b, i, none⟩ u) := (Turn.refl [b] w).setCell (by simp) i u
  refine h.trans ⟨t.os, t.tape, t.output, t.size, fun k hk hb => ?_⟩
  by_cases hz : k < w.heap.size
  · exact t.block k hz (by simpa using hb)
  · have h1 : w.heap.size ≤ k := by omega
    have h2 : (w.setCell ⟨b, i, none⟩ u).heap.size = w.heap.size := by simp [World.setCell]
    rw [Array.getElem?_eq_none h1, Array.getElem?_eq_none (by omega)]
theorem Off.grown {b B : Nat} {x w w' : World} {row : Option Nat} (h : Off b B x w) (hg : w.grownBy w' row) (hB : B ≤ w.heap.size) (hr : ∀ k, row = some k → B ≤ k) : Off b B x w' :=
  h.trans ⟨hg.os, hg.tape, hg.output, hg.size, fun k hk _ => hg.block k (by omega) (fun e => by have := hr k e.symm; omega)⟩
theorem Off.cell {b B : Nat} {w w' : World} (h : Off b B w w') {g i : Nat} (hg : g < B) (hn : g ≠ b) : w'.cell? ⟨g, i, none⟩ = w.cell? ⟨g, i, none⟩ := World.cell?_of_block (w := w) (h.block g hg hn)
/-- the reader's four cells, and the two rows -/
structure RdBox (b B : Nat) (w : World) (s : RdSt) (ma : Option Addr) (mn mc : Nat) (wa : Option Addr) (wn wc : Nat) : Prop where
  lt : b < B ∧ B ≤ w.heap.size
  box : BoxF w b [.slice ma mn mc, .string s.src, .int .i64 0, .slice wa wn wc]
  mks : MkRow B w (.slice ma mn mc) s.marks
  wrd : ByRow B w (.slice wa wn wc) s.word
def RdAt (b B : Nat) (w : World) (s : RdSt) : Prop := ∃ ma mn mc wa wn wc, RdBox b B w s ma mn mc wa wn wc
theorem RdBox.up {b B : Nat} {w w' : World} {s : RdSt} {ma : Option Addr} {mn mc : Nat} {wa : Option Addr} {wn wc : Nat} (h : RdBox b B w s ma mn mc wa wn wc) (hb : Below w.heap.size w w') : RdBox b B w' s ma mn mc wa wn wc := ⟨⟨h.lt.1, Nat.le_trans h.lt.2 hb.size⟩, h.box.up hb, h.mks.up hb, h.wrd.up hb⟩
def RdLen (s : RdSt) (n : Nat) : Prop := s.marks.length ≤ n ∧ s.word.length ≤ n
/-- the word grows -/
theorem RdBox.word {b B : Nat} {w w' : World} {s : RdSt} {ma : Option Addr} {mn mc : Nat} {wa wa' : Option Addr} {wn wc wn' wc' : Nat} {c : UInt8} (h : RdBox b B w s ma mn mc wa wn wc) (r : ByRow B w' (.slice wa' wn' wc') (s.word ++ [c])) (gr : w.grownBy w' (Value.slice wa wn wc).ownBlock) :
    RdBox b B (w'.setCell ⟨b, 3, none⟩ (.slice wa' wn' wc')) ⟨s.marks, s.src, s.word ++ [c]⟩ ma mn mc wa' wn' wc' ∧ BoxF w' b [.slice ma mn mc, .string s.src, .int .i64 0, .slice wa wn wc] := by
  have t : Turn (Value.slice wa wn wc).ownBlock.toList w w' := Turn.of_grown gr (fun k hk => .inl (by rw [hk]; simp))
  have hbx := h.box.turn t (fun hm => by have := h.wrd.ge b (by simpa using hm); have := h.lt; omega)
  refine ⟨⟨⟨h.lt.1, by have := h.lt.2; have := t.size; simp [World.setCell]; omega⟩, hbx.set 3 _ (by simp), ?_, ?_⟩, hbx⟩
  · exact (h.mks.keep (fun g hg => t.block g (h.mks.lt g hg) (fun hm => mk_by_apart h.mks h.wrd g (by simpa using hm) hg))).keep (fun g hg => by
      have := h.mks.ge g hg
      have := h.lt
      exact ((Turn.refl [b] w').setCell (by simp) 3 _).block g (Nat.lt_of_lt_of_le (h.mks.lt g hg) t.size) (by simp; omega))
  · exact r.turn ((Turn.refl [b] w').setCell (by simp) 3 _) (fun g hg => by have := r.ge g hg; have := h.lt; simp; omega)
/-- the word becomes the source -/
theorem RdBox.colon {b B : Nat} {w : World} {s : RdSt} {ma : Option Addr} {mn mc : Nat} {wa : Option Addr} {wn wc : Nat} (h : RdBox b B w s ma mn mc wa wn wc) :
    RdBox b B ((w.setCell ⟨b, 1, none⟩ (.string ⟨s.word.toArray⟩)).setCell ⟨b, 3, none⟩ (.slice none 0 0)) ⟨s.marks, ⟨s.word.toArray⟩, []⟩ ma mn mc none 0 0 := by
  have t : Turn [b] w ((w.setCell ⟨b, 1, none⟩ (.string ⟨s.word.toArray⟩)).setCell ⟨b, 3, none⟩ (.slice none 0 0)) := ((Turn.refl [b] w).setCell (by simp) 1 _).setCell (by simp) 3 _
  exact ⟨⟨h.lt.1, Nat.le_trans h.lt.2 t.size⟩, (h.box.set 1 _ (by simp)).set 3 _ (by simp), h.mks.keep (fun g hg => t.block g (h.mks.lt g hg) (by have := h.mks.ge g hg; have := h.lt; simp; omega)), ByRow.nil _ _⟩
/-- the number stands in its cell, then the mark goes to the others -/
theorem RdBox.num {b B : Nat} {w : World} {s : RdSt} {ma : Option Addr} {mn mc : Nat} {wa : Option Addr} {wn wc : Nat} (h : RdBox b B w s ma mn mc wa wn wc) (v : Int) :
    BoxF (w.setCell ⟨b, 2, none⟩ (.int .i64 v)) b [.slice ma mn mc, .string s.src, .int .i64 v, .slice wa wn wc] ∧ MkRow B (w.setCell ⟨b, 2, none⟩ (.int .i64 v)) (.slice ma mn mc) s.marks := by
  have t : Turn [b] w (w.setCell ⟨b, 2, none⟩ (.int .i64 v)) := (Turn.refl [b] w).setCell (by simp) 2 _
  exact ⟨h.box.set 2 _ (by simp), h.mks.keep (fun g hg => t.block g (h.mks.lt g hg) (by have := h.mks.ge g hg; have := h.lt; simp; omega))⟩
theorem rdEnd {b B : Nat} {w w' : World} (hbB : b < B) (hBw : B ≤ w.heap.size) {sr : ByteArray} {v : Int} {wv : Value} {ms ms' : List MarkV} {ma ma' : Option Addr} {mn mc mn' mc' : Nat} (hb : BoxF w b [.slice ma mn mc, .string sr, .int .i64 v, wv]) (hm : MkRow B w (.slice ma mn mc) ms) (r : MkRow B w' (.slice ma' mn' mc') ms') (gr : w.grownBy w' (Value.slice ma mn mc).ownBlock) :
    BoxF w' b [.slice ma mn mc, .string sr, .int .i64 v, wv] ∧ BoxF (w'.setCell ⟨b, 0, none⟩ (.slice ma' mn' mc')) b [.slice ma' mn' mc', .string sr, .int .i64 v, wv] ∧ RdBox b B ((((w'.setCell ⟨b, 0, none⟩ (.slice ma' mn' mc')).setCell ⟨b, 1, none⟩ (.string ⟨#[]⟩)).setCell ⟨b, 2, none⟩ (.int .i64 0)).setCell ⟨b, 3, none⟩ (.slice none 0 0)) ⟨ms', ⟨#[]⟩, []⟩ ma' mn' mc' none 0 0 := by
  have t : Turn (Value.slice ma mn mc).ownBlock.toList w w' := Turn.of_grown gr (fun k hk => .inl (by rw [hk]; simp))
  have hbx := hb.turn t (fun hq => by have := hm.ge b (by simpa using hq); omega)
  refine ⟨hbx, hbx.set 0 _ (by simp), ⟨hbB, by have := t.size; simp [World.setCell]; omega⟩, (((hbx.set 0 _ (by simp)).set 1 _ (by simp)).set 2 _ (by simp)).set 3 _ (by simp), ?_, ByRow.nil _ _⟩
  have t2 : Turn [b] w' ((((w'.setCell ⟨b, 0, none⟩ (.slice ma' mn' mc')).setCell ⟨b, 1, none⟩ (.string ⟨#[]⟩)).setCell ⟨b, 2, none⟩ (.int .i64 0)).setCell ⟨b, 3, none⟩ (.slice none 0 0)) := ((((Turn.refl [b] w').setCell (by simp) 0 _).setCell (by simp) 1 _).setCell (by simp) 2 _).setCell (by simp) 3 _
  exact r.keep (fun g hg => t2.block g (r.lt g hg) (by have := r.ge g hg; simp; omega))
theorem endSt_is (s : RdSt) : endSt s = ⟨s.marks ++ [⟨s.src, looseV s.word⟩], ⟨#[]⟩, []⟩ := rfl
set_option maxRecDepth 20000 in
set_option maxHeartbeats 3200000 in
theorem endMark_any (b B : Nat) (s : RdSt) (w : World) (hl : RdLen s 1000) (hE : ErrIn w) (h : RdAt b B w s) :
    Calls Tryd.prog 23 #[.pointer (some ⟨b, 0, none⟩)] w fun e w' => e = .returned (.tuple #[]) ∧ Hid (RdAt b B w' (endSt s)) ∧ Hid (Off b B w w') := by
  obtain ⟨ma, mn, mc, wa, wn, wc, hx⟩ := h
  have HX := hide hx
  have HL := hide hl
  have hcv := fun (q : World) (hq : ByRd q (.slice wa wn wc) s.word) => conv_str hq
  have hc0 := conv_str hx.wrd.rd
  have HLO := hide (loose_any ⟨s.word.toArray⟩ w (by have := hl.2; simp [ByteArray.size]; omega) hE)
  obtain ⟨⟨c0, c1, c2, c3⟩, f0, f1, f2, f3⟩ := hx.box.four
  have HR := hide (endSt_is s)
  clear hx hl hE hcv
  generalize looseV s.word = v at *
  go_enter Tryd.func23, Tryd.ntmps23
  go_wp2_with fail
  refine (unhide HLO).mono ?_
  rintro e w1 ⟨rfl, b1⟩
  have X1 := hide ((unhide HX).up b1)
  have NM := hide ((unhide X1).num v)
  obtain ⟨⟨c0, c1, c2, c3⟩, f0, f1, f2, f3⟩ := (unhide X1).box.four
  have HLT := hide (unhide X1).lt
  have B1 := hide (show Off b B w (w1.setCell ⟨b, 2, none⟩ (.int .i64 v)) from (Off.of_below b1 (unhide HX).lt.2).set 2 _)
  have HZW := hide (show B ≤ (w1.setCell ⟨b, 2, none⟩ (.int .i64 v)).heap.size from by have := (unhide X1).lt.2; simp [World.setCell]; omega)
  clear b1 HLO hc0 HX
  go_wp2_with fail
  clear c0 c1 c2 c3 f0 f1 f2 f3 X1
  generalize w1.setCell ⟨b, 2, none⟩ (.int .i64 v) = W at *
  obtain ⟨⟨c0, c1, c2, c3⟩, f0, f1, f2, f3⟩ := (unhide NM).1.four
  have A2 := hide (((Below.refl _ W).alloc (Nat.le_refl _) (.cells #[.string s.src, .int .i64 v] 39)).drew)
  have R2 := hide ((unhide NM).2.up (unhide A2))
  have BX2 := hide ((unhide NM).1.up (unhide A2))
  have U2 := hide (show MarkSRd (W.alloc (.cells #[.string s.src, .int .i64 v] 39)).drew (.slice (some ⟨W.heap.size, 0, none⟩) 1 1) [⟨s.src, v⟩] from ⟨_, 1, rfl, .inr ⟨W.heap.size, 0, rfl, by show _ < (W.alloc _).heap.size; simp, fun i hi => by
    simp only [List.length_cons, List.length_nil] at hi
    obtain rfl : i = 0 := by omega
    have h := (boxF_new W [.string s.src, .int .i64 v] 39).1
    exact ⟨h.at 0 _ rfl, h.at 1 _ rfl⟩⟩⟩)
  have HL2 := hide (show s.marks.length + [(⟨s.src, v⟩ : MarkV)].length ≤ 1000000 by have := (unhide HL).1; simp; omega)
  have HB2 := hide (show B ≤ (W.alloc (.cells #[.string s.src, .int .i64 v] 39)).drew.heap.size from Nat.le_trans (unhide HZW) (unhide A2).size)
  have B2 := hide ((unhide B1).trans (Off.of_below (unhide A2) (unhide HZW)))
  have e0 : (W.alloc (.cells #[.string s.src, .int .i64 v] 39)).cell? ⟨b, 0, none⟩ = some (.slice ma mn mc) := (unhide BX2).1.at 0 _ rfl
  go_region_law (refine step_mksAppend (by rfl) (.tmp 16) (.tmp 21) (by rfl) B (.slice ma mn mc) (.slice (some ⟨W.heap.size, 0, none⟩) 1 1) s.marks [⟨s.src, v⟩] (by rfl) (by rfl) (unhide R2) (unhide U2) (by simp) (unhide HL2) (unhide HB2) ?_; intro g3 n3 d3 w3 hn3 r3 gr3 hg3; have K3 := hide (rdEnd (unhide HLT).1 (unhide HB2) (unhide BX2) (unhide R2) r3 gr3); have B3 := hide ((unhide B2).grown gr3 (unhide HB2) (fun y hy => (unhide R2).ge y hy)); obtain ⟨⟨d0, -, -, -⟩, k0, -, -, -⟩ := (unhide K3).1.four; clear r3 gr3 hg3 hn3)
  all_goals
    obtain ⟨⟨-, j1, j2, j3⟩, -, i1, i2, i3⟩ := (unhide K3).2.1.four
    have END := hide (show RdAt b B ((((w3.setCell ⟨b, 0, none⟩ (.slice (some ⟨g3, 0, none⟩) n3 d3)).setCell ⟨b, 1, none⟩ (.string ⟨#[]⟩)).setCell ⟨b, 2, none⟩ (.int .i64 0)).setCell ⟨b, 3, none⟩ (.slice none 0 0)) (endSt s) from by rw [unhide HR]; exact ⟨_, _, _, _, _, _, (unhide K3).2.2⟩)
    have BEND := hide (((((unhide B3).set 0 (.slice (some ⟨g3, 0, none⟩) n3 d3)).set 1 (.string ⟨#[]⟩)).set 2 (.int .i64 0)).set 3 (.slice none 0 0))
    clear K3 B3 R2 BX2 U2 e0 d0 k0
    generalize w3.setCell ⟨b, 0, none⟩ (.slice (some ⟨g3, 0, none⟩) n3 d3) = W3 at *
    go_wp2_with fail
    first
    | (go_end0; exact ⟨rfl, END, BEND⟩)
    | (refine bodyPost_ret (results_none rfl _ _ _) rfl ?_; exact ⟨rfl, END, BEND⟩)
end Go.Proofs.YteonbigmggeneaaDoor
