/-
  The specification's way through a stream.
-/
import Derived.Test.YtlgmmibncoedgaaMerged8
import Derived.Test.YtlgmmibncoedgaaMerged9
import Derived.Test.YtlgmmibncoedgaaByReader
set_option linter.unusedVariables false
namespace Go.Proofs.Ytlgmmibncoedgaa
open Go.RowKit Go.Maps Go.Deep

theorem by_drop {w : World} {a : Option Addr} {n c : Nat} {bs : List UInt8} (h : ByRd w (.slice a n c) bs) (m : Nat) (hm : m ≤ bs.length) : ByRd w (.slice (if c = m then a else a.map (fun x => x.add m)) (n - m) (c - m)) (bs.drop m) := by
  obtain ⟨a', c', e, hin, hc⟩ := h
  simp only [Value.slice.injEq] at e
  obtain ⟨rfl, rfl, rfl⟩ := e
  refine ⟨_, _, by rw [List.length_drop], ?_, by rw [List.length_drop]; omega⟩
  by_cases e : c = m
  · exact .inl (List.drop_of_length_le (by omega))
  · rw [if_neg e]
    rcases hin with h | ⟨b, off, rfl, hb, h⟩
    · subst h; exact .inl (by simp)
    · refine .inr ⟨b, off + m, ?_, hb, fun i hi => ?_⟩
      · by_cases h0 : m = 0
        · subst h0; simp [Addr.add]
        · simp [Addr.add, h0]
      · rw [List.getElem_drop, Nat.add_assoc]
        exact h (m + i) (by simp at hi; omega)
theorem by_take {w : World} {a : Option Addr} {n c : Nat} {bs : List UInt8} (h : ByRd w (.slice a n c) bs) (m : Nat) (hm : m ≤ bs.length) : ByRd w (.slice a m c) (bs.take m) := by
  obtain ⟨a', c', e, hin, hc⟩ := h
  simp only [Value.slice.injEq] at e
  obtain ⟨rfl, rfl, rfl⟩ := e
  exact cut_take hin hc m hm
theorem by_len {w : World} {a : Option Addr} {n c : Nat} {bs : List UInt8} (h : ByRd w (.slice a n c) bs) : n = bs.length ∧ n ≤ c := by
  obtain ⟨a', c', e, hin, hc⟩ := h
  simp only [Value.slice.injEq] at e
  obtain ⟨rfl, rfl, rfl⟩ := e
  exact ⟨rfl, hc⟩
theorem next_neg {bs : List UInt8} (hw : waitB bs = false) (hn : nextI bs ≠ 1) : nextI bs = -1 := by
  unfold nextI at hn ⊢
  split
  · rfl
  · rename_i h
    rw [if_neg h, hw] at hn
    rw [hw]
    simp only [Bool.false_eq_true, if_false] at hn ⊢
    split
    · rename_i h2
      rw [if_pos h2] at hn
      exact absurd rfl hn
    · rfl
def RetWalk (bs : List UInt8) (w : World) (e : Ending) (w' : World) : Prop := ∃ a n c xa xn xc vs, e = .returned (.tuple #[.slice a n c, .slice xa xn xc, .int .i64 ((walkW bs).2.2 : Int)]) ∧ Hid (BvRow w.heap.size w' (.slice a n c) vs) ∧ Hid (BsIs w.heap.size w' vs (walkW bs).1) ∧ Hid (ByRow w.heap.size w' (.slice xa xn xc) (walkW bs).2.1) ∧ Below w.heap.size w w'
set_option maxRecDepth 20000 in
set_option maxHeartbeats 12800000 in
theorem specWalk_any (bs : List UInt8) (v : Value) (w : World) (hl : bs.length ≤ 1000000) (h : ByRd w v bs) :
    Calls Try.prog 52 #[v] w fun e w' => RetWalk bs w e w' := by
  obtain ⟨a0, c0, rfl⟩ := h.len
  have H0 := hide h
  have HL := hide hl
  clear h hl
  go_enter Try.func52, Try.ntmps52
  go_wp2_with fail
  go_loopw [0, 5, 6, 7, 8, 9, 10] (fun b o l _ _ _ _ wr => ∃ (p q : Nat) (a : Option Addr) (n c : Nat) (oa : Option Addr) (on oc : Nat) (vs : List Value) (ns : List (List UInt8)), b = .slice a n c ∧ o = .slice oa on oc ∧ l = .int .i64 (q : Int) ∧ Hid (ByRd w (.slice a n c) (bs.drop p)) ∧ Hid (WTo bs p ns q) ∧ Hid (BvRow w.heap.size wr (.slice oa on oc) vs) ∧ Hid (BsIs w.heap.size wr vs ns) ∧ Hid (Below w.heap.size w wr)) (fun b _ _ _ _ _ _ _ => match b with | .slice _ n _ => n | _ => 0)
  case atStart => exact ⟨0, 0, a0, bs.length, c0, none, 0, 0, [], [], rfl, rfl, rfl, by rw [List.drop_zero]; exact H0, hide (WTo.zero bs), hide (BvRow.nil _ _), hide (BsIs.nil _ _), hide (Below.refl _ _)⟩
  case round =>
    obtain ⟨p, q, a, n, c, oa, on, oc, vs, ns, rfl, rfl, rfl, RB, HW, RV, RI, HB⟩ := hrel
    obtain ⟨hn, hnc⟩ := by_len (unhide RB)
    have HN := hide hn
    have HQ := hide (unhide HW).2.1
    have hpl := (unhide HW).1
    have hb1 := unhide HL
    have hn' : n ≤ 1000000 := by rw [hn, List.length_drop]; omega
    have hq' : q ≤ 1000000 := by have := unhide HQ; omega
    have hdl : (bs.drop p).length ≤ 1048576 := by rw [← hn]; omega
    have HDL := hide hdl
    have hov := (unhide RV).form
    clear hn hpl hb1 hdl
    by_cases h0 : n = 0
    · have HD := hide ((unhide HW).done (show waitB (bs.drop p) = true from by
        have : bs.drop p = [] := List.eq_nil_of_length_eq_zero (by rw [← unhide HN]; exact h0)
        rw [this]; rfl))
      subst h0
      clear HW
      have R0 := hide (byLit wr wr.heap.size (Nat.le_refl _))
      have BA := hide ((Below.refl wr.heap.size wr).alloc (Nat.le_refl _) (.cells #[] 5))
      have HLL := hide (show ([] : List UInt8).length + (bs.drop p).length ≤ 140737488355328 by have := unhide HDL; simp only [List.length_nil]; omega)
      go_wp2_with (first
        | (at_builtin; refine wpList_byAppend rfl _ _ rfl wr.heap.size _ _ [] (bs.drop p) rfl rfl (unhide R0) (((unhide RB).up (unhide HB)).up (unhide BA)) (unhide HLL) (unhide BA).size ?_; intro a2 c2 w2 r2 g2 _; simp only [List.nil_append] at r2; have B2 := hide ((unhide BA).grown g2 (unhide BA).size (fun y hy => (unhide R0).ge y hy)); have R2 := hide (r2.mono (unhide HB).size); generalize (([] : List UInt8).length + (bs.drop p).length) = n2 at *; clear r2 g2)
        | fail)
      go_ret3
      exact ⟨_, _, _, _, _, _, vs, by rw [unhide HD]; rfl, hide ((unhide RV).up (unhide B2)), hide (by rw [unhide HD]; exact (unhide RI).keepU (KeepU.below (unhide B2))), hide (by rw [unhide HD]; exact unhide R2), (unhide HB).trans ((unhide B2).mono (unhide HB).size)⟩
    have hn0 : (0 : Int) < (n : Int) := by omega
    have HNX := hide (next_any (bs.drop p) (.slice a n c) wr (unhide HDL) ((unhide RB).up (unhide HB)))
    cases hw : waitB (bs.drop p)
    · by_cases hx : nextI (bs.drop p) = 1
      · obtain ⟨m, e1, e2, e3, e4⟩ := next_one hx
        have HW2 := hide ((unhide HW).hit hw hx e1)
        have hmn : m ≤ n := by rw [unhide HN]; exact e3
        have HSZ := hide (fun (W : World) (b : Below wr.heap.size wr W) => specSz_any (.slice a n c) (bs.drop p) W (unhide HDL) (((unhide RB).up (unhide HB)).up b))
        have HFR := hide (fun (W : World) (b : Below wr.heap.size wr W) => specFRead_row ((bs.drop p).take m) (.slice a m c) W (by have := unhide HDL; simp; omega) (by_take (((unhide RB).up (unhide HB)).up b) m e3))
        have HBD := hide (by_drop (unhide RB) m e3)
        rw [List.drop_drop] at HBD
        rw [hx] at HNX
        rw [e1] at HSZ
        rw [e4] at HFR
        have q1 : (m : Int) ≤ (c : Int) := by omega
        have q2 : (m : Int) ≤ (n : Int) := by omega
        clear hw hx e1 e3 e4 HW h0
        go_wp2_with fail
        refine (unhide HNX).mono ?_
        rintro e w1 ⟨rfl, b1⟩
        have B1 := hide b1
        clear b1 HNX
        go_wp2_with fail
        refine (unhide HSZ w1 (unhide B1)).mono ?_
        rintro e w2 ⟨rfl, hw2⟩
        rw [hw2]
        clear hw2 w2 HSZ
        go_wp2_with fail
        refine (unhide HFR w1 (unhide B1)).mono ?_
        rintro e w3 ⟨v3, rfl, RX, b3⟩
        obtain ⟨xa, xc, e3'⟩ := (unhide RX).slice
        obtain ⟨xn, HXN⟩ : ∃ xn, Hid ((frameOut ((bs.drop p).take m)).length = xn) := ⟨_, hide rfl⟩
        rw [unhide HXN] at e3'
        subst e3'
        have BX := hide ((unhide B1).trans (b3.mono (unhide B1).size))
        have RX1 := hide ((unhide RX).mono (unhide B1).size)
        have RV3 := hide (((unhide RV).up (unhide BX)).up ((Below.refl _ _).alloc (Nat.le_refl _) (.cells #[.slice xa xn xc] 22)))
        have BA := hide ((unhide BX).alloc (unhide BX).size (.cells #[.slice xa xn xc] 22))
        have C3 := hide (show (w3.alloc (.cells #[.slice xa xn xc] 22)).cell? ⟨w3.heap.size, 0, none⟩ = some (.slice xa xn xc) from World.cell?_alloc_at _ _ _ _ rfl)
        have HVL := hide (show vs.length ≤ 1000000 by have h1 := (unhide RI).len; have h2 := unhide HQ; have h3 := (unhide HW2).2.1; have h4 := (unhide HW2).1; have := unhide HL; simp at h3; omega)
        have HSZ3 := hide (show w.heap.size ≤ (w3.alloc (.cells #[.slice xa xn xc] 22)).heap.size from Nat.le_trans (unhide HB).size (unhide BA).size)
        clear b3 RX HFR
        go_wp2_with (first
          | (at_builtin; refine wpList_bvAppend rfl _ _ rfl w.heap.size (.slice oa on oc) vs xa xn xc w3.heap.size rfl rfl (unhide RV3) (unhide C3) (unhide HVL) (unhide HSZ3) ?_; intro g5 n5 c5 w5 r5 hn5 g5'; subst hn5; have RV5 := hide r5; have KU := hide ((KeepU.below (unhide BA)).trans (KeepU.grown g5' (unhide RV3).typed)); have KU3 := hide ((KeepU.below ((Below.refl w3.heap.size w3).alloc (Nat.le_refl _) (.cells #[.slice xa xn xc] 22))).trans (KeepU.grown g5' (unhide RV3).typed)); have HB5 := hide (((unhide HB).trans ((unhide BA).mono (unhide HB).size)).grown g5' (unhide HSZ3) (fun y hy => (unhide RV3).ge y hy)); clear r5 g5')
          | fail)
        all_goals
          have RI5 := hide ((unhide RI).snoc (unhide KU) (unhide HB).size ((unhide RX1).keepU (unhide KU3)))
          exact ⟨⟨p + m, q, _, _, _, _, _, _, _, _, rfl, rfl, rfl, HBD, HW2, RV5, RI5, HB5⟩, by dsimp only; omega⟩
      · have HNG := hide (next_neg hw hx)
        have HW2 := hide ((unhide HW).miss hw hx)
        have hp1 := wait_pos hw
        have HBD := hide (by_drop (unhide RB) 1 hp1)
        rw [List.drop_drop] at HBD
        rw [unhide HNG] at HNX
        have q1 : (1 : Int) ≤ (c : Int) := by omega
        have q2 : (1 : Int) ≤ (n : Int) := by omega
        clear hw hx HW h0 hp1 HNG
        go_wp2_with fail
        refine (unhide HNX).mono ?_
        rintro e w1 ⟨rfl, b1⟩
        have RV1 := hide ((unhide RV).up b1)
        have RI1 := hide ((unhide RI).keepU (KeepU.below b1))
        have HB1 := hide ((unhide HB).trans (b1.mono (unhide HB).size))
        clear b1 HNX RV RI HB
        go_wp2_with fail
        all_goals
          exact ⟨⟨p + 1, q + 1, _, _, _, _, _, _, _, _, rfl, rfl, by simp, HBD, HW2, RV1, RI1, HB1⟩, by dsimp only; omega⟩
    · have HD := hide ((unhide HW).done hw)
      have HNZ := hide (show nextI (bs.drop p) = 0 from by have := next_zero (bs := bs.drop p); rw [hw] at this; simpa using this)
      rw [unhide HNZ] at HNX
      clear HW hw HNZ
      go_wp2_with fail
      refine (unhide HNX).mono ?_
      rintro e w1 ⟨rfl, b1⟩
      have RV1 := hide ((unhide RV).up b1)
      have RI1 := hide ((unhide RI).keepU (KeepU.below b1))
      have HB1 := hide ((unhide HB).trans (b1.mono (unhide HB).size))
      clear b1 HNX RV RI HB h0
      have R0 := hide (byLit w1 w1.heap.size (Nat.le_refl _))
      have BA := hide ((Below.refl w1.heap.size w1).alloc (Nat.le_refl _) (.cells #[] 5))
      have HLL := hide (show ([] : List UInt8).length + (bs.drop p).length ≤ 140737488355328 by have := unhide HDL; simp only [List.length_nil]; omega)
      go_wp2_with (first
        | (at_builtin; refine wpList_byAppend rfl _ _ rfl w1.heap.size _ _ [] (bs.drop p) rfl rfl (unhide R0) (((unhide RB).up (unhide HB1)).up (unhide BA)) (unhide HLL) (unhide BA).size ?_; intro a2 c2 w2 r2 g2 _; simp only [List.nil_append] at r2; have B2 := hide ((unhide BA).grown g2 (unhide BA).size (fun y hy => (unhide R0).ge y hy)); have R2 := hide (r2.mono (unhide HB1).size); generalize (([] : List UInt8).length + (bs.drop p).length) = n2 at *; clear r2 g2)
        | fail)
      go_ret3
      exact ⟨_, _, _, _, _, _, vs, by rw [unhide HD]; rfl, hide ((unhide RV1).up (unhide B2)), hide (by rw [unhide HD]; exact (unhide RI1).keepU (KeepU.below (unhide B2))), hide (by rw [unhide HD]; exact unhide R2), (unhide HB1).trans ((unhide B2).mono (unhide HB1).size)⟩
end Go.Proofs.Ytlgmmibncoedgaa
