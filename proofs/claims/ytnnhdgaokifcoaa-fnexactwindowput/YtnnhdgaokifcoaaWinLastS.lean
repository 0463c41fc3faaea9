/-
  WindowLast of the specification.
-/
import Derived.Test.YtnnhdgaokifcoaaWinLastI
import Derived.Test.YtnnhdgaokifcoaaItemApp
set_option linter.unusedVariables false
namespace Go.Proofs.Ytnnhdgaokifcoaa
open Go.RowKit Go.Maps Go.Deep

/-- an item that may be read, and a bool, are handed back -/
def RetItemR (it : ItemV) (b : Bool) (w : World) (e : Ending) (w' : World) : Prop := ∃ u, e = .returned (.tuple #[.agg #[.int .i64 it.a0, u], .bool b]) ∧ Hid (MarkSRd w' u it.a1) ∧ Below w.heap.size w w'
theorem last_split {ns : List ItemV} (h : ns ≠ []) : ns.length - 1 < ns.length := by
  have := List.length_pos_iff.2 h
  omega
theorem lastI_get {ns : List ItemV} (hw : windowB orderOut ns = true) (h : ns ≠ []) : lastB ns = true ∧ lastI ns = ns[ns.length - 1]'(last_split h) := by
  refine ⟨by simp [lastB, hw, h], ?_⟩
  simp only [lastI, hw, if_true]
  rw [List.getLast?_eq_getElem?, List.getElem?_eq_getElem (last_split h)]
  rfl
theorem win_item {ns : List ItemV} (hw : windowB orderOut ns = true) : ns.length ≤ 4 ∧ ∀ i (h : i < ns.length), ns[i].a1 ≠ [] ∧ ns[i].a1.length ≤ 12 := by
  simp only [windowB, Bool.and_eq_true, decide_eq_true_eq] at hw
  refine ⟨hw.1, fun i h => ?_⟩
  have := (hw.2 i h h).1
  simp only [itemB, mstampB, Bool.and_eq_true, decide_eq_true_eq, Bool.not_eq_true', decide_eq_false_iff_not] at this
  refine ⟨fun e => this.2 (by rw [e]; rfl), by omega⟩
theorem ItemAt.one {w : World} {b off k : Nat} {ns : List ItemV} (h : ItemAt w b off ns) (hk : k < ns.length) : ItemAt w b (off + k * 2) [ns[k]] := by
  intro i hi
  obtain rfl : i = 0 := by simpa using hi
  simpa using h k hk
set_option maxHeartbeats 3200000 in
theorem specLast_row (w : World) (b off cap : Nat) (ns : List ItemV) (hs : SmallItemS ns) (hb : b < w.heap.size) (hc : ItemAt w b off ns) (hcap : ns.length ≤ cap) :
    Calls Try.prog 6 #[.slice (some ⟨b, off, none⟩) ns.length cap] w fun e w' => RetItemR (lastI ns) (lastB ns) w e w' := by
  have HK := hide (fun W (bW : Below w.heap.size w W) => specWindow_ok ns (.slice (some ⟨b, off, none⟩) ns.length cap) W hs ⟨_, _, rfl, .inr ⟨b, off, rfl, Nat.lt_of_lt_of_le hb bW.size, hc.up hb bW⟩⟩)
  have Y0 := hide (boxF_new w [.int .i64 0, .slice none 0 0] 26)
  have HC := hide (fun W (bW : Below w.heap.size w W) => hc.up hb bW)
  have hln := hs.1
  clear hc hs
  have NO := hide (show lastB ns = false → lastI ns = ⟨0, []⟩ → ∀ w1, Below w.heap.size w w1 → ∀ X, Turn [w.heap.size] w1 X → RetItemR (lastI ns) (lastB ns) w (.returned (.tuple #[.agg #[.int .i64 0, .slice none 0 0], .bool false])) X from fun e1 e2 w1 b1 X ht => by
    rw [e1, e2]
    exact ⟨_, rfl, hide (markSRd_none X), b1.trans (ht.below b1.size (by simp))⟩)
  cases hw : windowB orderOut ns
  · have HE := hide (lastI_no hw)
    rw [hw] at HK
    clear hw HC
    generalize ns.length = n at *
    go_enter Try.func6, Try.ntmps6
    go_wp2_with fail
    refine (unhide HK _ (by go_grown)).mono ?_
    rintro e w1 ⟨rfl, b1⟩
    have Y1 := hide ((unhide Y0).up b1)
    have B1 := hide (show Below w.heap.size w w1 from Below.trans (by go_grown) (b1.mono (by simp)))
    clear b1 Y0
    have y0 := (unhide Y1).1.2 0 _ rfl
    have y1 := (unhide Y1).1.2 1 _ rfl
    have j0 := (unhide Y1).2 0 (by simp)
    have j1 := (unhide Y1).2 1 (by simp)
    go_wp2_with fail
    refine bodyPost_ret (v := .tuple #[.agg #[.int .i64 0, .slice none 0 0], .bool false]) (by simp [results, Try.results6, go_sem, y0, y1]) rfl ?_
    exact unhide NO (unhide HE).1 (unhide HE).2 _ (unhide B1) _ (((Turn.refl _ _).setCell (by simp) _ _).setCell (by simp) _ _)
  · rw [hw] at HK
    by_cases hn : ns = []
    · have HE := hide (show lastB ns = false ∧ lastI ns = ⟨0, []⟩ by subst hn; exact ⟨by simp [lastB], by simp [lastI]⟩)
      have hl0 : ns.length = 0 := by rw [hn]; rfl
      rw [hl0] at HK ⊢
      clear hw HC hn hl0 hcap hln
      go_enter Try.func6, Try.ntmps6
      go_wp2_with fail
      refine (unhide HK _ (by go_grown)).mono ?_
      rintro e w1 ⟨rfl, b1⟩
      have Y1 := hide ((unhide Y0).up b1)
      have B1 := hide (show Below w.heap.size w w1 from Below.trans (by go_grown) (b1.mono (by simp)))
      clear b1 Y0
      have y0 := (unhide Y1).1.2 0 _ rfl
      have y1 := (unhide Y1).1.2 1 _ rfl
      have j0 := (unhide Y1).2 0 (by simp)
      have j1 := (unhide Y1).2 1 (by simp)
      go_wp2_with fail
      refine bodyPost_ret (v := .tuple #[.agg #[.int .i64 0, .slice none 0 0], .bool false]) (by simp [results, Try.results6, go_sem, y0, y1]) rfl ?_
      exact unhide NO (unhide HE).1 (unhide HE).2 _ (unhide B1) _ (((Turn.refl _ _).setCell (by simp) _ _).setCell (by simp) _ _)
    · have HE := hide (lastI_get hw hn)
      have hk := last_split hn
      have HL := hide (fun W (bW : Below w.heap.size w W) => l14Items_row W b (off + (ns.length - 1) * 2) (cap - (ns.length - 1)) [ns[ns.length - 1]] (by simp) (fun x hx => by simp at hx; subst hx; have := (win_item hw).2 _ hk; exact ⟨this.1, by omega⟩) (Nat.lt_of_lt_of_le hb bW.size) ((unhide HC W bW).one hk))
      simp only [List.length_singleton] at HL
      generalize ns[ns.length - 1] = it at *
      clear hw hn NO HC
      generalize hm : ns.length = n at *
      obtain ⟨m, rfl⟩ : ∃ m, n = m + 1 := ⟨n - 1, by omega⟩
      simp only [Nat.add_sub_cancel] at HL
      have hm1 : ((m + 1 : Nat) : Int) - 1 = (m : Int) := by omega
      have hz : (((m + 1 : Nat) : Int) == 0) = false := by rw [beq_eq_false_iff_ne]; omega
      clear hk hm
      go_enter Try.func6, Try.ntmps6
      go_wp2_with fail
      refine (unhide HK _ (by go_grown)).mono ?_
      rintro e w1 ⟨rfl, b1⟩
      have Y1 := hide ((unhide Y0).up b1)
      have B1 := hide (show Below w.heap.size w w1 from Below.trans (by go_grown) (b1.mono (by simp)))
      clear b1 Y0
      go_wp2_with fail
      refine (unhide HL _ (unhide B1)).mono ?_
      rintro e w2 ⟨u, xs, rfl, U, b2⟩
      obtain ⟨z, q, rfl⟩ : ∃ z q, xs = [(z, q)] := by
        have := (unhide U).2.1
        match xs, this with
        | [(z, q)], _ => exact ⟨z, q, rfl⟩
      obtain ⟨ub, cu, rfl, u0, u1⟩ := (unhide U).1.one
      obtain ⟨hz0, hq⟩ := (unhide U).2.2 0 (by simp) (by simp)
      simp only [List.getElem_cons_zero] at hz0 hq
      subst hz0
      obtain ⟨qa, qc, hq1⟩ := MkRow.slice hq
      generalize it.a1.length = qn at hq1
      subst hq1
      have Y2 := hide ((unhide Y1).up b2)
      have B2 := hide ((unhide B1).trans (b2.mono (unhide B1).size))
      have hz1 := (unhide Y1).1.1
      have KEY := hide (show ∀ X, Turn [w.heap.size] w2 X → RetItemR (lastI ns) (lastB ns) w (.returned (.tuple #[.agg #[.int .i64 it.a0, .slice qa qn qc], .bool true])) X from fun X ht => by
        rw [(unhide HE).1, (unhide HE).2]
        exact ⟨_, rfl, hide (MkRow.rd (MkRow.keep hq (fun g hg => ht.block g (MkRow.lt hq g hg) (fun hm => by have := MkRow.ge hq g hg; simp at hm; omega)))), (unhide B2).trans (ht.below (unhide B2).size (by simp))⟩)
      clear b2 U hq
      have y0 := (unhide Y2).1.2 0 _ rfl
      have y1 := (unhide Y2).1.2 1 _ rfl
      have j0 := (unhide Y2).2 0 (by simp)
      have j1 := (unhide Y2).2 1 (by simp)
      go_wp2_with fail
      refine bodyPost_ret (v := .tuple #[.agg #[.int .i64 it.a0, .slice qa qn qc], .bool true]) (by simp [results, Try.results6, go_sem, y0, y1]) rfl ?_
      exact unhide KEY _ (((Turn.refl _ _).setCell (by simp) _ _).setCell (by simp) _ _)
end Go.Proofs.Ytnnhdgaokifcoaa
