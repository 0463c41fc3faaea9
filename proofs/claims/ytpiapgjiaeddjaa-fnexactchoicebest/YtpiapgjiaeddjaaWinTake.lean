/-
  Windows: the program's window takes an item, or not.
-/
import Derived.Test.YtpiapgjiaeddjaaWinPut
import Derived.Test.YtpiapgjiaeddjaaMerged22
set_option linter.unusedVariables false
namespace Go.Proofs.Ytpiapgjiaeddjaa
open Go.RowKit Go.Maps Go.Deep

/-- what lies in a ring, as items -/
def RawIs (w : World) (xs : List RawI) (ns : List ItemV) : Prop := xs.length = ns.length ∧ ∀ i (h : i < xs.length) (h' : i < ns.length), xs[i].z = ns[i].a0 ∧ MarkSRd w xs[i].v ns[i].a1
def lastM (ns : List ItemV) : List MarkV := (ns.getLast?.map (·.a1)).getD []
theorem markSRd_none (w : World) : MarkSRd w (.slice none 0 0) [] := ⟨none, 0, rfl, .inl rfl⟩
theorem RawIs.last {w : World} {xs : List RawI} {ns : List ItemV} (h : RawIs w xs ns) : MarkSRd w (lastOr xs).v (lastM ns) := by
  unfold lastOr lastM
  rw [List.getLast?_eq_getElem?, List.getLast?_eq_getElem?]
  by_cases hl : xs.length = 0
  · have hn : ns.length = 0 := by rw [← h.1]; exact hl
    have e1 : xs = [] := List.eq_nil_of_length_eq_zero hl
    have e2 : ns = [] := List.eq_nil_of_length_eq_zero hn
    subst e1 e2
    exact markSRd_none w
  · have h1 : xs.length - 1 < xs.length := by omega
    have h2 : ns.length - 1 < ns.length := by have := h.1; omega
    rw [List.getElem?_eq_getElem h1, List.getElem?_eq_getElem h2]
    have e : ns.length - 1 = xs.length - 1 := by rw [h.1]
    have := (h.2 (xs.length - 1) h1 (by rw [← h.1]; exact h1)).2
    simp only [Option.map_some, Option.getD_some, e]
    exact this
theorem RawIs.empty {w : World} {xs : List RawI} {ns : List ItemV} (h : RawIs w xs ns) : decide (xs ≠ []) = decide (ns ≠ []) := by
  have := h.1
  cases xs <;> cases ns <;> simp at this ⊢
theorem small_last {ns : List ItemV} (h : ∀ x ∈ ns, SmallItem x) : SmallMarkS (lastM ns) := by
  unfold lastM
  cases hl : ns.getLast? with
  | none => exact ⟨⟨by simp, fun _ h => by cases h⟩, fun _ h => by cases h⟩
  | some x => exact (h x (List.mem_of_getLast? hl)).2
/-- what becomes of an item -/
def takeC (ns : List ItemV) (nv : ItemV) : Int := if itemB nv = false then 1 else if ns ≠ [] ∧ aboveB orderOut (lastM ns) nv.a1 = false then 2 else 0
def takeSt (ns : List ItemV) (nv : ItemV) (st : Nat) (xs : List RawI) : Nat := if takeC ns nv = 0 then putSt st xs else st
def takeL (ns : List ItemV) (nv : ItemV) (xs : List RawI) (x : RawI) : List RawI := if takeC ns nv = 0 then putL xs x else xs
theorem take_ne {ns : List ItemV} {nv : ItemV} {c : Int} (st : Nat) (xs : List RawI) (x : RawI) (h : takeC ns nv = c) (hc : c ≠ 0) : takeC ns nv = c ∧ takeSt ns nv st xs = st ∧ takeL ns nv xs x = xs := by
  refine ⟨h, ?_, ?_⟩
  · unfold takeSt; rw [h, if_neg hc]
  · unfold takeL; rw [h, if_neg hc]
theorem take_eq {ns : List ItemV} {nv : ItemV} (st : Nat) (xs : List RawI) (x : RawI) (h : takeC ns nv = 0) : takeC ns nv = 0 ∧ takeSt ns nv st xs = putSt st xs ∧ takeL ns nv xs x = putL xs x := by
  refine ⟨h, ?_, ?_⟩
  · unfold takeSt; rw [h, if_pos rfl]
  · unfold takeL; rw [h, if_pos rfl]

set_option maxRecDepth 100000 in
set_option maxHeartbeats 4000000 in
theorem take_any (w0 : World) (g st : Nat) (xs : List RawI) (ns : List ItemV) (x : RawI) (nv : ItemV) (w : World) (hb : Below w0.heap.size w0 w) (hg : w0.heap.size ≤ g) (hr : RingF w g st xs) (hx : RawIs w0 xs ns) (hs : ∀ y ∈ ns, SmallItem y) (hm : MarkSRd w0 x.v nv.a1) (hsn : SmallMarkS nv.a1) :
    Calls Try.prog 59 #[.pointer (some ⟨g, 0, none⟩), .agg #[.int .i64 x.z, .slice x.a x.n x.c]] w fun e w' => e = .returned (.int .i64 (takeC ns nv)) ∧ Hid (RingF w' g (takeSt ns nv st xs) (takeL ns nv xs x)) ∧ Hid (Turn [g] w w') := by
  have hgl := hr.1.lt
  have HR := hide hr
  have hn : x.n = nv.a1.length := by
    obtain ⟨a, c, e, _⟩ := hm
    unfold RawI.v at e
    simp only [Value.slice.injEq] at e
    exact e.2.1
  have HM := hide (fun W (b : Below w0.heap.size w0 W) => hm.up b)
  have HL := hide (fun W (b : Below w0.heap.size w0 W) => hx.last.up b)
  have HSL := hide (small_last hs)
  have HSN := hide hsn
  have HB := hide hb
  have hne := hx.empty
  have bI := boxI_new w x
  have bb := (Below.refl w.heap.size w).alloc (Nat.le_refl _) (.cells #[.int .i64 x.z, .slice x.a x.n x.c] 55)
  have hz : w.heap.size < (w.alloc (.cells #[.int .i64 x.z, .slice x.a x.n x.c] 55)).heap.size := by simp
  clear hr hx hs hm hsn hb
  by_cases h0 : nv.a1.length = 0
  · have HT := hide (take_ne (ns := ns) (nv := nv) (c := 1) st xs x (by unfold takeC; rw [if_pos (by simp [itemB, h0])]) (by omega))
    have q0 : ((x.n : Int) == 0) = true := by rw [hn, h0]; rfl
    obtain ⟨y0, y1⟩ := boxI_cells bI
    clear hn h0 hne
    go_enter Try.func59, Try.ntmps59
    go_wp2_with fail
    go_ret
    rw [(unhide HT).1, (unhide HT).2.1, (unhide HT).2.2]
    exact ⟨rfl, hide ((unhide HR).up bb), hide (Turn.of_below bb)⟩
  · have q0 : ((x.n : Int) == 0) = false := by rw [hn, beq_eq_false_iff_ne]; omega
    have HOK := hide (fun W (b : Below w0.heap.size w0 W) => implStampOk_any nv.a1 x.v W (unhide HSN) (unhide HM W b))
    unfold RawI.v at HOK
    obtain ⟨y0, y1⟩ := boxI_cells bI
    cases hmb : mstampB nv.a1
    · have HT := hide (take_ne (ns := ns) (nv := nv) (c := 1) st xs x (by unfold takeC; rw [if_pos (by simp [itemB, hmb])]) (by omega))
      rw [hmb] at HOK
      clear hn h0 hmb hne
      go_enter Try.func59, Try.ntmps59
      go_wp2_with fail
      refine (unhide HOK _ ((unhide HB).trans (bb.mono (unhide HB).size))).mono ?_
      rintro e w1 ⟨rfl, b1⟩
      have B1 := hide (bb.trans (b1.mono (by simp)))
      clear b1
      go_wp2_with fail
      go_ret
      rw [(unhide HT).1, (unhide HT).2.1, (unhide HT).2.2]
      exact ⟨rfl, hide ((unhide HR).up (unhide B1)), hide (Turn.of_below (unhide B1))⟩
    · rw [hmb] at HOK
      have hit := hide (show itemB nv = true by simp [itemB, hmb, h0])
      have HNE := hide hne
      clear hn h0 hmb hne
      go_enter Try.func59, Try.ntmps59
      go_wp2_with fail
      refine (unhide HOK _ ((unhide HB).trans (bb.mono (unhide HB).size))).mono ?_
      rintro e w1 ⟨rfl, b1⟩
      have B1 := hide (bb.trans (b1.mono (by simp)))
      have bI1 := boxI_up bI b1
      clear b1 bI bb y0 y1 hz
      have R1 := hide ((unhide HR).up (unhide B1))
      have HLA := hide (last_any g st xs w1 (unhide R1).1)
      have HLS := hide (fun W (b : Below w0.heap.size w0 W) => comesBehind_any (lastM ns) (lastOr xs).v nv.a1 x.v W (unhide HSL) (unhide HSN) (unhide HL W b) (unhide HM W b))
      unfold RawI.v at HLS
      rw [unhide HNE] at HLA
      generalize lastOr xs = lr at *
      by_cases hns : ns = []
      · have HT := hide (take_eq (ns := ns) (nv := nv) st xs x (by unfold takeC; rw [if_neg (by rw [unhide hit]; simp), if_neg (by simp [hns])]))
        rw [show decide (ns ≠ []) = false by simp [hns]] at HLA
        clear hns hit HNE HLS
        go_wp2_with fail
        refine (unhide HLA).mono ?_
        rintro e w2 ⟨rfl, b2⟩
        have B2 := hide ((unhide B1).trans (b2.mono (unhide B1).size))
        have bI2 := boxI_up bI1 b2
        have R2 := hide ((unhide R1).up b2)
        clear b2 bI1 R1 HLA HR HOK
        go_wp2_with fail
        have b3 := (Below.refl w2.heap.size w2).alloc (Nat.le_refl _) (.cells #[.int .i64 lr.z, .slice lr.a lr.n lr.c] 55)
        have B4 := hide ((unhide B2).trans (b3.mono (unhide B2).size))
        have R4 := hide ((unhide R2).up b3)
        have bI4 := boxI_up bI2 b3
        clear b3 B2 R2 bI2
        generalize w2.alloc (.cells #[.int .i64 lr.z, .slice lr.a lr.n lr.c] 55) = W4 at *
        have HPUT := hide (put_any g st xs x W4.drew ((unhide R4).up (Below.refl _ _).drew))
        obtain ⟨y0, y1⟩ := boxI_cells bI4
        have hBl := boxI_lt bI4
        have hBg : w.heap.size ≠ g := by omega
        have K0 := hide (show W4.drew.cell? ⟨w.heap.size, 0, none⟩ = some (.int .i64 x.z) ∧ W4.drew.cell? ⟨w.heap.size, 1, none⟩ = some (.slice x.a x.n x.c) from ⟨y0, y1⟩)
        have K1 := hide (show ∀ X : World, Hid (Turn [g] W4.drew X) → X.cell? ⟨w.heap.size, 0, none⟩ = some (.int .i64 x.z) ∧ X.cell? ⟨w.heap.size, 1, none⟩ = some (.slice x.a x.n x.c) from fun X t => ⟨((unhide t).cell hBl (by simpa using hBg)).trans y0, ((unhide t).cell hBl (by simpa using hBg)).trans y1⟩)
        go_region_held3 (fun (X : World) => X.cell? ⟨w.heap.size, 0, none⟩ = some (.int .i64 x.z) ∧ X.cell? ⟨w.heap.size, 1, none⟩ = some (.slice x.a x.n x.c))
          ((first | exact unhide K0 | exact unhide K1 _ HTG))
          ((go_at_call 70; refine (unhide HPUT).mono ?_; rintro e w9 ⟨⟨vv, rfl⟩, HRG, HTG⟩))
        go_wp2_with fail
        go_ret
        rw [(unhide HT).1, (unhide HT).2.1, (unhide HT).2.2]
        exact ⟨rfl, HRG, hide (((Turn.of_below (unhide B4)).trans (Turn.of_below (Below.refl _ _).drew)).trans (unhide HTG))⟩
      · rw [show decide (ns ≠ []) = true by simp [hns]] at HLA
        have HA0 := hide (show aboveB orderOut (lastM ns) nv.a1 = true → takeC ns nv = 0 from fun h => by unfold takeC; rw [if_neg (by rw [unhide hit]; simp), if_neg (by simp [h])])
        have HA2 := hide (show aboveB orderOut (lastM ns) nv.a1 = false → takeC ns nv = 2 from fun h => by unfold takeC; rw [if_neg (by rw [unhide hit]; simp), if_pos ⟨hns, h⟩])
        clear hns hit HNE
        generalize aboveB orderOut (lastM ns) nv.a1 = ab at *
        go_wp2_with fail
        refine (unhide HLA).mono ?_
        rintro e w2 ⟨rfl, b2⟩
        have B2 := hide ((unhide B1).trans (b2.mono (unhide B1).size))
        have bI2 := boxI_up bI1 b2
        have R2 := hide ((unhide R1).up b2)
        clear b2 bI1 R1 HLA HR HOK
        have b3 := (Below.refl w2.heap.size w2).alloc (Nat.le_refl _) (.cells #[.int .i64 lr.z, .slice lr.a lr.n lr.c] 55)
        have B3 := hide ((unhide B2).trans (b3.mono (unhide B2).size))
        have R3 := hide ((unhide R2).up b3)
        have bI3 := boxI_up bI2 b3
        have bL3 := boxI_cells (boxI_new w2 lr)
        obtain ⟨y0, y1⟩ := boxI_cells bI3
        obtain ⟨l0, l1⟩ := bL3
        clear b3 B2 R2 bI2
        go_wp2_with fail
        refine (unhide HLS _ ((unhide HB).trans ((unhide B3).mono (unhide HB).size))).mono ?_
        rintro e W4 ⟨rfl, b4⟩
        have B4 := hide ((unhide B3).trans (b4.mono (unhide B3).size))
        have R4 := hide ((unhide R3).up b4)
        have bI4 := boxI_up bI3 b4
        clear b4 B3 R3 bI3 y0 y1 l0 l1
        cases ab
        · have HT := hide (take_ne (ns := ns) (nv := nv) (c := 2) st xs x (unhide HA2 rfl) (by omega))
          clear HA0 HA2
          go_wp2_with fail
          go_ret
          rw [(unhide HT).1, (unhide HT).2.1, (unhide HT).2.2]
          exact ⟨rfl, R4, hide (Turn.of_below (unhide B4))⟩
        · have HT := hide (take_eq (ns := ns) (nv := nv) st xs x (unhide HA0 rfl))
          clear HA0 HA2
          go_wp2_with fail
          have HPUT := hide (put_any g st xs x W4.drew ((unhide R4).up (Below.refl _ _).drew))
          obtain ⟨y0, y1⟩ := boxI_cells bI4
          have hBl := boxI_lt bI4
          have hBg : w.heap.size ≠ g := by omega
          have K0 := hide (show W4.drew.cell? ⟨w.heap.size, 0, none⟩ = some (.int .i64 x.z) ∧ W4.drew.cell? ⟨w.heap.size, 1, none⟩ = some (.slice x.a x.n x.c) from ⟨y0, y1⟩)
          have K1 := hide (show ∀ X : World, Hid (Turn [g] W4.drew X) → X.cell? ⟨w.heap.size, 0, none⟩ = some (.int .i64 x.z) ∧ X.cell? ⟨w.heap.size, 1, none⟩ = some (.slice x.a x.n x.c) from fun X t => ⟨((unhide t).cell hBl (by simpa using hBg)).trans y0, ((unhide t).cell hBl (by simpa using hBg)).trans y1⟩)
          go_region_held3 (fun (X : World) => X.cell? ⟨w.heap.size, 0, none⟩ = some (.int .i64 x.z) ∧ X.cell? ⟨w.heap.size, 1, none⟩ = some (.slice x.a x.n x.c))
            ((first | exact unhide K0 | exact unhide K1 _ HTG))
            ((go_at_call 70; refine (unhide HPUT).mono ?_; rintro e w9 ⟨⟨vv, rfl⟩, HRG, HTG⟩))
          go_wp2_with fail
          go_ret
          rw [(unhide HT).1, (unhide HT).2.1, (unhide HT).2.2]
          exact ⟨rfl, HRG, hide (((Turn.of_below (unhide B4)).trans (Turn.of_below (Below.refl _ _).drew)).trans (unhide HTG))⟩
end Go.Proofs.Ytpiapgjiaeddjaa
