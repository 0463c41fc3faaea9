/-
  Windows: an item is put into the program's ring.
-/
import Derived.Test.YtpiapgjiaeddjaaWinLast
import Derived.Deep.RegionHeld3
set_option linter.unusedVariables false
namespace Go.Proofs.Ytpiapgjiaeddjaa
open Go.RowKit Go.Maps Go.Shelf

/-- a ring that may be written -/
def RingF (w : World) (g st : Nat) (xs : List RawI) : Prop := RingAt w g st xs ∧ ∀ i, i < 10 → w.frozen? ⟨g, i, none⟩ = false ∧ ∃ v, w.cell? ⟨g, i, none⟩ = some v
theorem RingF.up {w w' : World} {g st : Nat} {xs : List RawI} (h : RingF w g st xs) (hb : Below w.heap.size w w') : RingF w' g st xs :=
  ⟨h.1.up hb, fun i hi => ⟨(hb.frozen (by exact h.1.lt)).trans (h.2 i hi).1, by obtain ⟨v, hv⟩ := (h.2 i hi).2; exact ⟨v, (hb.cell (by exact h.1.lt)).trans hv⟩⟩⟩
theorem RingF.turn {S : List Nat} {w w' : World} {g st : Nat} {xs : List RawI} (h : RingF w g st xs) (ht : Turn S w w') (hS : g ∉ S) : RingF w' g st xs :=
  ⟨h.1.turn ht hS, fun i hi => ⟨(ht.frozen h.1.lt hS).trans (h.2 i hi).1, by obtain ⟨v, hv⟩ := (h.2 i hi).2; exact ⟨v, (ht.cell h.1.lt hS).trans hv⟩⟩⟩
theorem set_cell {w : World} {g i : Nat} {v u : Value} (h : w.cell? ⟨g, i, none⟩ = some u) : (w.setCell ⟨g, i, none⟩ v).cell? ⟨g, i, none⟩ = some v := World.cell?_setCell_same _ _ _ h
theorem set_off {w : World} {g i j : Nat} {v : Value} (h : i ≠ j) : (w.setCell ⟨g, j, none⟩ v).cell? ⟨g, i, none⟩ = w.cell? ⟨g, i, none⟩ := World.cell?_setCell_other _ _ _ _ (by intro e; have := congrArg Addr.off e; simp only at this; omega)
/-- three cells of a ring are written -/
theorem RingF.set3 {w : World} {g st : Nat} {xs : List RawI} (h : RingF w g st xs) {i j k : Nat} (hi : i < 10) (hj : j < 10) (hk : k < 10) (hij : i ≠ j) (hik : i ≠ k) (hjk : j ≠ k) (a b c : Value) :
    let W := ((w.setCell ⟨g, i, none⟩ a).setCell ⟨g, j, none⟩ b).setCell ⟨g, k, none⟩ c
    W.cell? ⟨g, i, none⟩ = some a ∧ W.cell? ⟨g, j, none⟩ = some b ∧ W.cell? ⟨g, k, none⟩ = some c ∧ (∀ m, m ≠ i → m ≠ j → m ≠ k → W.cell? ⟨g, m, none⟩ = w.cell? ⟨g, m, none⟩) ∧ (∀ m, m < 10 → W.frozen? ⟨g, m, none⟩ = false ∧ ∃ v, W.cell? ⟨g, m, none⟩ = some v) ∧ Turn [g] w W := by
  obtain ⟨u, hu⟩ := (h.2 i hi).2
  obtain ⟨v, hv⟩ := (h.2 j hj).2
  obtain ⟨x, hx⟩ := (h.2 k hk).2
  have e1 : (((w.setCell ⟨g, i, none⟩ a).setCell ⟨g, j, none⟩ b).setCell ⟨g, k, none⟩ c).cell? ⟨g, i, none⟩ = some a := by
    rw [set_off hik, set_off hij]; exact set_cell hu
  have e2 : (((w.setCell ⟨g, i, none⟩ a).setCell ⟨g, j, none⟩ b).setCell ⟨g, k, none⟩ c).cell? ⟨g, j, none⟩ = some b := by
    rw [set_off hjk]; exact set_cell (by rw [set_off (Ne.symm hij)]; exact hv)
  have e3 : (((w.setCell ⟨g, i, none⟩ a).setCell ⟨g, j, none⟩ b).setCell ⟨g, k, none⟩ c).cell? ⟨g, k, none⟩ = some c :=
    set_cell (by rw [set_off (Ne.symm hjk), set_off (Ne.symm hik)]; exact hx)
  have e4 : ∀ m, m ≠ i → m ≠ j → m ≠ k → (((w.setCell ⟨g, i, none⟩ a).setCell ⟨g, j, none⟩ b).setCell ⟨g, k, none⟩ c).cell? ⟨g, m, none⟩ = w.cell? ⟨g, m, none⟩ := fun m h1 h2 h3 => by
    rw [set_off h3, set_off h2, set_off h1]
  refine ⟨e1, e2, e3, e4, fun m hm => ⟨?_, ?_⟩, (((Turn.refl _ _).setCell (by simp) _ _).setCell (by simp) _ _).setCell (by simp) _ _⟩
  · rw [World.frozen?_setCell, World.frozen?_setCell, World.frozen?_setCell]
    exact (h.2 m hm).1
  · by_cases q1 : m = i
    · subst q1; exact ⟨_, e1⟩
    · by_cases q2 : m = j
      · subst q2; exact ⟨_, e2⟩
      · by_cases q3 : m = k
        · subst q3; exact ⟨_, e3⟩
        · rw [e4 m q1 q2 q3]; exact (h.2 m hm).2
/-- there is room -/
theorem ring_grow {w : World} {g st : Nat} {xs : List RawI} (h : RingF w g st xs) (x : RawI) (hl : xs.length < 4) :
    RingF (((w.setCell ⟨g, (st + xs.length) % 4 * 2, none⟩ (.int .i64 x.z)).setCell ⟨g, (st + xs.length) % 4 * 2 + 1, none⟩ x.v).setCell ⟨g, 9, none⟩ (.int .i64 ((xs.length : Int) + 1))) g st (xs ++ [x]) := by
  have h4 : (st + xs.length) % 4 < 4 := Nat.mod_lt _ (by omega)
  obtain ⟨e1, e2, e3, e4, e5, t⟩ := h.set3 (i := (st + xs.length) % 4 * 2) (j := (st + xs.length) % 4 * 2 + 1) (k := 9) (by omega) (by omega) (by omega) (by omega) (by omega) (by omega) (.int .i64 x.z) x.v (.int .i64 ((xs.length : Int) + 1))
  have hs := h.1.s4
  refine ⟨⟨Nat.lt_of_lt_of_le h.1.lt t.size, h.1.s4, by simp; omega, ?_, ?_, fun i hi => ?_⟩, e5⟩
  · rw [e4 8 (by omega) (by omega) (by omega)]; exact h.1.c8
  · rw [e3]; simp
  · simp at hi
    by_cases q : i = xs.length
    · subst q
      simp only [List.getElem_append_right (Nat.le_refl _), Nat.sub_self, List.getElem_cons_zero]
      exact ⟨e1, e2⟩
    · have hi' : i < xs.length := by omega
      simp only [List.getElem_append_left hi']
      have hne : (st + i) % 4 ≠ (st + xs.length) % 4 := by omega
      have h4' : (st + i) % 4 < 4 := Nat.mod_lt _ (by omega)
      rw [e4 _ (by omega) (by omega) (by omega), e4 _ (by omega) (by omega) (by omega)]
      exact h.1.has i hi'
/-- there is none: the first one goes -/
theorem ring_over {w : World} {g st : Nat} {xs : List RawI} (h : RingF w g st xs) (x : RawI) (hl : xs.length = 4) :
    RingF (((w.setCell ⟨g, (st + xs.length) % 4 * 2, none⟩ (.int .i64 x.z)).setCell ⟨g, (st + xs.length) % 4 * 2 + 1, none⟩ x.v).setCell ⟨g, 8, none⟩ (.int .i64 (((st + 1) % 4 : Nat) : Int))) g ((st + 1) % 4) (xs.drop 1 ++ [x]) := by
  have h4 : (st + xs.length) % 4 < 4 := Nat.mod_lt _ (by omega)
  obtain ⟨e1, e2, e3, e4, e5, t⟩ := h.set3 (i := (st + xs.length) % 4 * 2) (j := (st + xs.length) % 4 * 2 + 1) (k := 8) (by omega) (by omega) (by omega) (by omega) (by omega) (by omega) (.int .i64 x.z) x.v (.int .i64 (((st + 1) % 4 : Nat) : Int))
  have hs := h.1.s4
  refine ⟨⟨Nat.lt_of_lt_of_le h.1.lt t.size, Nat.mod_lt _ (by omega), by simp; omega, e3, ?_, fun i hi => ?_⟩, e5⟩
  · rw [e4 9 (by omega) (by omega) (by omega), h.1.c9]
    simp [hl]
  · simp at hi
    by_cases q : i = 3
    · subst q
      have hd : (xs.drop 1).length = 3 := by simp; omega
      have hg : (xs.drop 1 ++ [x])[3]'(by simp; omega) = x := by
        rw [List.getElem_append_right (by omega)]
        simp
      rw [hg]
      have hk : ((st + 1) % 4 + 3) % 4 = (st + xs.length) % 4 := by omega
      rw [hk]
      exact ⟨e1, e2⟩
    · have hi' : i + 1 < xs.length := by omega
      have hg : (xs.drop 1 ++ [x])[i]'(by simp; omega) = xs[i + 1] := by
        rw [List.getElem_append_left (by simp; omega), List.getElem_drop]
        congr 1
        omega
      rw [hg]
      have hk : ((st + 1) % 4 + i) % 4 = (st + (i + 1)) % 4 := by omega
      rw [hk]
      have hne : (st + (i + 1)) % 4 ≠ (st + xs.length) % 4 := by omega
      have h4' : (st + (i + 1)) % 4 < 4 := Nat.mod_lt _ (by omega)
      rw [e4 _ (by omega) (by omega) (by omega), e4 _ (by omega) (by omega) (by omega)]
      exact h.1.has (i + 1) hi'
/-- what the ring is behind a put -/
def putSt (st : Nat) (xs : List RawI) : Nat := if xs.length < 4 then st else (st + 1) % 4
def putL (xs : List RawI) (x : RawI) : List RawI := if xs.length < 4 then xs ++ [x] else xs.drop 1 ++ [x]

set_option maxRecDepth 100000 in
set_option maxHeartbeats 4000000 in
theorem put_any (g st : Nat) (xs : List RawI) (x : RawI) (w : World) (hr : RingF w g st xs) :
    Calls Try.prog 70 #[.pointer (some ⟨g, 0, none⟩), .agg #[.int .i64 x.z, .slice x.a x.n x.c]] w fun e w' => (∃ v, e = .returned v) ∧ Hid (RingF w' g (putSt st xs) (putL xs x)) ∧ Hid (Turn [g] w w') := by
  have hgl := hr.1.lt
  have hlen := hr.1.len
  have HR := hide (hr.up ((Below.refl w.heap.size w).alloc (Nat.le_refl _) (.cells #[.int .i64 x.z, .slice x.a x.n x.c] 55)))
  have T1 := hide (Turn.of_alloc [g] w (.cells #[.int .i64 x.z, .slice x.a x.n x.c] 55))
  have bI := boxI_cells (boxI_new w x)
  have hz : w.heap.size < (w.alloc (.cells #[.int .i64 x.z, .slice x.a x.n x.c] 55)).heap.size := by simp
  clear hr
  go_enter Try.func70, Try.ntmps70
  go_wp2_with fail
  have hne : w.heap.size ≠ g := by omega
  generalize w.alloc (.cells #[.int .i64 x.z, .slice x.a x.n x.c] 55) = W at *
  generalize w.heap.size = Bx at *
  have HSL := hide (slot_any W.drew g st xs.length (unhide HR).1.c8 (unhide HR).1.s4 hlen)
  have h4 : (st + xs.length) % 4 < 4 := Nat.mod_lt _ (by omega)
  have HG := hide (fun hl => ring_grow ((unhide HR).up (Below.refl _ _).drew) x hl)
  have HO := hide (fun hl => ring_over ((unhide HR).up (Below.refl _ _).drew) x hl)
  have fr := fun i hi => ((unhide HR).2 i hi).1
  have c8 := (unhide HR).1.c8
  have c9 := (unhide HR).1.c9
  obtain ⟨x0, x1⟩ := bI
  have fr0 := fr ((st + xs.length) % 4 * 2) (by omega)
  have fr1 := fr ((st + xs.length) % 4 * 2 + 1) (by omega)
  have fr8 := fr 8 (by omega)
  have fr9 := fr 9 (by omega)
  obtain ⟨o0, p0⟩ := ((unhide HR).2 ((st + xs.length) % 4 * 2) (by omega)).2
  obtain ⟨o1, p1⟩ := ((unhide HR).2 ((st + xs.length) % 4 * 2 + 1) (by omega)).2
  clear fr
  generalize (st + xs.length) % 4 = k at *
  have hk' : (k : Int) < 4 := by omega
  have K0 := hide (show W.drew.cell? ⟨g, 8, none⟩ = some (.int .i64 (st : Int)) ∧ W.drew.cell? ⟨g, 9, none⟩ = some (.int .i64 (xs.length : Int)) ∧ W.drew.cell? ⟨Bx, 0, none⟩ = some (.int .i64 x.z) ∧ W.drew.cell? ⟨Bx, 1, none⟩ = some (.slice x.a x.n x.c) from ⟨c8, c9, x0, x1⟩)
  have K1 := hide (show ∀ X : World, X = (W.drew.setCell ⟨g, k * 2, none⟩ (.int .i64 x.z)).setCell ⟨g, k * 2 + 1, none⟩ (.slice x.a x.n x.c) → X.cell? ⟨g, 8, none⟩ = some (.int .i64 (st : Int)) ∧ X.cell? ⟨g, 9, none⟩ = some (.int .i64 (xs.length : Int)) ∧ X.cell? ⟨Bx, 0, none⟩ = some (.int .i64 x.z) ∧ X.cell? ⟨Bx, 1, none⟩ = some (.slice x.a x.n x.c) from by
    rintro X rfl
    have far : ∀ (Y : World) (i j : Nat) (v : Value), (Y.setCell ⟨g, i, none⟩ v).cell? ⟨Bx, j, none⟩ = Y.cell? ⟨Bx, j, none⟩ := fun Y i j v => World.cell?_setCell_other _ _ _ _ (by intro e; have := congrArg Addr.block e; simp only at this; omega)
    refine ⟨?_, ?_, ?_, ?_⟩
    · rw [set_off (by omega), set_off (by omega)]; exact c8
    · rw [set_off (by omega), set_off (by omega)]; exact c9
    · rw [far, far]; exact x0
    · rw [far, far]; exact x1)
  go_region_held3 (fun (X : World) => X.cell? ⟨g, 8, none⟩ = some (.int .i64 (st : Int)) ∧ X.cell? ⟨g, 9, none⟩ = some (.int .i64 (xs.length : Int)) ∧ X.cell? ⟨Bx, 0, none⟩ = some (.int .i64 x.z) ∧ X.cell? ⟨Bx, 1, none⟩ = some (.slice x.a x.n x.c))
    ((first | exact unhide K0 | exact unhide K1 _ rfl))
    ((go_at_call 87; refine (unhide HSL).mono ?_; rintro e w5 ⟨rfl, hw5⟩; rw [hw5]; clear hw5))
  obtain ⟨q8, q9, _, _⟩ := unhide K1 _ rfl
  have fr8' : ((W.drew.setCell ⟨g, k * 2, none⟩ (.int .i64 x.z)).setCell ⟨g, k * 2 + 1, none⟩ (.slice x.a x.n x.c)).frozen? ⟨g, 8, none⟩ = false := by rw [World.frozen?_setCell, World.frozen?_setCell]; exact fr8
  have fr9' : ((W.drew.setCell ⟨g, k * 2, none⟩ (.int .i64 x.z)).setCell ⟨g, k * 2 + 1, none⟩ (.slice x.a x.n x.c)).frozen? ⟨g, 9, none⟩ = false := by rw [World.frozen?_setCell, World.frozen?_setCell]; exact fr9
  have T2 := hide (show Turn [g] w ((W.drew.setCell ⟨g, k * 2, none⟩ (.int .i64 x.z)).setCell ⟨g, k * 2 + 1, none⟩ (.slice x.a x.n x.c)) from (((unhide T1).trans (Turn.of_below (Below.refl _ _).drew)).setCell (by simp) _ _).setCell (by simp) _ _)
  have HSL2 := hide (slot_any ((W.drew.setCell ⟨g, k * 2, none⟩ (.int .i64 x.z)).setCell ⟨g, k * 2 + 1, none⟩ (.slice x.a x.n x.c)) g st 1 q8 (unhide HR).1.s4 (by omega))
  rw [show ((1 : Nat) : Int) = 1 from rfl] at HSL2
  unfold RawI.v at HG HO
  rw [show ((W.setCell ⟨g, k * 2, none⟩ (.int .i64 x.z)).setCell ⟨g, k * 2 + 1, none⟩ (.slice x.a x.n x.c)).drew = (W.drew.setCell ⟨g, k * 2, none⟩ (.int .i64 x.z)).setCell ⟨g, k * 2 + 1, none⟩ (.slice x.a x.n x.c) from rfl]
  clear K0 K1 HSL p0 p1 fr0 fr1 fr8 fr9 c8 c9 x0 x1 T1 HR
  generalize (W.drew.setCell ⟨g, k * 2, none⟩ (.int .i64 x.z)).setCell ⟨g, k * 2 + 1, none⟩ (.slice x.a x.n x.c) = W2 at *
  by_cases hl : xs.length < 4
  · have hl' : (xs.length : Int) < 4 := by omega
    have HG2 := hide (unhide HG hl)
    have HE := hide (show putSt st xs = st ∧ putL xs x = xs ++ [x] from ⟨by simp [putSt, hl], by simp [putL, hl]⟩)
    clear HG HO hl
    go_wp2_with fail
    refine bodyPost_ret (results_none rfl _ _ _) rfl ?_
    refine ⟨⟨_, rfl⟩, ?_, hide ((unhide T2).setCell (by simp) _ _)⟩
    rw [(unhide HE).1, (unhide HE).2]
    exact HG2
  · have hl' : ¬ (xs.length : Int) < 4 := by omega
    have HG2 := hide (unhide HO (by omega))
    have HE := hide (show putSt st xs = (st + 1) % 4 ∧ putL xs x = xs.drop 1 ++ [x] from ⟨by simp [putSt, hl], by simp [putL, hl]⟩)
    clear HG HO hl
    go_wp2_with fail
    refine (unhide HSL2).mono ?_
    rintro e w5 ⟨rfl, hw5⟩
    rw [hw5]
    clear hw5
    go_wp2_with fail
    go_end0
    refine ⟨⟨_, rfl⟩, ?_, hide ((unhide T2).setCell (by simp) _ _)⟩
    rw [(unhide HE).1, (unhide HE).2]
    exact HG2
end Go.Proofs.Ytpiapgjiaeddjaa
