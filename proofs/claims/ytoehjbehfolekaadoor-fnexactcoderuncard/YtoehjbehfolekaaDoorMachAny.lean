/-
  What the program's machine does at an instruction that takes numbers off; and at every one that may be.
-/
import Derived.Test.YtoehjbehfolekaaDoorMachOne
import Derived.Test.YtoehjbehfolekaaDoorMachTwo
import Derived.Test.YtoehjbehfolekaaDoorCodeOk
set_option linter.unusedVariables false
namespace Go.Proofs.YtoehjbehfolekaaDoor
open Go.RowKit Go.Maps Go.Deep

def Takes (op : Int) : Prop := ¬ op = 1 ∧ ¬ op = 2 ∧ ¬ op = 3 ∧ ¬ op = 4 ∧ ¬ op = 8
theorem do_none {m : VM} {bv : ByteArray → Int} {op a : Int} {s : ByteArray} (h : Takes op) (hl : m.st = []) : m.do bv op a s = .stuck := by
  unfold VM.do
  rw [if_neg h.1, if_neg h.2.1, if_neg h.2.2.1, if_neg h.2.2.2.1, if_neg h.2.2.2.2, if_pos hl]
theorem do_some {m : VM} {bv : ByteArray → Int} {op a : Int} {s : ByteArray} (h : Takes op) (hl : ¬ m.st = []) : m.do bv op a s = m.doWith op a m.st.dropLast (m.st.getLastD 0) := by
  unfold VM.do
  rw [if_neg h.1, if_neg h.2.1, if_neg h.2.2.1, if_neg h.2.2.2.1, if_neg h.2.2.2.2, if_neg hl]

set_option maxRecDepth 100000 in
set_option maxHeartbeats 1600000 in
theorem do_pop_none (B b sg vb nb : Nat) (D : DataW Unit) (m : VM) (op a : Int) (s : ByteArray) (bv : ByteArray → Int) (w : World) (h : Mach B b sg vb nb D m w) (hBw : B ≤ w.heap.size) (hop : Takes op) (hl : m.st = []) :
    Calls Tryd.prog 41 #[.pointer (some ⟨b, 0, none⟩), .agg #[.int .i64 op, .int .i64 a, .string s]] w fun e w' => DoSaid B b sg vb nb D (m.do bv op a s) e w' ∧ Below B w w' := by
  obtain ⟨v, h⟩ := h
  have hlt := h.lt
  have hB := h.low
  have q1 : (op == 1) = false := by simpa using hop.1
  have q2 : (op == 2) = false := by simpa using hop.2.1
  have q3 : (op == 3) = false := by simpa using hop.2.2.1
  have q4 : (op == 4) = false := by simpa using hop.2.2.2.1
  have q8 : (op == 8) = false := by simpa using hop.2.2.2.2
  have bA := (Below.refl w.heap.size w).alloc (Nat.le_refl _) (.cells #[.int .i64 op, .int .i64 a, .string s] 49)
  have hA := h.below bA
  have hzA : w.heap.size < (w.alloc (.cells #[.int .i64 op, .int .i64 a, .string s] 49)).heap.size := by simp
  have BA := hide ((Below.refl B w).alloc hBw (.cells #[.int .i64 op, .int .i64 a, .string s] 49))
  have c0 : (w.alloc (.cells #[.int .i64 op, .int .i64 a, .string s] 49)).cell? ⟨w.heap.size, 0, none⟩ = some (.int .i64 op) := World.cell?_alloc_at _ _ _ _ rfl
  have c1 : (w.alloc (.cells #[.int .i64 op, .int .i64 a, .string s] 49)).cell? ⟨w.heap.size, 1, none⟩ = some (.int .i64 a) := World.cell?_alloc_at _ _ _ _ rfl
  have c2 : (w.alloc (.cells #[.int .i64 op, .int .i64 a, .string s] 49)).cell? ⟨w.heap.size, 2, none⟩ = some (.string s) := World.cell?_alloc_at _ _ _ _ rfl
  have hO := hide (do_none (bv := bv) (a := a) (s := s) hop hl)
  have HD := hide (show Mach B b sg vb nb D m (w.alloc (.cells #[.int .i64 op, .int .i64 a, .string s] 49)) from ⟨v, hA⟩)
  clear hop h bA hA c0 c1 c2
  go_enter Tryd.func41, Tryd.ntmps41
  go_wp2_with (first
    | (go_at_call 42; refine (mpop_none B b sg vb nb D m _ (unhide HD) hl).mono ?_; rintro e w2 ⟨rfl, rfl⟩)
    | go_in)
  go_ret
  exact ⟨do_off (unhide hO), unhide BA⟩

set_option maxRecDepth 100000 in
set_option maxHeartbeats 1600000 in
theorem do_pop_some (B b sg vb nb : Nat) (D : DataW Unit) (m : VM) (op a : Int) (s : ByteArray) (bv : ByteArray → Int) (w : World) (h : Mach B b sg vb nb D m w) (hBw : B ≤ w.heap.size) (hop : Takes op) (hl : ¬ m.st = []) (h5 : m.st.length ≤ 500)
    (hw : ∀ w2, Mach B b sg vb nb D { m with st := m.st.dropLast } w2 → B ≤ w2.heap.size → Calls Tryd.prog 74 #[.pointer (some ⟨b, 0, none⟩), .agg #[.int .i64 op, .int .i64 a, .string s], .int .i64 (m.st.getLastD 0)] w2 fun e w' => DoSaid B b sg vb nb D (m.doWith op a m.st.dropLast (m.st.getLastD 0)) e w' ∧ Below B w2 w') :
    Calls Tryd.prog 41 #[.pointer (some ⟨b, 0, none⟩), .agg #[.int .i64 op, .int .i64 a, .string s]] w fun e w' => DoSaid B b sg vb nb D (m.do bv op a s) e w' ∧ Below B w w' := by
  obtain ⟨v, h⟩ := h
  have hlt := h.lt
  have hB := h.low
  have q1 : (op == 1) = false := by simpa using hop.1
  have q2 : (op == 2) = false := by simpa using hop.2.1
  have q3 : (op == 3) = false := by simpa using hop.2.2.1
  have q4 : (op == 4) = false := by simpa using hop.2.2.2.1
  have q8 : (op == 8) = false := by simpa using hop.2.2.2.2
  have bA := (Below.refl w.heap.size w).alloc (Nat.le_refl _) (.cells #[.int .i64 op, .int .i64 a, .string s] 49)
  have hA := h.below bA
  have hzA : w.heap.size < (w.alloc (.cells #[.int .i64 op, .int .i64 a, .string s] 49)).heap.size := by simp
  have BA := hide ((Below.refl B w).alloc hBw (.cells #[.int .i64 op, .int .i64 a, .string s] 49))
  have c0 : (w.alloc (.cells #[.int .i64 op, .int .i64 a, .string s] 49)).cell? ⟨w.heap.size, 0, none⟩ = some (.int .i64 op) := World.cell?_alloc_at _ _ _ _ rfl
  have c1 : (w.alloc (.cells #[.int .i64 op, .int .i64 a, .string s] 49)).cell? ⟨w.heap.size, 1, none⟩ = some (.int .i64 a) := World.cell?_alloc_at _ _ _ _ rfl
  have c2 : (w.alloc (.cells #[.int .i64 op, .int .i64 a, .string s] 49)).cell? ⟨w.heap.size, 2, none⟩ = some (.string s) := World.cell?_alloc_at _ _ _ _ rfl
  rw [do_some (bv := bv) (a := a) (s := s) hop hl]
  have HD := hide (show Mach B b sg vb nb D m (w.alloc (.cells #[.int .i64 op, .int .i64 a, .string s] 49)) from ⟨v, hA⟩)
  have HC := hide (And.intro c0 (And.intro c1 c2))
  have HW := hide hw
  generalize hO : m.doWith op a m.st.dropLast (m.st.getLastD 0) = O at HW ⊢
  clear hw hO
  clear hop h bA hA c0 c1 c2
  go_enter Tryd.func41, Tryd.ntmps41
  go_wp2_with fail
  generalize hWd : w.alloc (.cells #[.int .i64 op, .int .i64 a, .string s] 49) = W at *
  clear hWd
  refine (mpop_some B b sg vb nb D m _ (unhide HD) hl h5).mono ?_
  rintro e w2 ⟨rfl, hM2, hb2, u2, hw2⟩
  have HM2 := hide hM2
  have HB2 := hide ((unhide BA).trans (hb2.mono (Nat.le_refl _)))
  have hz2 := hb2.size
  obtain ⟨c0, c1, c2⟩ := unhide HC
  have d0 : w2.cell? ⟨w.heap.size, 0, none⟩ = some (.int .i64 op) := by rw [hw2]; exact (World.cell?_setCell_other _ _ _ _ (by intro e; injection e; omega)).trans c0
  have d1 : w2.cell? ⟨w.heap.size, 1, none⟩ = some (.int .i64 a) := by rw [hw2]; exact (World.cell?_setCell_other _ _ _ _ (by intro e; injection e; omega)).trans c1
  have d2 : w2.cell? ⟨w.heap.size, 2, none⟩ = some (.string s) := by rw [hw2]; exact (World.cell?_setCell_other _ _ _ _ (by intro e; injection e; omega)).trans c2
  clear hw2 hb2 hM2 c0 c1 c2
  generalize hlast : m.st.getLastD 0 = x at HW ⊢
  clear hlast
  go_wp2_with (first
    | (go_at_call 74; refine (unhide HW _ (unhide HM2) (by omega)).mono ?_; rintro e w3 ⟨hd, hb3⟩; have HB3 := hide ((unhide HB2).trans (hb3.mono (Nat.le_refl _))); have HD3 := hide hd; rcases hd with ⟨m', hm', rfl, hM'⟩ | ⟨hm', rfl⟩)
    | go_in)
  all_goals
    go_ret
    exact ⟨unhide HD3, unhide HB3⟩

theorem do_any (B b sg vb nb : Nat) (D : DataW Unit) (m : VM) (op a : Int) (s : ByteArray) (bv : ByteArray → Int) (n : Nat) (w : World) (h : Mach B b sg vb nb D m w) (hBw : B ≤ w.heap.size) (hm : m.Ok n) (hi : insB op a s n = true) (ha : ranged a) (hs : s.size ≤ maxLen) (htl : Tells D bv) :
    Calls Tryd.prog 41 #[.pointer (some ⟨b, 0, none⟩), .agg #[.int .i64 op, .int .i64 a, .string s]] w fun e w' => DoSaid B b sg vb nb D (m.do bv op a s) e w' ∧ Below B w w' := by
  have hroom := hm.room
  by_cases h1 : op = 1
  · subst h1; exact do_tick B b sg vb nb D m a s bv w h hBw hm.ticks
  by_cases h2 : op = 2
  · subst h2
    by_cases hl : m.st.length = 500
    · exact do_push_full B b sg vb nb D m a s bv w h hBw hl
    · exact do_push B b sg vb nb D m a s bv w h hBw (by omega)
  by_cases h3 : op = 3
  · subst h3
    by_cases hl : m.st.length = 500
    · exact do_load_full B b sg vb nb D m a s bv w h hBw hl htl hs
    · exact do_load B b sg vb nb D m a s bv w h hBw (by omega) htl hs
  have hfit : fitsB op a n = true := by
    rw [ins_other op a s n h3] at hi
    cases e : fitsB op a n
    · rw [e] at hi; simp at hi
    · rfl
  by_cases h4 : op = 4
  · subst h4
    rw [fits_slot 4 a n (by omega)] at hfit
    have hr := of_decide_eq_true hfit
    by_cases hl : m.st.length = 500
    · exact do_get_full B b sg vb nb D m a s bv w h hBw hl hr.1 hr.2
    · exact do_get B b sg vb nb D m a s bv w h hBw (by omega) hr.1 hr.2
  by_cases h8 : op = 8
  · subst h8
    rw [fits_place 8 a n (by omega)] at hfit
    exact do_jump B b sg vb nb D m a s bv w h hBw (of_decide_eq_true hfit).1
  have hop : Takes op := ⟨h1, h2, h3, h4, h8⟩
  by_cases hl : m.st = []
  · exact do_pop_none B b sg vb nb D m op a s bv w h hBw hop hl
  have hpos := List.length_pos_iff.2 hl
  have hl4 : m.st.dropLast.length < 500 := by simp; omega
  have ht := hm.nums _ (last_mem _ hl)
  refine do_pop_some B b sg vb nb D m op a s bv w h hBw hop hl hroom (fun w2 hM2 hz2 => ?_)
  by_cases h5 : op = 5
  · subst h5
    rw [fits_slot 5 a n (by omega)] at hfit
    have hr := of_decide_eq_true hfit
    exact doWith_put B b sg vb nb D { m with st := m.st.dropLast } a _ s w2 hM2 hz2 hr.1 hr.2
  by_cases h9 : op = 9
  · subst h9
    rw [fits_place 9 a n (by omega)] at hfit
    by_cases hz : m.st.getLastD 0 = 0
    · exact doWith_zero B b sg vb nb D { m with st := m.st.dropLast } a _ s w2 hM2 hz2 (of_decide_eq_true hfit).1 hz
    · exact doWith_zero2 B b sg vb nb D { m with st := m.st.dropLast } a _ s w2 hM2 hz2 hz
  by_cases h10 : op = 10
  · subst h10; exact doWith_bool B b sg vb nb D { m with st := m.st.dropLast } a _ s w2 hM2 hz2 hl4
  by_cases h11 : op = 11
  · subst h11
    by_cases t0 : m.st.getLastD 0 < 0
    · exact doWith_times_lo B b sg vb nb D { m with st := m.st.dropLast } a _ s w2 hM2 hz2 hl4 t0
    · by_cases t1 : 64 < m.st.getLastD 0
      · exact doWith_times_hi B b sg vb nb D { m with st := m.st.dropLast } a _ s w2 hM2 hz2 hl4 t0 t1
      · exact doWith_times_in B b sg vb nb D { m with st := m.st.dropLast } a _ s w2 hM2 hz2 hl4 t0 t1
  by_cases h6 : op = 6
  · subst h6; exact doWith_one B b sg vb nb D { m with st := m.st.dropLast } a _ s w2 hM2 hz2 hl4 ha ht
  by_cases h7 : op = 7
  · subst h7
    by_cases hl2 : m.st.dropLast = []
    · exact doWith_two0 B b sg vb nb D { m with st := m.st.dropLast } a _ s w2 hM2 hz2 hl2
    · exact doWith_two B b sg vb nb D { m with st := m.st.dropLast } a _ s w2 hM2 hz2 hl2 (by show m.st.dropLast.length ≤ 500; omega) ha (hm.nums _ (mem_dropLast (last_mem _ hl2)))
  · rw [fits_none op a n h1 h2 h4 h5 h6 h7 h8 h9 h10 h11] at hfit
    cases hfit

end Go.Proofs.YtoehjbehfolekaaDoor
