/-
  StampGet of both sides.
-/
/-
  The last item with at most a given version: all behind it have more.
-/
/-
  The law on the place of a version in a window, walked: the program and the specification tell one place, its stamp is at most the version, and all behind it have more.
-/
import Derived.Test.YtcfnmhcdggnkaaaStampI
import Derived.Test.YtcfnmhcdggnkaaaStampGetM
import Derived.Test.YtcfnmhcdggnkaaaWinFindI
import Derived.Test.YtcfnmhcdggnkaaaDrawFind
set_option linter.unusedVariables false
namespace Go.Proofs.Ytcfnmhcdggnkaaa
open Go.RowKit Go.Maps Go.Deep

def getOut (ns : List MarkV) (s : ByteArray) : Int := if mstampB ns then getV ns s else 0
theorem implGet_any (ns : List MarkV) (v : Value) (s : ByteArray) (w : World) (hs : SmallMarkS ns) (_ : s.size ≤ 1048576) (h : MarkSRd w v ns) : Calls Try.prog 15 #[v, .string s] w fun e w' => e = .returned (.int .i64 (getOut ns s)) ∧ Below w.heap.size w w' := by
  have HO := hide (fun W (b : Below w.heap.size w W) => implStampOk_any ns v W hs (h.up b))
  have HG := hide (fun W (b : Below w.heap.size w W) => verIn_any ns v s W hs (h.up b))
  obtain ⟨a, n, c, rfl⟩ := h.form
  clear h hs
  unfold getOut
  cases hb : mstampB ns
  all_goals
    rw [hb] at HO
    clear hb
    go_enter Try.func15, Try.ntmps15
    go_wp2_with fail
    refine (unhide HO _ (Below.refl _ _)).mono ?_
    rintro e w1 ⟨rfl, b1⟩
    have B1 := hide b1
    clear b1
    go_wp2_with fail
  · go_ret
    exact ⟨rfl, unhide B1⟩
  · refine (unhide HG _ (unhide B1)).mono ?_
    rintro e w2 ⟨rfl, b2⟩
    have B2 := hide ((unhide B1).trans (b2.mono (unhide B1).size))
    clear b2
    go_wp2_with fail
    go_ret
    exact ⟨rfl, unhide B2⟩
end Go.Proofs.Ytcfnmhcdggnkaaa

set_option linter.unusedVariables false
namespace Go.Proofs.Ytcfnmhcdggnkaaa
open Go.RowKit Go.Maps Go.Deep

theorem getV_in {ms : List MarkV} (h : ∀ x ∈ ms, 1 ≤ x.a1) (s : ByteArray) : 0 < getV ms s ↔ s ∈ ms.map (·.a0) := by
  induction ms with
  | nil => simp [getV]
  | cons x xs ih =>
    have h1 := h x (by simp)
    have i1 := ih (fun y hy => h y (by simp [hy]))
    unfold getV
    by_cases e : x.a0 = s
    · simp [e]; omega
    · rw [if_neg e, i1]
      simp only [List.map_cons, List.mem_cons]
      constructor
      · intro q; exact .inr q
      · rintro (q | q)
        · exact absurd q.symm e
        · exact q
theorem mstamp_one {ms : List MarkV} (h : mstampB ms = true) : ∀ x ∈ ms, 1 ≤ x.a1 := by
  intro x hx
  simp only [mstampB, Bool.and_eq_true, decide_eq_true_eq] at h
  obtain ⟨i, hi, rfl⟩ := List.getElem_of_mem hx
  have q := (h.2 i hi hi).1
  simp only [markB, Bool.and_eq_true, decide_eq_true_eq] at q
  omega
theorem item_stamp {x : ItemV} (h : itemB x = true) : mstampB x.a1 = true := by
  unfold itemB at h
  simp only [Bool.and_eq_true] at h
  exact h.1
theorem win_src {ns : List ItemV} (h : windowB orderOut ns = true) (s : ByteArray) (i : Nat) (hi : i < ns.length) (hp : 0 < getV ns[i].a1 s) : ∀ j (hj : j < ns.length), i ≤ j → 0 < getV ns[j].a1 s := by
  simp only [windowB, Bool.and_eq_true, decide_eq_true_eq] at h
  intro j
  induction j with
  | zero =>
    intro hj hij
    have : i = 0 := by omega
    subst this
    exact hp
  | succ j ih =>
    intro hj hij
    by_cases e : i = j + 1
    · subst e; exact hp
    · have q := ih (by omega) (by omega)
      have a := (h.2 (j + 1) hj hj).2 (by omega)
      simp only [Nat.add_sub_cancel, aboveB, Bool.and_eq_true] at a
      have b := a.1
      simp only [srcB, decide_eq_true_eq] at b
      have m1 := mstamp_one (item_stamp (h.2 j (by omega) (by omega)).1)
      have m2 := mstamp_one (item_stamp (h.2 (j + 1) hj hj).1)
      rw [getV_in m1] at q
      rw [getV_in m2, ← b]
      exact q
theorem find_form (ns : List ItemV) (s : ByteArray) (ver : Int) : ∀ k, k ≤ ns.length → findN ns s ver k = -1 ∨ ∃ i, ∃ h : i < ns.length, i < k ∧ findN ns s ver k = (i : Int) ∧ hitB ns[i] s ver = true ∧ ∀ j (hj : j < ns.length), i < j → j < k → hitB ns[j] s ver = false := by
  intro k
  induction k with
  | zero => intro _; exact .inl rfl
  | succ k ih =>
    intro hk
    have hk' : k < ns.length := by omega
    cases hh : hitB ns[k] s ver
    · rw [find_miss hk' hh]
      rcases ih (by omega) with h | ⟨i, h1, h2, h3, h4, h5⟩
      · exact .inl h
      · refine .inr ⟨i, h1, by omega, h3, h4, fun j hj hij hjk => ?_⟩
        by_cases e : j = k
        · subst e; exact hh
        · exact h5 j hj hij (by omega)
    · rw [find_hit hk' hh]
      exact .inr ⟨k, hk', by omega, rfl, hh, fun j hj hij hjk => by omega⟩
/-- what the place that is told says -/
theorem find_says (ns : List ItemV) (s : ByteArray) (ver : Int) : findOut orderOut ns s ver = -1 ∨ ∃ i, ∃ h : i < ns.length, findOut orderOut ns s ver = (i : Int) ∧ getOut ns[i].a1 s ≤ ver ∧ ∀ j (hj : j < ns.length), i < j → ver < getOut ns[j].a1 s := by
  unfold findOut
  cases hw : windowB orderOut ns
  · exact .inl rfl
  · simp only [if_true]
    rcases find_form ns s ver ns.length (Nat.le_refl _) with h | ⟨i, h1, h2, h3, h4, h5⟩
    · exact .inl h
    · have hw' := hw
      simp only [windowB, Bool.and_eq_true, decide_eq_true_eq] at hw'
      have st : ∀ j (hj : j < ns.length), getOut ns[j].a1 s = getV ns[j].a1 s := fun j hj => by
        have := item_stamp (hw'.2 j hj hj).1
        unfold getOut
        rw [this]
        rfl
      simp only [hitB, Bool.and_eq_true, decide_eq_true_eq] at h4
      refine .inr ⟨i, h1, h3, by rw [st i h1]; exact h4.2, fun j hj hij => ?_⟩
      have p := win_src hw s i h1 h4.1 j hj (by omega)
      have q := h5 j hj hij hj
      rw [st j hj]
      simp only [hitB, Bool.and_eq_false_iff, decide_eq_false_iff_not] at q
      omega
end Go.Proofs.Ytcfnmhcdggnkaaa

set_option linter.unusedVariables false
namespace Go.Proofs.Ytcfnmhcdggnkaaa
open Go.RowKit Go.Maps Go.Deep

theorem get_fit {ms : List MarkV} {s : ByteArray} (h : SmallMarkS ms) : IntFit (getOut ms s) := by
  unfold getOut
  cases mstampB ms
  · exact ⟨by simp, by simp⟩
  · simp only [if_true]
    have h2 := h.2
    clear h
    induction ms with
    | nil => exact ⟨by simp [getV], by simp [getV]⟩
    | cons x xs ih =>
      unfold getV
      split
      · exact (h2 x (by simp)).2
      · exact ih (fun y hy => h2 y (by simp [hy]))
set_option maxRecDepth 20000 in
set_option maxHeartbeats 6400000 in
theorem find_walk (a : Option Addr) (cap : Nat) (bs : List UInt8) (w : World) (hl : bs.length ≤ maxLen) (hc : bs.length ≤ cap) (hb : ByIn w a bs) :
    Calls Try.prog 4 #[.slice a bs.length cap] w fun e w' => e = .returned (.bool true) ∧ Below w.heap.size w w' := by
  by_cases hbs : (bs.length : Int) ≤ 1048576
  rotate_left
  · unfold maxLen at hl
    go_enter Try.func4, Try.ntmps4
    go_wp2_with fail
    go_ret
    exact ⟨rfl, Below.refl _ _⟩
  have HD := hide (drawFind_any w a cap bs hl hc hb)
  clear hb hc hl
  go_enter Try.func4, Try.ntmps4
  go_wp2_with fail
  refine (unhide HD).mono ?_
  rintro e w1 ⟨va, vn, vc, ns, s, v, rfl, R1, HFit, HSV, b1⟩
  have hs100 : s.size ≤ 100 := (unhide HSV).1
  have hv8 : (v : Int) < 8 := by have := (unhide HSV).2; omega
  have B1 := hide b1
  have HSm := hide ((unhide HFit).small (by omega))
  have hn6 : (ns.length : Int) ≤ 6 := by have := (unhide HFit).1; omega
  clear b1 HD HSV HFit
  have H1 := hide (implFind_any ns _ s (v : Int) w1 (unhide HSm) (by omega) ⟨by omega, by omega⟩ (unhide R1))
  have H2 := hide (fun W (b : Below w1.heap.size w1 W) => specFind_ok ns _ s (v : Int) W (unhide HSm) (by omega) ⟨by omega, by omega⟩ ((unhide R1).up b))
  have HSAY := find_says ns s (v : Int)
  obtain ⟨xa, xc, ex, hin⟩ := (unhide R1)
  simp only [Value.slice.injEq] at ex
  obtain ⟨rfl, rfl, rfl⟩ := ex
  rcases HSAY with hf | ⟨i, hi, hf, hge, hgt⟩
  · rw [hf] at H1
    simp only [hf] at H2
    clear hin R1 hf
    go_wp2_with fail
    refine (unhide H1).mono ?_
    rintro e w2 ⟨rfl, b2⟩
    go_wp2_with fail
    refine (unhide H2 w2 b2).mono ?_
    rintro e w3 ⟨rfl, b3⟩
    have B3 := hide ((unhide B1).trans ((b2.trans (b3.mono b2.size)).mono (unhide B1).size))
    clear b2 b3 H1 H2
    go_wp2_with fail
    go_ret
    exact ⟨rfl, unhide B3⟩
  · rw [hf] at H1
    simp only [hf] at H2
    rcases hin with rfl | ⟨b, off, rfl, hb, hc⟩
    · exact absurd hi (by simp)
    have HC := hide hc
    have HGT := hide hgt
    clear R1 hf hc hgt
    have hiv : (i : Int) < (ns.length : Int) := by omega
    go_wp2_with fail
    refine (unhide H1).mono ?_
    rintro e w2 ⟨rfl, b2⟩
    go_wp2_with fail
    refine (unhide H2 w2 b2).mono ?_
    rintro e w3 ⟨rfl, b3⟩
    have b13 := b2.trans (b3.mono b2.size)
    have B3 := hide ((unhide B1).trans (b13.mono (unhide B1).size))
    have HC3 := hide ((unhide HC).up hb b13)
    have hb3 : b < w3.heap.size := Nat.lt_of_lt_of_le hb b13.size
    clear b2 b3 H1 H2 b13 HC
    obtain ⟨c0, vm, c1, hv⟩ := unhide HC3 i hi
    have hfit := get_fit (s := s) ((unhide HSm).2 _ (List.getElem_mem hi)).2
    have HG := hide (implGet_any ns[i].a1 vm s w3 ((unhide HSm).2 _ (List.getElem_mem hi)).2 (by omega) hv)
    obtain ⟨ma, mn, mc, rfl⟩ := hv.form
    clear hv
    generalize ns[i].a0 = z0 at *
    generalize getOut ns[i].a1 s = gl at *
    go_wp2_with fail
    refine (unhide HG).mono ?_
    rintro e w4 ⟨rfl, b4⟩
    have B4 := hide ((unhide B3).trans (b4.mono (unhide B3).size))
    have HC4 := hide ((unhide HC3).up hb3 b4)
    have hb4 : b < w4.heap.size := Nat.lt_of_lt_of_le hb3 b4.size
    clear b4 HG c0 c1 B3 HC3 hfit
    go_wp2_with fail
    go_loopw [7] (fun jv wr => ∃ j : Nat, i < j ∧ j ≤ ns.length ∧ jv = .int .i64 (j : Int) ∧ Hid (Below w4.heap.size w4 wr)) (fun jv _ => ns.length - (intOf jv).toNat)
    case atStart => exact ⟨i + 1, by omega, by omega, by go_num, hide (Below.refl _ _)⟩
    case round =>
      obtain ⟨j, hij, hj, rfl, HBr⟩ := hrel
      by_cases hlt : j < ns.length
      rotate_left
      · have hlt' : ¬ ((j : Int) < (ns.length : Int)) := by omega
        go_wp2_with fail
        go_ret
        exact ⟨rfl, (unhide B4).trans ((unhide HBr).mono (unhide B4).size)⟩
      · have hlt' : (j : Int) < (ns.length : Int) := by omega
        obtain ⟨c0, vm, c1, hv⟩ := (unhide HC4).up hb4 (unhide HBr) j hlt
        have HG := hide (implGet_any ns[j].a1 vm s wr ((unhide HSm).2 _ (List.getElem_mem hlt)).2 (by omega) hv)
        have hgt := unhide HGT j hlt hij
        obtain ⟨ma, mn, mc, rfl⟩ := hv.form
        clear hv
        generalize ns[j].a0 = z1 at *
        generalize getOut ns[j].a1 s = gj at *
        go_wp2_with fail
        refine (unhide HG).mono ?_
        rintro e w5 ⟨rfl, b5⟩
        have HB5 := hide ((unhide HBr).trans (b5.mono (unhide HBr).size))
        clear b5 HG c0 c1
        go_wp2_with fail
        go_roundw
        case rel => exact ⟨j + 1, by omega, by omega, by go_num, HB5⟩
        case measure => simp only [intOf]; omega
end Go.Proofs.Ytcfnmhcdggnkaaa
