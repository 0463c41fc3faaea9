/-
  WindowOk of the program.
-/
/-
  WindowFind of the specification.
-/
import Derived.Test.YtcfnmhcdggnkaaaWinOf
import Derived.Test.YtcfnmhcdggnkaaaWinS
import Derived.Test.YtcfnmhcdggnkaaaStampGetM
set_option linter.unusedVariables false
namespace Go.Proofs.Ytcfnmhcdggnkaaa
open Go.RowKit Go.Maps Go.Deep

theorem retWin_form {w : World} {ns : List ItemV} {e : Ending} {w' : World} (h : RetWin w ns e w') : ∃ p, e = .returned (.tuple #[p, .bool (windowB orderOut ns)]) := by
  rcases h with ⟨h1, h2⟩ | ⟨h1, g, xs, h2, _⟩
  · exact ⟨_, by rw [h1]; exact h2⟩
  · exact ⟨_, by rw [h1]; exact h2⟩
set_option maxHeartbeats 1600000 in
theorem implWindow_any (ns : List ItemV) (v : Value) (w : World) (hs : SmallItemS ns) (h : ItemSRd w v ns) : Calls Try.prog 10 #[v] w fun e w' => e = .returned (.bool (windowB orderOut ns)) ∧ Below w.heap.size w w' := by
  have HW := hide (fun W (b : Below w.heap.size w W) => windowOf_any ns v W hs (h.up b))
  obtain ⟨a, n, c, rfl⟩ := h.form
  clear h hs
  go_enter Try.func10, Try.ntmps10
  go_wp2_with fail
  refine (unhide HW _ (Below.refl _ _)).mono ?_
  rintro e w1 ⟨HR, b1⟩
  obtain ⟨p, rfl⟩ := retWin_form (unhide HR)
  have B1 := hide b1
  clear b1 HR
  obtain ⟨r, HRR⟩ : ∃ r, Hid (windowB orderOut ns = r) := ⟨_, rfl⟩
  rw [unhide HRR]
  go_wp2_with fail
  go_ret
  exact ⟨ret_bool (unhide HRR).symm, unhide B1⟩
theorem specWindow_ok (ns : List ItemV) (v : Value) (w : World) (hs : SmallItemS ns) (h : ItemSRd w v ns) : Calls Try.prog 24 #[v] w fun e w' => e = .returned (.bool (windowB orderOut ns)) ∧ Below w.heap.size w w' := specWindow_any orderOut ordSaid ns v w hs h
end Go.Proofs.Ytcfnmhcdggnkaaa

set_option linter.unusedVariables false
namespace Go.Proofs.Ytcfnmhcdggnkaaa
open Go.RowKit Go.Maps Go.Deep

/-- has an item a version of a source, and at most this one? -/
def hitB (x : ItemV) (s : ByteArray) (ver : Int) : Bool := decide (0 < getV x.a1 s) && decide (getV x.a1 s ≤ ver)
/-- the last of the first k that has -/
def findN (ns : List ItemV) (s : ByteArray) (ver : Int) : Nat → Int
  | 0 => -1
  | k + 1 => if h : k < ns.length then (if hitB ns[k] s ver then (k : Int) else findN ns s ver k) else findN ns s ver k
def findOut (ord : List MarkV → List MarkV → Int) (ns : List ItemV) (s : ByteArray) (ver : Int) : Int := if windowB ord ns then findN ns s ver ns.length else -1
theorem find_hit {ns : List ItemV} {s : ByteArray} {ver : Int} {k : Nat} (h : k < ns.length) (hh : hitB ns[k] s ver = true) : findN ns s ver (k + 1) = (k : Int) := by simp [findN, h, hh]
theorem find_miss {ns : List ItemV} {s : ByteArray} {ver : Int} {k : Nat} (h : k < ns.length) (hh : hitB ns[k] s ver = false) : findN ns s ver (k + 1) = findN ns s ver k := by simp [findN, h, hh]
set_option maxHeartbeats 3200000 in
theorem specFind_row (ord : List MarkV → List MarkV → Int) (HOrd : OrdSaid ord) (w : World) (b off cap : Nat) (ns : List ItemV) (s : ByteArray) (ver : Int) (hw : windowB ord ns = true) (hs : SmallItemS ns) (hc : ItemAt w b off ns) (hb : b < w.heap.size) :
    Calls Try.prog 14 #[.slice (some ⟨b, off, none⟩) ns.length cap, .string s, .int .i64 ver] w fun e w' => e = .returned (.int .i64 (findN ns s ver ns.length)) ∧ Below w.heap.size w w' := by
  have HO := hide (specWindow_any ord HOrd ns _ w hs ⟨_, cap, rfl, .inr ⟨b, off, rfl, hb, hc⟩⟩)
  rw [hw] at HO
  have hl : (ns.length : Int) ≤ 4 := by
    simp only [windowB, Bool.and_eq_true, decide_eq_true_eq] at hw
    have := hw.1
    omega
  have HS := hide hs.2
  have HC := hide hc
  clear hs hc hw HOrd
  go_enter Try.func14, Try.ntmps14
  go_wp2_with fail
  refine (unhide HO).mono ?_
  rintro e w1 ⟨rfl, b1⟩
  have B1 := hide b1
  clear b1 HO
  go_wp2_with fail
  go_loopw [7] (fun i wr => ∃ k : Nat, k ≤ ns.length ∧ i = .int .i64 ((k : Int) - 1) ∧ Hid (findN ns s ver ns.length = findN ns s ver k) ∧ Hid (Below w.heap.size w wr)) (fun i _ => (intOf i + 1).toNat)
  case atStart => exact ⟨ns.length, Nat.le_refl _, rfl, rfl, B1⟩
  case round =>
    obtain ⟨k, hk, rfl, HF, HBr⟩ := hrel
    cases k with
    | zero =>
      have HR := hide (show (-1 : Int) = findN ns s ver ns.length from (unhide HF).symm)
      go_wp2_with fail
      go_ret
      exact ⟨ret_int (unhide HR), unhide HBr⟩
    | succ j =>
      have hjl : j < ns.length := by omega
      have ej : (((j + 1 : Nat) : Int) - 1) = (j : Int) := by omega
      rw [ej]
      obtain ⟨c0, v, c1, hv⟩ := (unhide HC).up hb (unhide HBr) j hjl
      have HG := hide (l13Get_any ns[j].a1 v s wr (unhide HS _ (List.getElem_mem hjl)).2 hv)
      obtain ⟨va, vn, vc, rfl⟩ := hv.form
      have HH := hide (show (hitB ns[j] s ver = true → findN ns s ver ns.length = (j : Int)) ∧ (hitB ns[j] s ver = false → findN ns s ver ns.length = findN ns s ver j) from ⟨fun h => (unhide HF).trans (find_hit hjl h), fun h => (unhide HF).trans (find_miss hjl h)⟩)
      unfold hitB at HH
      clear hv HF
      generalize ns[j].a0 = z0 at *
      generalize getV ns[j].a1 s = vl at *
      have d2 : (j : Int) < (ns.length : Int) := by omega
      go_wp2_with fail
      refine (unhide HG).mono ?_
      rintro e w2 ⟨rfl, hw2⟩
      rw [hw2]
      clear hw2 c0 c1 HG
      by_cases h1 : 0 < vl
      · by_cases h2 : vl ≤ ver
        · have HR := hide ((unhide HH).1 (by simp [h1, h2])).symm
          clear HH
          go_wp2_with fail
          go_ret
          exact ⟨ret_int (unhide HR), unhide HBr⟩
        · have HR := hide ((unhide HH).2 (by simp [h2]))
          clear HH
          go_wp2_with fail
          go_roundw
          case rel => exact ⟨j, by omega, by go_num, HR, HBr⟩
          case measure => simp [intOf]
      · have HR := hide ((unhide HH).2 (by simp [h1]))
        clear HH
        go_wp2_with fail
        go_roundw
        case rel => exact ⟨j, by omega, by go_num, HR, HBr⟩
        case measure => simp [intOf]
theorem specFind_bad (ord : List MarkV → List MarkV → Int) (HOrd : OrdSaid ord) (ns : List ItemV) (v : Value) (s : ByteArray) (ver : Int) (w : World) (hw : windowB ord ns = false) (hs : SmallItemS ns) (h : ItemSRd w v ns) :
    Calls Try.prog 14 #[v, .string s, .int .i64 ver] w fun e w' => e = .returned (.int .i64 (-1)) ∧ Below w.heap.size w w' := by
  have HO := hide (specWindow_any ord HOrd ns v w hs h)
  rw [hw] at HO
  obtain ⟨a, n, c, rfl⟩ := h.form
  clear h hs hw HOrd
  go_enter Try.func14, Try.ntmps14
  go_wp2_with fail
  refine (unhide HO).mono ?_
  rintro e w1 ⟨rfl, b1⟩
  have B1 := hide b1
  clear b1 HO
  go_wp2_with fail
  go_ret
  exact ⟨rfl, unhide B1⟩
theorem specFind_none (ord : List MarkV → List MarkV → Int) (w : World) (a : Option Addr) (c : Nat) (s : ByteArray) (ver : Int) :
    Calls Try.prog 14 #[.slice a 0 c, .string s, .int .i64 ver] w fun e w' => e = .returned (.int .i64 (-1)) ∧ Below w.heap.size w w' := by
  have HO := hide (specWindow_none ord w a c)
  rw [show windowB ord [] = true from win_good (by simp) (win_zero ord [])] at HO
  go_enter Try.func14, Try.ntmps14
  go_wp2_with fail
  refine (unhide HO).mono ?_
  rintro e w1 ⟨rfl, b1⟩
  have B1 := hide b1
  clear b1 HO
  go_wp2_with fail
  refine wp_loop_rounds 1 ?_
  rw [rounds_succ]
  go_wp2_with fail
  go_ret
  exact ⟨rfl, unhide B1⟩
theorem specFind_any (ord : List MarkV → List MarkV → Int) (HOrd : OrdSaid ord) (ns : List ItemV) (v : Value) (s : ByteArray) (ver : Int) (w : World) (hs : SmallItemS ns) (h : ItemSRd w v ns) :
    Calls Try.prog 14 #[v, .string s, .int .i64 ver] w fun e w' => e = .returned (.int .i64 (findOut ord ns s ver)) ∧ Below w.heap.size w w' := by
  unfold findOut
  cases hw : windowB ord ns
  · exact specFind_bad ord HOrd ns v s ver w hw hs h
  · obtain ⟨a, c, rfl, h⟩ := h
    rcases h with rfl | ⟨b, off, rfl, hb, hc⟩
    · exact specFind_none ord w a c s ver
    · exact specFind_row ord HOrd w b off c ns s ver hw hs hc hb
end Go.Proofs.Ytcfnmhcdggnkaaa
