/-
  Lists of texts in memory, and the law's own helpers over them: how much they hold, how they are copied, compared, marked, and how one that comes in is opened.
-/
/-
  StampOnly of the specification.
-/
/-
  StampGet of both sides.
-/
/-
  The mathematics of stamps that the laws ask for.
-/
/-
  StampJoin of the specification.
-/
/-
  What the laws on stamps ask: whether two lists of marks are the same; their sources.
-/
import Derived.Test.YtpiapgjiaeddjaaMerged1
import Derived.Test.YtpiapgjiaeddjaaMerged14
import Derived.Test.YtpiapgjiaeddjaaMerged6
import Derived.Deep.RegionHeld3
import Derived.Deep.RegionWith
import Derived.Deep.Slices
import Derived.ProofKit
import Derived.OpenShut
import Derived.Test.YtpiapgjiaeddjaaStampI
import Derived.Test.YtpiapgjiaeddjaaMerged26
import Derived.OwnWalk
import Derived.Test.YtpiapgjiaeddjaaMerged10
import Derived.Test.YtpiapgjiaeddjaaJoinMath
import Derived.Test.YtpiapgjiaeddjaaSideSet
import Derived.Test.YtpiapgjiaeddjaaMarkRowsOwn
import Derived.BigQuiet
import Derived.Deep.QuietTactic
import Derived.Handy
set_option linter.unusedVariables false
namespace Go.Proofs.Ytpiapgjiaeddjaa
open Go.RowKit Go.Maps Go.Deep Go.ChangeShapes Go.WideShapes Go.ChangeAt

def StrsAt (w : World) (b off : Nat) (ts : List ByteArray) : Prop := ∀ i (h : i < ts.length), w.cell? ⟨b, off + i, none⟩ = some (.string ts[i])
def StrsIn (w : World) (a : Option Addr) (ts : List ByteArray) : Prop := ts = [] ∨ ∃ b off, a = some ⟨b, off, none⟩ ∧ b < w.heap.size ∧ StrsAt w b off ts
def StrsOk (ts : List ByteArray) : Prop := ∀ t ∈ ts, t.size ≤ maxLen
def StringSRd (w : World) (v : Value) (ts : List ByteArray) : Prop := ∃ a c, v = .slice a ts.length c ∧ StrsIn w a ts
def StringSOwn (S : List Nat) (w : World) (v : Value) (ts : List ByteArray) : Prop :=
  (S = [] ∧ ts = [] ∧ ∃ a c, v = .slice a 0 c) ∨ ∃ b off cap, S = [b] ∧ v = .slice (some ⟨b, off, none⟩) ts.length cap ∧ b < w.heap.size ∧ StrsAt w b off ts ∧ ∀ i, i < ts.length → w.frozen? ⟨b, off + i, none⟩ = false
theorem StrsAt.below {w w' : World} {B b off : Nat} {ts : List ByteArray} (h : StrsAt w b off ts) (hb : Below B w w') (hB : b < B) : StrsAt w' b off ts := fun i hi => (hb.cell (by exact hB)).trans (h i hi)
theorem StrsAt.turn {w w' : World} {S : List Nat} {b off : Nat} {ts : List ByteArray} (h : StrsAt w b off ts) (ht : Turn S w w') (hb : b < w.heap.size) (hS : b ∉ S) : StrsAt w' b off ts := fun i hi => (ht.cell hb hS).trans (h i hi)
theorem StrsIn.below {w w' : World} {a : Option Addr} {ts : List ByteArray} (h : StrsIn w a ts) (hb : Below w.heap.size w w') : StrsIn w' a ts := by
  rcases h with h | ⟨b, off, e, hb', hc⟩
  · exact .inl h
  · exact .inr ⟨b, off, e, Nat.lt_of_lt_of_le hb' hb.size, hc.below hb hb'⟩
theorem StringSRd.up {w w' : World} {v : Value} {ts : List ByteArray} (h : StringSRd w v ts) (hb : Below w.heap.size w w') : StringSRd w' v ts := by
  obtain ⟨a, c, e, h⟩ := h
  exact ⟨a, c, e, h.below hb⟩
theorem StringSRd.form {w : World} {v : Value} {ts : List ByteArray} (h : StringSRd w v ts) : ∃ a n c, v = .slice a n c := by
  obtain ⟨a, c, e, _⟩ := h
  exact ⟨a, _, c, e⟩
theorem StringSOwn.rd {S : List Nat} {w : World} {v : Value} {ts : List ByteArray} (h : StringSOwn S w v ts) : StringSRd w v ts := by
  rcases h with ⟨_, rfl, a, c, rfl⟩ | ⟨b, off, cap, _, rfl, hb, hc, _⟩
  · exact ⟨a, c, rfl, .inl rfl⟩
  · exact ⟨_, cap, rfl, .inr ⟨b, off, rfl, hb, hc⟩⟩
theorem StringSOwn.turn {S S' : List Nat} {w w' : World} {v : Value} {ts : List ByteArray} (h : StringSOwn S w v ts) (ht : Turn S' w w') (hS : ∀ k ∈ S, k ∉ S') : StringSOwn S w' v ts := by
  rcases h with h | ⟨b, off, cap, rfl, rfl, hb, hc, hf⟩
  · exact .inl h
  · have hn := hS b (by simp)
    exact .inr ⟨b, off, cap, rfl, rfl, Nat.lt_of_lt_of_le hb ht.size, hc.turn ht hb hn, fun i hi => (ht.frozen hb hn).trans (hf i hi)⟩
theorem StringSOwn.up {S : List Nat} {w w' : World} {v : Value} {ts : List ByteArray} (h : StringSOwn S w v ts) (hb : Below w.heap.size w w') : StringSOwn S w' v ts := h.turn (Turn.of_below (S := []) hb) (by simp)
theorem StringSOwn.lt {S : List Nat} {w : World} {v : Value} {ts : List ByteArray} (h : StringSOwn S w v ts) : ∀ k ∈ S, k < w.heap.size := by
  rcases h with ⟨rfl, _⟩ | ⟨b, off, cap, rfl, rfl, hb, _⟩
  · simp
  · simpa using hb
def SmallStringS (ts : List ByteArray) : Prop := ts.length ≤ 1048576 ∧ ∀ t ∈ ts, t.size ≤ 1048576
def StringSFit (ts : List ByteArray) : Prop := ts.length ≤ maxLen ∧ StrsOk ts
def nStringS (ts : List ByteArray) : Nat := ts.length
theorem nStringS_le {ts : List ByteArray} (h : SmallStringS ts) : nStringS ts ≤ 100000000 := by have := h.1; unfold nStringS; omega
theorem infoString : (Try.prog.info? 9).map (fun i => (i.zero, i.size, i.bytes)) = some (some (.string ByteArray.empty), 1, 16) := by kernel_rfl
end Go.Proofs.Ytpiapgjiaeddjaa

set_option linter.unusedVariables false
namespace Go.Proofs.Ytpiapgjiaeddjaa
open Go.RowKit Go.Maps Go.Deep

def hasB (names : List ByteArray) (s : ByteArray) : Bool := names.any fun t => decide (t = s)
theorem hasB_take (names : List ByteArray) (s : ByteArray) (k : Nat) (h : k < names.length) : hasB (names.take (k + 1)) s = (hasB (names.take k) s || decide (names[k] = s)) := by
  unfold hasB
  rw [List.take_succ_eq_append_getElem h, List.any_append]
  simp
def onlyL (names : List ByteArray) (ns : List MarkV) : List MarkV := ns.filter fun x => hasB names x.a0
def onlyV (ns : List MarkV) (names : List ByteArray) : List MarkV := if mstampB ns then onlyL names ns else []
theorem onlyL_take (names : List ByteArray) (ns : List MarkV) (k : Nat) (h : k < ns.length) : onlyL names (ns.take (k + 1)) = if hasB names ns[k].a0 then onlyL names (ns.take k) ++ [ns[k]] else onlyL names (ns.take k) := by
  unfold onlyL
  rw [List.take_succ_eq_append_getElem h, List.filter_append]
  cases hh : hasB names ns[k].a0 <;> simp [hh]
theorem onlyL_len (names : List ByteArray) (ns : List MarkV) : (onlyL names ns).length ≤ ns.length := List.length_filter_le _ _
def RetOnly (ns : List MarkV) (names : List ByteArray) (w : World) (e : Ending) (w' : World) : Prop := ∃ v, e = .returned v ∧ Hid (MkRow w.heap.size w' v (onlyV ns names)) ∧ Below w.heap.size w w'
theorem onlyLen12 {ns : List MarkV} (h : mstampB ns = true) : ns.length ≤ 12 := by
  simp [mstampB] at h
  exact h.1
end Go.Proofs.Ytpiapgjiaeddjaa

set_option linter.unusedVariables false
namespace Go.Proofs.Ytpiapgjiaeddjaa
open Go.RowKit Go.Maps Go.Deep

def getOut (ns : List MarkV) (s : ByteArray) : Int := if mstampB ns then getV ns s else 0
end Go.Proofs.Ytpiapgjiaeddjaa

set_option linter.unusedVariables false
namespace Go.Proofs.Ytpiapgjiaeddjaa
open Go.RowKit Go.Maps Go.Deep

theorem asc_adj : ∀ {ns : List MarkV}, AscM ns → ∀ i (h : i + 1 < ns.length), lessS (ns[i]'(by omega)).a0 ns[i + 1].a0 = true
  | [], _, i, h => by simp at h
  | [x], _, i, h => by simp at h
  | x :: y :: t, ha, 0, h => ha.1 y (by simp)
  | x :: y :: t, ha, i + 1, h => asc_adj (ns := y :: t) ha.2 i (by simpa using h)
theorem stamp_iff (ns : List MarkV) : mstampB ns = true ↔ ns.length ≤ 12 ∧ (∀ x ∈ ns, markB x = true) ∧ AscM ns := by
  constructor
  · intro h
    have ha := asc_of_stamp h
    simp only [mstampB, Bool.and_eq_true, decide_eq_true_eq] at h
    refine ⟨h.1, fun x hx => ?_, ha⟩
    obtain ⟨i, hi, rfl⟩ := List.getElem_of_mem hx
    exact (h.2 i hi hi).1
  · rintro ⟨h1, h2, h3⟩
    refine mstamp_good h1 fun i hi _ => ⟨h2 _ (List.getElem_mem hi), fun h0 => ?_⟩
    have := asc_adj h3 (i - 1) (by omega)
    simp only [show i - 1 + 1 = i by omega] at this
    exact this
theorem asc_filter (p : MarkV → Bool) : ∀ {ns : List MarkV}, AscM ns → AscM (ns.filter p)
  | [], _ => trivial
  | x :: t, h => by
    rw [List.filter_cons]
    split
    · exact ⟨fun y hy => h.1 y (List.mem_filter.1 hy).1, asc_filter p h.2⟩
    · exact asc_filter p h.2
theorem stamp_filter (p : MarkV → Bool) {ns : List MarkV} (h : mstampB ns = true) : mstampB (ns.filter p) = true := by
  rw [stamp_iff] at h ⊢
  exact ⟨Nat.le_trans (List.length_filter_le _ _) h.1, fun x hx => h.2.1 x (List.mem_filter.1 hx).1, asc_filter p h.2.2⟩
theorem getV_only (names : List ByteArray) {s : ByteArray} (hs : hasB names s = true) : ∀ (ns : List MarkV), getV (onlyL names ns) s = getV ns s
  | [] => rfl
  | x :: t => by
    have ih := getV_only names hs t
    unfold onlyL at ih ⊢
    rw [List.filter_cons]
    by_cases e : x.a0 = s
    · subst e
      rw [if_pos hs]
      simp [getV]
    · split
      · simp [getV, e, ih]
      · simp [getV, e, ih]
theorem stamp_nil : mstampB [] = true := by rw [stamp_iff]; exact ⟨by simp, by simp, trivial⟩
theorem only_stamp (ns : List MarkV) (names : List ByteArray) : mstampB (onlyV ns names) = true := by
  unfold onlyV
  cases h : mstampB ns
  · exact stamp_nil
  · exact stamp_filter _ h
theorem has_mem {names : List ByteArray} {s : ByteArray} (h : s ∈ names) : hasB names s = true := by
  unfold hasB
  rw [List.any_eq_true]
  exact ⟨s, h, by simp⟩
theorem only_get (ns : List MarkV) {names : List ByteArray} {s : ByteArray} (h : s ∈ names) : getOut (onlyV ns names) s = getOut ns s := by
  unfold getOut
  rw [if_pos (only_stamp ns names)]
  unfold onlyV
  cases hb : mstampB ns
  · simp [getV]
  · simp only [if_true]
    exact getV_only names (has_mem h) ns
end Go.Proofs.Ytpiapgjiaeddjaa

set_option linter.unusedVariables false
namespace Go.Proofs.Ytpiapgjiaeddjaa
open Go.RowKit Go.Maps Go.Deep

def joinOkB (xa xb : List MarkV) : Bool := mstampB xa && mstampB xb && decide ((joinL xa xb).length ≤ 12)
def joinV (xa xb : List MarkV) : List MarkV := if joinOkB xa xb then joinL xa xb else []
def RetJoin (xa xb : List MarkV) (w : World) (e : Ending) (w' : World) : Prop := ∃ v, e = .returned (.tuple #[v, .bool (joinOkB xa xb)]) ∧ Hid (MkRow w.heap.size w' v (joinV xa xb)) ∧ Below w.heap.size w w'
theorem stamp_len12 {ns : List MarkV} (h : mstampB ns = true) : ns.length ≤ 12 := by
  simp [mstampB] at h
  exact h.1
theorem set_take {xa : List MarkV} (h : AscM xa) (k : Nat) (hk : k < xa.length) : setF (xa.take k) xa[k] = xa.take (k + 1) := by
  have h1 := joinA_take h k (by omega)
  have h2 := joinA_take h (k + 1) (by omega)
  rw [List.take_succ_eq_append_getElem hk, joinA_snoc, h1] at h2
  rw [List.take_succ_eq_append_getElem hk]
  exact h2
theorem joinG_take (xa xb : List MarkV) (k : Nat) (hk : k < xb.length) : joinG xa (xb.take (k + 1)) = joinStep (joinG xa (xb.take k)) xb[k] := by
  unfold joinG
  rw [List.take_succ_eq_append_getElem hk, List.foldl_append]
  rfl
theorem joinG_len {xa xb : List MarkV} (ha : mstampB xa = true) (hb : mstampB xb = true) (k : Nat) : (joinG xa (xb.take k)).length ≤ 24 := by
  have h1 := stamp_len12 ha
  have h2 := stamp_len12 hb
  obtain ⟨_, _, h⟩ := join_inv (out := xa) (ys := xb.take k) (fun z hz => pos_of_stamp hb z (List.mem_of_mem_take hz)) (asc_of_stamp ha) (pos_of_stamp ha)
  have : (xb.take k).length ≤ xb.length := by simp; omega
  omega
theorem l13Get_rd (ns : List MarkV) (v : Value) (s : ByteArray) (w : World) (hl : (ns.length : Int) ≤ 1048576) (h : MarkSRd w v ns) : Calls Try.prog 57 #[v, .string s] w fun e w' => e = .returned (.int .i64 (getV ns s)) ∧ Below w.heap.size w w' := by
  obtain ⟨a, c, rfl, h⟩ := h
  rcases h with rfl | ⟨b, off, rfl, hb, hc⟩
  · refine (l13Get_none w a c s).mono ?_
    rintro e w' ⟨rfl, rfl⟩
    exact ⟨rfl, Below.refl _ _⟩
  · refine (l13Get_row w b off c ns s hl hc).mono ?_
    rintro e w' ⟨rfl, rfl⟩
    exact ⟨rfl, Below.refl _ _⟩
end Go.Proofs.Ytpiapgjiaeddjaa

set_option linter.unusedVariables false
namespace Go.Proofs.Ytpiapgjiaeddjaa
open Go.RowKit Go.Maps Go.Deep

instance : DecidableEq MarkV := fun a b => if h : a.a0 = b.a0 ∧ a.a1 = b.a1 then isTrue (by cases a; cases b; simp_all) else isFalse (fun e => h (by rw [e]; exact ⟨rfl, rfl⟩))
def eqMk (xs ys : List MarkV) : Bool := decide (xs = ys)
theorem eqMk_same (xs : List MarkV) : eqMk xs xs = true := by simp [eqMk]
theorem eqMk_len {xs ys : List MarkV} (h : xs.length ≠ ys.length) : eqMk xs ys = false := by
  unfold eqMk
  rw [decide_eq_false_iff_not]
  intro e
  exact h (by rw [e])
theorem eqMk_off {xs ys : List MarkV} {k : Nat} (ha : k < xs.length) (hb : k < ys.length) (h : xs[k] ≠ ys[k]) : eqMk xs ys = false := by
  unfold eqMk
  rw [decide_eq_false_iff_not]
  intro e
  subst e
  exact h rfl
theorem eqMk_on {xs ys : List MarkV} (hl : xs.length = ys.length) (h : ∀ i (ha : i < xs.length) (hb : i < ys.length), xs[i] = ys[i]) : eqMk xs ys = true := by
  unfold eqMk
  rw [decide_eq_true_eq]
  exact List.ext_getElem hl h
theorem mark_eqb (x y : MarkV) : ((x.a0.toList == y.a0.toList) && (x.a1 == y.a1)) = decide (x = y) := by
  rw [str_same]
  obtain ⟨a, b⟩ := x
  obtain ⟨c, d⟩ := y
  rw [Bool.eq_iff_iff]
  simp
end Go.Proofs.Ytpiapgjiaeddjaa
