/-
  WindowOk of the program.
-/
/-
  WindowFind of the specification.
-/
/-
  WindowFind of the program.
-/
/-
  Rows of marks that one may append to.
-/
import Derived.Test.YtlbhandkpnjgmaaWinOf
import Derived.Test.YtlbhandkpnjgmaaWinS
import Derived.Test.YtlbhandkpnjgmaaMerged15
import Derived.Test.YtlbhandkpnjgmaaMerged9
import Derived.Laws.OwnMore
import Derived.Deep.AppendLies
import Derived.Handy
set_option linter.unusedVariables false
namespace Go.Proofs.Ytlbhandkpnjgmaa
open Go.RowKit Go.Maps Go.Deep

theorem retWin_form {w : World} {ns : List ItemV} {e : Ending} {w' : World} (h : RetWin w ns e w') : ∃ p, e = .returned (.tuple #[p, .bool (windowB orderOut ns)]) := by
  rcases h with ⟨h1, h2⟩ | ⟨h1, g, xs, h2, _⟩
  · exact ⟨_, by rw [h1]; exact h2⟩
  · exact ⟨_, by rw [h1]; exact h2⟩
set_option maxHeartbeats 1600000 in
theorem implWindow_any (ns : List ItemV) (v : Value) (w : World) (hs : SmallItemS ns) (h : ItemSRd w v ns) : Calls Try.prog 9 #[v] w fun e w' => e = .returned (.bool (windowB orderOut ns)) ∧ Below w.heap.size w w' := by
  have HW := hide (fun W (b : Below w.heap.size w W) => windowOf_any ns v W hs (h.up b))
  obtain ⟨a, n, c, rfl⟩ := h.form
  clear h hs
  go_enter Try.func9, Try.ntmps9
  go_wp2_with fail
  refine (unhide HW _ (Below.refl _ _)).mono ?_
  rintro e w1 ⟨HR, b1⟩
  obtain ⟨p, rfl⟩ := retWin_form (unhide HR)
  have B1 := hide b1
  clear b1 HR
  obtain ⟨r, HRR⟩ : ∃ r, Hid (windowB orderOut ns = r) := ⟨_, rfl⟩
  rw [unhide HRR]
  go_wp2_with fail
  go_ret
  exact ⟨ret_bool (unhide HRR).symm, unhide B1⟩
theorem specWindow_ok (ns : List ItemV) (v : Value) (w : World) (hs : SmallItemS ns) (h : ItemSRd w v ns) : Calls Try.prog 19 #[v] w fun e w' => e = .returned (.bool (windowB orderOut ns)) ∧ Below w.heap.size w w' := specWindow_any orderOut ordSaid ns v w hs h
end Go.Proofs.Ytlbhandkpnjgmaa

set_option linter.unusedVariables false
namespace Go.Proofs.Ytlbhandkpnjgmaa
open Go.RowKit Go.Maps Go.Deep

/-- has an item a version of a source, and at most this one? -/
def hitB (x : ItemV) (s : ByteArray) (ver : Int) : Bool := decide (0 < getV x.a1 s) && decide (getV x.a1 s ≤ ver)
/-- the last of the first k that has -/
def findN (ns : List ItemV) (s : ByteArray) (ver : Int) : Nat → Int
  | 0 => -1
  | k + 1 => if h : k < ns.length then (if hitB ns[k] s ver then (k : Int) else findN ns s ver k) else findN ns s ver k
def findOut (ord : List MarkV → List MarkV → Int) (ns : List ItemV) (s : ByteArray) (ver : Int) : Int := if windowB ord ns then findN ns s ver ns.length else -1
theorem find_hit {ns : List ItemV} {s : ByteArray} {ver : Int} {k : Nat} (h : k < ns.length) (hh : hitB ns[k] s ver = true) : findN ns s ver (k + 1) = (k : Int) := by simp [findN, h, hh]
theorem find_miss {ns : List ItemV} {s : ByteArray} {ver : Int} {k : Nat} (h : k < ns.length) (hh : hitB ns[k] s ver = false) : findN ns s ver (k + 1) = findN ns s ver k := by simp [findN, h, hh]
end Go.Proofs.Ytlbhandkpnjgmaa

set_option linter.unusedVariables false
namespace Go.Proofs.Ytlbhandkpnjgmaa
open Go.RowKit Go.Maps Go.Deep Go.Shelf

attribute [local go_sem] Oper.semAt_some

theorem keepsOthers_below {W W' : World} (hb : Below W.heap.size W W') : KeepsOthers W W' := KeepsOthers.of_grownBy (row := none) ⟨hb.os, hb.tape, hb.output, hb.size, fun k hk _ => hb.block k hk⟩ (fun j o e => by cases e)
def hitAt (ns : List ItemV) (s : ByteArray) (ver : Int) (i : Nat) : Bool := (ns[i]?.map (hitB · s ver)).getD false
theorem hitAt_eq {ns : List ItemV} {i : Nat} (h : i < ns.length) (s : ByteArray) (ver : Int) : hitAt ns s ver i = hitB ns[i] s ver := by simp [hitAt, h]
theorem find_none {ns : List ItemV} {s : ByteArray} {ver : Int} : ∀ (n : Nat), n ≤ ns.length → (∀ i, i < n → hitAt ns s ver i = false) → findN ns s ver n = -1
  | 0, _, _ => rfl
  | n + 1, hn, h => by
    have := h n (by omega)
    rw [hitAt_eq (by omega)] at this
    rw [find_miss (by omega) this]
    exact find_none n (by omega) (fun i hi => h i (by omega))
theorem find_last {ns : List ItemV} {s : ByteArray} {ver : Int} {q : Nat} : ∀ (n : Nat), n ≤ ns.length → q < n → hitAt ns s ver q = true → (∀ i, q < i → i < n → hitAt ns s ver i = false) → findN ns s ver n = (q : Int)
  | 0, _, h, _, _ => absurd h (Nat.not_lt_zero _)
  | n + 1, hn, hq, hh, h => by
    by_cases e : q = n
    · subst e
      rw [hitAt_eq (by omega)] at hh
      exact find_hit (by omega) hh
    · have := h n (by omega) (by omega)
      rw [hitAt_eq (by omega)] at this
      rw [find_miss (by omega) this]
      exact find_last n (by omega) (by omega) hh (fun i h1 h2 => h i h1 (by omega))
theorem lastL_has {xs : List RawI} {k i : Nat} (hk : k ≤ xs.length) (h1 : xs.length - k ≤ i) (h2 : i < xs.length) : ∃ y ∈ lastL xs k, y.1 = i := by
  refine ⟨_, List.mem_map.2 ⟨xs.length - 1 - i, List.mem_range.2 (by omega), rfl⟩, ?_⟩
  show xs.length - 1 - (xs.length - 1 - i) = i
  omega
/-- none of them has it -/
def NoHit (ns : List ItemV) (s : ByteArray) (ver : Int) (xs : List RawI) (pre : List (RIt xs)) : Prop := ∀ y ∈ pre, hitAt ns s ver y.1.1 = false
theorem noHit_all {ns : List ItemV} {s : ByteArray} {ver : Int} {xs : List RawI} {ys : List (RIt xs)} (hl : xs.length = ns.length) (hy : ys.map (fun x : RIt xs => x.1) = lastL xs xs.length) (h : NoHit ns s ver xs ys) : findN ns s ver ns.length = -1 := by
  refine find_none _ (Nat.le_refl _) fun i hi => ?_
  obtain ⟨y, hm, e⟩ := lastL_has (xs := xs) (k := xs.length) (i := i) (Nat.le_refl _) (by omega) (by omega)
  rw [← hy] at hm
  obtain ⟨z, hz, ez⟩ := List.mem_map.1 hm
  have := h z hz
  rw [ez, e] at this
  exact this
theorem hit_found {ns : List ItemV} {s : ByteArray} {ver : Int} {xs : List RawI} {ini : List (RIt xs)} {last : RIt xs} {k : Nat} (hk : k ≤ xs.length) (hl : xs.length = ns.length) (hy : (ini ++ [last]).map (fun x : RIt xs => x.1) = lastL xs k) (h : NoHit ns s ver xs ini) (hh : hitAt ns s ver last.1.1 = true) : findN ns s ver ns.length = (last.1.1 : Int) := by
  obtain ⟨j, rfl⟩ : ∃ j, k = j + 1 := by
    cases k with
    | zero => simp [lastL] at hy
    | succ j => exact ⟨j, rfl⟩
  rw [lastL_succ, List.map_append] at hy
  obtain ⟨h1, h2⟩ := List.append_inj' hy rfl
  have hla : last.1.1 = xs.length - 1 - j := by
    simp only [List.map_cons, List.map_nil, List.cons.injEq, and_true] at h2
    rw [h2]
  refine find_last _ (Nat.le_refl _) (by omega) hh fun i hi1 hi2 => ?_
  obtain ⟨y, hm, e⟩ := lastL_has (xs := xs) (k := j) (i := i) (by omega) (by omega) (by omega)
  rw [← h1] at hm
  obtain ⟨z, hz, ez⟩ := List.mem_map.1 hm
  have := h z hz
  rw [ez, e] at this
  exact this
end Go.Proofs.Ytlbhandkpnjgmaa

set_option linter.unusedVariables false
namespace Go.Proofs.Ytlbhandkpnjgmaa
open Go.RowKit Go.Maps Go.Deep

def mkCells (ns : List MarkV) : List Value := ns.flatMap fun x => [.string x.a0, .int .i64 x.a1]
theorem mkCells_len (ns : List MarkV) : (mkCells ns).length = ns.length * 2 := by
  induction ns with
  | nil => rfl
  | cons x xs ih => simp [mkCells] at ih ⊢; omega
theorem mkCells_snoc (ns : List MarkV) (x : MarkV) : mkCells (ns ++ [x]) = mkCells ns ++ [.string x.a0, .int .i64 x.a1] := by simp [mkCells]
theorem mkCells_get (ns : List MarkV) (i : Nat) (h : i < ns.length) : (mkCells ns)[i * 2]? = some (.string ns[i].a0) ∧ (mkCells ns)[i * 2 + 1]? = some (.int .i64 ns[i].a1) := by
  induction ns generalizing i with
  | nil => simp at h
  | cons x xs ih =>
    cases i with
    | zero => simp [mkCells]
    | succ i =>
      have := ih i (by simpa using h)
      have e : mkCells (x :: xs) = [.string x.a0, .int .i64 x.a1] ++ mkCells xs := by simp [mkCells]
      rw [e, show (i + 1) * 2 = i * 2 + 1 + 1 by omega]
      simpa using this
/-- a row of marks, at or above a block, that one may append to -/
def MkRow (B : Nat) (w : World) (v : Value) (ns : List MarkV) : Prop := w.ownsRow B 76 2 v ns.length (mkCells ns)
theorem MkRow.nil (B : Nat) (w : World) : MkRow B w (.slice none 0 0) [] := ⟨rfl, .inl ⟨rfl, rfl⟩⟩
theorem MkRow.slice {B : Nat} {w : World} {v : Value} {ns : List MarkV} (h : MkRow B w v ns) : ∃ a c, v = .slice a ns.length c := by
  rcases h.2 with ⟨rfl, h0⟩ | ⟨g, cap, cur, rfl, _⟩
  · rw [h0]; exact ⟨_, _, rfl⟩
  · exact ⟨_, _, rfl⟩
theorem MkRow.own {B : Nat} {w : World} {v : Value} {ns : List MarkV} (h : MkRow B w v ns) : ∃ S, MarkSOwn S w v ns ∧ (∀ k ∈ S, B ≤ k) ∧ (∀ k ∈ S, v.ownBlock = some k) := by
  have hh : w.ownsRow B 76 2 v ns.length (mkCells ns) := h
  rcases h with ⟨_, ⟨rfl, h0⟩ | ⟨g, cap, cur, rfl, hB, hg, hnc, _⟩⟩
  · have : ns = [] := List.eq_nil_of_length_eq_zero h0
    subst this
    exact ⟨[], .inl ⟨rfl, rfl, none, 0, rfl⟩, by simp, by simp⟩
  · refine ⟨[g], .inr ⟨g, 0, cap, rfl, rfl, (Array.getElem?_eq_some_iff.1 hg).1, fun i hi => ?_, fun i hi => hh.frozenAt _⟩, by simpa using hB, by simp [Value.ownBlock]⟩
    obtain ⟨e0, e1⟩ := mkCells_get ns i hi
    refine ⟨?_, ?_⟩
    · rw [Nat.zero_add, hh.cellAt _ (by omega)]; exact e0
    · rw [Nat.zero_add, hh.cellAt _ (by omega)]; exact e1
theorem MkRow.rd {B : Nat} {w : World} {v : Value} {ns : List MarkV} (h : MkRow B w v ns) : MarkSRd w v ns := by
  obtain ⟨S, h, _⟩ := h.own
  exact h.rd
theorem MkRow.ge {B : Nat} {w : World} {v : Value} {ns : List MarkV} (h : MkRow B w v ns) : ∀ g, v.ownBlock = some g → B ≤ g := by
  intro g hg
  rcases h.2 with ⟨rfl, _⟩ | ⟨g', cap, cur, rfl, hB, _⟩
  · simp [Value.ownBlock] at hg
  · simp [Value.ownBlock] at hg; omega
theorem MkRow.lt {B : Nat} {w : World} {v : Value} {ns : List MarkV} (h : MkRow B w v ns) : ∀ g, v.ownBlock = some g → g < w.heap.size := by
  intro g hg
  rcases h.2 with ⟨rfl, _⟩ | ⟨g', cap, cur, rfl, hB, hh, _⟩
  · simp [Value.ownBlock] at hg
  · simp [Value.ownBlock] at hg; rw [← hg]; exact (Array.getElem?_eq_some_iff.1 hh).1
theorem MkRow.keep {B : Nat} {w w' : World} {v : Value} {ns : List MarkV} (h : MkRow B w v ns) (hk : ∀ g, v.ownBlock = some g → w'.heap[g]? = w.heap[g]?) : MkRow B w' v ns := by
  refine ⟨h.1, ?_⟩
  rcases h.2 with h0 | ⟨g, cap, cur, e, hB, hg, r⟩
  · exact .inl h0
  · exact .inr ⟨g, cap, cur, e, hB, (hk g (by rw [e]; rfl)).trans hg, r⟩
theorem MkRow.up {B : Nat} {w w' : World} {v : Value} {ns : List MarkV} (h : MkRow B w v ns) (hb : Below w.heap.size w w') : MkRow B w' v ns := h.keep (fun g hg => hb.block g (h.lt g hg))
theorem MkRow.mono {B B' : Nat} {w : World} {v : Value} {ns : List MarkV} (h : MkRow B w v ns) (hB : B' ≤ B) : MkRow B' w v ns := by
  refine ⟨h.1, ?_⟩
  rcases h.2 with h0 | ⟨g, cap, cur, e, hb, r⟩
  · exact .inl h0
  · exact .inr ⟨g, cap, cur, e, Nat.le_trans hB hb, r⟩
theorem infoMk : (Try.prog.info? 76).map (fun i => (i.zero, i.size, i.bytes)) = some (some (.agg #[.string ByteArray.empty, .int .i64 0]), 2, 24) := by kernel_rfl
theorem news_mark {w : World} {g : Nat} {x : MarkV} (c0 : w.cell? ⟨g, 0, none⟩ = some (.string x.a0)) (c1 : w.cell? ⟨g, 1, none⟩ = some (.int .i64 x.a1)) : ∀ j u, ([.string x.a0, .int .i64 x.a1] : List Value)[j]? = some u → w.cell? ((⟨g, 0, none⟩ : Addr).add j) = some u := by
  intro j u hj
  match j, hj with
  | 0, hj => simp at hj; subst hj; simpa [Addr.add] using c0
  | 1, hj => simp at hj; subst hj; simpa [Addr.add] using c1
/-- one more mark, which lies in a block of its own -/
theorem wpList_markAppend {w : World} {ops : Array Oper} {rest : List Oper} {o : Oper} {a : Act} {Q : Exit → Act → World → Prop} (hgd : o.guard = none) (s x : Operand)
    (ho : o.op = .call { callee := .builtin .append, args := #[s, x], argTypes := #[28, 28] }) (B : Nat) (v : Value) (ns : List MarkV) (y : MarkV) (g : Nat) (hs : a.eval s = v) (hx : a.eval x = .slice (some ⟨g, 0, none⟩) 1 1)
    (hv : MkRow B w v ns) (c0 : w.cell? ⟨g, 0, none⟩ = some (.string y.a0)) (c1 : w.cell? ⟨g, 1, none⟩ = some (.int .i64 y.a1)) (hl : ns.length ≤ 1000000) (hB : B ≤ w.heap.size)
    (h : ∀ g' n c w', MkRow B w' (.slice (some ⟨g', 0, none⟩) n c) (ns ++ [y]) → w.grownBy w' v.ownBlock → (v.ownBlock = some g' ∨ g' = w.heap.size) → wpList Try.prog ops Q rest (a.put o.dst (.slice (some ⟨g', 0, none⟩) n c)) w') : wpList Try.prog ops Q (o :: rest) a w := by
  obtain ⟨i0, hi, hz0, hz1, hz2⟩ := info_parts1 infoMk
  refine wpList_append_lies w hgd s x 28 ho B 76 i0 _ 2 24 Try.underlying28 hi hz0 hz1 hz2 rfl (by decide) v ns.length (mkCells ns) hs hv ⟨g, 0, none⟩ 1 1 [.string y.a0, .int .i64 y.a1] hx rfl (news_mark c0 c1) (by intro u hu; simp at hu; rcases hu with rfl | rfl <;> rfl) (by decide) (by unfold maxLen; omega) (by omega) hB w.heap.size rfl ?_
  intro g' cap w' h2 h3 h4 h5
  refine h g' _ cap w' ?_ h3 h4
  unfold MkRow
  rw [mkCells_snoc, List.length_append]
  exact h2
end Go.Proofs.Ytlbhandkpnjgmaa
