/-
  How many choices agree: counted window by window.
-/
/-
  Rows of marks that one may append to.
-/
/-
  l13Set of the specification: a stamp with a version of a source.
-/
import Derived.Test.YtpiapgjiaeddjaaMerged25
import Derived.Test.YtpiapgjiaeddjaaMarkRowsOwn
import Derived.Laws.OwnMore
import Derived.Deep.AppendLies
import Derived.Handy
import Derived.Test.YtpiapgjiaeddjaaMerged8
import Derived.Test.YtpiapgjiaeddjaaSideSet
import Derived.Test.YtpiapgjiaeddjaaMerged6
import Derived.OwnWalk
set_option linter.unusedVariables false
namespace Go.Proofs.Ytpiapgjiaeddjaa
open Go.RowKit Go.Maps Go.Deep

/-- the choices of some windows that agree with what was chosen ahead of them -/
def cb : List (List ItemV) → List (List MarkV) → Nat
  | [], _ => 1
  | win :: rest, ss => (win.map (fun it => if agAll it.a1 ss then cb rest (ss ++ [it.a1]) else 0)).sum
/-- the choices that agree and begin so -/
def cs (ws : List (List ItemV)) : List (List ItemV) → List Int → Nat
  | [], ps => if agB ws ps then 1 else 0
  | win :: rest, ps => if agB ws ps then ((List.range win.length).map (fun (i : Nat) => cs ws rest (ps ++ [(i : Int)]))).sum else 0
theorem all_mem {l : List Nat} {f g : Nat → Bool} (h : ∀ a ∈ l, f a = g a) : l.all f = l.all g := by
  induction l with
  | nil => rfl
  | cons x xs ih => simp only [List.all_cons]; rw [h x (by simp), ih (fun a ha => h a (by simp [ha]))]
theorem stamp_old {ws : List (List ItemV)} {ps : List Int} {x : Int} {j : Nat} (h : j < ps.length) : stampAt ws (ps ++ [x]) j = stampAt ws ps j := by
  unfold stampAt
  simp only [List.getD_eq_getElem?_getD, List.getElem?_append_left h]
theorem stamp_new {ws : List (List ItemV)} {ps : List Int} {win : List ItemV} {i : Nat} (hw : ws[ps.length]? = some win) (hi : i < win.length) : stampAt ws (ps ++ [(i : Int)]) ps.length = win[i].a1 := by
  unfold stampAt
  simp only [List.getD_eq_getElem?_getD, hw, Option.getD_some, List.getElem?_append_right (Nat.le_refl _), Nat.sub_self, List.getElem?_cons_zero, Int.toNat_natCast, List.getElem?_eq_getElem hi, Option.map_some]
theorem sts_snoc {ws : List (List ItemV)} {ps : List Int} {win : List ItemV} {i : Nat} (hw : ws[ps.length]? = some win) (hi : i < win.length) : stsL ws (ps ++ [(i : Int)]) (ps.length + 1) = stsL ws ps ps.length ++ [win[i].a1] := by
  unfold stsL
  rw [List.range_succ, List.map_append, List.map_cons, List.map_nil, stamp_new hw hi]
  congr 1
  refine List.map_congr_left fun j hj => ?_
  exact stamp_old (List.mem_range.1 hj)
theorem ag_snoc {ws : List (List ItemV)} {ps : List Int} {win : List ItemV} {i : Nat} (hw : ws[ps.length]? = some win) (hi : i < win.length) : agB ws (ps ++ [(i : Int)]) = (agB ws ps && agAll win[i].a1 (stsL ws ps ps.length)) := by
  unfold agB
  rw [List.length_append, List.length_cons, List.length_nil, List.range_succ, List.all_append]
  have e1 : (List.range ps.length).all (fun i_1 => (List.range i_1).all (pairB ws (ps ++ [(i : Int)]) i_1)) = (List.range ps.length).all (fun i => (List.range i).all (pairB ws ps i)) := by
    refine all_mem fun a ha => ?_
    have ha' := List.mem_range.1 ha
    refine all_mem fun b hb => ?_
    have hb' := List.mem_range.1 hb
    unfold pairB
    rw [stamp_old ha', stamp_old (by omega)]
  have e2 : [ps.length].all (fun i_1 => (List.range i_1).all (pairB ws (ps ++ [(i : Int)]) i_1)) = agAll win[i].a1 (stsL ws ps ps.length) := by
    simp only [List.all_cons, List.all_nil, Bool.and_true]
    unfold agAll stsL
    rw [List.all_map]
    refine all_mem fun b hb => ?_
    have hb' := List.mem_range.1 hb
    unfold pairB
    rw [stamp_new hw hi, stamp_old hb']
    rfl
  rw [e1, e2]
theorem cs_cb (ws : List (List ItemV)) : ∀ (rest : List (List ItemV)) (ps : List Int), rest = ws.drop ps.length → cs ws rest ps = if agB ws ps then cb rest (stsL ws ps ps.length) else 0
  | [], ps, _ => by simp [cs, cb]
  | win :: rest, ps, h => by
    unfold cs
    cases hag : agB ws ps
    · simp
    · simp only [if_true]
      have hw : ws[ps.length]? = some win := by
        have := congrArg List.head? h
        simpa using this.symm
      have hr : rest = ws.drop (ps.length + 1) := by
        have := congrArg List.tail h
        simpa using this
      unfold cb
      congr 1
      refine List.ext_getElem (by simp) fun i h1 h2 => ?_
      have hi : i < win.length := by simpa using h1
      simp only [List.getElem_map, List.getElem_range]
      rw [cs_cb ws rest (ps ++ [(i : Int)]) (by rw [List.length_append]; exact hr), ag_snoc hw hi, hag, Bool.true_and, List.length_append, List.length_cons, List.length_nil, sts_snoc hw hi]
theorem sum_le4 (l : List Nat) (b : Nat) (h : ∀ x ∈ l, x ≤ b) : l.sum ≤ l.length * b := by
  induction l with
  | nil => simp
  | cons x xs ih =>
    have h1 := h x (by simp)
    have h2 := ih (fun y hy => h y (by simp [hy]))
    simp only [List.sum_cons, List.length_cons, Nat.add_mul, Nat.one_mul]
    omega
theorem cb_le : ∀ (ws : List (List ItemV)) (ss : List (List MarkV)), (∀ x ∈ ws, x.length ≤ 4) → cb ws ss ≤ 4 ^ ws.length
  | [], _, _ => by simp [cb]
  | win :: rest, ss, h => by
    unfold cb
    have h1 := sum_le4 (win.map (fun it => if agAll it.a1 ss then cb rest (ss ++ [it.a1]) else 0)) (4 ^ rest.length) (fun x hx => by
      obtain ⟨it, _, rfl⟩ := List.mem_map.1 hx
      split
      · exact cb_le rest _ (fun y hy => h y (by simp [hy]))
      · exact Nat.zero_le _)
    have h2 := h win (by simp)
    rw [List.length_map] at h1
    calc _ ≤ win.length * 4 ^ rest.length := h1
      _ ≤ 4 * 4 ^ rest.length := Nat.mul_le_mul_right _ h2
      _ = 4 ^ (win :: rest).length := by rw [List.length_cons, Nat.pow_succ, Nat.mul_comm]
def cbTo (win : List ItemV) (rest : List (List ItemV)) (ss : List (List MarkV)) (k : Nat) : Nat := ((win.take k).map (fun it => if agAll it.a1 ss then cb rest (ss ++ [it.a1]) else 0)).sum
theorem cbTo_step (win : List ItemV) (rest : List (List ItemV)) (ss : List (List MarkV)) (k : Nat) (h : k < win.length) : cbTo win rest ss (k + 1) = cbTo win rest ss k + (if agAll win[k].a1 ss then cb rest (ss ++ [win[k].a1]) else 0) := by
  unfold cbTo
  rw [List.take_succ_eq_append_getElem h, List.map_append, List.sum_append]
  simp
theorem cbTo_all (win : List ItemV) (rest : List (List ItemV)) (ss : List (List MarkV)) : cbTo win rest ss win.length = cb (win :: rest) ss := by
  unfold cbTo
  rw [List.take_length, cb]
end Go.Proofs.Ytpiapgjiaeddjaa

set_option linter.unusedVariables false
namespace Go.Proofs.Ytpiapgjiaeddjaa
open Go.RowKit Go.Maps Go.Deep

def mkCells (ns : List MarkV) : List Value := ns.flatMap fun x => [.string x.a0, .int .i64 x.a1]
theorem mkCells_len (ns : List MarkV) : (mkCells ns).length = ns.length * 2 := by
  induction ns with
  | nil => rfl
  | cons x xs ih => simp [mkCells] at ih ⊢; omega
theorem mkCells_snoc (ns : List MarkV) (x : MarkV) : mkCells (ns ++ [x]) = mkCells ns ++ [.string x.a0, .int .i64 x.a1] := by simp [mkCells]
theorem mkCells_get (ns : List MarkV) (i : Nat) (h : i < ns.length) : (mkCells ns)[i * 2]? = some (.string ns[i].a0) ∧ (mkCells ns)[i * 2 + 1]? = some (.int .i64 ns[i].a1) := by
  induction ns generalizing i with
  | nil => simp at h
  | cons x xs ih =>
    cases i with
    | zero => simp [mkCells]
    | succ i =>
      have := ih i (by simpa using h)
      have e : mkCells (x :: xs) = [.string x.a0, .int .i64 x.a1] ++ mkCells xs := by simp [mkCells]
      rw [e, show (i + 1) * 2 = i * 2 + 1 + 1 by omega]
      simpa using this
/-- a row of marks, at or above a block, that one may append to -/
def MkRow (B : Nat) (w : World) (v : Value) (ns : List MarkV) : Prop := w.ownsRow B 62 2 v ns.length (mkCells ns)
theorem MkRow.nil (B : Nat) (w : World) : MkRow B w (.slice none 0 0) [] := ⟨rfl, .inl ⟨rfl, rfl⟩⟩
theorem MkRow.slice {B : Nat} {w : World} {v : Value} {ns : List MarkV} (h : MkRow B w v ns) : ∃ a c, v = .slice a ns.length c := by
  rcases h.2 with ⟨rfl, h0⟩ | ⟨g, cap, cur, rfl, _⟩
  · rw [h0]; exact ⟨_, _, rfl⟩
  · exact ⟨_, _, rfl⟩
theorem MkRow.own {B : Nat} {w : World} {v : Value} {ns : List MarkV} (h : MkRow B w v ns) : ∃ S, MarkSOwn S w v ns ∧ (∀ k ∈ S, B ≤ k) ∧ (∀ k ∈ S, v.ownBlock = some k) := by
  have hh : w.ownsRow B 62 2 v ns.length (mkCells ns) := h
  rcases h with ⟨_, ⟨rfl, h0⟩ | ⟨g, cap, cur, rfl, hB, hg, hnc, _⟩⟩
  · have : ns = [] := List.eq_nil_of_length_eq_zero h0
    subst this
    exact ⟨[], .inl ⟨rfl, rfl, none, 0, rfl⟩, by simp, by simp⟩
  · refine ⟨[g], .inr ⟨g, 0, cap, rfl, rfl, (Array.getElem?_eq_some_iff.1 hg).1, fun i hi => ?_, fun i hi => hh.frozenAt _⟩, by simpa using hB, by simp [Value.ownBlock]⟩
    obtain ⟨e0, e1⟩ := mkCells_get ns i hi
    refine ⟨?_, ?_⟩
    · rw [Nat.zero_add, hh.cellAt _ (by omega)]; exact e0
    · rw [Nat.zero_add, hh.cellAt _ (by omega)]; exact e1
theorem MkRow.rd {B : Nat} {w : World} {v : Value} {ns : List MarkV} (h : MkRow B w v ns) : MarkSRd w v ns := by
  obtain ⟨S, h, _⟩ := h.own
  exact h.rd
theorem MkRow.ge {B : Nat} {w : World} {v : Value} {ns : List MarkV} (h : MkRow B w v ns) : ∀ g, v.ownBlock = some g → B ≤ g := by
  intro g hg
  rcases h.2 with ⟨rfl, _⟩ | ⟨g', cap, cur, rfl, hB, _⟩
  · simp [Value.ownBlock] at hg
  · simp [Value.ownBlock] at hg; omega
theorem MkRow.lt {B : Nat} {w : World} {v : Value} {ns : List MarkV} (h : MkRow B w v ns) : ∀ g, v.ownBlock = some g → g < w.heap.size := by
  intro g hg
  rcases h.2 with ⟨rfl, _⟩ | ⟨g', cap, cur, rfl, hB, hh, _⟩
  · simp [Value.ownBlock] at hg
  · simp [Value.ownBlock] at hg; rw [← hg]; exact (Array.getElem?_eq_some_iff.1 hh).1
theorem MkRow.keep {B : Nat} {w w' : World} {v : Value} {ns : List MarkV} (h : MkRow B w v ns) (hk : ∀ g, v.ownBlock = some g → w'.heap[g]? = w.heap[g]?) : MkRow B w' v ns := by
  refine ⟨h.1, ?_⟩
  rcases h.2 with h0 | ⟨g, cap, cur, e, hB, hg, r⟩
  · exact .inl h0
  · exact .inr ⟨g, cap, cur, e, hB, (hk g (by rw [e]; rfl)).trans hg, r⟩
theorem MkRow.up {B : Nat} {w w' : World} {v : Value} {ns : List MarkV} (h : MkRow B w v ns) (hb : Below w.heap.size w w') : MkRow B w' v ns := h.keep (fun g hg => hb.block g (h.lt g hg))
theorem MkRow.mono {B B' : Nat} {w : World} {v : Value} {ns : List MarkV} (h : MkRow B w v ns) (hB : B' ≤ B) : MkRow B' w v ns := by
  refine ⟨h.1, ?_⟩
  rcases h.2 with h0 | ⟨g, cap, cur, e, hb, r⟩
  · exact .inl h0
  · exact .inr ⟨g, cap, cur, e, Nat.le_trans hB hb, r⟩
theorem infoMk : (Try.prog.info? 62).map (fun i => (i.zero, i.size, i.bytes)) = some (some (.agg #[.string ByteArray.empty, .int .i64 0]), 2, 24) := by kernel_rfl
theorem news_mark {w : World} {g : Nat} {x : MarkV} (c0 : w.cell? ⟨g, 0, none⟩ = some (.string x.a0)) (c1 : w.cell? ⟨g, 1, none⟩ = some (.int .i64 x.a1)) : ∀ j u, ([.string x.a0, .int .i64 x.a1] : List Value)[j]? = some u → w.cell? ((⟨g, 0, none⟩ : Addr).add j) = some u := by
  intro j u hj
  match j, hj with
  | 0, hj => simp at hj; subst hj; simpa [Addr.add] using c0
  | 1, hj => simp at hj; subst hj; simpa [Addr.add] using c1
/-- one more mark, which lies in a block of its own -/
theorem wpList_markAppend {w : World} {ops : Array Oper} {rest : List Oper} {o : Oper} {a : Act} {Q : Exit → Act → World → Prop} (hgd : o.guard = none) (s x : Operand)
    (ho : o.op = .call { callee := .builtin .append, args := #[s, x], argTypes := #[53, 53] }) (B : Nat) (v : Value) (ns : List MarkV) (y : MarkV) (g : Nat) (hs : a.eval s = v) (hx : a.eval x = .slice (some ⟨g, 0, none⟩) 1 1)
    (hv : MkRow B w v ns) (c0 : w.cell? ⟨g, 0, none⟩ = some (.string y.a0)) (c1 : w.cell? ⟨g, 1, none⟩ = some (.int .i64 y.a1)) (hl : ns.length ≤ 1000000) (hB : B ≤ w.heap.size)
    (h : ∀ g' n c w', MkRow B w' (.slice (some ⟨g', 0, none⟩) n c) (ns ++ [y]) → w.grownBy w' v.ownBlock → (v.ownBlock = some g' ∨ g' = w.heap.size) → wpList Try.prog ops Q rest (a.put o.dst (.slice (some ⟨g', 0, none⟩) n c)) w') : wpList Try.prog ops Q (o :: rest) a w := by
  obtain ⟨i0, hi, hz0, hz1, hz2⟩ := info_parts1 infoMk
  refine wpList_append_lies w hgd s x 53 ho B 62 i0 _ 2 24 Try.underlying53 hi hz0 hz1 hz2 rfl (by decide) v ns.length (mkCells ns) hs hv ⟨g, 0, none⟩ 1 1 [.string y.a0, .int .i64 y.a1] hx rfl (news_mark c0 c1) (by intro u hu; simp at hu; rcases hu with rfl | rfl <;> rfl) (by decide) (by unfold maxLen; omega) (by omega) hB w.heap.size rfl ?_
  intro g' cap w' h2 h3 h4 h5
  refine h g' _ cap w' ?_ h3 h4
  unfold MkRow
  rw [mkCells_snoc, List.length_append]
  exact h2
end Go.Proofs.Ytpiapgjiaeddjaa

set_option linter.unusedVariables false
namespace Go.Proofs.Ytpiapgjiaeddjaa
open Go.RowKit Go.Maps Go.Deep

/-- one mark of the stamp is looked at -/
def setStep (m : MarkV) (p : List MarkV × Bool) (x : MarkV) : List MarkV × Bool :=
  (if x.a0 = m.a0 then (if !p.2 && !lessS x.a0 m.a0 then p.1 ++ [m] else p.1) else (if !p.2 && !lessS x.a0 m.a0 then p.1 ++ [m] else p.1) ++ [x], p.2 || !lessS x.a0 m.a0)
def setTo (m : MarkV) (ns : List MarkV) : List MarkV × Bool := ns.foldl (setStep m) ([], false)
def setF (ns : List MarkV) (m : MarkV) : List MarkV := if (setTo m ns).2 then (setTo m ns).1 else (setTo m ns).1 ++ [m]
theorem setTo_take (m : MarkV) (ns : List MarkV) (k : Nat) (h : k < ns.length) : setTo m (ns.take (k + 1)) = setStep m (setTo m (ns.take k)) ns[k] := by
  unfold setTo
  rw [List.take_succ_eq_append_getElem h, List.foldl_append]
  rfl
theorem setTo_len (m : MarkV) (ns : List MarkV) : (setTo m ns).1.length ≤ 2 * ns.length := by
  have key : ∀ (ns : List MarkV) (p : List MarkV × Bool), (ns.foldl (setStep m) p).1.length ≤ p.1.length + 2 * ns.length := by
    intro ns
    induction ns with
    | nil => intro p; simp
    | cons x xs ih =>
      intro p
      have h1 := ih (setStep m p x)
      have h2 : (setStep m p x).1.length ≤ p.1.length + 2 := by
        unfold setStep
        dsimp only
        split <;> split <;> simp
      simp only [List.foldl_cons, List.length_cons]
      omega
  unfold setTo
  simpa using key ns ([], false)
end Go.Proofs.Ytpiapgjiaeddjaa
