/-
  The kind that a text makes at a level, and the program's table of shapes against it: mathematics alone. (Made by wip/mkrdrm.py.)
-/
/-
  Rows of bytes that one may append to: append of whatever bytes, the empty ones too.
-/
import Derived.Test.YtjfebnplffpmoaaGreatDoorMerged17
import Derived.Test.YtjfebnplffpmoaaGreatDoorMerged9
import Derived.Test.YtjfebnplffpmoaaGreatDoorMerged18
import Derived.Laws.OwnMore
import Derived.Deep.AppendLies
import Derived.Handy
set_option linter.unusedVariables false
namespace Go.Proofs.YtjfebnplffpmoaaGreatDoor
open Go.RowKit Go.Maps Go.Deep

def kindG (lv : Nat) (s : ByteArray) : Nat :=
  if lv = 0 ∧ s = kIf then 21
  else if lv = 0 ∧ s = kLet then 22
  else if lv = 0 ∧ s = kRep then 23
  else if lv = 6 ∧ s = sSub then 3
  else if lv = 6 ∧ s = kNot then 4
  else if lv = 7 ∧ s = kMin then 18
  else if lv = 7 ∧ s = kMax then 19
  else if lv = 7 ∧ s = kAbs then 20
  else if lv = 1 ∧ s = kOr then 17
  else if lv = 2 ∧ s = kAnd then 16
  else if lv = 3 ∧ s = sEq then 10
  else if lv = 3 ∧ s = sNe then 11
  else if lv = 3 ∧ s = sLt then 12
  else if lv = 3 ∧ s = sLe then 13
  else if lv = 3 ∧ s = sGt then 14
  else if lv = 3 ∧ s = sGe then 15
  else if lv = 4 ∧ s = sAdd then 8
  else if lv = 4 ∧ s = sSub then 9
  else if lv = 5 ∧ s = sMul then 5
  else if lv = 5 ∧ s = sDiv then 6
  else if lv = 5 ∧ s = sMod then 7
  else 0
theorem hit_is {i lv : Nat} {s : ByteArray} (h : i < shapesL.length) (hl : shapesL[i].2.1 = (lv : Int)) (hs : shapesL[i].2.2 = s) (hn : s ≠ ⟨#[]⟩) : kindG lv s = i := by
  subst hs
  have key : ∀ i (h : i < shapesL.length), shapesL[i].2.2 ≠ ⟨#[]⟩ → kindG shapesL[i].2.1.toNat shapesL[i].2.2 = i := by decide
  have e : lv = shapesL[i].2.1.toNat := by omega
  rw [e]
  exact key i h hn
theorem kindG_in {lv : Nat} {s : ByteArray} (hz : kindG lv s ≠ 0) : (isKeyB s = true ∨ isSgnL s.data.toList = true) ∧ ∃ j, ∃ h : j < shapesL.length, shapesL[j].2.1 = (lv : Int) ∧ shapesL[j].2.2 = s := by
  unfold kindG at hz
  by_cases h : lv = 0 ∧ s = kIf
  · obtain ⟨rfl, rfl⟩ := h
    exact ⟨by decide, 21, by decide, by decide, by decide⟩
  rw [if_neg h] at hz
  clear h
  by_cases h : lv = 0 ∧ s = kLet
  · obtain ⟨rfl, rfl⟩ := h
    exact ⟨by decide, 22, by decide, by decide, by decide⟩
  rw [if_neg h] at hz
  clear h
  by_cases h : lv = 0 ∧ s = kRep
  · obtain ⟨rfl, rfl⟩ := h
    exact ⟨by decide, 23, by decide, by decide, by decide⟩
  rw [if_neg h] at hz
  clear h
  by_cases h : lv = 6 ∧ s = sSub
  · obtain ⟨rfl, rfl⟩ := h
    exact ⟨by decide, 3, by decide, by decide, by decide⟩
  rw [if_neg h] at hz
  clear h
  by_cases h : lv = 6 ∧ s = kNot
  · obtain ⟨rfl, rfl⟩ := h
    exact ⟨by decide, 4, by decide, by decide, by decide⟩
  rw [if_neg h] at hz
  clear h
  by_cases h : lv = 7 ∧ s = kMin
  · obtain ⟨rfl, rfl⟩ := h
    exact ⟨by decide, 18, by decide, by decide, by decide⟩
  rw [if_neg h] at hz
  clear h
  by_cases h : lv = 7 ∧ s = kMax
  · obtain ⟨rfl, rfl⟩ := h
    exact ⟨by decide, 19, by decide, by decide, by decide⟩
  rw [if_neg h] at hz
  clear h
  by_cases h : lv = 7 ∧ s = kAbs
  · obtain ⟨rfl, rfl⟩ := h
    exact ⟨by decide, 20, by decide, by decide, by decide⟩
  rw [if_neg h] at hz
  clear h
  by_cases h : lv = 1 ∧ s = kOr
  · obtain ⟨rfl, rfl⟩ := h
    exact ⟨by decide, 17, by decide, by decide, by decide⟩
  rw [if_neg h] at hz
  clear h
  by_cases h : lv = 2 ∧ s = kAnd
  · obtain ⟨rfl, rfl⟩ := h
    exact ⟨by decide, 16, by decide, by decide, by decide⟩
  rw [if_neg h] at hz
  clear h
  by_cases h : lv = 3 ∧ s = sEq
  · obtain ⟨rfl, rfl⟩ := h
    exact ⟨by decide, 10, by decide, by decide, by decide⟩
  rw [if_neg h] at hz
  clear h
  by_cases h : lv = 3 ∧ s = sNe
  · obtain ⟨rfl, rfl⟩ := h
    exact ⟨by decide, 11, by decide, by decide, by decide⟩
  rw [if_neg h] at hz
  clear h
  by_cases h : lv = 3 ∧ s = sLt
  · obtain ⟨rfl, rfl⟩ := h
    exact ⟨by decide, 12, by decide, by decide, by decide⟩
  rw [if_neg h] at hz
  clear h
  by_cases h : lv = 3 ∧ s = sLe
  · obtain ⟨rfl, rfl⟩ := h
    exact ⟨by decide, 13, by decide, by decide, by decide⟩
  rw [if_neg h] at hz
  clear h
  by_cases h : lv = 3 ∧ s = sGt
  · obtain ⟨rfl, rfl⟩ := h
    exact ⟨by decide, 14, by decide, by decide, by decide⟩
  rw [if_neg h] at hz
  clear h
  by_cases h : lv = 3 ∧ s = sGe
  · obtain ⟨rfl, rfl⟩ := h
    exact ⟨by decide, 15, by decide, by decide, by decide⟩
  rw [if_neg h] at hz
  clear h
  by_cases h : lv = 4 ∧ s = sAdd
  · obtain ⟨rfl, rfl⟩ := h
    exact ⟨by decide, 8, by decide, by decide, by decide⟩
  rw [if_neg h] at hz
  clear h
  by_cases h : lv = 4 ∧ s = sSub
  · obtain ⟨rfl, rfl⟩ := h
    exact ⟨by decide, 9, by decide, by decide, by decide⟩
  rw [if_neg h] at hz
  clear h
  by_cases h : lv = 5 ∧ s = sMul
  · obtain ⟨rfl, rfl⟩ := h
    exact ⟨by decide, 5, by decide, by decide, by decide⟩
  rw [if_neg h] at hz
  clear h
  by_cases h : lv = 5 ∧ s = sDiv
  · obtain ⟨rfl, rfl⟩ := h
    exact ⟨by decide, 6, by decide, by decide, by decide⟩
  rw [if_neg h] at hz
  clear h
  by_cases h : lv = 5 ∧ s = sMod
  · obtain ⟨rfl, rfl⟩ := h
    exact ⟨by decide, 7, by decide, by decide, by decide⟩
  rw [if_neg h] at hz
  clear h
  exact absurd rfl hz
theorem kindG_empty (lv : Nat) : kindG lv ⟨#[]⟩ = 0 := by
  rcases Nat.eq_zero_or_pos (kindG lv ⟨#[]⟩) with h | h
  · exact h
  · exact absurd (kindG_in (Nat.ne_of_gt h)).1 (by decide)
theorem kindG_lt {ws : List WordV} {n lv : Nat} (h : kindG lv (txt ws n) ≠ 0) : n < ws.length := by
  refine txt_lt (s := txt ws n) rfl (fun e => ?_)
  rw [e, kindG_empty] at h
  exact h rfl
theorem castIf (c : Prop) [Decidable c] (a b : Nat) : ((if c then a else b : Nat) : Int) = if c then (a : Int) else (b : Int) := by split <;> rfl
/-- at the levels of signs between two -/
theorem kindG_L {lv : Nat} (h : 1 ≤ lv ∧ lv ≤ 5) (s : ByteArray) : ((kindG lv s : Nat) : Int) = kindL lv s := by
  unfold kindG kindL
  obtain rfl | rfl | rfl | rfl | rfl : lv = 1 ∨ lv = 2 ∨ lv = 3 ∨ lv = 4 ∨ lv = 5 := by omega
  all_goals
    simp [castIf]
/-- a text that the table has -/
theorem word_hit {ws : List WordV} (hw : ∀ x ∈ ws, WordIs x) {n : Nat} (hn : n < ws.length) {lv i : Nat} (h : i < shapesL.length) (hl : shapesL[i].2.1 = (lv : Int)) (hs : shapesL[i].2.2 = ws[n].a1) : kindG lv (txt ws n) = i ∧ i ≠ 0 := by
  have hne : ws[n].a1 ≠ ⟨#[]⟩ := by
    intro e
    have := hw ws[n] (List.getElem_mem hn)
    cases this with
    | num h h1 hd => rw [e] at h1; exact absurd h1.1 (by decide)
    | name h h1 hl hk => rw [e] at hl; exact absurd hl (by decide)
    | key h hk => rw [e] at hk; exact absurd hk (by decide)
    | sign h hs => rw [e] at hs; exact absurd hs (by decide)
  have hk := hit_is h hl hs hne
  by_cases hz : i = 0
  · subst hz
    exact absurd hs.symm hne
  · have h2 := (kindG_in (lv := lv) (s := ws[n].a1) (by rw [hk]; exact hz)).1
    rw [(txt_iff hw hn h2).1 rfl, hk]
    exact ⟨rfl, hz⟩
theorem word_none {ws : List WordV} (hw : ∀ x ∈ ws, WordIs x) {n : Nat} (hn : n < ws.length) {lv : Nat} (h : ∀ i (h : i < shapesL.length), ¬ (shapesL[i].2.1 = (lv : Int) ∧ shapesL[i].2.2 = ws[n].a1)) : kindG lv (txt ws n) = 0 := by
  rcases Nat.eq_zero_or_pos (kindG lv (txt ws n)) with hz | hz
  · exact hz
  · obtain ⟨h1, j, hj, h2, h3⟩ := kindG_in (lv := lv) (s := txt ws n) (Nat.ne_of_gt hz)
    exact absurd ⟨h2, h3.trans ((txt_iff hw hn h1).2 rfl).symm⟩ (h j hj)
/-- where it stands: the reading of each level, by the kind -/
theorem kindG_0 (s : ByteArray) : (kindG 0 s = 21 ∧ s = kIf) ∨ (kindG 0 s = 22 ∧ s = kLet) ∨ (kindG 0 s = 23 ∧ s = kRep) ∨ (kindG 0 s = 0 ∧ s ≠ kIf ∧ s ≠ kLet ∧ s ≠ kRep) := by
  by_cases h1 : s = kIf
  · subst h1; exact .inl (by decide)
  by_cases h2 : s = kLet
  · subst h2; exact .inr (.inl (by decide))
  by_cases h3 : s = kRep
  · subst h3; exact .inr (.inr (.inl (by decide)))
  · exact .inr (.inr (.inr ⟨by unfold kindG; simp [h1, h2, h3], h1, h2, h3⟩))
theorem kindG_6 (s : ByteArray) : (kindG 6 s = 3 ∧ s = sSub) ∨ (kindG 6 s = 4 ∧ s = kNot) ∨ (kindG 6 s = 0 ∧ s ≠ sSub ∧ s ≠ kNot) := by
  by_cases h1 : s = sSub
  · subst h1; exact .inl (by decide)
  by_cases h2 : s = kNot
  · subst h2; exact .inr (.inl (by decide))
  · exact .inr (.inr ⟨by unfold kindG; simp [h1, h2], h1, h2⟩)
theorem kindG_7 (s : ByteArray) : (kindG 7 s = 18 ∧ s = kMin) ∨ (kindG 7 s = 19 ∧ s = kMax) ∨ (kindG 7 s = 20 ∧ s = kAbs) ∨ (kindG 7 s = 0 ∧ s ≠ kMin ∧ s ≠ kMax ∧ s ≠ kAbs) := by
  by_cases h1 : s = kMin
  · subst h1; exact .inl (by decide)
  by_cases h2 : s = kMax
  · subst h2; exact .inr (.inl (by decide))
  by_cases h3 : s = kAbs
  · subst h3; exact .inr (.inr (.inl (by decide)))
  · exact .inr (.inr (.inr ⟨by unfold kindG; simp [h1, h2, h3], h1, h2, h3⟩))
end Go.Proofs.YtjfebnplffpmoaaGreatDoor

set_option linter.unusedVariables false
namespace Go.Proofs.YtjfebnplffpmoaaGreatDoor
open Go.RowKit Go.Maps Go.Deep

/-- a row of bytes, at or above a block, that one may append to -/
def ByRow (B : Nat) (w : World) (v : Value) (bs : List UInt8) : Prop := w.ownsRow B 5 1 v bs.length (bs.map byV)
theorem ByRow.nil (B : Nat) (w : World) : ByRow B w (.slice none 0 0) [] := ⟨rfl, .inl ⟨rfl, rfl⟩⟩
theorem ByRow.slice {B : Nat} {w : World} {v : Value} {bs : List UInt8} (h : ByRow B w v bs) : ∃ a c, v = .slice a bs.length c := by
  rcases h.2 with ⟨rfl, h0⟩ | ⟨g, cap, cur, rfl, _⟩
  · rw [h0]; exact ⟨_, _, rfl⟩
  · exact ⟨_, _, rfl⟩
theorem ByRow.own {B : Nat} {w : World} {v : Value} {bs : List UInt8} (h : ByRow B w v bs) : ∃ S, ByOwn S w v bs ∧ (∀ k ∈ S, B ≤ k) ∧ (∀ k ∈ S, v.ownBlock = some k) := by
  have hh : w.ownsRow B 5 1 v bs.length (bs.map byV) := h
  rcases h with ⟨_, ⟨rfl, h0⟩ | ⟨g, cap, cur, rfl, hB, hg, hnc, _⟩⟩
  · have : bs = [] := List.eq_nil_of_length_eq_zero h0
    subst this
    exact ⟨[], ByOwn.nil _ _ _, by simp, by simp⟩
  · refine ⟨[g], .inr ⟨g, 0, cap, rfl, rfl, (Array.getElem?_eq_some_iff.1 hg).1, fun i hi => ?_, fun i hi => hh.frozenAt _, hnc⟩, by simpa using hB, by simp [Value.ownBlock]⟩
    rw [Nat.zero_add, hh.cellAt _ (by omega)]
    simp [byV, hi]
theorem ByRow.rd {B : Nat} {w : World} {v : Value} {bs : List UInt8} (h : ByRow B w v bs) : ByRd w v bs := by
  obtain ⟨S, h, _⟩ := h.own
  exact h.rd
theorem ByRow.ge {B : Nat} {w : World} {v : Value} {bs : List UInt8} (h : ByRow B w v bs) : ∀ g, v.ownBlock = some g → B ≤ g := by
  intro g hg
  rcases h.2 with ⟨rfl, _⟩ | ⟨g', cap, cur, rfl, hB, _⟩
  · simp [Value.ownBlock] at hg
  · simp [Value.ownBlock] at hg; omega
theorem ByRow.lt {B : Nat} {w : World} {v : Value} {bs : List UInt8} (h : ByRow B w v bs) : ∀ g, v.ownBlock = some g → g < w.heap.size := by
  intro g hg
  rcases h.2 with ⟨rfl, _⟩ | ⟨g', cap, cur, rfl, hB, hh, _⟩
  · simp [Value.ownBlock] at hg
  · simp [Value.ownBlock] at hg; rw [← hg]; exact (Array.getElem?_eq_some_iff.1 hh).1
theorem ByRow.keep {B : Nat} {w w' : World} {v : Value} {bs : List UInt8} (h : ByRow B w v bs) (hk : ∀ g, v.ownBlock = some g → w'.heap[g]? = w.heap[g]?) : ByRow B w' v bs := by
  refine ⟨h.1, ?_⟩
  rcases h.2 with h0 | ⟨g, cap, cur, e, hB, hg, r⟩
  · exact .inl h0
  · exact .inr ⟨g, cap, cur, e, hB, (hk g (by rw [e]; rfl)).trans hg, r⟩
theorem ByRow.up {B : Nat} {w w' : World} {v : Value} {bs : List UInt8} (h : ByRow B w v bs) (hb : Below w.heap.size w w') : ByRow B w' v bs := h.keep (fun g hg => hb.block g (h.lt g hg))
theorem ByRow.turn {B : Nat} {S : List Nat} {w w' : World} {v : Value} {bs : List UInt8} (h : ByRow B w v bs) (ht : Turn S w w') (hS : ∀ g, v.ownBlock = some g → g ∉ S) : ByRow B w' v bs := h.keep (fun g hg => ht.block g (h.lt g hg) (hS g hg))
theorem ByRow.mono {B B' : Nat} {w : World} {v : Value} {bs : List UInt8} (h : ByRow B w v bs) (hB : B' ≤ B) : ByRow B' w v bs := by
  refine ⟨h.1, ?_⟩
  rcases h.2 with h0 | ⟨g, cap, cur, e, hb, r⟩
  · exact .inl h0
  · exact .inr ⟨g, cap, cur, e, Nat.le_trans hB hb, r⟩

theorem byOne (ys : List UInt8) : ∀ u ∈ ys.map byV, u.oneCell' = true := by
  intro u hu
  obtain ⟨c, _, rfl⟩ := List.mem_map.1 hu
  rfl
theorem byCells {w : World} {b off : Nat} {ys : List UInt8} (h : ByAt w b off ys) : ∀ j u, (ys.map byV)[j]? = some u → w.cell? ((⟨b, off, none⟩ : Addr).add j) = some u := by
  intro j u hu
  rw [List.getElem?_map] at hu
  obtain ⟨t, ht, rfl⟩ := Option.map_eq_some_iff.1 hu
  obtain ⟨hj, rfl⟩ := List.getElem?_eq_some_iff.1 ht
  have hadd : (⟨b, off, none⟩ : Addr).add j = ⟨b, off + j, none⟩ := by unfold Addr.add; split <;> simp_all
  rw [hadd]
  exact h j hj
theorem run_append_none {P : Program} {w : World} (base : Nat) (t ty e : TypeId) (i : TypeInfo) (size c : Nat) (ht : P.underlying t = some (.slice e)) (hi : P.info? e = some i) (v : Value) (n : Nat) (xs : List Value) (hown : w.ownsRow base e size v n xs) :
    (Builtin.append_ #[t, t] ty #[v, .slice none 0 c]).run P w = .ok v w := by
  rcases hown.2 with ⟨rfl, rfl⟩ | ⟨g, cap, cur, rfl, _, _, hnc, _⟩
  · simp [Builtin.append_, run_underlying ht, sizeOf, typeInfo, hi, Builtin.lenOf, Builtin.firstCells]
  · simp [Builtin.append_, run_underlying ht, sizeOf, typeInfo, hi, Builtin.lenOf, Builtin.firstCells, hnc, storeCells]
theorem run_append_zero {P : Program} {w : World} (base : Nat) (t ty e : TypeId) (i : TypeInfo) (size c : Nat) (ad : Addr) (ht : P.underlying t = some (.slice e)) (hi : P.info? e = some i) (v : Value) (n : Nat) (xs : List Value) (hown : w.ownsRow base e size v n xs) :
    (Builtin.append_ #[t, t] ty #[v, .slice (some ad) 0 c]).run P w = .ok v w := by
  rcases hown.2 with ⟨rfl, rfl⟩ | ⟨g, cap, cur, rfl, _, _, hnc, _⟩
  · simp [Builtin.append_, run_underlying ht, sizeOf, typeInfo, hi, Builtin.lenOf, Builtin.firstCells, loadCells, loadCellsFrom]
  · simp [Builtin.append_, run_underlying ht, sizeOf, typeInfo, hi, Builtin.lenOf, Builtin.firstCells, hnc, storeCells, loadCells, loadCellsFrom]
theorem grown_self (w : World) (r : Option Nat) : w.grownBy w r := ⟨rfl, rfl, rfl, Nat.le_refl _, fun _ _ _ => rfl⟩

theorem byAppend_run (B : Nat) (w : World) (v u : Value) (xs ys : List UInt8) (hv : ByRow B w v xs) (hu : ByRd w u ys) (hl : xs.length + ys.length ≤ 140737488355328) (hB : B ≤ w.heap.size) (ty : TypeId) :
    ∃ a c w', (Builtin.append_ #[22, 22] ty #[v, u]).run Tryz.prog w = .ok (.slice a (xs.length + ys.length) c) w' ∧ ByRow B w' (.slice a (xs.length + ys.length) c) (xs ++ ys) ∧ w.grownBy w' v.ownBlock ∧ ((Value.slice a (xs.length + ys.length) c).ownBlock = v.ownBlock ∨ ∀ g, (Value.slice a (xs.length + ys.length) c).ownBlock = some g → w.heap.size ≤ g) := by
  obtain ⟨i0, hi, hz0, hz1, hz2⟩ := info_parts1 infoByte
  obtain ⟨au, cu, rfl, hin, _⟩ := hu
  by_cases h0 : ys = []
  · subst h0
    cases au with
    | none =>
      obtain ⟨a, c, rfl⟩ := hv.slice
      exact ⟨a, c, w, run_append_none B _ ty _ i0 1 cu Tryz.underlying22 hi _ _ _ hv, by simpa using hv, grown_self _ _, .inl rfl⟩
    | some ad =>
      obtain ⟨a, c, rfl⟩ := hv.slice
      exact ⟨a, c, w, run_append_zero B _ ty _ i0 1 cu ad Tryz.underlying22 hi _ _ _ hv, by simpa using hv, grown_self _ _, .inl rfl⟩
  · obtain ⟨b, off, rfl, hb, hc⟩ := hin.resolve_left h0
    have hpos : 0 < ys.length := List.length_pos_iff.2 h0
    obtain ⟨g, cap, w', h1, h2, h3, h4, h5⟩ := run_append_lies (P := Tryz.prog) (w := w) 22 ty B 5 i0 _ 1 1 Tryz.underlying22 hi hz0 hz1 hz2 rfl (by decide) v xs.length (xs.map byV) hv ⟨b, off, none⟩ ys.length cu (ys.map byV) (by simp) (byCells hc) (byOne ys) hpos (by unfold maxLen; omega) (by omega) hB w.heap.size rfl
    refine ⟨some ⟨g, 0, none⟩, cap, w', h1, ?_, h3, ?_⟩
    · unfold ByRow
      rw [List.length_append, List.map_append]
      exact h2
    · rcases h4 with h4 | h4
      · exact .inl h4.symm
      · exact .inr (fun g' hg' => by simp [Value.ownBlock] at hg'; omega)

/-- append at the operation -/
theorem wpList_byAppend {w : World} {ops : Array Oper} {rest : List Oper} {o : Oper} {a : Act} {Q : Exit → Act → World → Prop} (hgd : o.guard = none) (s x : Operand)
    (ho : o.op = .call { callee := .builtin .append, args := #[s, x], argTypes := #[22, 22] }) (B : Nat) (v u : Value) (xs ys : List UInt8) (hs : a.eval s = v) (hx : a.eval x = u)
    (hv : ByRow B w v xs) (hu : ByRd w u ys) (hl : xs.length + ys.length ≤ 140737488355328) (hB : B ≤ w.heap.size)
    (h : ∀ a' c w', ByRow B w' (.slice a' (xs.length + ys.length) c) (xs ++ ys) → w.grownBy w' v.ownBlock → ((Value.slice a' (xs.length + ys.length) c).ownBlock = v.ownBlock ∨ ∀ g, (Value.slice a' (xs.length + ys.length) c).ownBlock = some g → w.heap.size ≤ g) → wpList Tryz.prog ops Q rest (a.put o.dst (.slice a' (xs.length + ys.length) c)) w') : wpList Tryz.prog ops Q (o :: rest) a w := by
  obtain ⟨a', c, w', h1, h2, h3, h4⟩ := byAppend_run B w v u xs ys hv hu hl hB o.type
  refine wpList_plain hgd fun K hK => ?_
  unfold Oper.wp execOp
  simp only [ho, resolve, invoke, builtin, Sem.run_bind, Sem.run_pure, Result.andThen_ok, List.map_toArray, List.map_cons, List.map_nil, hs, hx, h1]
  exact hK _ _ (h a' c w' h2 h3 h4)
/-- append at a step of a region that draws its order -/
theorem step_byAppend {w : World} {ops : Array Oper} {o : Oper} {a : Act} {K : Act → World → Prop} {Q : Exit → Act → World → Prop} {E : Prop} (hgd : o.guard = none) (s x : Operand)
    (ho : o.op = .call { callee := .builtin .append, args := #[s, x], argTypes := #[22, 22] }) (B : Nat) (v u : Value) (xs ys : List UInt8) (hs : a.eval s = v) (hx : a.eval x = u)
    (hv : ByRow B w v xs) (hu : ByRd w u ys) (hl : xs.length + ys.length ≤ 140737488355328) (hB : B ≤ w.heap.size)
    (h : ∀ a' n c w', ByRow B w' (.slice a' n c) (xs ++ ys) → w.grownBy w' v.ownBlock → ((Value.slice a' n c).ownBlock = v.ownBlock ∨ ∀ g, (Value.slice a' n c).ownBlock = some g → w.heap.size ≤ g) → K (a.put o.dst (.slice a' n c)) w') :
    if Region.wanted o (yielded ops a.tmps) = true then Oper.wp Tryz.prog o a w K Q else E := by
  have hw : Region.wanted o (yielded ops a.tmps) = true := by simp [Region.wanted, hgd]
  rw [if_pos hw]
  obtain ⟨a', c, w', h1, h2, h3, h4⟩ := byAppend_run B w v u xs ys hv hu hl hB o.type
  unfold Oper.wp execOp
  simp only [ho, resolve, invoke, builtin, Sem.run_bind, Sem.run_pure, Result.andThen_ok, List.map_toArray, List.map_cons, List.map_nil, hs, hx, h1]
  exact h a' _ c w' h2 h3 h4
end Go.Proofs.YtjfebnplffpmoaaGreatDoor
