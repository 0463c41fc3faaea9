/-
  The names of a tree that was read, and the tree that was read is one: mathematics alone.
-/
/-
  What the rows' list says of the program's table: its cells hold it.
-/
/-
  A list of bytes that comes in, opened.
-/
import Derived.Test.YtjfebnplffpmoaaGreatDoorMerged17
import Derived.Test.YtjfebnplffpmoaaGreatDoorMerged15
import Derived.Test.YtjfebnplffpmoaaGreatDoorSpecDeep
import Derived.Test.YtjfebnplffpmoaaGreatDoorMerged9
import Derived.Test.YtjfebnplffpmoaaGreatDoorRows
import Derived.OpenShut
import Derived.Lib.LaidTab
import Derived.Test.YtjfebnplffpmoaaGreatDoorMerged18
import Derived.ProofKit
set_option linter.unusedVariables false
namespace Go.Proofs.YtjfebnplffpmoaaGreatDoor
open Go.RowKit Go.Maps Go.Deep

def Nmd (x : NodeV) : Prop := x.kind = 2 ∨ x.kind = 22 ∨ x.kind = 23 → nameB x.name = true
theorem nmd_no {k n c : Int} {nm : ByteArray} (h1 : k ≠ 2) (h2 : k ≠ 22) (h3 : k ≠ 23) : Nmd ⟨k, n, nm, c⟩ := fun h => by
  rcases h with h | h | h
  · exact absurd h h1
  · exact absurd h h2
  · exact absurd h h3
theorem nmd_yes {k n c : Int} {nm : ByteArray} (h : nameB nm = true) : Nmd ⟨k, n, nm, c⟩ := fun _ => h
def NmT (t : TreeV) : Prop := ∀ x ∈ fl t.f, Nmd x
def NmR : PRes → Prop
  | .ok t _ => NmT t
  | _ => True
theorem NmR.then {r : PRes} {f : TreeV → Nat → PRes} (h : NmR r) (hf : ∀ t k, NmT t → NmR (f t k)) : NmR (r.then f) := by
  cases r with
  | out => trivial
  | bad k => trivial
  | ok t k => exact hf t k h
theorem nm_must {ws : List WordV} {k : Nat} {s : ByteArray} {f : Nat → PRes} (hf : NmR (f (k + 1))) : NmR (must ws s k f) := by
  unfold must
  split
  · exact hf
  · trivial
theorem nm_name {ws : List WordV} (hw : ∀ x ∈ ws, x.a0 = 2 → nameB x.a1 = true) {k : Nat} {f : ByteArray → Nat → PRes} (hf : ∀ nm : ByteArray, nameB nm = true → NmR (f nm (k + 1))) : NmR (mustName ws k f) := by
  unfold mustName
  split
  · rename_i x hx
    split
    · rename_i h2
      exact hf _ (hw x (List.mem_of_getElem? hx) h2)
    · trivial
  · trivial
theorem nmT_0 {k n : Int} {nm : ByteArray} (h : Nmd ⟨k, n, nm, 0⟩) : NmT (node0 k n nm) := by
  intro x hx
  simp [node0, TreeV.f, fl] at hx
  rw [hx]; exact h
theorem nmT_1 {k : Int} {a : TreeV} (h : Nmd ⟨k, 0, ⟨#[]⟩, 1⟩) (ha : NmT a) : NmT (node1 k a) := by
  intro x hx
  simp only [node1, TreeV.f, fl, List.append_nil, List.mem_cons] at hx
  rcases hx with rfl | hx
  · exact h
  · exact ha x (by simpa [TreeV.f, fl] using hx)
theorem nmT_2 {k : Int} {nm : ByteArray} {a b : TreeV} (h : Nmd ⟨k, 0, nm, 2⟩) (ha : NmT a) (hb : NmT b) : NmT (node2 k nm a b) := by
  intro x hx
  have : fl (node2 k nm a b).f = ⟨k, 0, nm, 2⟩ :: ((fl a.f ++ fl b.f) ++ []) := by
    show _ :: (fl (app a.f b.f) ++ fl .nil) = _
    rw [fl_app]; rfl
  rw [this] at hx
  simp only [List.append_nil, List.mem_cons, List.mem_append] at hx
  rcases hx with rfl | hx | hx
  · exact h
  · exact ha x hx
  · exact hb x hx
theorem nmT_3 {k : Int} {nm : ByteArray} {a b c : TreeV} (h : Nmd ⟨k, 0, nm, 3⟩) (ha : NmT a) (hb : NmT b) (hc : NmT c) : NmT (node3 k nm a b c) := by
  intro x hx
  have : fl (node3 k nm a b c).f = ⟨k, 0, nm, 3⟩ :: ((fl a.f ++ (fl b.f ++ fl c.f)) ++ []) := by
    show _ :: (fl (app a.f (app b.f c.f)) ++ fl .nil) = _
    rw [fl_app, fl_app]; rfl
  rw [this] at hx
  simp only [List.append_nil, List.mem_cons, List.mem_append] at hx
  rcases hx with rfl | hx | hx | hx
  · exact h
  · exact ha x hx
  · exact hb x hx
  · exact hc x hx
def modeM : Mode → Prop
  | .loop _ a => NmT a
  | _ => True
theorem nmd_sign {lv : Nat} {s : ByteArray} (h : kindL lv s ≠ 0) : Nmd ⟨kindL lv s, 0, ⟨#[]⟩, 2⟩ := by
  have hk : 5 ≤ kindL lv s ∧ kindL lv s ≤ 17 := by rcases kindL_fit lv s with e | e; exact absurd e h; exact e
  exact nmd_no (by omega) (by omega) (by omega)
theorem parse_nm (ws : List WordV) (hw : ∀ x ∈ ws, x.a0 = 2 → nameB x.a1 = true) : ∀ f m n, modeM m → NmR (parse ws f m n) := by
  intro f
  induction f with
  | zero => intro m n _; trivial
  | succ f ih =>
    intro m n hm
    have IE : ∀ k, NmR (parse ws f .expr k) := fun k => ih .expr k trivial
    cases m with
    | expr =>
      rw [parse]
      split
      · exact (IE (n + 1)).then fun a n1 oa => nm_must ((IE (n1 + 1)).then fun b n3 ob => nm_must ((IE (n3 + 1)).then fun c n5 oc => nmT_3 (nmd_no (by decide) (by decide) (by decide)) oa ob oc))
      split
      · exact nm_name hw fun nm hnm => nm_must ((IE (n + 1 + 1 + 1)).then fun a n3 oa => nm_must ((IE (n3 + 1)).then fun b n5 ob => nmT_2 (nmd_yes hnm) oa ob))
      split
      · exact (IE (n + 1)).then fun a n1 oa => nm_must (nm_name hw fun nm hnm => nm_must ((IE (n1 + 1 + 1 + 1)).then fun b n5 ob => nm_must ((IE (n5 + 1)).then fun c n7 oc => nmT_3 (nmd_yes hnm) oa ob oc)))
      · exact ih (.level 1) n trivial
    | level lv =>
      rw [parse]
      split
      · exact ih .ahead n trivial
      · exact (ih (.level (lv + 1)) n trivial).then fun a n1 oa => ih (.loop lv a) n1 oa
    | loop lv a =>
      rw [parse]
      split
      · exact hm
      · rename_i h
        refine (ih (.level (lv + 1)) (n + 1) trivial).then fun b n1 ob => ?_
        have o := nmT_2 (nmd_sign h) hm ob
        split
        · exact o
        · exact ih (.loop lv _) n1 o
    | ahead =>
      rw [parse]
      split
      · exact (ih .ahead (n + 1) trivial).then fun a n1 oa => nmT_1 (nmd_no (by decide) (by decide) (by decide)) oa
      split
      · exact (ih .ahead (n + 1) trivial).then fun a n1 oa => nmT_1 (nmd_no (by decide) (by decide) (by decide)) oa
      · exact ih .atom n trivial
    | atom =>
      rw [parse]
      split
      · trivial
      · rename_i x hx
        split
        · exact nmT_0 (nmd_no (by decide) (by decide) (by decide))
        split
        · rename_i h2
          exact nmT_0 (nmd_yes (hw _ (List.mem_of_getElem? hx) h2))
        split
        · refine nm_must ((IE (n + 1 + 1)).then fun a n2 oa => nm_must ((IE (n2 + 1)).then fun b n4 ob => nm_must (nmT_2 ?_ oa ob)))
          split <;> exact nmd_no (by decide) (by decide) (by decide)
        split
        · exact nm_must ((IE (n + 1 + 1)).then fun a n2 oa => nm_must (nmT_1 (nmd_no (by decide) (by decide) (by decide)) oa))
        split
        · exact (IE (n + 1)).then fun a n2 oa => nm_must oa
        · trivial

theorem word_nm {s : ByteArray} {k n : Nat} {x : WordV} (hk : k < s.size) (h : wordAt s k = .word x n) (h2 : x.a0 = 2) : nameB x.a1 = true := by
  have hg := word_good hk h
  have hi := word_is hk h
  unfold wordAt at h
  split at h
  · split at h
    · cases h
    · injection h with h1 h3
      subst h1
      cases h2
  split at h
  · rename_i hl
    split at h
    · cases h
    · rename_i h8
      injection h with h1 h3
      subst h1 h3
      have hz := ext_sz s k (runEnd s true k) (by omega) hg.2.1
      have hb0 := ext_byte s k (runEnd s true k) hg.1 hg.2.1
      cases hkey : isKeyB (s.extract k (runEnd s true k))
      · show nameB (s.extract k (runEnd s true k)) = true
        unfold nameB
        rw [hkey, (rest_iff _).2 ?_]
        · have : 1 ≤ (s.extract k (runEnd s true k)).size ∧ (s.extract k (runEnd s true k)).size ≤ 8 := ⟨by omega, by omega⟩
          rw [decide_eq_true this.1, decide_eq_true this.2]
          rfl
        · intro i hi2
          by_cases e0 : i = 0
          · left; rw [e0, hb0]; exact hl
          · have hd : i < (s.extract k (runEnd s true k)).data.size := hi2
            have hm : (s.extract k (runEnd s true k)).data.getD i 0 ∈ (s.extract k (runEnd s true k)).data.toList := by
              rw [Array.getD, dif_pos hd]
              exact Array.mem_toList_iff.2 (Array.getElem_mem _)
            obtain ⟨j, q1, q2, q3⟩ := ext_mem s k _ hg.2.1 _ hm
            have hp := run_all s true _ k rfl j q1 q2
            have hb : byteAt (s.extract k (runEnd s true k)) i = byteAt s j := by unfold byteAt; rw [q3]
            rw [hb]
            simp only [Bool.true_and, Bool.or_eq_true] at hp
            rcases hp with hp | hp
            · exact .inr ⟨e0, hp⟩
            · exact .inl hp
      · rw [hkey] at h2
        simp at h2
  split at h
  · cases h
  · injection h with h1 h3
    subst h1
    cases h2
theorem lex_nm (s : ByteArray) : ∀ n k ws, s.size - k = n → lexR s k = .ok ws → ∀ x ∈ ws, x.a0 = 2 → nameB x.a1 = true := by
  intro n
  induction n using Nat.strongRecOn with
  | ind n ih =>
    intro k ws hn h
    by_cases hk : k < s.size
    · rw [lexR, dif_pos hk] at h
      split at h
      · exact ih (s.size - (k + 1)) (by omega) (k + 1) ws rfl h
      · split at h
        · cases h
        · rename_i x e hw
          have g1 := (word_good hk hw).1
          cases hq : lexR s (max e (k + 1)) with
          | bad c a => rw [hq] at h; cases h
          | ok us =>
            rw [hq] at h
            injection h with h
            subst h
            intro y hy
            rcases List.mem_cons.1 hy with rfl | hy
            · exact word_nm hk hw
            · exact ih (s.size - max e (k + 1)) (by omega) (max e (k + 1)) us rfl hq y hy
    · rw [lexR, dif_neg hk] at h
      injection h with h
      subst h
      simp
theorem bw_nm (t : ByteArray) : ∀ x ∈ bwWords t, x.a0 = 2 → nameB x.a1 = true := by
  unfold bwWords
  split
  · simp
  · rename_i h
    cases hl : lexR t 0 with
    | bad c a => simp
    | ok ws => exact lex_nm t _ 0 ws rfl hl
theorem own_of {x : NodeV} (hg : NodeGd x) (hn : Norm x) (hm : Nmd x) : ownB x = true := by
  obtain ⟨h1, h2, h3, h4⟩ := hg
  unfold ownB
  simp only [Bool.and_eq_true, decide_eq_true_eq]
  refine ⟨⟨by rw [← hn.kids]; exact h4.1, hn.kids⟩, ?_⟩
  by_cases hk : x.kind = 2 ∨ x.kind = 22 ∨ x.kind = 23
  · have hnb : namedB x.kind = true := by unfold namedB; rcases hk with e | e | e <;> rw [e] <;> decide
    rw [if_pos hnb]
    simp only [Bool.and_eq_true, decide_eq_true_eq]
    exact ⟨hn.num (by omega), hm hk⟩
  · have hnb : namedB x.kind = false := by unfold namedB; simp; omega
    rw [if_neg (by rw [hnb]; simp)]
    simp only [Bool.and_eq_true, decide_eq_true_eq]
    refine ⟨by rw [hn.name (by omega) (by omega) (by omega)]; rfl, ?_⟩
    by_cases e1 : x.kind = 1
    · rw [if_pos e1]
      simp only [Bool.and_eq_true, decide_eq_true_eq]
      exact h2
    · rw [if_neg e1]
      simp only [decide_eq_true_eq]
      exact hn.num e1
/-- what is read without a fault is a tree -/
theorem read_ok (t : ByteArray) (h : (trRes t).code = 0) : OkTree (trRes t).nodes := by
  have hcode : ∀ c a, (TrRes.bad c a).code = c := fun _ _ => rfl
  by_cases hc : bwCode t = 0
  rotate_left
  · rw [tr_words hc] at h
    exact absurd h hc
  · cases hp : parse (bwWords t) (fuelT (bwWords t)) .expr 0 with
    | out => have := tr_good t; rw [hp] at this; exact this.elim
    | bad k => rw [tr_bad hc hp] at h; cases h
    | ok x k =>
      by_cases h1 : k < (bwWords t).length
      · rw [tr_more hc hp h1] at h; cases h
      by_cases h2 : 400 < sizeT x
      · rw [tr_many hc hp h1 h2] at h; cases h
      by_cases h3 : 40 < dp x.l + 1
      · rw [tr_deep hc hp h1 h2 h3] at h; cases h
      rw [tr_ok hc hp h1 h2 h3]
      have ht := tr_tree t
      have hn := parse_norm (bwWords t) (fuelT (bwWords t)) .expr 0 trivial
      have hm := parse_nm (bwWords t) (bw_nm t) (fuelT (bwWords t)) .expr 0 trivial
      rw [hp] at ht hn hm
      have hs : (fl x.f).length = sizeT x := rfl
      refine ⟨x.x, x.l, ⟨by show (fl x.f).length ≤ 400; omega, fun n hx => own_of (ht.1.all n hx) (hn n hx) (hm n hx), ?_, ht.1.kids, ht.1.kok, by omega⟩⟩
      show fl x.f = x.x :: fl x.l
      simp [TreeV.f, fl]
theorem read_not (t : ByteArray) (h : (trRes t).code ≠ 0) : (trRes t).nodes = [] := by
  cases hq : trRes t with
  | bad c a => rfl
  | ok x => rw [hq] at h; exact absurd rfl h
end Go.Proofs.YtjfebnplffpmoaaGreatDoor

namespace Go.Proofs.YtjfebnplffpmoaaGreatDoor
open Go.RowKit Go.Maps

theorem lt_of_cellL {w : World} {b off : Nat} {v : Value} (h : w.cell? ⟨b, off, none⟩ = some v) : b < w.heap.size := by
  by_cases hb : b < w.heap.size
  · exact hb
  · exfalso
    have : w.heap[b]? = none := Array.getElem?_eq_none (by omega)
    simp [World.cell?, this] at h
theorem gShapesType : (Tryz.prog.globals[1]?).map (·.type) = some 136 := by kernel_rfl
theorem cells_shape : Tryz.prog.cellsOf 135 = 3 := by kernel_rfl
theorem cells_shapes : Tryz.prog.cellsOf 136 = 72 := by kernel_rfl
theorem cells_i : Tryz.prog.cellsOf 3 = 1 := by kernel_rfl
theorem cells_s : Tryz.prog.cellsOf 9 = 1 := by kernel_rfl
def shapeData {H : Type} (r : Int × Int × ByteArray) : DataW H := .agg [.lit (.int .i64 r.1), .lit (.int .i64 r.2.1), .lit (.string r.2.2.data.toList)]
theorem laid_eq {H : Type} : Rows.laid_loop_example_headrace_impl_shapes (H := H) = .agg (shapesL.map shapeData) := rfl

set_option maxRecDepth 100000 in
theorem shapes_of_vars {W : World} {name : String} {rest : List (String × DataW Unit)} {ps : List MemPlace} (hg : Tryz.prog.globalNamed name = some 1) (h : DataW.LaidVars Tryz.prog W ((name, Rows.laid_loop_example_headrace_impl_shapes) :: rest) ps) : ShapesIn W := by
  obtain ⟨g', t', cs, fuel, p, q, hg', ht', hvar, hd, _, _⟩ := h
  obtain rfl := Option.some.inj (hg.symm.trans hg')
  obtain rfl := Option.some.inj (gShapesType.symm.trans ht')
  rw [laid_eq] at hd
  have hcell := World.var?_cell hg hvar
  obtain ⟨xs, m, _, hx, hlen, hxl, hf⟩ := DataW.trod_array Tryz.underlying136 hd
  have hxs : shapesL.map (shapeData (H := Unit)) = xs.map (·.1) := by
    have := congrArg Prod.fst hx
    simpa using this
  have key : ∀ i (hi : i < shapesL.length), cs.toList[i * 3]? = some (.int .i64 shapesL[i].1) ∧ cs.toList[i * 3 + 1]? = some (.int .i64 shapesL[i].2.1) ∧ cs.toList[i * 3 + 2]? = some (.string shapesL[i].2.2) := by
    intro i hi
    have hi' : i < 24 := by rw [shapes_len] at hi; exact hi
    have hfi := hf i hi'
    rw [List.getElem?_eq_getElem (by omega), cells_shape] at hfi
    have h2 : xs[i].1 = shapeData shapesL[i] := by
      have h3 := congrArg (·[i]?) hxs
      simp only [List.getElem?_map, List.getElem?_eq_getElem hi, List.getElem?_eq_getElem (show i < xs.length by omega), Option.map_some, Option.some.injEq] at h3
      exact h3.symm
    generalize shapesL[i] = row at h2 ⊢
    obtain ⟨ys, n, _, hy, hl3, hyl, hfs⟩ := DataW.trod_struct Tryz.underlying135 hfi
    generalize hcs : List.take 3 (List.drop (i * 3) cs.toList) = c3 at *
    rw [cells_shape] at hl3
    match ys, hyl, c3, hl3, hcs with
    | [y0, y1, y2], _, [v0, v1, v2], _, hcs =>
      have g0 := hfs 0 _ rfl
      have g1 := hfs 1 _ rfl
      have g2 := hfs 2 _ rfl
      simp [cells_i, cells_s] at g0 g1 g2
      obtain ⟨n0, e0, z0, _⟩ := DataW.trod_int Tryz.underlying3 g0
      obtain ⟨n1, e1, z1, _⟩ := DataW.trod_int Tryz.underlying3 g1
      obtain ⟨s2, e2, z2, _⟩ := DataW.trod_string Tryz.underlying9 g2
      rw [hy] at h2
      subst z0 z1 z2
      simp only [shapeData, List.map_cons, List.map_nil, DataW.agg.injEq, List.cons.injEq, DataW.lit.injEq, Lit.int.injEq, Lit.string.injEq, true_and, and_true] at h2 e0 e1 e2
      obtain ⟨q0, q1, q2⟩ := h2
      subst e0 e1 e2
      obtain ⟨r0, r1, r2⟩ := row
      simp only at q0 q1 q2 ⊢
      subst q0 q1
      have hs2 : s2 = r2 := by cases s2; cases r2; simp_all
      subst hs2
      have at' : ∀ k, k < 3 → cs.toList[i * 3 + k]? = (List.take 3 (List.drop (i * 3) cs.toList))[k]? := by
        intro k hk
        rw [List.getElem?_take, if_pos hk, List.getElem?_drop]
      refine ⟨?_, ?_, ?_⟩
      · have := at' 0 (by omega); rw [hcs] at this; simpa using this
      · have := at' 1 (by omega); rw [hcs] at this; simpa using this
      · have := at' 2 (by omega); rw [hcs] at this; simpa using this
  have hc' : ∀ k, W.cell? ⟨1, k, none⟩ = cs.toList[k]? := fun k => by rw [hcell k]; simp
  refine ⟨?_, fun k hk => ?_⟩
  · have := (key 0 (by rw [shapes_len]; omega)).1
    rw [← hc'] at this
    exact lt_of_cellL this
  · obtain ⟨a, b, c⟩ := key k hk
    exact ⟨(hc' _).trans a, (hc' _).trans b, (hc' _).trans c⟩

theorem shapes_of_laid {W : World} {name : String} {rest : List (String × DataW Unit)} (hg : Tryz.prog.globalNamed name = some 1) (h : laidMet Tryz.prog ((name, Rows.laid_loop_example_headrace_impl_shapes) :: rest) W) : ShapesIn W := by
  obtain ⟨ps, h, _⟩ := h
  exact shapes_of_vars hg h
end Go.Proofs.YtjfebnplffpmoaaGreatDoor

namespace Go.Proofs.YtjfebnplffpmoaaGreatDoor
open Go.RowKit Go.Maps Go.Deep Go.ChangeShapes Go.WideShapes Go.ChangeAt

theorem cells_byteA : Tryz.prog.cellsOf 5 = 1 := by kernel_rfl
theorem choose_byte {n : Nat} {P : Nat → UInt8 → Prop} (h : ∀ i, i < n → ∃ c, P i c) : ∃ bs : List UInt8, bs.length = n ∧ ∀ i (hi : i < bs.length), P i bs[i] := by
  induction n with
  | zero => exact ⟨[], rfl, fun i hi => absurd hi (Nat.not_lt_zero _)⟩
  | succ n ih =>
    obtain ⟨bs, hl, hb⟩ := ih (fun i hi => h i (by omega))
    obtain ⟨c, hc⟩ := h n (by omega)
    refine ⟨bs ++ [c], by simp [hl], fun i hi => ?_⟩
    by_cases e : i < bs.length
    · rw [List.getElem_append_left e]; exact hb i e
    · have : i = n := by simp at hi; omega
      subst this
      rw [List.getElem_append_right (by omega)]
      simpa [hl] using hc
theorem open_byte_cell {H : Type} {enc : TypeId × Value → H} {w : World} {base : Nat} {spare : Nat → Bool} {held : Bool} {c : Value} {fuel : Nat} {y : DataW H × List MemPlace}
    (hf : DataW.trod enc Tryz.prog w base spare held fuel 22 [c] = some y) :
    ∃ a cap, ∃ bs : List UInt8, c = .slice a bs.length cap ∧ bs.length ≤ maxLen ∧ bs.length ≤ cap ∧ ByIn w a bs := by
  rcases open_slice Tryz.underlying22 hf with ⟨hcs, _⟩ | ⟨a', len, cap, m, n, D, Pl, hcs, hb, hl, hm, hmm, _, hx⟩
  · simp at hcs
    subst hcs
    exact ⟨none, 0, [], rfl, by unfold maxLen; simp, Nat.le_refl _, .inl rfl⟩
  · simp at hcs
    subst hcs
    have hlm : len ≤ m := by rw [hmm]; split <;> omega
    have each : ∀ i, i < len → ∃ c : UInt8, w.cell? (a'.add i) = some (.int .u8 (c.toNat : Int)) := by
      intro i hi
      obtain ⟨cs', h1, h2⟩ := hx i (by omega)
      rw [cells_byteA] at h1
      obtain ⟨_, hlen, hcell⟩ := World.cells?_some h1
      match cs', hlen with
      | [v0], _ =>
        obtain ⟨n0, e0, _, hr⟩ := DataW.trod_int Tryz.underlying5 h2
        simp at e0
        subst e0
        have c0 := hcell 0 (by omega)
        have hr' : 0 ≤ n0 ∧ n0 ≤ 255 := by
          have hr2 := Bool.and_eq_true_iff.1 hr
          exact ⟨of_decide_eq_true hr2.1, of_decide_eq_true hr2.2⟩
        obtain ⟨v, rfl⟩ := Int.eq_ofNat_of_zero_le hr'.1
        rw [Nat.mul_one] at c0
        refine ⟨UInt8.ofNat v, ?_⟩
        rw [UInt8.toNat_ofNat', Nat.mod_eq_of_lt (by omega)]
        simpa [Addr.add] using c0
    obtain ⟨bs, hbl, hbs⟩ := choose_byte each
    refine ⟨some a', cap, bs, by rw [hbl], by omega, by omega, ?_⟩
    by_cases h0 : len = 0
    · exact .inl (List.eq_nil_of_length_eq_zero (by omega))
    · have hc0 := hbs 0 (by omega)
      obtain ⟨b, off, spot⟩ := a'
      have hspot : spot = none := by simpa [Addr.add] using World.cell?_spot hc0
      subst hspot
      refine .inr ⟨b, off, rfl, lt_of_cell0 (by simpa [Addr.add] using hc0), ?_⟩
      intro i hi
      have h2 := hbs i hi
      by_cases e : i = 0
      · subst e; simpa [Addr.add] using h2
      · simpa [Addr.add, e] using h2
theorem open_byteS {H : Type} {enc : TypeId × Value → H} {w : World} {base : Nat} {spare : Nat → Bool} {held : Bool} {a : Option Addr} {len cap : Nat} {d : DataW H} {p : List MemPlace}
    (h : DataW.Trod enc Tryz.prog w base spare held 22 (.slice a len cap) d p) :
    ∃ bs : List UInt8, bs.length = len ∧ len ≤ maxLen ∧ len ≤ cap ∧ ByIn w a bs := by
  obtain ⟨fuel, hf⟩ := h
  obtain ⟨a', cap', bs, e, h1, h2, h3⟩ := open_byte_cell (c := .slice a len cap) (by simpa [Value.cells] using hf)
  simp only [Value.slice.injEq] at e
  obtain ⟨rfl, rfl, rfl⟩ := e
  exact ⟨bs, rfl, h1, h2, h3⟩
end Go.Proofs.YtjfebnplffpmoaaGreatDoor
