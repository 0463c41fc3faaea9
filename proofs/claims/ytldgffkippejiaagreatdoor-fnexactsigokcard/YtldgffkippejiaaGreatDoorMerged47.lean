/-
  What the rows' list says of the program's table: its cells hold it.
-/
/-
  The names that a form asks for, sorted, each once; TreeFree of the program.
-/
/-
  Both sides' free names, told by one relation on the nodes.
-/
import Derived.Test.YtldgffkippejiaaGreatDoorMerged7
import Derived.Test.YtldgffkippejiaaGreatDoorRows
import Derived.OpenShut
import Derived.Lib.LaidTab
import Derived.Test.YtldgffkippejiaaGreatDoorImplLoop
import Derived.Sort.OwnSorted
import Derived.Sort.Grow
import Derived.Lib.OwnBridge
namespace Go.Proofs.YtldgffkippejiaaGreatDoor
open Go.RowKit Go.Maps

theorem lt_of_cellL {w : World} {b off : Nat} {v : Value} (h : w.cell? ⟨b, off, none⟩ = some v) : b < w.heap.size := by
  by_cases hb : b < w.heap.size
  · exact hb
  · exfalso
    have : w.heap[b]? = none := Array.getElem?_eq_none (by omega)
    simp [World.cell?, this] at h
theorem gShapesType : (Tryz.prog.globals[1]?).map (·.type) = some 165 := by kernel_rfl
theorem cells_shape : Tryz.prog.cellsOf 164 = 3 := by kernel_rfl
theorem cells_shapes : Tryz.prog.cellsOf 165 = 72 := by kernel_rfl
theorem cells_i : Tryz.prog.cellsOf 3 = 1 := by kernel_rfl
theorem cells_s : Tryz.prog.cellsOf 9 = 1 := by kernel_rfl
def shapeData {H : Type} (r : Int × Int × ByteArray) : DataW H := .agg [.lit (.int .i64 r.1), .lit (.int .i64 r.2.1), .lit (.string r.2.2.data.toList)]
theorem laid_eq {H : Type} : Rows.laid_loop_example_headrace_impl_shapes (H := H) = .agg (shapesL.map shapeData) := rfl

set_option maxRecDepth 100000 in
theorem shapes_of_vars {W : World} {name : String} {rest : List (String × DataW Unit)} {ps : List MemPlace} (hg : Tryz.prog.globalNamed name = some 1) (h : DataW.LaidVars Tryz.prog W ((name, Rows.laid_loop_example_headrace_impl_shapes) :: rest) ps) : ShapesIn W := by
  obtain ⟨g', t', cs, fuel, p, q, hg', ht', hvar, hd, _, _⟩ := h
  obtain rfl := Option.some.inj (hg.symm.trans hg')
  obtain rfl := Option.some.inj (gShapesType.symm.trans ht')
  rw [laid_eq] at hd
  have hcell := World.var?_cell hg hvar
  obtain ⟨xs, m, _, hx, hlen, hxl, hf⟩ := DataW.trod_array Tryz.underlying165 hd
  have hxs : shapesL.map (shapeData (H := Unit)) = xs.map (·.1) := by
    have := congrArg Prod.fst hx
    simpa using this
  have key : ∀ i (hi : i < shapesL.length), cs.toList[i * 3]? = some (.int .i64 shapesL[i].1) ∧ cs.toList[i * 3 + 1]? = some (.int .i64 shapesL[i].2.1) ∧ cs.toList[i * 3 + 2]? = some (.string shapesL[i].2.2) := by
    intro i hi
    have hi' : i < 24 := by rw [shapes_len] at hi; exact hi
    have hfi := hf i hi'
    rw [List.getElem?_eq_getElem (by omega), cells_shape] at hfi
    have h2 : xs[i].1 = shapeData shapesL[i] := by
      have h3 := congrArg (·[i]?) hxs
      simp only [List.getElem?_map, List.getElem?_eq_getElem hi, List.getElem?_eq_getElem (show i < xs.length by omega), Option.map_some, Option.some.injEq] at h3
      exact h3.symm
    generalize shapesL[i] = row at h2 ⊢
    obtain ⟨ys, n, _, hy, hl3, hyl, hfs⟩ := DataW.trod_struct Tryz.underlying164 hfi
    generalize hcs : List.take 3 (List.drop (i * 3) cs.toList) = c3 at *
    rw [cells_shape] at hl3
    match ys, hyl, c3, hl3, hcs with
    | [y0, y1, y2], _, [v0, v1, v2], _, hcs =>
      have g0 := hfs 0 _ rfl
      have g1 := hfs 1 _ rfl
      have g2 := hfs 2 _ rfl
      simp [cells_i, cells_s] at g0 g1 g2
      obtain ⟨n0, e0, z0, _⟩ := DataW.trod_int Tryz.underlying3 g0
      obtain ⟨n1, e1, z1, _⟩ := DataW.trod_int Tryz.underlying3 g1
      obtain ⟨s2, e2, z2, _⟩ := DataW.trod_string Tryz.underlying9 g2
      rw [hy] at h2
      subst z0 z1 z2
      simp only [shapeData, List.map_cons, List.map_nil, DataW.agg.injEq, List.cons.injEq, DataW.lit.injEq, Lit.int.injEq, Lit.string.injEq, true_and, and_true] at h2 e0 e1 e2
      obtain ⟨q0, q1, q2⟩ := h2
      subst e0 e1 e2
      obtain ⟨r0, r1, r2⟩ := row
      simp only at q0 q1 q2 ⊢
      subst q0 q1
      have hs2 : s2 = r2 := by cases s2; cases r2; simp_all
      subst hs2
      have at' : ∀ k, k < 3 → cs.toList[i * 3 + k]? = (List.take 3 (List.drop (i * 3) cs.toList))[k]? := by
        intro k hk
        rw [List.getElem?_take, if_pos hk, List.getElem?_drop]
      refine ⟨?_, ?_, ?_⟩
      · have := at' 0 (by omega); rw [hcs] at this; simpa using this
      · have := at' 1 (by omega); rw [hcs] at this; simpa using this
      · have := at' 2 (by omega); rw [hcs] at this; simpa using this
  have hc' : ∀ k, W.cell? ⟨1, k, none⟩ = cs.toList[k]? := fun k => by rw [hcell k]; simp
  refine ⟨?_, fun k hk => ?_⟩
  · have := (key 0 (by rw [shapes_len]; omega)).1
    rw [← hc'] at this
    exact lt_of_cellL this
  · obtain ⟨a, b, c⟩ := key k hk
    exact ⟨(hc' _).trans a, (hc' _).trans b, (hc' _).trans c⟩

theorem shapes_of_laid {W : World} {name : String} {rest : List (String × DataW Unit)} (hg : Tryz.prog.globalNamed name = some 1) (h : laidMet Tryz.prog ((name, Rows.laid_loop_example_headrace_impl_shapes) :: rest) W) : ShapesIn W := by
  obtain ⟨ps, h, _⟩ := h
  exact shapes_of_vars hg h
end Go.Proofs.YtldgffkippejiaaGreatDoor

set_option linter.unusedVariables false
namespace Go.Proofs.YtldgffkippejiaaGreatDoor
open Go.RowKit Go.Maps Go.Deep Go.Sort

theorem str_rows (L : List ByteArray) : L.map Value.string = (L.map key).map encStr := (Lib.map_encStr L).symm

/-- what sorting and compacting leave -/
theorem names_left {w w1 : World} {g cap nn q : Nat} {os : Array Obj} {L : List ByteArray} (hown : w1.ownsRow w.heap.size 9 1 (.slice (some ⟨g, 0, none⟩) L.length cap) L.length (L.map .string)) (hbel : Below w.heap.size w w1) :
    StrRow w.heap.size (putRow encStr (Sort.ahead (grow (putRow encStr (Sort.ahead w1 nn) g 0 ((L.map key).mergeSort fun x y => decide (x ≤ y)).toArray) os) q) g 0 (Lib.compact ((L.map key).mergeSort fun x y => decide (x ≤ y)) ++ List.replicate (L.length - (Lib.compact ((L.map key).mergeSort fun x y => decide (x ≤ y))).length) []).toArray)
      (.slice (some ⟨g, 0, none⟩) (Lib.compact ((L.map key).mergeSort fun x y => decide (x ≤ y))).length cap) (L.foldl addS []) ∧
    Below w.heap.size w (putRow encStr (Sort.ahead (grow (putRow encStr (Sort.ahead w1 nn) g 0 ((L.map key).mergeSort fun x y => decide (x ≤ y)).toArray) os) q) g 0 (Lib.compact ((L.map key).mergeSort fun x y => decide (x ≤ y)) ++ List.replicate (L.length - (Lib.compact ((L.map key).mergeSort fun x y => decide (x ≤ y))).length) []).toArray) := by
  have hlen : (L.map key).length = L.length := List.length_map ..
  have hl2 : ((L.map key).mergeSort fun x y => decide (x ≤ y)).length = (L.map key).length := List.length_mergeSort _
  have hle := Lib.compact_length_le ((L.map key).mergeSort fun x y => decide (x ≤ y))
  rw [str_rows] at hown
  rcases hown.2 with ⟨h0, _⟩ | ⟨g', cap', cur, hv, hbase, hb, h1, h2, h3, h4⟩
  · cases h0
  cases hv
  have hs := ownsRow_sorted (n := nn) (os := os) (ts := (L.map key).mergeSort fun x y => decide (x ≤ y)) hl2 hbase hb (by rw [hlen]; exact h1) h2 h3
  have hc := Lib.ownsRow_putRow (q := q) (k := (Lib.compact ((L.map key).mergeSort fun x y => decide (x ≤ y))).length) (ys := Lib.compact ((L.map key).mergeSort fun x y => decide (x ≤ y)) ++ List.replicate (L.length - (Lib.compact ((L.map key).mergeSort fun x y => decide (x ≤ y))).length) []) hs (by simp; omega) (by omega)
  rw [List.take_left] at hc
  refine ⟨?_, Lib.below_putRow (hbel.grown (grownBy_sorted _) hbel.size (fun j hj => by cases hj; exact hbase)) hbase⟩
  have e := sort_compact L
  unfold StrRow
  rw [str_rows, ← e]
  have e2 : (L.foldl addS []).length = (Lib.compact ((L.map key).mergeSort fun x y => decide (x ≤ y))).length := by rw [e, List.length_map]
  rw [e2]
  exact hc

/-- the names come back in a row of the call's own -/
def RetNames (w : World) (ts : List ByteArray) (e : Ending) (w' : World) : Prop := ∃ v, e = .returned v ∧ StrRow w.heap.size w' v ts ∧ Below w.heap.size w w'
set_option maxRecDepth 100000 in
set_option maxHeartbeats 1600000 in
theorem freeNames_any (x : NodeV) (l : BT NodeV) (w : World) (B : Nat) (v : Value) (ws : List Value) (hf : FormsAre B w l ws) (hn : IsNode B w x ws v) (hd : dp l ≤ 800) (hl : (fl l).length + 1 ≤ 1000) :
    Calls Tryz.prog 46 #[v] w fun e w' => RetNames w ((freeT x l []).foldl addS []) e w' := by
  have HK := hide (free_any x l w w B v ws (.slice none 0 0) [] (.slice none 0 0) [] hf hn (Below.refl _ _) (.inl ⟨rfl, rfl⟩) (fun g hg => by cases hg) (StrRow.nil _ _) (by simpa using hd) (by simp; omega))
  have hfl := freeT_len x l []
  obtain ⟨tv, uv, rfl⟩ := hn.iface
  generalize freeT x l [] = L at HK hfl
  clear hf hn
  go_enter Tryz.func46, Tryz.ntmps46
  go_wp2_with fail
  refine (unhide HK).mono ?_
  rintro e w1 ⟨nv, rfl, HP⟩
  have HR := hide (show StrRow w.heap.size w1 nv L from (unhide HP).1)
  have HB := hide ((unhide HP).2.below (Below.refl _ _) (fun g hg => by cases hg))
  by_cases h0 : L = []
  · subst h0
    obtain ⟨p, cap, rfl⟩ : ∃ p cap, nv = .slice p 0 cap := by
      rcases (unhide HR).2 with ⟨rfl, _⟩ | ⟨g, cap, cur, rfl, _⟩
      · exact ⟨_, _, rfl⟩
      · exact ⟨_, _, rfl⟩
    have c1 := hide (Tryz.slices_Sort_string_none p cap w1)
    have c2 := hide (Tryz.slices_Compact_string_empty p cap w1)
    go_wp2_with (first
      | (go_at_call 65; refine (unhide c1).mono ?_; rintro e w2 ⟨rfl, rfl⟩)
      | (go_at_call 66; refine (unhide c2).mono ?_; rintro e w3 ⟨rfl, rfl⟩)
      | fail)
    go_ret
    exact ⟨_, rfl, unhide HR, unhide HB⟩
  · have h1 : 1 ≤ L.length := by
      cases L with
      | nil => exact absurd rfl h0
      | cons _ _ => simp
    have hown : w1.ownsRow w.heap.size 9 1 nv L.length ((L.map key).map encStr) := by rw [← str_rows]; exact unhide HR
    obtain ⟨g, cap, rfl, hbg, hgl, hncap, hcm, hlen, hH⟩ := Lib.holds_of_ownsRow hown (by
      intro e
      subst e
      rcases hown.2 with ⟨_, h⟩ | ⟨g, cap, cur, h, _⟩
      · omega
      · cases h)
    have hl2 : ((L.map key).mergeSort fun x y => decide (x ≤ y)).length = L.length := by rw [List.length_mergeSort, List.length_map]
    have c1 := Tryz.slices_Sort_string g 0 cap (L.map key) w1 hH hgl (by omega)
    rw [hlen] at c1
    have c2 := fun nn os => Tryz.slices_Compact_string g 0 cap ((L.map key).mergeSort fun x y => decide (x ≤ y)) (grow (putRow encStr (Sort.ahead w1 nn) g 0 ((L.map key).mergeSort fun x y => decide (x ≤ y)).toArray) os)
      (holds_grow encStr _ os g 0 _ (by simpa [putRow, mapBlock, Sort.ahead] using hgl) (holds_putRow encStr _ g 0 _ _ (holds_ahead encStr w1 nn g 0 _ hH) (by simp))) (by omega) (by omega)
    rw [hl2] at c2
    have C1 := hide c1
    have C2 := hide c2
    have HF := hide (fun nn os q => names_left (nn := nn) (os := os) (q := q) (show w1.ownsRow w.heap.size 9 1 (.slice (some ⟨g, 0, none⟩) L.length cap) L.length (L.map .string) by rw [str_rows]; exact hown) (unhide HB))
    clear hown hH c1 c2 hl2 hlen h0
    go_wp2_with (first
      | (go_at_call 65; refine (unhide C1).mono ?_; rintro e w2 ⟨rfl, nn, os, hw2⟩; have C3 := hide (unhide C2 nn os); rw [← hw2] at C3; have HW2 := hide hw2; clear hw2)
      | (go_at_call 66; refine (unhide C3).mono ?_; rintro e w3 ⟨rfl, q, hw3⟩; have HW3 := hide hw3; clear hw3)
      | fail)
    go_ret
    refine ⟨_, rfl, ?_⟩
    have := unhide HF nn os q
    rw [unhide HW3, unhide HW2]
    exact this
end Go.Proofs.YtldgffkippejiaaGreatDoor

set_option linter.unusedVariables false
namespace Go.Proofs.YtldgffkippejiaaGreatDoor
open Go.RowKit Go.Maps Go.Deep

theorem same_free (f : BT NodeV) : ∀ (g : BT NodeV) (r r' : List NodeV), kok f → kok g → cnt f = cnt g → fl f ++ r = fl g ++ r' → (∀ bf i, freeF f bf i = freeF g bf i) ∧ r = r' := by
  induction f with
  | nil =>
    intro g r r' _ _ hc h
    cases g with
    | nil => exact ⟨fun _ _ => rfl, by simpa [fl] using h⟩
    | node b o x l s => simp [cnt] at hc
  | node b o x l s ihl ihs =>
    intro g r r' hf hg hc h
    cases g with
    | nil => simp [cnt] at hc
    | node b' o' x' l' s' =>
      simp only [fl, List.cons_append, List.append_assoc, List.cons.injEq] at h
      obtain ⟨rfl, h⟩ := h
      obtain ⟨h1, h2⟩ := ihl l' _ _ hf.2.1 hg.2.1 (by have := hf.1; have := hg.1; omega) h
      obtain ⟨h3, h4⟩ := ihs s' _ _ hf.2.2 hg.2.2 (by simp [cnt] at hc; omega) h2
      exact ⟨fun bf i => by rw [freeF_node, freeF_node, h3]; unfold freeT; rw [h1], h4⟩
/-- these are the names that the nodes ask for -/
def FreeIs (ns : List NodeV) (ts : List ByteArray) : Prop := (∃ x l, OkAt ns x l ∧ ts = (freeT x l []).foldl addS []) ∨ (¬ OkTree ns ∧ ts = [])
theorem free_same {ns : List NodeV} {s t : List ByteArray} (h : FreeIs ns s) (h' : FreeIs ns t) : t = s := by
  rcases h with ⟨x, l, hok, rfl⟩ | ⟨hno, rfl⟩
  · rcases h' with ⟨y, m, hok', rfl⟩ | ⟨hno, rfl⟩
    · have e := hok'.eq.symm.trans hok.eq
      injection e with e1 e2
      subst e1
      have hc : cnt m = cnt l := by have a := hok.kids; have b := hok'.kids; omega
      have := (same_free m l [] [] hok'.kok hok.kok hc (by rw [List.append_nil, List.append_nil]; exact e2)).1
      unfold freeT
      rw [this]
    · exact absurd ⟨x, l, hok⟩ hno
  · rcases h' with ⟨y, m, hok', rfl⟩ | ⟨_, rfl⟩
    · exact absurd ⟨y, m, hok'⟩ hno
    · rfl
theorem free_short {ns : List NodeV} {s : List ByteArray} (h : FreeIs ns s) : s.length ≤ 1000 := by
  rcases h with ⟨x, l, hok, rfl⟩ | ⟨_, rfl⟩
  · have h1 := fold_len (freeT x l []) []
    have h2 := freeT_len x l []
    have h3 := hok.size
    rw [hok.eq] at h3
    simp at h1 h3
    omega
  · simp

theorem specFree_is (w : World) (b off cap : Nat) (ns : List NodeV) (hl : ns.length ≤ 1048576) (hc : NodesAt w b off ns) (hb : b < w.heap.size) (hs : NamesOk ns) :
    Calls Tryz.prog 15 #[.slice (some ⟨b, off, none⟩) ns.length cap] w fun e w' => ∃ v ts, e = .returned v ∧ Hid (FreeIs ns ts) ∧ Hid (StrAt w' v ts) ∧ Below w.heap.size w w' :=
  (specFree_any w b off cap ns hl hc hb hs).mono fun e w' ⟨h, hb⟩ => by
    rcases h with ⟨x, l, hok, v, rfl, hv⟩ | ⟨hno, rfl⟩
    · exact ⟨v, _, rfl, .inl ⟨x, l, hok, rfl⟩, hv, hb⟩
    · exact ⟨_, [], rfl, .inr ⟨hno, rfl⟩, StrAt.nil _, hb⟩
set_option maxHeartbeats 1600000 in
theorem implFree_is (w : World) (b off cap : Nat) (ns : List NodeV) (hl : ns.length ≤ 1048576) (hc : NodesAt w b off ns) (hb : b < w.heap.size) (hs : NamesOk ns) (hsh : ShapesIn w) :
    Calls Tryz.prog 27 #[.slice (some ⟨b, off, none⟩) ns.length cap] w fun e w' => ∃ v ts, e = .returned v ∧ Hid (FreeIs ns ts) ∧ Hid (StrRow w.heap.size w' v ts) ∧ Below w.heap.size w w' := by
  have HC := hide hc
  have HSH := hide hsh
  clear hc hsh
  go_enter Tryz.func27, Tryz.ntmps27
  go_wp2_with fail
  refine (treeOf_any w b off cap ns hl (unhide HC) hb hs (unhide HSH)).mono ?_
  rintro e w1 ⟨⟨x, l, v, ws, hok, rfl, hfs, hnode⟩ | ⟨hno, rfl⟩, hb1⟩
  · have hln : (fl l).length + 1 ≤ 400 := by
      have h1 := hok.size
      rw [hok.eq] at h1
      simpa using h1
    have hdp := hok.deep
    obtain ⟨tv, uv, rfl⟩ := hnode.iface
    have HK := hide (freeNames_any x l w1 _ _ ws hfs hnode (by omega) (by omega))
    have HOK := hide hok
    have HB1 := hide hb1
    clear hfs hnode hok hb1
    go_wp2_with (first
      | (go_at_call 46; refine (unhide HK).mono ?_; rintro e w2 ⟨v2, rfl, hr2, hb2⟩; have HR2 := hide hr2; have HB2 := hide hb2; clear hr2 hb2)
      | fail)
    go_ret
    refine ⟨_, _, rfl, .inl ⟨x, l, unhide HOK, rfl⟩, ?_, (unhide HB1).trans ((unhide HB2).mono (unhide HB1).size)⟩
    have h := unhide HR2
    refine ⟨h.1, ?_⟩
    rcases h.2 with h0 | ⟨g, cap', cur, hv, hB, r⟩
    · exact .inl h0
    · exact .inr ⟨g, cap', cur, hv, Nat.le_trans (unhide HB1).size hB, r⟩
  · have HNO := hide hno
    have HB1 := hide hb1
    clear hno hb1
    go_wp2_with fail
    go_ret
    exact ⟨_, [], rfl, .inr ⟨unhide HNO, rfl⟩, StrRow.nil _ _, unhide HB1⟩
end Go.Proofs.YtldgffkippejiaaGreatDoor
