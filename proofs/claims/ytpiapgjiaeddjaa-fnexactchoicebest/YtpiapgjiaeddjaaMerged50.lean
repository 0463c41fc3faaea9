/-
  Marks over a list of marks, found again.
-/
/-
  One item's marks written, and found again.
-/
/-
  The marks of a list of items written, and found again; one item as an answer of one's own.
-/
import Derived.Test.YtpiapgjiaeddjaaMarkRowsOwn
import Derived.Deep.RegionHeld3
import Derived.Test.YtpiapgjiaeddjaaMerged19
import Derived.Test.YtpiapgjiaeddjaaItemFull
set_option linter.unusedVariables false
namespace Go.Proofs.Ytpiapgjiaeddjaa
open Go.RowKit Go.Maps Go.Deep

end Go.Proofs.Ytpiapgjiaeddjaa

set_option linter.unusedVariables false
namespace Go.Proofs.Ytpiapgjiaeddjaa
open Go.RowKit Go.Maps Go.Deep

end Go.Proofs.Ytpiapgjiaeddjaa

set_option linter.unusedVariables false
namespace Go.Proofs.Ytpiapgjiaeddjaa
open Go.RowKit Go.Maps Go.Deep

/-- how many marks items take -/
def nItemF (ns : List ItemV) : Nat := (ns.map (fun x => 1 + nMarkS x.a1)).sum
/-- the items with marks from k on -/
def marksItemF : Nat → List ItemV → List ItemV
  | _, [] => []
  | k, x :: xs => ⟨(k : Int), marksMarkS (k + 1) x.a1⟩ :: marksItemF (k + (1 + nMarkS x.a1)) xs
theorem marksItemF_len (k : Nat) (ns : List ItemV) : (marksItemF k ns).length = ns.length := by
  induction ns generalizing k with
  | nil => rfl
  | cons x xs ih => simp [marksItemF, ih]
theorem marksItemF_get (k : Nat) (ns : List ItemV) (i : Nat) (h : i < ns.length) : (marksItemF k ns)[i]? = some ⟨((k + nItemF (ns.take i) : Nat) : Int), marksMarkS (k + nItemF (ns.take i) + 1) ns[i].a1⟩ := by
  induction ns generalizing k i with
  | nil => simp at h
  | cons x xs ih =>
    match i, h with
    | 0, _ => simp [marksItemF, nItemF]
    | i + 1, h =>
      simp only [marksItemF, List.getElem?_cons_succ, List.take_succ_cons, List.getElem_cons_succ]
      rw [ih _ i (by simpa using h)]
      simp only [nItemF, List.map_cons, List.sum_cons]
      rw [show k + (1 + nMarkS x.a1) + ((xs.take i).map (fun x => 1 + nMarkS x.a1)).sum = k + (1 + nMarkS x.a1 + ((xs.take i).map (fun x => 1 + nMarkS x.a1)).sum) by omega]
theorem nItemF_take (ns : List ItemV) (i : Nat) (h : i < ns.length) : nItemF (ns.take (i + 1)) = nItemF (ns.take i) + 1 + nMarkS ns[i].a1 := by
  unfold nItemF
  rw [List.take_succ_eq_append_getElem h, List.map_append, List.sum_append]
  simp only [List.map_cons, List.map_nil, List.sum_cons, List.sum_nil]
  omega
theorem nItemF_le' (ns : List ItemV) (hs : ∀ x ∈ ns, SmallItem x) : nItemF ns ≤ ns.length * 2097153 := by
  induction ns with
  | nil => simp [nItemF]
  | cons x xs ih =>
    have h1 := ih (fun y hy => hs y (List.mem_cons_of_mem _ hy))
    have h2 := (hs x (List.mem_cons_self)).2.1.1
    unfold nItemF at h1 ⊢
    simp only [List.map_cons, List.sum_cons, List.length_cons, nMarkS] at h1 ⊢
    omega
theorem nItemF_le {ns : List ItemV} (hs : SmallItemS ns) : nItemF ns ≤ 10000000000000 := by
  have := nItemF_le' ns hs.2
  have := hs.1
  omega
theorem nItemF_take_le {ns : List ItemV} (hs : SmallItemS ns) (i : Nat) : nItemF (ns.take i) ≤ 10000000000000 := by
  have := nItemF_le' (ns.take i) (fun x hx => hs.2 x (List.mem_of_mem_take hx))
  have := hs.1
  have : (ns.take i).length ≤ ns.length := by simp; omega
  omega
/-- the first j are marked -/
def mtItemF (ns : List ItemV) (k j : Nat) : List ItemV := (marksItemF k ns).take j ++ ns.drop j
theorem mtItemF_len (ns : List ItemV) (k j : Nat) (h : j ≤ ns.length) : (mtItemF ns k j).length = ns.length := by simp [mtItemF, marksItemF_len]; omega
theorem mtItemF_at (ns : List ItemV) (k j : Nat) (h : j < ns.length) : (mtItemF ns k j)[j]? = some ns[j] := by
  unfold mtItemF
  rw [List.getElem?_append_right (by simp [marksItemF_len]; omega)]
  simp [marksItemF_len, Nat.min_eq_left (Nat.le_of_lt h), List.getElem?_eq_getElem h]
theorem mtItemF_step (ns : List ItemV) (k j : Nat) (h : j < ns.length) : (mtItemF ns k j).set j ⟨((k + nItemF (ns.take j) : Nat) : Int), marksMarkS (k + nItemF (ns.take j) + 1) ns[j].a1⟩ = mtItemF ns k (j + 1) := by
  have hl := marksItemF_len k ns
  unfold mtItemF
  have e1 : (marksItemF k ns).take (j + 1) = (marksItemF k ns).take j ++ [⟨((k + nItemF (ns.take j) : Nat) : Int), marksMarkS (k + nItemF (ns.take j) + 1) ns[j].a1⟩] := by
    rw [List.take_succ_eq_append_getElem (by omega)]
    have := marksItemF_get k ns j h
    rw [List.getElem?_eq_getElem (by omega)] at this
    rw [Option.some.inj this]
  rw [e1, List.set_append_right _ _ (by rw [List.length_take, hl]; omega), List.append_assoc]
  congr 1
  rw [List.drop_eq_getElem_cons h, List.length_take, hl, Nat.min_eq_left (Nat.le_of_lt h), Nat.sub_self]
  rfl
theorem mtItemF_all (ns : List ItemV) (k : Nat) : mtItemF ns k ns.length = marksItemF k ns := by
  unfold mtItemF
  rw [List.drop_length, List.append_nil, ← marksItemF_len k ns, List.take_length]
theorem mtItemF_zero (ns : List ItemV) (k : Nat) : mtItemF ns k 0 = ns := by simp [mtItemF]
/-- one item of the row is written anew: its number in the row, its marks in their own blocks -/
theorem ItemRowOwn.step {S : List Nat} {w w2 : World} {b off : Nat} {ns : List ItemV} {G : Nat → List Nat} (h : ItemRowOwn S w b off ns G) (hl : ∀ k ∈ S, k < w.heap.size) {j : Nat} (hj : j < ns.length) (n : Int) (ms : List MarkV) (u : Value)
    (hu : w.cell? ⟨b, off + j * 2 + 1, none⟩ = some u) (ht : Turn (G j) (w.setCell ⟨b, off + j * 2, none⟩ (.int .i64 n)) w2) (hm : MarkSOwn (G j) w2 u ms) : ItemRowOwn S w2 b off (ns.set j ⟨n, ms⟩) G ∧ Turn S w w2 := by
  have hb := hl b h.mem
  have hbj : b ∉ G j := (h.at' j hj).2.1
  have hsz : b < (w.setCell ⟨b, off + j * 2, none⟩ (.int .i64 n)).heap.size := by simpa using hb
  have t1 : Turn S w (w.setCell ⟨b, off + j * 2, none⟩ (.int .i64 n)) := (Turn.refl S w).setCell h.mem _ _
  have t2 : Turn [b] w (w.setCell ⟨b, off + j * 2, none⟩ (.int .i64 n)) := (Turn.refl [b] w).setCell (by simp) _ _
  have cell : ∀ i, w2.cell? ⟨b, i, none⟩ = (w.setCell ⟨b, off + j * 2, none⟩ (.int .i64 n)).cell? ⟨b, i, none⟩ := fun i => ht.cell hsz hbj
  have oth : ∀ i, i ≠ off + j * 2 → w2.cell? ⟨b, i, none⟩ = w.cell? ⟨b, i, none⟩ := fun i hi => (cell i).trans (World.cell?_setCell_other _ _ _ _ (by intro e; exact hi (congrArg Addr.off e).symm))
  have hlen : (ns.set j ⟨n, ms⟩).length = ns.length := by simp
  refine ⟨⟨h.mem, fun i hi => h.sub i (by rw [← hlen]; exact hi), fun i hi => ?_, by rw [hlen]; exact h.apart, fun i hi => ?_⟩, ?_⟩
  · rw [ht.frozen hsz hbj, World.frozen?_setCell]
    exact h.fz i (by rw [hlen] at hi; exact hi)
  · have hi' : i < ns.length := by rw [← hlen]; exact hi
    obtain ⟨c0, hg, v, c1, hv⟩ := h.at' i hi'
    by_cases e : i = j
    · subst e
      simp only [List.getElem_set_self]
      refine ⟨?_, hg, u, ?_, hm⟩
      · rw [cell]
        exact World.cell?_setCell_same _ _ _ c0
      · rw [oth _ (by omega)]; exact hu
    · rw [List.getElem_set_ne (by omega)]
      refine ⟨?_, hg, v, ?_, (hv.turn t2 (fun k hk => by simp; intro e2; subst e2; exact hg hk)).turn ht (fun k hk => h.apart i j hi' hj e k hk)⟩
      · rw [oth _ (by omega)]; exact c0
      · rw [oth _ (by omega)]; exact c1
  · exact t1.trans (ht.mono (fun k hk => .inl (h.sub j hj k hk)))
set_option maxHeartbeats 6400000 in
theorem markItemF_row (S : List Nat) (w : World) (b off cap : Nat) (ns : List ItemV) (G : Nat → List Nat) (k : Nat) (hk : k ≤ 100000000000000) (hs : SmallItemS ns) (hl : ∀ k ∈ S, k < w.heap.size) (h : ItemRowOwn S w b off ns G) :
    Calls Try.prog 23 #[.slice (some ⟨b, off, none⟩) ns.length cap, .int .i64 (k : Int)] w fun e w' => e = .returned (.int .i64 ((k + nItemF ns : Nat) : Int)) ∧ Hid (ItemRowOwn S w' b off (marksItemF k ns) G ∧ Turn S w w') := by
  have HS := hide hs
  have HL := hide hl
  have hlen := hs.1
  have HO := hide h
  clear hs hl h
  go_enter Try.func23, Try.ntmps23
  go_wp2_with fail
  go_loopw [1, 5] (fun kv i wr => ∃ (j q : Nat), j ≤ ns.length ∧ i = .int .i64 j ∧ kv = .int .i64 (q : Int) ∧ Hid (q = k + nItemF (ns.take j)) ∧ Hid (ItemRowOwn S wr b off (mtItemF ns k j) G ∧ Turn S w wr)) (fun _ i _ => ns.length - (intOf i).toNat)
  case atStart => exact ⟨0, k, Nat.zero_le _, rfl, rfl, by simp [nItemF, Hid], hide ⟨by rw [mtItemF_zero]; exact unhide HO, Turn.refl _ _⟩⟩
  case round =>
    obtain ⟨j, q, hj, rfl, rfl, HQ, HR⟩ := hrel
    by_cases hlt : j < ns.length
    · have hq : q ≤ 200000000000000 := by have := unhide HQ; have := nItemF_take_le (unhide HS) j; omega
      have hxl := mtItemF_len ns k j (by omega)
      have hjx : j < (mtItemF ns k j).length := by omega
      have hat : (mtItemF ns k j)[j] = ns[j] := Option.some.inj ((List.getElem?_eq_getElem hjx).symm.trans (mtItemF_at ns k j hlt))
      have HLr := hide (show ∀ k ∈ S, k < wr.heap.size from fun k hk => Nat.lt_of_lt_of_le (unhide HL k hk) (unhide HR).2.size)
      obtain ⟨c0, hg, v, c1, hv⟩ := (unhide HR).1.at' j hjx
      have f0 := (unhide HR).1.fz (j * 2) (by omega)
      have hb := unhide HLr b (unhide HR).1.mem
      rw [hat] at hv
      have HN := hide (show q + 1 + nMarkS ns[j].a1 = k + nItemF (ns.take (j + 1)) by rw [nItemF_take ns j hlt, unhide HQ]; omega)
      have HV := hide (fun (W : World) (ht : Turn [b] wr W) => markMarkS_kit (G j) ns[j].a1 v W (q + 1) (nMarkS ns[j].a1) ((q : Int) + 1) (by omega) rfl (by omega) ((unhide HS).2 _ (List.getElem_mem hlt)).2 (hv.turn ht (fun k hk => by simp; intro e; subst e; exact hg hk)))
      have HST := hide (fun (W : World) (ht : Turn (G j) (wr.setCell ⟨b, off + j * 2, none⟩ (.int .i64 (q : Int))) W) (hm : MarkSOwn (G j) W v (marksMarkS (q + 1) ns[j].a1)) => (show ItemRowOwn S W b off (mtItemF ns k (j + 1)) G ∧ Turn S w W from by
        have e := (unhide HR).1.step (unhide HLr) hjx (q : Int) _ v c1 ht hm
        rw [show (⟨(q : Int), marksMarkS (q + 1) ns[j].a1⟩ : ItemV) = ⟨((k + nItemF (ns.take j) : Nat) : Int), marksMarkS (k + nItemF (ns.take j) + 1) ns[j].a1⟩ by rw [unhide HQ], mtItemF_step ns k j hlt] at e
        exact ⟨e.1, (unhide HR).2.trans e.2⟩))
      obtain ⟨va, vn, vc, rfl⟩ := hv.rd.form
      clear hv hat hxl
      generalize nMarkS ns[j].a1 = nn at *
      generalize marksMarkS (q + 1) ns[j].a1 = mm at *
      go_wp2_with fail
      refine (unhide HV _ ((Turn.refl _ _).setCell (by simp) _ _)).mono ?_
      rintro e w2 ⟨rfl, P⟩
      have HR2 := hide (unhide HST _ (unhide P).2 (unhide P).1)
      have hnn : nn ≤ 200000000000000 := by have := unhide HN; have := nItemF_take_le (unhide HS) (j + 1); omega
      clear P c0 c1 f0
      go_wp2_with fail
      go_roundw
      case rel => exact ⟨j + 1, q + 1 + nn, by omega, by go_num, by go_num, HN, HR2⟩
      case measure => simp [intOf]; omega
    · have e : j = ns.length := by omega
      subst e
      have HP := hide (show ItemRowOwn S wr b off (marksItemF k ns) G ∧ Turn S w wr by rw [← mtItemF_all]; exact unhide HR)
      have HE := hide (show q = k + nItemF ns by have := unhide HQ; rwa [List.take_length] at this)
      go_wp2_with fail
      go_ret
      exact ⟨by rw [unhide HE]; rfl, HP⟩
theorem markItemF_none (w : World) (a : Option Addr) (cap : Nat) (K : Int) : Calls Try.prog 23 #[.slice a 0 cap, .int .i64 K] w fun e w' => e = .returned (.int .i64 K) ∧ w' = w := by
  go_enter Try.func23, Try.ntmps23
  go_wp2
  refine wp_loop_rounds 1 ?_
  rw [rounds_succ]
  go_wp2
  go_ret
  exact ⟨rfl, rfl⟩
theorem markItemF_kit (S : List Nat) (ns : List ItemV) (v : Value) (w : World) (k n : Nat) (K : Int) (hK : K = (k : Int)) (hn : nItemF ns = n) (hk : k ≤ 100000000000000) (hs : SmallItemS ns) (h : ItemSFull S w v ns) :
    Calls Try.prog 23 #[v, .int .i64 K] w fun e w' => e = .returned (.int .i64 (K + (n : Int))) ∧ Hid (ItemSFull S w' v (marksItemF k ns) ∧ Turn S w w') := by
  subst hK hn
  obtain ⟨a, c, rfl, hc, hl, h⟩ := h
  rcases h with rfl | ⟨b, off, G, rfl, h⟩
  · refine (markItemF_none w a c k).mono ?_
    rintro e w' ⟨rfl, rfl⟩
    exact ⟨by simp [nItemF], hide ⟨⟨a, c, rfl, hc, hl, .inl rfl⟩, Turn.refl _ _⟩⟩
  · refine (markItemF_row S w b off c ns G k hk hs hl h).mono ?_
    rintro e w' ⟨rfl, P⟩
    have ht := (unhide P).2
    exact ⟨by rw [Int.natCast_add], hide ⟨⟨_, c, by rw [marksItemF_len], by rw [marksItemF_len]; exact hc, fun k hk => Nat.lt_of_lt_of_le (hl k hk) ht.size, .inr ⟨b, off, G, rfl, (unhide P).1⟩⟩, ht⟩⟩
end Go.Proofs.Ytpiapgjiaeddjaa
