/-
  The marks of a list of items written, and found again; one item as an answer of one's own.
-/
/-
  Lists of windows of one's own: the row's block, and blocks for each window; copied so, and their marks written.
-/
/-
  A list of bytes that comes in, opened.
-/
/-
  A region that draws its order and whose calls may make new blocks (and write into none that was there): walked once, in the order of the text, over the class of all later worlds.
-/
import Derived.Test.YtknkdbfgfcgkiaaGreatDoorMerged5
import Derived.Test.YtknkdbfgfcgkiaaGreatDoorMerged6
import Derived.Test.YtknkdbfgfcgkiaaGreatDoorMerged3
import Derived.ProofKit
import Derived.OpenShut
import Derived.BigQuiet
import Derived.Deep.QuietTactic
set_option linter.unusedVariables false
namespace Go.Proofs.YtknkdbfgfcgkiaaGreatDoor
open Go.RowKit Go.Maps Go.Deep

/-- how many marks items take -/
def nItemF (ns : List ItemV) : Nat := (ns.map (fun x => 1 + nMarkS x.a1)).sum
/-- the items with marks from k on -/
def marksItemF : Nat → List ItemV → List ItemV
 | _, [] => []
 | k, x :: xs => ⟨(k : Int), marksMarkS (k + 1) x.a1⟩ :: marksItemF (k + (1 + nMarkS x.a1)) xs
theorem marksItemF_len (k : Nat) (ns : List ItemV) : (marksItemF k ns).length = ns.length := by
 induction ns generalizing k with
 | nil => rfl
 | cons x xs ih => simp [marksItemF, ih]
theorem marksItemF_get (k : Nat) (ns : List ItemV) (i : Nat) (h : i < ns.length) : (marksItemF k ns)[i]? = some ⟨((k + nItemF (ns.take i) : Nat) : Int), marksMarkS (k + nItemF (ns.take i) + 1) ns[i].a1⟩ := by
 induction ns generalizing k i with
 | nil => simp at h
 | cons x xs ih =>
  match i, h with
  | 0, _ => simp [marksItemF, nItemF]
  | i + 1, h =>
   simp only [marksItemF, List.getElem?_cons_succ, List.take_succ_cons, List.getElem_cons_succ]
   rw [ih _ i (by simpa using h)]
   simp only [nItemF, List.map_cons, List.sum_cons]
   rw [show k + (1 + nMarkS x.a1) + ((xs.take i).map (fun x => 1 + nMarkS x.a1)).sum = k + (1 + nMarkS x.a1 + ((xs.take i).map (fun x => 1 + nMarkS x.a1)).sum) by omega]
theorem nItemF_take (ns : List ItemV) (i : Nat) (h : i < ns.length) : nItemF (ns.take (i + 1)) = nItemF (ns.take i) + 1 + nMarkS ns[i].a1 := by
 unfold nItemF
 rw [List.take_succ_eq_append_getElem h, List.map_append, List.sum_append]
 simp only [List.map_cons, List.map_nil, List.sum_cons, List.sum_nil]
 omega
theorem nItemF_le' (ns : List ItemV) (hs : ∀ x ∈ ns, SmallItem x) : nItemF ns ≤ ns.length * 2097153 := by
 induction ns with
 | nil => simp [nItemF]
 | cons x xs ih =>
  have h1 := ih (fun y hy => hs y (List.mem_cons_of_mem _ hy))
  have h2 := (hs x (List.mem_cons_self)).2.1.1
  unfold nItemF at h1 ⊢
  simp only [List.map_cons, List.sum_cons, List.length_cons, nMarkS] at h1 ⊢
  omega
theorem nItemF_take_le {ns : List ItemV} (hs : SmallItemS ns) (i : Nat) : nItemF (ns.take i) ≤ 10000000000000 := by
 have := nItemF_le' (ns.take i) (fun x hx => hs.2 x (List.mem_of_mem_take hx))
 have := hs.1
 have : (ns.take i).length ≤ ns.length := by simp; omega
 omega
/-- the first j are marked -/
def mtItemF (ns : List ItemV) (k j : Nat) : List ItemV := (marksItemF k ns).take j ++ ns.drop j
theorem mtItemF_len (ns : List ItemV) (k j : Nat) (h : j ≤ ns.length) : (mtItemF ns k j).length = ns.length := by simp [mtItemF, marksItemF_len]; omega
theorem mtItemF_at (ns : List ItemV) (k j : Nat) (h : j < ns.length) : (mtItemF ns k j)[j]? = some ns[j] := by
 unfold mtItemF
 rw [List.getElem?_append_right (by simp [marksItemF_len]; omega)]
 simp [marksItemF_len, Nat.min_eq_left (Nat.le_of_lt h), List.getElem?_eq_getElem h]
theorem mtItemF_step (ns : List ItemV) (k j : Nat) (h : j < ns.length) : (mtItemF ns k j).set j ⟨((k + nItemF (ns.take j) : Nat) : Int), marksMarkS (k + nItemF (ns.take j) + 1) ns[j].a1⟩ = mtItemF ns k (j + 1) := by
 have hl := marksItemF_len k ns
 unfold mtItemF
 have e1 : (marksItemF k ns).take (j + 1) = (marksItemF k ns).take j ++ [⟨((k + nItemF (ns.take j) : Nat) : Int), marksMarkS (k + nItemF (ns.take j) + 1) ns[j].a1⟩] := by
  rw [List.take_succ_eq_append_getElem (by omega)]
  have := marksItemF_get k ns j h
  rw [List.getElem?_eq_getElem (by omega)] at this
  rw [Option.some.inj this]
 rw [e1, List.set_append_right _ _ (by rw [List.length_take, hl]; omega), List.append_assoc]
 congr 1
 rw [List.drop_eq_getElem_cons h, List.length_take, hl, Nat.min_eq_left (Nat.le_of_lt h), Nat.sub_self]
 rfl
theorem mtItemF_all (ns : List ItemV) (k : Nat) : mtItemF ns k ns.length = marksItemF k ns := by
 unfold mtItemF
 rw [List.drop_length, List.append_nil, ← marksItemF_len k ns, List.take_length]
theorem mtItemF_zero (ns : List ItemV) (k : Nat) : mtItemF ns k 0 = ns := by simp [mtItemF]
/-- one item of the row is written anew: its number in the row, its marks in their own blocks -/
theorem ItemRowOwn.step {S : List Nat} {w w2 : World} {b off : Nat} {ns : List ItemV} {G : Nat → List Nat} (h : ItemRowOwn S w b off ns G) (hl : ∀ k ∈ S, k < w.heap.size) {j : Nat} (hj : j < ns.length) (n : Int) (ms : List MarkV) (u : Value)
  (hu : w.cell? ⟨b, off + j * 2 + 1, none⟩ = some u) (ht : Turn (G j) (w.setCell ⟨b, off + j * 2, none⟩ (.int .i64 n)) w2) (hm : MarkSOwn (G j) w2 u ms) : ItemRowOwn S w2 b off (ns.set j ⟨n, ms⟩) G ∧ Turn S w w2 := by
 have hb := hl b h.mem
 have hbj : b ∉ G j := (h.at' j hj).2.1
 have hsz : b < (w.setCell ⟨b, off + j * 2, none⟩ (.int .i64 n)).heap.size := by simpa using hb
 have t1 : Turn S w (w.setCell ⟨b, off + j * 2, none⟩ (.int .i64 n)) := (Turn.refl S w).setCell h.mem _ _
 have t2 : Turn [b] w (w.setCell ⟨b, off + j * 2, none⟩ (.int .i64 n)) := (Turn.refl [b] w).setCell (by simp) _ _
 have cell : ∀ i, w2.cell? ⟨b, i, none⟩ = (w.setCell ⟨b, off + j * 2, none⟩ (.int .i64 n)).cell? ⟨b, i, none⟩ := fun i => ht.cell hsz hbj
 have oth : ∀ i, i ≠ off + j * 2 → w2.cell? ⟨b, i, none⟩ = w.cell? ⟨b, i, none⟩ := fun i hi => (cell i).trans (World.cell?_setCell_other _ _ _ _ (by intro e; exact hi (congrArg Addr.off e).symm))
 have hlen : (ns.set j ⟨n, ms⟩).length = ns.length := by simp
 refine ⟨⟨h.mem, fun i hi => h.sub i (by rw [← hlen]; exact hi), fun i hi => ?_, by rw [hlen]; exact h.apart, fun i hi => ?_⟩, ?_⟩
 ·rw [ht.frozen hsz hbj, World.frozen?_setCell]
  exact h.fz i (by rw [hlen] at hi; exact hi)
 ·have hi' : i < ns.length := by rw [← hlen]; exact hi
  obtain ⟨c0, hg, v, c1, hv⟩ := h.at' i hi'
  by_cases e : i = j
  ·subst e
   simp only [List.getElem_set_self]
   refine ⟨?_, hg, u, ?_, hm⟩
   ·rw [cell]
    exact World.cell?_setCell_same _ _ _ c0
   ·rw [oth _ (by omega)]; exact hu
  ·rw [List.getElem_set_ne (by omega)]
   refine ⟨?_, hg, v, ?_, (hv.turn t2 (fun k hk => by simp; intro e2; subst e2; exact hg hk)).turn ht (fun k hk => h.apart i j hi' hj e k hk)⟩
   ·rw [oth _ (by omega)]; exact c0
   ·rw [oth _ (by omega)]; exact c1
 ·exact t1.trans (ht.mono (fun k hk => .inl (h.sub j hj k hk)))
set_option maxHeartbeats 6400000 in
theorem markItemF_row (S : List Nat) (w : World) (b off cap : Nat) (ns : List ItemV) (G : Nat → List Nat) (k : Nat) (hk : k ≤ 100000000000000) (hs : SmallItemS ns) (hl : ∀ k ∈ S, k < w.heap.size) (h : ItemRowOwn S w b off ns G) :
  Calls Tryz.prog 79 #[.slice (some ⟨b, off, none⟩) ns.length cap, .int .i64 (k : Int)] w fun e w' => e = .returned (.int .i64 ((k + nItemF ns : Nat) : Int)) ∧ Hid (ItemRowOwn S w' b off (marksItemF k ns) G ∧ Turn S w w') := by
 have HS := hide hs
 have HL := hide hl
 have hlen := hs.1
 have HO := hide h
 clear hs hl h
 go_enter Tryz.func79, Tryz.ntmps79
 go_wp2_with fail
 go_loopw [1, 5] (fun kv i wr => ∃ (j q : Nat), j ≤ ns.length ∧ i = .int .i64 j ∧ kv = .int .i64 (q : Int) ∧ Hid (q = k + nItemF (ns.take j)) ∧ Hid (ItemRowOwn S wr b off (mtItemF ns k j) G ∧ Turn S w wr)) (fun _ i _ => ns.length - (intOf i).toNat)
 case atStart => exact ⟨0, k, Nat.zero_le _, rfl, rfl, by simp [nItemF, Hid], hide ⟨by rw [mtItemF_zero]; exact unhide HO, Turn.refl _ _⟩⟩
 case round =>
  obtain ⟨j, q, hj, rfl, rfl, HQ, HR⟩ := hrel
  by_cases hlt : j < ns.length
  ·have hq : q ≤ 200000000000000 := by have := unhide HQ; have := nItemF_take_le (unhide HS) j; omega
   have hxl := mtItemF_len ns k j (by omega)
   have hjx : j < (mtItemF ns k j).length := by omega
   have hat : (mtItemF ns k j)[j] = ns[j] := Option.some.inj ((List.getElem?_eq_getElem hjx).symm.trans (mtItemF_at ns k j hlt))
   have HLr := hide (show ∀ k ∈ S, k < wr.heap.size from fun k hk => Nat.lt_of_lt_of_le (unhide HL k hk) (unhide HR).2.size)
   obtain ⟨c0, hg, v, c1, hv⟩ := (unhide HR).1.at' j hjx
   have f0 := (unhide HR).1.fz (j * 2) (by omega)
   have hb := unhide HLr b (unhide HR).1.mem
   rw [hat] at hv
   have HN := hide (show q + 1 + nMarkS ns[j].a1 = k + nItemF (ns.take (j + 1)) by rw [nItemF_take ns j hlt, unhide HQ]; omega)
   have HV := hide (fun (W : World) (ht : Turn [b] wr W) => markMarkS_kit (G j) ns[j].a1 v W (q + 1) (nMarkS ns[j].a1) ((q : Int) + 1) (by omega) rfl (by omega) ((unhide HS).2 _ (List.getElem_mem hlt)).2 (hv.turn ht (fun k hk => by simp; intro e; subst e; exact hg hk)))
   have HST := hide (fun (W : World) (ht : Turn (G j) (wr.setCell ⟨b, off + j * 2, none⟩ (.int .i64 (q : Int))) W) (hm : MarkSOwn (G j) W v (marksMarkS (q + 1) ns[j].a1)) => (show ItemRowOwn S W b off (mtItemF ns k (j + 1)) G ∧ Turn S w W from by
    have e := (unhide HR).1.step (unhide HLr) hjx (q : Int) _ v c1 ht hm
    rw [show (⟨(q : Int), marksMarkS (q + 1) ns[j].a1⟩ : ItemV) = ⟨((k + nItemF (ns.take j) : Nat) : Int), marksMarkS (k + nItemF (ns.take j) + 1) ns[j].a1⟩ by rw [unhide HQ], mtItemF_step ns k j hlt] at e
    exact ⟨e.1, (unhide HR).2.trans e.2⟩))
   obtain ⟨va, vn, vc, rfl⟩ := hv.rd.form
   clear hv hat hxl
   generalize nMarkS ns[j].a1 = nn at *
   generalize marksMarkS (q + 1) ns[j].a1 = mm at *
   go_wp2_with fail
   refine (unhide HV _ ((Turn.refl _ _).setCell (by simp) _ _)).mono ?_
   rintro e w2 ⟨rfl, P⟩
   have HR2 := hide (unhide HST _ (unhide P).2 (unhide P).1)
   have hnn : nn ≤ 200000000000000 := by have := unhide HN; have := nItemF_take_le (unhide HS) (j + 1); omega
   clear P c0 c1 f0
   go_wp2_with fail
   go_roundw
   case rel => exact ⟨j + 1, q + 1 + nn, by omega, by go_num, by go_num, HN, HR2⟩
   case measure => simp [intOf]; omega
  ·have e : j = ns.length := by omega
   subst e
   have HP := hide (show ItemRowOwn S wr b off (marksItemF k ns) G ∧ Turn S w wr by rw [← mtItemF_all]; exact unhide HR)
   have HE := hide (show q = k + nItemF ns by have := unhide HQ; rwa [List.take_length] at this)
   go_wp2_with fail
   go_ret
   exact ⟨by rw [unhide HE]; rfl, HP⟩
theorem markItemF_none (w : World) (a : Option Addr) (cap : Nat) (K : Int) : Calls Tryz.prog 79 #[.slice a 0 cap, .int .i64 K] w fun e w' => e = .returned (.int .i64 K) ∧ w' = w := by
 go_enter Tryz.func79, Tryz.ntmps79
 go_wp2
 refine wp_loop_rounds 1 ?_
 rw [rounds_succ]
 go_wp2
 go_ret
 exact ⟨rfl, rfl⟩
theorem markItemF_kit (S : List Nat) (ns : List ItemV) (v : Value) (w : World) (k n : Nat) (K : Int) (hK : K = (k : Int)) (hn : nItemF ns = n) (hk : k ≤ 100000000000000) (hs : SmallItemS ns) (h : ItemSFull S w v ns) :
  Calls Tryz.prog 79 #[v, .int .i64 K] w fun e w' => e = .returned (.int .i64 (K + (n : Int))) ∧ Hid (ItemSFull S w' v (marksItemF k ns) ∧ Turn S w w') := by
 subst hK hn
 obtain ⟨a, c, rfl, hc, hl, h⟩ := h
 rcases h with rfl | ⟨b, off, G, rfl, h⟩
 ·refine (markItemF_none w a c k).mono ?_
  rintro e w' ⟨rfl, rfl⟩
  exact ⟨by simp [nItemF], hide ⟨⟨a, c, rfl, hc, hl, .inl rfl⟩, Turn.refl _ _⟩⟩
 ·refine (markItemF_row S w b off c ns G k hk hs hl h).mono ?_
  rintro e w' ⟨rfl, P⟩
  have ht := (unhide P).2
  exact ⟨by rw [Int.natCast_add], hide ⟨⟨_, c, by rw [marksItemF_len], by rw [marksItemF_len]; exact hc, fun k hk => Nat.lt_of_lt_of_le (hl k hk) ht.size, .inr ⟨b, off, G, rfl, (unhide P).1⟩⟩, ht⟩⟩
set_option maxHeartbeats 6400000 in
theorem heldItemF_row (w : World) (b off cap : Nat) (ns : List ItemV) (k : Nat) (hk : k ≤ 100000000000000) (hs : SmallItemS ns) (hb : b < w.heap.size) (h : ItemAt w b off (marksItemF k ns)) :
  Calls Tryz.prog 80 #[.slice (some ⟨b, off, none⟩) ns.length cap, .int .i64 (k : Int)] w fun e w' => e = .returned (.int .i64 ((k + nItemF ns : Nat) : Int)) ∧ Below w.heap.size w w' := by
 have HS := hide hs
 have hlen := hs.1
 have HO := hide h
 clear hs h
 go_enter Tryz.func80, Tryz.ntmps80
 go_wp2_with fail
 go_loopw [1, 5] (fun kv i wr => ∃ (j q : Nat), j ≤ ns.length ∧ i = .int .i64 j ∧ kv = .int .i64 (q : Int) ∧ Hid (q = k + nItemF (ns.take j)) ∧ Hid (Below w.heap.size w wr)) (fun _ i _ => ns.length - (intOf i).toNat)
 case atStart => exact ⟨0, k, Nat.zero_le _, rfl, rfl, by simp [nItemF, Hid], Below.refl _ _⟩
 case round =>
  obtain ⟨j, q, hj, rfl, rfl, HQ, HB⟩ := hrel
  by_cases hlt : j < ns.length
  ·have hq : q ≤ 200000000000000 := by have := unhide HQ; have := nItemF_take_le (unhide HS) j; omega
   have hml := marksItemF_len k ns
   have hjx : j < (marksItemF k ns).length := by omega
   have hat : (marksItemF k ns)[j] = ⟨(q : Int), marksMarkS (q + 1) ns[j].a1⟩ := by
    have := (List.getElem?_eq_getElem hjx).symm.trans (marksItemF_get k ns j hlt)
    rw [Option.some.inj this, unhide HQ]
   obtain ⟨c0, v, c1, hv⟩ := (unhide HO).up hb (unhide HB) j hjx
   rw [hat] at c0 hv
   have HN := hide (show q + 1 + nMarkS ns[j].a1 = k + nItemF (ns.take (j + 1)) by rw [nItemF_take ns j hlt, unhide HQ]; omega)
   have HV := hide (fun (W : World) (ht : Below wr.heap.size wr W) => heldMarkS_kit ns[j].a1 v W (q + 1) (nMarkS ns[j].a1) ((q : Int) + 1) (by omega) rfl (by omega) ((unhide HS).2 _ (List.getElem_mem hlt)).2 (hv.up ht))
   obtain ⟨va, vn, vc, rfl⟩ := hv.form
   clear hv hat hml hjx
   generalize nMarkS ns[j].a1 = nn at *
   have hnn : nn ≤ 200000000000000 := by have := unhide HN; have := nItemF_take_le (unhide HS) (j + 1); omega
   have hneg : ¬ ((q : Int) + 1 + (nn : Int)) < 0 := by omega
   go_wp2_with fail
   refine (unhide HV _ (by go_grown)).mono ?_
   rintro e w2 ⟨rfl, b2⟩
   have B2 := hide ((unhide HB).trans (b2.mono (unhide HB).size))
   clear b2 c0 c1
   go_wp2_with fail
   go_roundw
   case rel => exact ⟨j + 1, q + 1 + nn, by omega, by go_num, by go_num, HN, B2⟩
   case measure => simp [intOf]; omega
  ·have e : j = ns.length := by omega
   subst e
   have HE := hide (show q = k + nItemF ns by have := unhide HQ; rwa [List.take_length] at this)
   go_wp2_with fail
   go_ret
   exact ⟨by rw [unhide HE]; rfl, unhide HB⟩
theorem heldItemF_none (w : World) (a : Option Addr) (cap : Nat) (K : Int) : Calls Tryz.prog 80 #[.slice a 0 cap, .int .i64 K] w fun e w' => e = .returned (.int .i64 K) ∧ w' = w := by
 go_enter Tryz.func80, Tryz.ntmps80
 go_wp2
 refine wp_loop_rounds 1 ?_
 rw [rounds_succ]
 go_wp2
 go_ret
 exact ⟨rfl, rfl⟩
theorem heldItemF_kit (ns : List ItemV) (v : Value) (w : World) (k n : Nat) (K : Int) (hK : K = (k : Int)) (hn : nItemF ns = n) (hk : k ≤ 100000000000000) (hs : SmallItemS ns) (h : ItemSRd w v (marksItemF k ns)) :
  Calls Tryz.prog 80 #[v, .int .i64 K] w fun e w' => e = .returned (.int .i64 (K + (n : Int))) ∧ Below w.heap.size w w' := by
 subst hK hn
 obtain ⟨a, c, rfl, h⟩ := h
 rw [marksItemF_len]
 rcases h with h0 | ⟨b, off, rfl, hb, h⟩
 ·have hn : ns = [] := List.eq_nil_of_length_eq_zero (by have := congrArg List.length h0; rwa [marksItemF_len] at this)
  subst hn
  refine (heldItemF_none w a c k).mono ?_
  rintro e w' ⟨rfl, rfl⟩
  exact ⟨by simp [nItemF], Below.refl _ _⟩
 ·refine (heldItemF_row w b off c ns k hk hs hb h).mono ?_
  rintro e w' ⟨rfl, b⟩
  exact ⟨by rw [Int.natCast_add], b⟩
end Go.Proofs.YtknkdbfgfcgkiaaGreatDoor

set_option linter.unusedVariables false
namespace Go.Proofs.YtknkdbfgfcgkiaaGreatDoor
open Go.RowKit Go.Maps Go.Deep

structure WinRowOwn (S : List Nat) (w : World) (b off : Nat) (ns : List (List ItemV)) (G : Nat → List Nat) : Prop where
 mem : b ∈ S
 sub : ∀ i, i < ns.length → ∀ k ∈ G i, k ∈ S
 apart : ApartG G ns.length
 at' : ∀ i (h : i < ns.length), b ∉ G i ∧ ∃ v, w.cell? ⟨b, off + i, none⟩ = some v ∧ ItemSFull (G i) w v ns[i]
def ItemSSFull (S : List Nat) (w : World) (v : Value) (ns : List (List ItemV)) : Prop :=
 ∃ a c, v = .slice a ns.length c ∧ (∀ k ∈ S, k < w.heap.size) ∧ (ns = [] ∨ ∃ b off G, a = some ⟨b, off, none⟩ ∧ WinRowOwn S w b off ns G)
theorem WinRowOwn.turn {S S' : List Nat} {w w' : World} {b off : Nat} {ns : List (List ItemV)} {G : Nat → List Nat} (h : WinRowOwn S w b off ns G) (hl : ∀ k ∈ S, k < w.heap.size) (ht : Turn S' w w') (hS : ∀ k ∈ S, k ∉ S') : WinRowOwn S w' b off ns G := by
 refine ⟨h.mem, h.sub, h.apart, fun i hi => ?_⟩
 obtain ⟨hg, v, c, hv⟩ := h.at' i hi
 exact ⟨hg, v, (ht.cell (hl b h.mem) (hS b h.mem)).trans c, hv.turn ht (fun k hk => hS k (h.sub i hi k hk))⟩
theorem ItemSSFull.rd {S : List Nat} {w : World} {v : Value} {ns : List (List ItemV)} (h : ItemSSFull S w v ns) : ItemSSRd w v ns := by
 obtain ⟨a, c, rfl, hl, h⟩ := h
 rcases h with h | ⟨b, off, G, rfl, h⟩
 ·exact ⟨a, c, rfl, .inl h⟩
 ·refine ⟨_, c, rfl, .inr ⟨b, off, rfl, hl b h.mem, fun i hi => ?_⟩⟩
  obtain ⟨_, v, c, hv⟩ := h.at' i hi
  exact ⟨v, c, hv.rd⟩
theorem ItemSSFull.lt {S : List Nat} {w : World} {v : Value} {ns : List (List ItemV)} (h : ItemSSFull S w v ns) : ∀ k ∈ S, k < w.heap.size := by
 obtain ⟨a, c, rfl, hl, h⟩ := h
 exact hl
theorem ItemSSFull.turn {S S' : List Nat} {w w' : World} {v : Value} {ns : List (List ItemV)} (h : ItemSSFull S w v ns) (ht : Turn S' w w') (hS : ∀ k ∈ S, k ∉ S') : ItemSSFull S w' v ns := by
 obtain ⟨a, c, rfl, hl, h⟩ := h
 refine ⟨a, c, rfl, fun k hk => Nat.lt_of_lt_of_le (hl k hk) ht.size, ?_⟩
 rcases h with h | ⟨b, off, G, rfl, h⟩
 ·exact .inl h
 ·exact .inr ⟨b, off, G, rfl, h.turn hl ht hS⟩
theorem ItemSSFull.up {S : List Nat} {w w' : World} {v : Value} {ns : List (List ItemV)} (h : ItemSSFull S w v ns) (hb : Below w.heap.size w w') : ItemSSFull S w' v ns := h.turn (Turn.of_below (S := []) hb) (by simp)

/-- the first k of a row's cells are these; each one lies in blocks of its own, behind the row's and ahead of N -/
def WinsToF (B N : Nat) (w : World) (xs : List Value) (ns : List (List ItemV)) (k : Nat) : Prop :=
 ∃ G : Nat → List Nat, (∀ i (h : i < ns.length), i < k → ∃ v, xs[i]? = some v ∧ ItemSFull (G i) w v ns[i]) ∧ ApartG G k ∧ ∀ i, i < k → ∀ a ∈ G i, B < a ∧ a < N
theorem WinsToF.turn {B N : Nat} {w w' : World} {xs : List Value} {ns : List (List ItemV)} {k : Nat} (h : WinsToF B N w xs ns k) (ht : Turn [B] w w') : WinsToF B N w' xs ns k := by
 obtain ⟨G, h, ha, hn⟩ := h
 refine ⟨G, fun i hi hk => ?_, ha, hn⟩
 obtain ⟨v, c, hv⟩ := h i hi hk
 exact ⟨v, c, hv.turn ht (fun j hj hm => by have := hn i hk j hj; simp at hm; omega)⟩
theorem winsToF_step {B N N' : Nat} {w : World} {xs : List Value} {ns : List (List ItemV)} {k : Nat} {v : Value} {T : List Nat} (hk : k < ns.length) (hx : xs.length = ns.length) (h : WinsToF B N w xs ns k) (hB : B < N) (hT : ∀ a ∈ T, N ≤ a ∧ a < N') (hN : N ≤ N') (hv : ItemSFull T w v ns[k]) :
  WinsToF B N' w (xs.set k v) ns (k + 1) := by
 obtain ⟨G, h, ha, hn⟩ := h
 refine ⟨fun i => if i = k then T else G i, fun i hi hik => ?_, fun i j hi hj hij => ?_, fun i hi => ?_⟩
 ·by_cases e : i = k
  ·subst e
   simp only [if_true]
   exact ⟨v, List.getElem?_set_self (by omega), hv⟩
  ·obtain ⟨v', c, hv'⟩ := h i hi (by omega)
   simp only [if_neg e]
   exact ⟨v', by rw [List.getElem?_set_ne (by omega)]; exact c, hv'⟩
 ·intro a h1 h2
  by_cases e1 : i = k
  ·have e2 : ¬ j = k := by omega
   simp only [if_pos e1] at h1
   simp only [if_neg e2] at h2
   have := hT a h1
   have := hn j (by omega) a h2
   omega
  ·simp only [if_neg e1] at h1
   by_cases e2 : j = k
   ·simp only [if_pos e2] at h2
    have := hT a h2
    have := hn i (by omega) a h1
    omega
   ·simp only [if_neg e2] at h2
    exact ha i j (by omega) (by omega) hij a h1 h2
 ·intro a h1
  by_cases e : i = k
  ·simp only [if_pos e] at h1
   have := hT a h1
   omega
  ·simp only [if_neg e] at h1
   have := hn i (by omega) a h1
   omega
theorem winFullOfRow {w : World} {base : Nat} {e : TypeId} {g n : Nat} {xs : List Value} {ns : List (List ItemV)} (h : w.ownsRow base e 1 (.slice (some ⟨g, 0, none⟩) n n) n xs) (hn : ns.length = n) (hg : g < w.heap.size) {N : Nat} (ht : WinsToF g N w xs ns n) : ∃ S, ItemSSFull S w (.slice (some ⟨g, 0, none⟩) n n) ns ∧ ∀ k ∈ S, g ≤ k := by
 subst hn
 obtain ⟨G, ht, ha, hN⟩ := ht
 refine ⟨g :: (List.range ns.length).flatMap G, ⟨_, _, rfl, ?_, .inr ⟨g, 0, G, rfl, by simp, ?_, ha, ?_⟩⟩, ?_⟩
 ·intro k hk
  simp only [List.mem_cons, List.mem_flatMap, List.mem_range] at hk
  rcases hk with rfl | ⟨i, hi, hk⟩
  ·exact hg
  ·obtain ⟨v, _, hv⟩ := ht i hi hi
   exact hv.lt _ hk
 ·intro i hi k hk
  simp only [List.mem_cons, List.mem_flatMap, List.mem_range]
  exact .inr ⟨i, hi, hk⟩
 ·intro i hi
  obtain ⟨v, c, hv⟩ := ht i hi hi
  refine ⟨fun hm => by have := hN i hi g hm; omega, v, ?_, hv⟩
  rw [Nat.zero_add, h.cellAt _ (by omega)]
  exact c
 ·intro k hk
  simp only [List.mem_cons, List.mem_flatMap, List.mem_range] at hk
  rcases hk with rfl | ⟨i, hi, hk⟩
  ·exact Nat.le_refl _
  ·exact Nat.le_of_lt (hN i hi k hk).1
set_option maxHeartbeats 3200000 in
theorem toItemSSF_row (w : World) (b off cap : Nat) (ns : List (List ItemV)) (hs : SmallItemSS ns) (hc : WinsAt w b off ns) (hb : b < w.heap.size) :
  Calls Tryz.prog 30 #[.slice (some ⟨b, off, none⟩) ns.length cap] w fun e w' => e = .returned (.slice (some ⟨w.heap.size, 0, none⟩) ns.length ns.length) ∧ Hid (∃ S, ItemSSFull S w' (.slice (some ⟨w.heap.size, 0, none⟩) ns.length ns.length) ns ∧ ∀ k ∈ S, w.heap.size ≤ k) ∧ Below w.heap.size w w' := by
 have HS := hide hs.2
 have hl := hs.1
 have HC := hide hc
 clear hs hc
 obtain ⟨i0, hi, hz0, hz1, hz2⟩ := info_parts1 infoItemS
 go_enter Tryz.func30, Tryz.ntmps30
 go_wp2_with (first
  | (at_make; refine wpList_make_full _ rfl _ _ 33 rfl w.heap.size 60 i0 _ 1 Tryz.underlying33 hi hz0 hz1 _ _ _ _ ns.length rfl rfl rfl rfl (by rw [hz2]; omega) (by unfold maxLen; omega) (Nat.le_refl _) ?_; intro w1 hown hgrow)
  | go_in)
 clear hz0 hz1 hz2 hi
 have hlt1 : w.heap.size < w1.heap.size := by
  rcases hown.2 with ⟨h', _⟩ | ⟨g', cap', cur, h', _, hg, _⟩
  ·simp at h'
  ·simp only [Value.slice.injEq, Option.some.injEq, Addr.mk.injEq, and_true, true_and] at h'
   obtain ⟨rfl, rfl⟩ := h'
   exact (Array.getElem?_eq_some_iff.1 hg).1
 have hbw1 : Below w.heap.size w w1 := (Below.refl _ _).grown hgrow (Nat.le_refl _) (fun k hk => by cases hk)
 go_loopw [4] (fun i wr => ∃ (k : Nat) (xs : List Value), k ≤ ns.length ∧ i = .int .i64 k ∧ Hid (wr.ownsRow w.heap.size 60 1 (.slice (some ⟨w.heap.size, 0, none⟩) ns.length ns.length) ns.length xs) ∧ Hid (WinsToF w.heap.size wr.heap.size wr xs ns k) ∧ w.heap.size < wr.heap.size ∧ Hid (Below w.heap.size w wr)) (fun i _ => ns.length - (intOf i).toNat)
 case atStart => exact ⟨0, _, Nat.zero_le _, rfl, hown, hide ⟨fun _ => [], fun j _ hj => absurd hj (Nat.not_lt_zero _), fun i j hi => absurd hi (Nat.not_lt_zero _), fun j hj => absurd hj (Nat.not_lt_zero _)⟩, hlt1, hbw1⟩
 case round =>
  obtain ⟨k, xs, hk, rfl, HR, HT, hsz, HB⟩ := hrel
  by_cases hlt : k < ns.length
  ·obtain ⟨v, c0, hv⟩ := (unhide HC).up hb (unhide HB) k hlt
   have HV := hide (fun W (bW : Below wr.heap.size wr W) => toItemF_kit ns[k] v W (unhide HS _ (List.getElem_mem hlt)) (hv.up bW))
   have HST := hide (fun (W : World) (N N' : Nat) (T : List Nat) (v : Value) (h : WinsToF w.heap.size N W xs ns k) (hB : w.heap.size < N) (hT : ∀ a ∈ T, N ≤ a ∧ a < N') (hN : N ≤ N') (hv : ItemSFull T W v ns[k]) => winsToF_step (k := k) hlt (by simpa using (unhide HR).1) h hB hT hN hv)
   obtain ⟨va, vn, vc, rfl⟩ := hv.form
   clear hv
   generalize ns[k] = ms at *
   go_wp2_with fail
   refine (unhide HV _ (by go_grown)).mono ?_
   rintro e w2 ⟨v2, S, rfl, O2, L2, hb2⟩
   have R2 := hide (ownsRowMark_below (unhide HR) hb2 hsz)
   obtain ⟨v0, d0, f0⟩ := winsRow_cell (unhide R2) k hlt
   obtain ⟨fa, fn, fc, rfl⟩ := (unhide O2).rd.form
   have HS3 := hide ((unhide R2).stored k (.slice fa fn fc)).1
   have B3 := hide (show Below w.heap.size w w2 from (unhide HB).trans (hb2.mono (Nat.le_of_lt hsz)))
   have B4 := hide ((unhide B3).setCell (p := ⟨w.heap.size, k, none⟩) (Nat.le_refl _) (.slice fa fn fc))
   have hs2 : w.heap.size < w2.heap.size := Nat.lt_of_lt_of_le hsz hb2.size
   have T4 := hide (show Turn [w.heap.size] w2 (w2.setCell ⟨w.heap.size, k, none⟩ (.slice fa fn fc)) from (Turn.refl _ _).setCell (by simp) _ _)
   have HT4 := hide (unhide HST _ wr.heap.size (w2.setCell ⟨w.heap.size, k, none⟩ (.slice fa fn fc)).heap.size S (.slice fa fn fc) (((unhide HT).turn (Turn.of_below (S := [w.heap.size]) hb2)).turn (unhide T4)) hsz (fun j hj => ⟨unhide L2 j hj, by have := (unhide O2).lt j hj; simpa using this⟩) (by have := hb2.size; simpa using this) ((unhide O2).turn (unhide T4) (fun j hj hm => by have := unhide L2 j hj; simp at hm; omega)))
   clear hb2 c0 HST HV O2 L2 HR HT
   go_wp2_with fail
   clear d0 f0
   go_roundw
   case rel => exact ⟨k + 1, _, by omega, by go_num, HS3, HT4, by simpa using hs2, B4⟩
   case measure => simp [intOf]; omega
  ·go_wp2_with fail
   go_ret
   have e : k = ns.length := by omega
   subst e
   obtain ⟨S, h1, h2⟩ := winFullOfRow (unhide HR) rfl hsz (unhide HT)
   exact ⟨rfl, hide ⟨S, h1, h2⟩, unhide HB⟩
theorem toItemSSF_kit (ns : List (List ItemV)) (v : Value) (w : World) (hs : SmallItemSSF ns) (h : ItemSSRd w v ns) :
  Calls Tryz.prog 30 #[v] w fun e w' => ∃ v S, e = .returned v ∧ Hid (ItemSSFull S w' v ns) ∧ Hid (∀ k ∈ S, w.heap.size ≤ k) ∧ Below w.heap.size w w' := by
 obtain ⟨a, c, rfl, h⟩ := h
 rcases h with rfl | ⟨b, off, rfl, hb, hc⟩
 ·refine (toItemSS_none w a c).mono ?_
  rintro e w' ⟨rfl, h2, h3⟩
  exact ⟨_, [], rfl, hide ⟨_, 0, rfl, by simp, .inl rfl⟩, hide (by simp), h3⟩
 ·refine (toItemSSF_row w b off c ns hs.1 hc hb).mono ?_
  rintro e w' ⟨rfl, h1, h3⟩
  obtain ⟨S, h1, h2⟩ := unhide h1
  exact ⟨_, S, rfl, hide h1, hide h2, h3⟩
/-- how many marks windows take -/
def nItemSSF (ns : List (List ItemV)) : Nat := (ns.map nItemF).sum
def marksItemSSF : Nat → List (List ItemV) → List (List ItemV)
 | _, [] => []
 | k, x :: xs => marksItemF k x :: marksItemSSF (k + nItemF x) xs
theorem marksItemSSF_len (k : Nat) (ns : List (List ItemV)) : (marksItemSSF k ns).length = ns.length := by
 induction ns generalizing k with
 | nil => rfl
 | cons x xs ih => simp [marksItemSSF, ih]
theorem marksItemSSF_get (k : Nat) (ns : List (List ItemV)) (i : Nat) (h : i < ns.length) : (marksItemSSF k ns)[i]? = some (marksItemF (k + nItemSSF (ns.take i)) ns[i]) := by
 induction ns generalizing k i with
 | nil => simp at h
 | cons x xs ih =>
  match i, h with
  | 0, _ => simp [marksItemSSF, nItemSSF]
  | i + 1, h =>
   simp only [marksItemSSF, List.getElem?_cons_succ, List.take_succ_cons, List.getElem_cons_succ]
   rw [ih _ i (by simpa using h)]
   simp only [nItemSSF, List.map_cons, List.sum_cons]
   rw [Nat.add_assoc]
theorem nItemSSF_take (ns : List (List ItemV)) (i : Nat) (h : i < ns.length) : nItemSSF (ns.take (i + 1)) = nItemSSF (ns.take i) + nItemF ns[i] := by
 unfold nItemSSF
 rw [List.take_succ_eq_append_getElem h, List.map_append, List.sum_append]
 simp
theorem nItemF_w (ns : List ItemV) : nItemF ns ≤ 2 * wItemS ns := by
 unfold wItemS wTo
 rw [List.take_length]
 induction ns with
 | nil => simp [nItemF]
 | cons x xs ih =>
  unfold nItemF at ih ⊢
  simp only [List.map_cons, List.sum_cons, List.length_cons, nMarkS] at ih ⊢
  omega
theorem nItemSSF_w (ns : List (List ItemV)) (i : Nat) : nItemSSF (ns.take i) ≤ 2 * wwTo ns ns.length := by
 unfold wwTo
 rw [List.take_length]
 induction ns generalizing i with
 | nil => simp [nItemSSF]
 | cons x xs ih =>
  match i with
  | 0 => simp [nItemSSF]
  | i + 1 =>
   have h1 := ih i
   have h2 := nItemF_w x
   unfold nItemSSF at h1 ⊢
   simp only [List.take_succ_cons, List.map_cons, List.sum_cons] at h1 ⊢
   omega
theorem nItemSSF_take_le {ns : List (List ItemV)} (hs : SmallItemSSF ns) (i : Nat) : nItemSSF (ns.take i) ≤ 100000000 := by
 have h1 := nItemSSF_w ns i
 have h2 := hs.2
 unfold wItemSS at h2
 omega
def mtItemSSF (ns : List (List ItemV)) (k j : Nat) : List (List ItemV) := (marksItemSSF k ns).take j ++ ns.drop j
theorem mtItemSSF_len (ns : List (List ItemV)) (k j : Nat) (h : j ≤ ns.length) : (mtItemSSF ns k j).length = ns.length := by simp [mtItemSSF, marksItemSSF_len]; omega
theorem mtItemSSF_at (ns : List (List ItemV)) (k j : Nat) (h : j < ns.length) : (mtItemSSF ns k j)[j]? = some ns[j] := by
 unfold mtItemSSF
 rw [List.getElem?_append_right (by simp [marksItemSSF_len]; omega)]
 simp [marksItemSSF_len, Nat.min_eq_left (Nat.le_of_lt h), List.getElem?_eq_getElem h]
theorem mtItemSSF_step (ns : List (List ItemV)) (k j : Nat) (h : j < ns.length) : (mtItemSSF ns k j).set j (marksItemF (k + nItemSSF (ns.take j)) ns[j]) = mtItemSSF ns k (j + 1) := by
 have hl := marksItemSSF_len k ns
 unfold mtItemSSF
 have e1 : (marksItemSSF k ns).take (j + 1) = (marksItemSSF k ns).take j ++ [marksItemF (k + nItemSSF (ns.take j)) ns[j]] := by
  rw [List.take_succ_eq_append_getElem (by omega)]
  have := marksItemSSF_get k ns j h
  rw [List.getElem?_eq_getElem (by omega)] at this
  rw [Option.some.inj this]
 rw [e1, List.set_append_right _ _ (by rw [List.length_take, hl]; omega), List.append_assoc]
 congr 1
 rw [List.drop_eq_getElem_cons h, List.length_take, hl, Nat.min_eq_left (Nat.le_of_lt h), Nat.sub_self]
 rfl
theorem mtItemSSF_all (ns : List (List ItemV)) (k : Nat) : mtItemSSF ns k ns.length = marksItemSSF k ns := by
 unfold mtItemSSF
 rw [List.drop_length, List.append_nil, ← marksItemSSF_len k ns, List.take_length]
theorem mtItemSSF_zero (ns : List (List ItemV)) (k : Nat) : mtItemSSF ns k 0 = ns := by simp [mtItemSSF]
/-- one window of the row is written anew, in its own blocks -/
theorem WinRowOwn.step {S : List Nat} {w w2 : World} {b off : Nat} {ns : List (List ItemV)} {G : Nat → List Nat} (h : WinRowOwn S w b off ns G) (hl : ∀ k ∈ S, k < w.heap.size) {j : Nat} (hj : j < ns.length) (ms : List ItemV) (u : Value)
  (hu : w.cell? ⟨b, off + j, none⟩ = some u) (ht : Turn (G j) w w2) (hm : ItemSFull (G j) w2 u ms) : WinRowOwn S w2 b off (ns.set j ms) G ∧ Turn S w w2 := by
 have hb := hl b h.mem
 have hbj : b ∉ G j := (h.at' j hj).1
 have hlen : (ns.set j ms).length = ns.length := by simp
 refine ⟨⟨h.mem, fun i hi => h.sub i (by rw [← hlen]; exact hi), by rw [hlen]; exact h.apart, fun i hi => ?_⟩, ht.mono (fun k hk => .inl (h.sub j hj k hk))⟩
 have hi' : i < ns.length := by rw [← hlen]; exact hi
 obtain ⟨hg, v, c, hv⟩ := h.at' i hi'
 by_cases e : i = j
 ·subst e
  simp only [List.getElem_set_self]
  exact ⟨hg, u, (ht.cell hb hbj).trans hu, hm⟩
 ·rw [List.getElem_set_ne (by omega)]
  exact ⟨hg, v, (ht.cell hb hbj).trans c, hv.turn ht (fun k hk => h.apart i j hi' hj e k hk)⟩
set_option maxHeartbeats 6400000 in
theorem markItemSSF_row (S : List Nat) (w : World) (b off cap : Nat) (ns : List (List ItemV)) (G : Nat → List Nat) (k : Nat) (hk : k ≤ 10000000000000) (hs : SmallItemSSF ns) (hl : ∀ k ∈ S, k < w.heap.size) (h : WinRowOwn S w b off ns G) :
  Calls Tryz.prog 43 #[.slice (some ⟨b, off, none⟩) ns.length cap, .int .i64 (k : Int)] w fun e w' => e = .returned (.int .i64 ((k + nItemSSF ns : Nat) : Int)) ∧ Hid (WinRowOwn S w' b off (marksItemSSF k ns) G ∧ Turn S w w') := by
 have HS := hide hs
 have HL := hide hl
 have hlen := hs.1.1
 have HO := hide h
 clear hs hl h
 go_enter Tryz.func43, Tryz.ntmps43
 go_wp2_with fail
 go_loopw [1, 5] (fun kv i wr => ∃ (j q : Nat), j ≤ ns.length ∧ i = .int .i64 j ∧ kv = .int .i64 (q : Int) ∧ Hid (q = k + nItemSSF (ns.take j)) ∧ Hid (WinRowOwn S wr b off (mtItemSSF ns k j) G ∧ Turn S w wr)) (fun _ i _ => ns.length - (intOf i).toNat)
 case atStart => exact ⟨0, k, Nat.zero_le _, rfl, rfl, by simp [nItemSSF, Hid], hide ⟨by rw [mtItemSSF_zero]; exact unhide HO, Turn.refl _ _⟩⟩
 case round =>
  obtain ⟨j, q, hj, rfl, rfl, HQ, HR⟩ := hrel
  by_cases hlt : j < ns.length
  ·have hq : q ≤ 20000000000000 := by have := unhide HQ; have := nItemSSF_take_le (unhide HS) j; omega
   have hxl := mtItemSSF_len ns k j (by omega)
   have hjx : j < (mtItemSSF ns k j).length := by omega
   have hat : (mtItemSSF ns k j)[j] = ns[j] := Option.some.inj ((List.getElem?_eq_getElem hjx).symm.trans (mtItemSSF_at ns k j hlt))
   have HLr := hide (show ∀ k ∈ S, k < wr.heap.size from fun k hk => Nat.lt_of_lt_of_le (unhide HL k hk) (unhide HR).2.size)
   obtain ⟨hg, v, c0, hv⟩ := (unhide HR).1.at' j hjx
   rw [hat] at hv
   have HN := hide (show q + nItemF ns[j] = k + nItemSSF (ns.take (j + 1)) by rw [nItemSSF_take ns j hlt, unhide HQ]; omega)
   have HV := hide (markItemF_kit (G j) ns[j] v wr q (nItemF ns[j]) (q : Int) rfl rfl (by omega) ((unhide HS).1.2 _ (List.getElem_mem hlt)) hv)
   have HST := hide (fun (W : World) (ht : Turn (G j) wr W) (hm : ItemSFull (G j) W v (marksItemF q ns[j])) => (show WinRowOwn S W b off (mtItemSSF ns k (j + 1)) G ∧ Turn S w W from by
    have e := (unhide HR).1.step (unhide HLr) hjx _ v c0 ht hm
    rw [unhide HQ, mtItemSSF_step ns k j hlt] at e
    exact ⟨e.1, (unhide HR).2.trans e.2⟩))
   obtain ⟨va, vn, vc, rfl⟩ := hv.rd.form
   clear hv hat hxl
   generalize nItemF ns[j] = nn at *
   generalize marksItemF q ns[j] = mm at *
   go_wp2_with fail
   refine (unhide HV).mono ?_
   rintro e w2 ⟨rfl, P⟩
   have HR2 := hide (unhide HST _ (unhide P).2 (unhide P).1)
   have hnn : nn ≤ 200000000000000 := by have := unhide HN; have := nItemSSF_take_le (unhide HS) (j + 1); omega
   clear P c0
   go_wp2_with fail
   go_roundw
   case rel => exact ⟨j + 1, q + nn, by omega, by go_num, by go_num, HN, HR2⟩
   case measure => simp [intOf]; omega
  ·have e : j = ns.length := by omega
   subst e
   have HP := hide (show WinRowOwn S wr b off (marksItemSSF k ns) G ∧ Turn S w wr by rw [← mtItemSSF_all]; exact unhide HR)
   have HE := hide (show q = k + nItemSSF ns by have := unhide HQ; rwa [List.take_length] at this)
   go_wp2_with fail
   go_ret
   exact ⟨by rw [unhide HE]; rfl, HP⟩
theorem markItemSSF_none (w : World) (a : Option Addr) (cap : Nat) (K : Int) : Calls Tryz.prog 43 #[.slice a 0 cap, .int .i64 K] w fun e w' => e = .returned (.int .i64 K) ∧ w' = w := by
 go_enter Tryz.func43, Tryz.ntmps43
 go_wp2
 refine wp_loop_rounds 1 ?_
 rw [rounds_succ]
 go_wp2
 go_ret
 exact ⟨rfl, rfl⟩
theorem markItemSSF_kit (S : List Nat) (ns : List (List ItemV)) (v : Value) (w : World) (k n : Nat) (K : Int) (hK : K = (k : Int)) (hn : nItemSSF ns = n) (hk : k ≤ 10000000000000) (hs : SmallItemSSF ns) (h : ItemSSFull S w v ns) :
  Calls Tryz.prog 43 #[v, .int .i64 K] w fun e w' => e = .returned (.int .i64 (K + (n : Int))) ∧ Hid (ItemSSFull S w' v (marksItemSSF k ns) ∧ Turn S w w') := by
 subst hK hn
 obtain ⟨a, c, rfl, hl, h⟩ := h
 rcases h with rfl | ⟨b, off, G, rfl, h⟩
 ·refine (markItemSSF_none w a c k).mono ?_
  rintro e w' ⟨rfl, rfl⟩
  exact ⟨by simp [nItemSSF], hide ⟨⟨a, c, rfl, hl, .inl rfl⟩, Turn.refl _ _⟩⟩
 ·refine (markItemSSF_row S w b off c ns G k hk hs hl h).mono ?_
  rintro e w' ⟨rfl, P⟩
  have ht := (unhide P).2
  exact ⟨by rw [Int.natCast_add], hide ⟨⟨_, c, by rw [marksItemSSF_len], fun k hk => Nat.lt_of_lt_of_le (hl k hk) ht.size, .inr ⟨b, off, G, rfl, (unhide P).1⟩⟩, ht⟩⟩
end Go.Proofs.YtknkdbfgfcgkiaaGreatDoor

namespace Go.Proofs.YtknkdbfgfcgkiaaGreatDoor
open Go.RowKit Go.Maps Go.Deep Go.ChangeShapes Go.WideShapes Go.ChangeAt

end Go.Proofs.YtknkdbfgfcgkiaaGreatDoor

set_option linter.unusedVariables false
namespace Go.Proofs.YtknkdbfgfcgkiaaGreatDoor
open Go.RowKit Go.Maps

/-- a world in which all blocks of W are as they were -/
structure LaterW (W : World) where
 to : World
 bel : Below W.heap.size W to
instance (W : World) : Nonempty (LaterW W) := ⟨⟨W, Below.refl _ _⟩⟩
theorem LaterW.cell {W : World} (x : LaterW W) {g i : Nat} {v : Value} (h : W.cell? ⟨g, i, none⟩ = some v) : x.to.cell? ⟨g, i, none⟩ = some v := (x.bel.cell (lt_of_cell0 h)).trans h
theorem LaterW.frozen {W : World} (x : LaterW W) {g i : Nat} (hg : g < W.heap.size) (h : W.frozen? ⟨g, i, none⟩ = false) : x.to.frozen? ⟨g, i, none⟩ = false := (x.bel.frozen (by exact hg)).trans h
theorem LaterW.on {W w' : World} (x : LaterW W) (h : Below x.to.heap.size x.to w') : ∃ y : LaterW W, w' = y.to := ⟨⟨w', x.bel.trans (h.mono x.bel.size)⟩, rfl⟩
theorem wp_region_later {P : Program} {id : Nat} {Q : Exit → Act → World → Prop} {a : Act} {w : World} {l : List Oper} (hm : P.follows .mixedOrders = true) (hB : Region.lexB .any l.toArray = true)
  (h : wpQuiet P l.toArray (fun w' => ∃ x : LaterW w, w' = x.to) (fun a' => ∀ w', (∃ x : LaterW w, w' = x.to) → Q .normal a' w') l a) : (Code.region id l.toArray true).wp P Q a w :=
 wp_region_quiet (C := fun w' => ∃ x : LaterW w, w' = x.to) hm hB ⟨⟨{ w with drawn := w.drawn + 1 }, ⟨rfl, rfl, rfl, Nat.le_refl _, fun _ _ => rfl⟩⟩, rfl⟩ h
theorem quiet_ret {P : Program} {W : World} {f : FuncId} {args : Array Value} {x : LaterW W} {v : Value} (h : Calls P f args x.to fun e w' => e = .returned v ∧ Below x.to.heap.size x.to w') : Calls P f args x.to fun e w' => e = .returned v ∧ ∃ y : LaterW W, w' = y.to :=
 h.mono fun _ _ ⟨he, hb⟩ => ⟨he, x.on hb⟩
end Go.Proofs.YtknkdbfgfcgkiaaGreatDoor
