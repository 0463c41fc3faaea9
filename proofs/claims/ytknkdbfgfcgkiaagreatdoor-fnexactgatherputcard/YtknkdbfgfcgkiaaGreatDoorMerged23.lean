/-
  Marks over a list of texts, found again.
-/
/-
  Marks over a list of windows, found again.
-/
/-
  Gatherers of one's own: inputs, windows and stamp in blocks of their own; their marks written, and found again.
-/
/-
  The inputs of a gatherer: which may be.
-/
/-
  The program's inputsOk: which inputs may be.
-/
/-
  The program's GatherNew.
-/
import Derived.Test.YtknkdbfgfcgkiaaGreatDoorStrRows
import Derived.Deep.RegionHeld3
import Derived.Test.YtknkdbfgfcgkiaaGreatDoorMerged7
import Derived.Test.YtknkdbfgfcgkiaaGreatDoorMerged22
import Derived.Test.YtknkdbfgfcgkiaaGreatDoorMerged6
import Derived.Test.YtknkdbfgfcgkiaaGreatDoorMerged14
import Derived.Test.YtknkdbfgfcgkiaaGreatDoorMerged13
import Derived.Test.YtknkdbfgfcgkiaaGreatDoorMerged9
import Derived.Handy
import Derived.Test.YtknkdbfgfcgkiaaGreatDoorMerged10
set_option linter.unusedVariables false
namespace Go.Proofs.YtknkdbfgfcgkiaaGreatDoor
open Go.RowKit Go.Maps Go.Deep

set_option maxHeartbeats 3200000 in
theorem heldStringS_row (w : World) (b off cap : Nat) (ts : List ByteArray) (k : Nat) (hk : k ≤ 1000000000000000) (hl : ts.length ≤ 1048576) (hb : b < w.heap.size) (hc : StrsAt w b off (marksStringS k ts)) :
  Calls Tryz.prog 47 #[.slice (some ⟨b, off, none⟩) ts.length cap, .int .i64 (k : Int)] w fun e w' => e = .returned (.int .i64 ((k + ts.length : Nat) : Int)) ∧ Below w.heap.size w w' := by
 have HC := hide (show ∀ j, j < ts.length → w.cell? ⟨b, off + j, none⟩ = some (.string (mText ((k + j : Nat) : Int))) from fun j hj => by
  have hj' : j < (marksStringS k ts).length := by rw [marksStringS_len]; exact hj
  have := hc j hj'
  simpa [marksStringS] using this)
 clear hc
 generalize ts.length = n at *
 go_enter Tryz.func47, Tryz.ntmps47
 go_wp2_with fail
 go_loopw [1, 5] (fun kv i wr => ∃ j : Nat, j ≤ n ∧ i = .int .i64 j ∧ kv = .int .i64 ((k + j : Nat) : Int) ∧ Hid (Below w.heap.size w wr)) (fun _ i _ => n - (intOf i).toNat)
 case atStart => exact ⟨0, Nat.zero_le _, rfl, rfl, hide (Below.refl _ _)⟩
 case round =>
  obtain ⟨j, hj, rfl, rfl, HB⟩ := hrel
  by_cases hlt : j < n
  ·have hkj : ((k + j : Nat) : Int) ≤ 999999999999999999 := by omega
   have HM := hide (fun W => markText_any ((k + j : Nat) : Int) hkj W)
   have HCJ := hide (fun (X : World) (bx : Below w.heap.size w X) => show X.cell? ⟨b, off + j, none⟩ = some (.string (mText ((k + j : Nat) : Int))) from (bx.cell (by exact hb)).trans (unhide HC j hlt))
   have hK1 : (0 : Int) ≤ ((k + j : Nat) : Int) := by omega
   have hK2 : ((k + j : Nat) : Int) ≤ 10000000000000000 := by omega
   have HKE := hide (show (((k + j : Nat) : Int) + 1 : Int) = ((k + (j + 1) : Nat) : Int) by omega)
   clear hkj
   generalize mText ((k + j : Nat) : Int) = mt at *
   generalize ((k + j : Nat) : Int) = K at *
   have HBD := hide (unhide HB).drew
   have KP := hide (show ∀ X : World, Below w.heap.size w X → X.cell? ⟨b, off + j, none⟩ = some (.string mt) ∧ Hid (Below w.heap.size w X) from fun X h => ⟨unhide HCJ X h, hide h⟩)
   have c0 := unhide HCJ wr (unhide HB)
   go_wp2_with fail
   go_region_held3 (fun X => X.cell? ⟨b, off + j, none⟩ = some (.string mt) ∧ Hid (Below w.heap.size w X)) ((refine unhide KP _ ?_; exact unhide (by assumption)))
    (first | (go_at_call 78; refine (unhide HM _).mono ?_; rintro e w2 ⟨rfl, hb2⟩; have HB2 := hide ((unhide HBD).trans (hb2.mono (unhide HBD).size)); clear hb2))
   all_goals
    clear c0
    go_wp2_with fail
    go_roundw
    case rel => exact ⟨j + 1, by omega, by go_num, by rw [unhide HKE], HB2⟩
    case measure => simp [intOf]; omega
  ·have e : j = n := by omega
   subst e
   go_wp2_with fail
   go_ret
   exact ⟨rfl, unhide HB⟩
theorem heldStringS_none (w : World) (a : Option Addr) (cap : Nat) (K : Int) : Calls Tryz.prog 47 #[.slice a 0 cap, .int .i64 K] w fun e w' => e = .returned (.int .i64 K) ∧ w' = w := by
 go_enter Tryz.func47, Tryz.ntmps47
 go_wp2
 refine wp_loop_rounds 1 ?_
 rw [rounds_succ]
 go_wp2
 go_ret
 exact ⟨rfl, rfl⟩
theorem heldStringS_kit (ts : List ByteArray) (v : Value) (w : World) (k n : Nat) (K : Int) (hK : K = (k : Int)) (hn : nStringS ts = n) (hk : k ≤ 1000000000000000) (hs : SmallStringS ts) (h : StringSRd w v (marksStringS k ts)) :
  Calls Tryz.prog 47 #[v, .int .i64 K] w fun e w' => e = .returned (.int .i64 (K + (n : Int))) ∧ Below w.heap.size w w' := by
 subst hK hn
 obtain ⟨a, c, rfl, h⟩ := h
 rw [marksStringS_len]
 rcases h with h0 | ⟨b, off, rfl, hb, hc⟩
 ·have hn : ts = [] := List.eq_nil_of_length_eq_zero (by have := congrArg List.length h0; rwa [marksStringS_len] at this)
  subst hn
  refine (heldStringS_none w a c k).mono ?_
  rintro e w' ⟨rfl, rfl⟩
  exact ⟨by simp [nStringS], Below.refl _ _⟩
 ·refine (heldStringS_row w b off c ts k hk hs.1 hb hc).mono ?_
  rintro e w' ⟨rfl, b⟩
  exact ⟨by rw [show ((k + ts.length : Nat) : Int) = (k : Int) + ((nStringS ts : Nat) : Int) by unfold nStringS; omega], b⟩
end Go.Proofs.YtknkdbfgfcgkiaaGreatDoor

set_option linter.unusedVariables false
namespace Go.Proofs.YtknkdbfgfcgkiaaGreatDoor
open Go.RowKit Go.Maps Go.Deep

set_option maxHeartbeats 6400000 in
theorem heldItemSSF_row (w : World) (b off cap : Nat) (ns : List (List ItemV)) (k : Nat) (hk : k ≤ 10000000000000) (hs : SmallItemSSF ns) (hb : b < w.heap.size) (h : WinsAt w b off (marksItemSSF k ns)) :
  Calls Tryz.prog 48 #[.slice (some ⟨b, off, none⟩) ns.length cap, .int .i64 (k : Int)] w fun e w' => e = .returned (.int .i64 ((k + nItemSSF ns : Nat) : Int)) ∧ Below w.heap.size w w' := by
 have HS := hide hs
 have hlen := hs.1.1
 have HO := hide h
 clear hs h
 go_enter Tryz.func48, Tryz.ntmps48
 go_wp2_with fail
 go_loopw [1, 5] (fun kv i wr => ∃ (j q : Nat), j ≤ ns.length ∧ i = .int .i64 j ∧ kv = .int .i64 (q : Int) ∧ Hid (q = k + nItemSSF (ns.take j)) ∧ Hid (Below w.heap.size w wr)) (fun _ i _ => ns.length - (intOf i).toNat)
 case atStart => exact ⟨0, k, Nat.zero_le _, rfl, rfl, by simp [nItemSSF, Hid], Below.refl _ _⟩
 case round =>
  obtain ⟨j, q, hj, rfl, rfl, HQ, HB⟩ := hrel
  by_cases hlt : j < ns.length
  ·have hq : q ≤ 20000000000000 := by have := unhide HQ; have := nItemSSF_take_le (unhide HS) j; omega
   have hml := marksItemSSF_len k ns
   have hjx : j < (marksItemSSF k ns).length := by omega
   have hat : (marksItemSSF k ns)[j] = marksItemF q ns[j] := by
    have := (List.getElem?_eq_getElem hjx).symm.trans (marksItemSSF_get k ns j hlt)
    rw [Option.some.inj this, unhide HQ]
   obtain ⟨v, c0, hv⟩ := (unhide HO).up hb (unhide HB) j hjx
   rw [hat] at hv
   have HN := hide (show q + nItemF ns[j] = k + nItemSSF (ns.take (j + 1)) by rw [nItemSSF_take ns j hlt, unhide HQ]; omega)
   have HV := hide (heldItemF_kit ns[j] v wr q (nItemF ns[j]) (q : Int) rfl rfl (by omega) ((unhide HS).1.2 _ (List.getElem_mem hlt)) hv)
   obtain ⟨va, vn, vc, rfl⟩ := hv.form
   clear hv hat hml hjx
   generalize nItemF ns[j] = nn at *
   have hnn : nn ≤ 200000000000000 := by have := unhide HN; have := nItemSSF_take_le (unhide HS) (j + 1); omega
   have hneg : ¬ ((q : Int) + (nn : Int)) < 0 := by omega
   go_wp2_with fail
   refine (unhide HV).mono ?_
   rintro e w2 ⟨rfl, b2⟩
   have B2 := hide ((unhide HB).trans (b2.mono (unhide HB).size))
   clear b2 c0
   go_wp2_with fail
   go_roundw
   case rel => exact ⟨j + 1, q + nn, by omega, by go_num, by go_num, HN, B2⟩
   case measure => simp [intOf]; omega
  ·have e : j = ns.length := by omega
   subst e
   have HE := hide (show q = k + nItemSSF ns by have := unhide HQ; rwa [List.take_length] at this)
   go_wp2_with fail
   go_ret
   exact ⟨by rw [unhide HE]; rfl, unhide HB⟩
theorem heldItemSSF_none (w : World) (a : Option Addr) (cap : Nat) (K : Int) : Calls Tryz.prog 48 #[.slice a 0 cap, .int .i64 K] w fun e w' => e = .returned (.int .i64 K) ∧ w' = w := by
 go_enter Tryz.func48, Tryz.ntmps48
 go_wp2
 refine wp_loop_rounds 1 ?_
 rw [rounds_succ]
 go_wp2
 go_ret
 exact ⟨rfl, rfl⟩
theorem heldItemSSF_kit (ns : List (List ItemV)) (v : Value) (w : World) (k n : Nat) (K : Int) (hK : K = (k : Int)) (hn : nItemSSF ns = n) (hk : k ≤ 10000000000000) (hs : SmallItemSSF ns) (h : ItemSSRd w v (marksItemSSF k ns)) :
  Calls Tryz.prog 48 #[v, .int .i64 K] w fun e w' => e = .returned (.int .i64 (K + (n : Int))) ∧ Below w.heap.size w w' := by
 subst hK hn
 obtain ⟨a, c, rfl, h⟩ := h
 rw [marksItemSSF_len]
 rcases h with h0 | ⟨b, off, rfl, hb, h⟩
 ·have hn : ns = [] := List.eq_nil_of_length_eq_zero (by have := congrArg List.length h0; rwa [marksItemSSF_len] at this)
  subst hn
  refine (heldItemSSF_none w a c k).mono ?_
  rintro e w' ⟨rfl, rfl⟩
  exact ⟨by simp [nItemSSF], Below.refl _ _⟩
 ·refine (heldItemSSF_row w b off c ns k hk hs hb h).mono ?_
  rintro e w' ⟨rfl, b⟩
  exact ⟨by rw [Int.natCast_add], b⟩
end Go.Proofs.YtknkdbfgfcgkiaaGreatDoor

set_option linter.unusedVariables false
namespace Go.Proofs.YtknkdbfgfcgkiaaGreatDoor
open Go.RowKit Go.Maps Go.Deep

def Far (A B : List Nat) : Prop := ∀ k ∈ A, k ∉ B
theorem Far.symm {A B : List Nat} (h : Far A B) : Far B A := fun k hk hm => h k hm hk
def GatherFull (S : List Nat) (w : World) (v : Value) (g : GatherV) : Prop :=
 ∃ v0 v1 v2 S0 S1 S2, v = .agg #[v0, v1, v2] ∧ S = S0 ++ (S1 ++ S2) ∧ StringSOwn S0 w v0 g.ins ∧ ItemSSFull S1 w v1 g.wins ∧ MarkSOwn S2 w v2 g.shown ∧ Far S0 S1 ∧ Far S0 S2 ∧ Far S1 S2
theorem GatherFull.rd {S : List Nat} {w : World} {v : Value} {g : GatherV} (h : GatherFull S w v g) : GatherRd w v g := by
 obtain ⟨v0, v1, v2, S0, S1, S2, rfl, rfl, h0, h1, h2, _⟩ := h
 exact ⟨v0, v1, v2, rfl, h0.rd, h1.rd, h2.rd⟩
theorem GatherFull.lt {S : List Nat} {w : World} {v : Value} {g : GatherV} (h : GatherFull S w v g) : ∀ k ∈ S, k < w.heap.size := by
 obtain ⟨v0, v1, v2, S0, S1, S2, rfl, rfl, h0, h1, h2, _⟩ := h
 intro k hk
 simp only [List.mem_append] at hk
 rcases hk with hk | hk | hk
 ·exact h0.lt k hk
 ·exact h1.lt k hk
 ·exact h2.lt k hk
theorem GatherFull.turn {S S' : List Nat} {w w' : World} {v : Value} {g : GatherV} (h : GatherFull S w v g) (ht : Turn S' w w') (hS : ∀ k ∈ S, k ∉ S') : GatherFull S w' v g := by
 obtain ⟨v0, v1, v2, S0, S1, S2, rfl, rfl, h0, h1, h2, hf⟩ := h
 exact ⟨v0, v1, v2, S0, S1, S2, rfl, rfl, h0.turn ht (fun k hk => hS k (by simp [hk])), h1.turn ht (fun k hk => hS k (by simp [hk])), h2.turn ht (fun k hk => hS k (by simp [hk])), hf⟩
theorem GatherFull.up {S : List Nat} {w w' : World} {v : Value} {g : GatherV} (h : GatherFull S w v g) (hb : Below w.heap.size w w') : GatherFull S w' v g := h.turn (Turn.of_below (S := []) hb) (by simp)
def SmallGatherF (g : GatherV) : Prop := SmallStringS g.ins ∧ SmallItemSSF g.wins ∧ SmallMarkS g.shown
def nGatherF (g : GatherV) : Nat := nStringS g.ins + nItemSSF g.wins + nMarkS g.shown
theorem nGatherF_le {g : GatherV} (h : SmallGatherF g) : nGatherF g ≤ 100000000 := by
 have h0 := h.1.1
 have h1 := nItemSSF_w g.wins g.wins.length
 rw [List.take_length] at h1
 have h2 := h.2.1.2
 have h3 := h.2.2.1.1
 unfold wItemSS at h2
 unfold nGatherF nStringS nMarkS
 omega
def marksGatherF (k : Nat) (g : GatherV) : GatherV := ⟨marksStringS k g.ins, marksItemSSF (k + nStringS g.ins) g.wins, marksMarkS (k + nStringS g.ins + nItemSSF g.wins) g.shown⟩
theorem eqGatherF_kit (d : GatherV) (v v' : Value) (w : World) (hs : SmallGatherF d) (h : GatherRd w v d) (h' : GatherRd w v' d) :
  Calls Tryz.prog 10 #[v, v'] w fun e w' => e = .returned (.bool true) ∧ Below w.heap.size w w' := eqGather_kit d v v' w ⟨hs.1, hs.2.1.1, hs.2.2⟩ h h'
set_option maxHeartbeats 3200000 in
theorem markGatherF_kit (S : List Nat) (g : GatherV) (v : Value) (w : World) (k n : Nat) (K : Int) (hK : K = (k : Int)) (hn : nGatherF g = n) (hk : k ≤ 500000000) (hs : SmallGatherF g) (h : GatherFull S w v g) :
  Calls Tryz.prog 13 #[v, .int .i64 K] w fun e w' => e = .returned (.int .i64 (K + (n : Int))) ∧ Hid (GatherFull S w' v (marksGatherF k g) ∧ Turn S w w') := by
 subst hK hn
 have hle := nGatherF_le hs
 obtain ⟨v0, v1, v2, S0, S1, S2, rfl, rfl, h0, h1, h2, f01, f02, f12⟩ := h
 obtain ⟨a0, n0, c0, rfl⟩ := h0.rd.form
 obtain ⟨a1, n1, c1, rfl⟩ := h1.rd.form
 obtain ⟨a2, n2, c2, rfl⟩ := h2.rd.form
 obtain ⟨bx, bb, zz⟩ := boxNew3 w (.slice a0 n0 c0) (.slice a1 n1 c1) (.slice a2 n2 c2) 36
 have X := hide bx
 have B0 := hide bb
 have O0 := hide (h0.up bb)
 have O1 := hide (h1.up bb)
 have O2 := hide (h2.up bb)
 have L0 := hide h0.lt
 have L1 := hide h1.lt
 have L2 := hide h2.lt
 have HS := hide hs
 have F01 := hide f01
 have F02 := hide f02
 have F12 := hide f12
 obtain ⟨x0, x1, x2⟩ := bx.three
 unfold nGatherF at hle ⊢
 have HMK := hide (show marksGatherF k g = ⟨marksStringS k g.ins, marksItemSSF (k + nStringS g.ins) g.wins, marksMarkS (k + nStringS g.ins + nItemSSF g.wins) g.shown⟩ from rfl)
 obtain ⟨m0, hm0⟩ : ∃ m, nStringS g.ins = m := ⟨_, rfl⟩
 obtain ⟨m1, hm1⟩ : ∃ m, nItemSSF g.wins = m := ⟨_, rfl⟩
 obtain ⟨m2, hm2⟩ : ∃ m, nMarkS g.shown = m := ⟨_, rfl⟩
 rw [hm0, hm1] at HMK
 rw [hm0, hm1, hm2] at hle ⊢
 have M0 := hide hm0
 have M1 := hide hm1
 have M2 := hide hm2
 clear h0 h1 h2 hs f01 f02 f12 bx bb hm0 hm1 hm2
 go_enter Tryz.func13, Tryz.ntmps13
 go_wp2_with fail
 generalize w.alloc (.cells #[.slice a0 n0 c0, .slice a1 n1 c1, .slice a2 n2 c2] 36) = W at *
 clear x0 x1 x2
 refine (markStringS_kit S0 g.ins _ W k m0 (k : Int) rfl (unhide M0) (by omega) (unhide HS).1 (unhide O0)).mono ?_
 rintro e w1 ⟨rfl, P⟩
 have t1 := (unhide P).2
 have X1 := hide ((unhide X).turn t1 (fun hm => by have := unhide L0 _ hm; omega))
 have P0 := hide (unhide P).1
 have P1 := hide ((unhide O1).turn t1 (fun k hk hm => unhide F01 k hm hk))
 have P2 := hide ((unhide O2).turn t1 (fun k hk hm => unhide F02 k hm hk))
 have T1 := hide t1
 clear t1 P X O0 O1 O2
 obtain ⟨x0, x1, x2⟩ := (unhide X1).three
 go_wp2_with fail
 clear x0 x1 x2
 refine (markItemSSF_kit S1 g.wins _ w1 (k + m0) m1 ((k : Int) + (m0 : Int)) (by omega) (unhide M1) (by omega) (unhide HS).2.1 (unhide P1)).mono ?_
 rintro e w2 ⟨rfl, P⟩
 have t2 := (unhide P).2
 have X2 := hide ((unhide X1).turn t2 (fun hm => by have := unhide L1 _ hm; omega))
 have Q0 := hide ((unhide P0).turn t2 (fun k hk hm => unhide F01 k hk hm))
 have Q1 := hide (unhide P).1
 have Q2 := hide ((unhide P2).turn t2 (fun k hk hm => unhide F12 k hm hk))
 have T2 := hide t2
 clear t2 P X1 P0 P1 P2
 obtain ⟨x0, x1, x2⟩ := (unhide X2).three
 go_wp2_with fail
 clear x0 x1 x2
 refine (markMarkS_kit S2 g.shown _ w2 (k + m0 + m1) m2 ((k : Int) + (m0 : Int) + (m1 : Int)) (by omega) (unhide M2) (by omega) (unhide HS).2.2 (unhide Q2)).mono ?_
 rintro e w3 ⟨rfl, P⟩
 have t3 := (unhide P).2
 have R0 := hide ((unhide Q0).turn t3 (fun k hk hm => unhide F02 k hk hm))
 have R1 := hide ((unhide Q1).turn t3 (fun k hk hm => unhide F12 k hk hm))
 have R2 := hide (unhide P).1
 have T3 := hide t3
 clear t3 P X2 Q0 Q1 Q2
 have HT := hide (show Turn (S0 ++ (S1 ++ S2)) w w3 from ((Turn.of_below (unhide B0)).trans ((unhide T1).mono (fun k hk => .inl (by simp [hk])))).trans (((unhide T2).mono (fun k hk => .inl (by simp [hk]))).trans ((unhide T3).mono (fun k hk => .inl (by simp [hk])))))
 go_wp2_with fail
 go_ret
 refine ⟨by rw [show ((k : Int) + (m0 : Int) + (m1 : Int) + (m2 : Int)) = (k : Int) + ((m0 + m1 + m2 : Nat) : Int) by omega]; rfl, hide ⟨?_, unhide HT⟩⟩
 rw [unhide HMK]
 exact ⟨_, _, _, S0, S1, S2, rfl, rfl, unhide R0, unhide R1, unhide R2, unhide F01, unhide F02, unhide F12⟩
set_option maxHeartbeats 3200000 in
theorem heldGatherF_kit (g : GatherV) (v : Value) (w : World) (k n : Nat) (K : Int) (hK : K = (k : Int)) (hn : nGatherF g = n) (hk : k ≤ 500000000) (hs : SmallGatherF g) (h : GatherRd w v (marksGatherF k g)) :
  Calls Tryz.prog 16 #[v, .int .i64 K] w fun e w' => e = .returned (.int .i64 (K + (n : Int))) ∧ Below w.heap.size w w' := by
 subst hK hn
 have hle := nGatherF_le hs
 obtain ⟨v0, v1, v2, rfl, h0, h1, h2⟩ := h
 obtain ⟨a0, n0, c0, rfl⟩ := h0.form
 obtain ⟨a1, n1, c1, rfl⟩ := h1.form
 obtain ⟨a2, n2, c2, rfl⟩ := h2.form
 obtain ⟨bx, bb, zz⟩ := boxNew3 w (.slice a0 n0 c0) (.slice a1 n1 c1) (.slice a2 n2 c2) 36
 have X := hide bx
 have B0 := hide bb
 have HS := hide hs
 obtain ⟨x0, x1, x2⟩ := bx.three
 unfold nGatherF at hle ⊢
 have H0 := hide (fun W (b : Below w.heap.size w W) => h0.up b)
 have H1 := hide (fun W (b : Below w.heap.size w W) => h1.up b)
 have H2 := hide (fun W (b : Below w.heap.size w W) => h2.up b)
 unfold marksGatherF at H0 H1 H2
 simp only at H0 H1 H2
 obtain ⟨m0, hm0⟩ : ∃ m, nStringS g.ins = m := ⟨_, rfl⟩
 obtain ⟨m1, hm1⟩ : ∃ m, nItemSSF g.wins = m := ⟨_, rfl⟩
 obtain ⟨m2, hm2⟩ : ∃ m, nMarkS g.shown = m := ⟨_, rfl⟩
 rw [hm0] at H1 H2
 rw [hm1] at H2
 rw [hm0, hm1, hm2] at hle ⊢
 have M0 := hide hm0
 have M1 := hide hm1
 have M2 := hide hm2
 clear h0 h1 h2 hs bx bb hm0 hm1 hm2
 go_enter Tryz.func16, Tryz.ntmps16
 go_wp2_with fail
 generalize w.alloc (.cells #[.slice a0 n0 c0, .slice a1 n1 c1, .slice a2 n2 c2] 36) = W at *
 clear x0 x1 x2
 refine (heldStringS_kit g.ins _ W k m0 (k : Int) rfl (unhide M0) (by omega) (unhide HS).1 (unhide H0 _ (unhide B0))).mono ?_
 rintro e w1 ⟨rfl, b1⟩
 have X1 := hide ((unhide X).up b1)
 have B1 := hide ((unhide B0).trans (b1.mono (unhide B0).size))
 clear b1 X B0
 obtain ⟨x0, x1, x2⟩ := (unhide X1).three
 have g1 : ¬ ((k : Int) + (m0 : Int)) < 0 := by omega
 go_wp2_with fail
 clear x0 x1 x2
 refine (heldItemSSF_kit g.wins _ w1 (k + m0) m1 ((k : Int) + (m0 : Int)) (by omega) (unhide M1) (by omega) (unhide HS).2.1 (unhide H1 _ (unhide B1))).mono ?_
 rintro e w2 ⟨rfl, b2⟩
 have X2 := hide ((unhide X1).up b2)
 have B2 := hide ((unhide B1).trans (b2.mono (unhide B1).size))
 clear b2 X1 B1
 obtain ⟨x0, x1, x2⟩ := (unhide X2).three
 have g2 : ¬ ((k : Int) + (m0 : Int) + (m1 : Int)) < 0 := by omega
 go_wp2_with fail
 clear x0 x1 x2
 refine (heldMarkS_kit g.shown _ w2 (k + m0 + m1) m2 ((k : Int) + (m0 : Int) + (m1 : Int)) (by omega) (unhide M2) (by omega) (unhide HS).2.2 (unhide H2 _ (unhide B2))).mono ?_
 rintro e w3 ⟨rfl, b3⟩
 have B3 := hide ((unhide B2).trans (b3.mono (unhide B2).size))
 clear b3 X2 B2
 have g3 : ¬ ((k : Int) + (m0 : Int) + (m1 : Int) + (m2 : Int)) < 0 := by omega
 go_wp2_with fail
 go_ret
 exact ⟨by rw [show ((k : Int) + (m0 : Int) + (m1 : Int) + (m2 : Int)) = (k : Int) + ((m0 + m1 + m2 : Nat) : Int) by omega]; rfl, unhide B3⟩
end Go.Proofs.YtknkdbfgfcgkiaaGreatDoor

set_option linter.unusedVariables false
namespace Go.Proofs.YtknkdbfgfcgkiaaGreatDoor
open Go.RowKit Go.Maps Go.Deep

def hasG (names : List ByteArray) (s : ByteArray) : Bool := names.any fun t => decide (t = s)
theorem hasG_iff (names : List ByteArray) (s : ByteArray) : hasG names s = true ↔ s ∈ names := by
 unfold hasG
 simp
def inOkB (ins : List ByteArray) (i : Nat) : Bool := plainB (ins.getD i ⟨#[]⟩) && !(hasG (ins.take i) (ins.getD i ⟨#[]⟩))
def insB (ins : List ByteArray) : Bool := decide (1 ≤ ins.length) && decide (ins.length ≤ 6) && (List.range ins.length).all (inOkB ins)
theorem insB_len {ins : List ByteArray} (h : ins.length < 1 ∨ 6 < ins.length) : insB ins = false := by
 unfold insB
 rcases h with h | h
 ·rw [show decide (1 ≤ ins.length) = false from decide_eq_false (by omega)]; simp
 ·rw [show decide (ins.length ≤ 6) = false from decide_eq_false (by omega)]; simp
theorem insB_no {ins : List ByteArray} {i : Nat} (hi : i < ins.length) (h : inOkB ins i = false) : insB ins = false := by
 unfold insB
 rw [show (List.range ins.length).all (inOkB ins) = false by rw [List.all_eq_false]; exact ⟨i, List.mem_range.2 hi, by simp [h]⟩]
 simp
theorem insB_yes {ins : List ByteArray} (h1 : 1 ≤ ins.length) (h6 : ins.length ≤ 6) (h : ∀ i, i < ins.length → inOkB ins i = true) : insB ins = true := by
 unfold insB
 rw [show (List.range ins.length).all (inOkB ins) = true by rw [List.all_eq_true]; exact fun i hi => h i (List.mem_range.1 hi), decide_eq_true h1, decide_eq_true h6]
 rfl
theorem insB_facts {ins : List ByteArray} (h : insB ins = true) : 1 ≤ ins.length ∧ ins.length ≤ 6 := by
 unfold insB at h
 simp only [Bool.and_eq_true, decide_eq_true_eq] at h
 exact ⟨h.1.1, h.1.2⟩
theorem inOk_get {ins : List ByteArray} {i : Nat} (hi : i < ins.length) : inOkB ins i = (plainB ins[i] && !(hasG (ins.take i) ins[i])) := by
 unfold inOkB
 simp only [List.getD_eq_getElem?_getD, List.getElem?_eq_getElem hi, Option.getD_some]
/-- none of the first k is the i-th -/
def NewTo (ins : List ByteArray) (i k : Nat) : Prop := ∀ j (h : j < ins.length) (hi : i < ins.length), j < k → ins[j] ≠ ins[i]
theorem new_all {ins : List ByteArray} {i : Nat} (hi : i < ins.length) (h : NewTo ins i i) : hasG (ins.take i) ins[i] = false := by
 cases hh : hasG (ins.take i) ins[i]
 ·rfl
 ·rw [hasG_iff] at hh
  obtain ⟨j, hj, e⟩ := List.getElem_of_mem hh
  simp only [List.length_take] at hj
  rw [List.getElem_take] at e
  exact absurd e (h j (by omega) hi (by omega))
theorem new_none {ins : List ByteArray} {i k : Nat} (hi : i < ins.length) (hk : k < i) (h : ins[k]'(by omega) = ins[i]) : hasG (ins.take i) ins[i] = true := by
 rw [hasG_iff, ← h]
 exact List.mem_take_iff_getElem.2 ⟨k, by omega, rfl⟩
theorem str_neq {t s : ByteArray} (h : t ≠ s) : (t.toList == s.toList) = false := by
 rw [str_same]
 exact decide_eq_false h
end Go.Proofs.YtknkdbfgfcgkiaaGreatDoor

set_option linter.unusedVariables false
namespace Go.Proofs.YtknkdbfgfcgkiaaGreatDoor
open Go.RowKit Go.Maps Go.Deep

theorem contains_hasG (names : List ByteArray) (s : ByteArray) : Lib.containsS names s = hasG names s := by
 rw [Bool.eq_iff_iff, Lib.containsS_iff, hasG_iff]
set_option maxHeartbeats 6400000 in
theorem inputsOk_any (ins : List ByteArray) (a : Option Addr) (c : Nat) (w : World) (hs : SmallStringS ins) (hcap : ins.length ≤ c) (h : StrsIn w a ins) :
  Calls Tryz.prog 86 #[.slice a ins.length c] w fun e w' => e = .returned (.bool (insB ins)) ∧ Below w.heap.size w w' := by
 have hn := hs.1
 by_cases h1 : ins.length < 1
 ·have HE := hide (insB_len (.inl h1))
  rw [unhide HE]
  generalize ins.length = n at *
  clear h hs HE
  have h1' : (n : Int) < 1 := by omega
  go_enter Tryz.func86, Tryz.ntmps86
  go_wp2_with fail
  go_ret
  exact ⟨rfl, Below.refl _ _⟩
 by_cases h6 : 6 < ins.length
 ·have HE := hide (insB_len (.inr h6))
  rw [unhide HE]
  generalize ins.length = n at *
  clear h hs HE
  have h1' : ¬ (n : Int) < 1 := by omega
  have h6' : 6 < (n : Int) := by omega
  go_enter Tryz.func86, Tryz.ntmps86
  go_wp2_with fail
  go_ret
  exact ⟨rfl, Below.refl _ _⟩
 rcases h with rfl | ⟨b, off, rfl, hb, hc⟩
 ·simp at h1
 have HC := hide hc
 have HS := hide hs.2
 have h1' : ¬ (ins.length : Int) < 1 := by omega
 have h6' : ¬ 6 < (ins.length : Int) := by omega
 clear hc hs
 go_enter Tryz.func86, Tryz.ntmps86
 go_wp2_with fail
 go_loopw [15] (fun i wr => ∃ (k : Nat), k ≤ ins.length ∧ i = .int .i64 k ∧ Hid (∀ j, j < k → inOkB ins j = true) ∧ Hid (Below w.heap.size w wr)) (fun i _ => ins.length - (intOf i).toNat)
 case atStart => exact ⟨0, Nat.zero_le _, rfl, hide (fun j hj => absurd hj (Nat.not_lt_zero _)), Below.refl _ _⟩
 case round =>
  obtain ⟨i, hk, rfl, HN, HB⟩ := hrel
  by_cases hlt : i < ins.length
  ·have c0 := ((unhide HB).cell (show b < w.heap.size from hb)).trans (unhide HC i hlt)
   have HV := hide (implPlain_any ins[i] wr (by have := unhide HS _ (List.getElem_mem hlt); unfold maxLen; omega))
   have HNO := hide (fun h => insB_no hlt h)
   rw [inOk_get hlt] at HNO
   cases hp : plainB ins[i]
   ·rw [hp] at HV
    have HE := hide (unhide HNO (by rw [hp]; rfl))
    clear HNO hp
    generalize ins[i] = t at *
    go_wp2_with fail
    refine (unhide HV).mono ?_
    rintro e w1 ⟨rfl, b1⟩
    have B1 := hide ((unhide HB).trans (b1.mono (unhide HB).size))
    clear b1 c0
    go_wp2_with fail
    go_ret
    exact ⟨ret_bool (unhide HE).symm, unhide B1⟩
   ·rw [hp] at HV
    have HDUP := hide (fun (h : hasG (ins.take i) ins[i] = true) => unhide HNO (show (plainB ins[i] && !(hasG (ins.take i) ins[i])) = false by rw [h]; simp))
    have HYES := hide (show hasG (ins.take i) ins[i] = false → ∀ j, j < i + 1 → inOkB ins j = true from fun h j hj => by
     by_cases e : j = i
     ·subst e; rw [inOk_get hlt, hp, h]; rfl
     ·exact unhide HN j (by omega))
    have HCT := hide (fun (W : World) (bW : Below w.heap.size w W) => show Calls Tryz.prog 103 #[.slice (some ⟨b, off, none⟩) i c, .string ins[i]] W fun e w' => e = .returned (.bool (hasG (ins.take i) ins[i])) ∧ w' = W from by
     refine (Tryz.slices_Contains_string b off i c ins ins[i] W (by omega) (by omega) (fun j hj => by
      rw [(bW.cell (show b < w.heap.size from hb)).trans (unhide HC j hj)]
      simp [hj])).mono ?_
     rintro e w' ⟨rfl, rfl⟩
     refine ⟨?_, rfl⟩
     rw [contains_hasG])
    clear HNO hp HN
    generalize hasG (ins.take i) ins[i] = dup at *
    generalize ins[i] = t at *
    have hic : i ≤ c := by omega
    go_wp2_with fail
    refine (unhide HV).mono ?_
    rintro e w1 ⟨rfl, b1⟩
    have B1 := hide ((unhide HB).trans (b1.mono (unhide HB).size))
    clear b1 c0 HV
    go_wp2_with fail
    refine (unhide HCT _ (unhide B1)).mono ?_
    rintro e w2 ⟨rfl, hw⟩
    rw [hw]
    clear hw HCT
    cases dup
    ·have HY := hide (unhide HYES rfl)
     go_wp2_with fail
     go_roundw
     case rel => exact ⟨i + 1, by omega, by go_num, HY, B1⟩
     case measure => simp [intOf]; omega
    ·have HE := hide (unhide HDUP rfl)
     go_wp2_with fail
     go_ret
     exact ⟨ret_bool (unhide HE).symm, unhide B1⟩
  ·have HE := hide (insB_yes (by omega) (by omega) (fun j hj => unhide HN j (by omega)))
   go_wp2_with fail
   go_ret
   exact ⟨ret_bool (unhide HE).symm, unhide HB⟩
end Go.Proofs.YtknkdbfgfcgkiaaGreatDoor

set_option linter.unusedVariables false
namespace Go.Proofs.YtknkdbfgfcgkiaaGreatDoor
open Go.RowKit Go.Maps Go.Deep

theorem boxesF2 (w : World) (A B : List Value) (TA TB : TypeId) :
  BoxF ((w.alloc (.cells A.toArray TA)).alloc (.cells B.toArray TB)) w.heap.size A ∧ BoxF ((w.alloc (.cells A.toArray TA)).alloc (.cells B.toArray TB)) (w.heap.size + 1) B ∧ Below w.heap.size w ((w.alloc (.cells A.toArray TA)).alloc (.cells B.toArray TB)) ∧ ((w.alloc (.cells A.toArray TA)).alloc (.cells B.toArray TB)).heap.size = w.heap.size + 2 := by
 have a1 := boxF_new w A TA
 have b1 := (Below.refl w.heap.size w).alloc (Nat.le_refl _) (.cells A.toArray TA)
 have z1 : (w.alloc (.cells A.toArray TA)).heap.size = w.heap.size + 1 := by simp
 generalize w.alloc (.cells A.toArray TA) = w1 at *
 have a2 := boxF_new w1 B TB
 have u2 := (Below.refl w1.heap.size w1).alloc (Nat.le_refl _) (.cells B.toArray TB)
 have z2 : (w1.alloc (.cells B.toArray TB)).heap.size = w1.heap.size + 1 := by simp
 rw [z1] at a2
 exact ⟨a1.up u2, a2, b1.trans (u2.mono b1.size), by omega⟩
end Go.Proofs.YtknkdbfgfcgkiaaGreatDoor
