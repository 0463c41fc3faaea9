/-
  Gatherers of one's own: inputs, windows and stamp in blocks of their own; their marks written, and found again.
-/
import Derived.Test.YtcjomdbklgjojaaGathers
import Derived.Test.YtcjomdbklgjojaaStrHeld
import Derived.Test.YtcjomdbklgjojaaWinsHeld
import Derived.Test.YtcjomdbklgjojaaMarkHeld
set_option linter.unusedVariables false
namespace Go.Proofs.Ytcjomdbklgjojaa
open Go.RowKit Go.Maps Go.Deep

def Far (A B : List Nat) : Prop := ∀ k ∈ A, k ∉ B
theorem Far.symm {A B : List Nat} (h : Far A B) : Far B A := fun k hk hm => h k hm hk
def GatherFull (S : List Nat) (w : World) (v : Value) (g : GatherV) : Prop :=
  ∃ v0 v1 v2 S0 S1 S2, v = .agg #[v0, v1, v2] ∧ S = S0 ++ (S1 ++ S2) ∧ StringSOwn S0 w v0 g.ins ∧ ItemSSFull S1 w v1 g.wins ∧ MarkSOwn S2 w v2 g.shown ∧ Far S0 S1 ∧ Far S0 S2 ∧ Far S1 S2
theorem GatherFull.rd {S : List Nat} {w : World} {v : Value} {g : GatherV} (h : GatherFull S w v g) : GatherRd w v g := by
  obtain ⟨v0, v1, v2, S0, S1, S2, rfl, rfl, h0, h1, h2, _⟩ := h
  exact ⟨v0, v1, v2, rfl, h0.rd, h1.rd, h2.rd⟩
theorem GatherFull.lt {S : List Nat} {w : World} {v : Value} {g : GatherV} (h : GatherFull S w v g) : ∀ k ∈ S, k < w.heap.size := by
  obtain ⟨v0, v1, v2, S0, S1, S2, rfl, rfl, h0, h1, h2, _⟩ := h
  intro k hk
  simp only [List.mem_append] at hk
  rcases hk with hk | hk | hk
  · exact h0.lt k hk
  · exact h1.lt k hk
  · exact h2.lt k hk
theorem GatherFull.turn {S S' : List Nat} {w w' : World} {v : Value} {g : GatherV} (h : GatherFull S w v g) (ht : Turn S' w w') (hS : ∀ k ∈ S, k ∉ S') : GatherFull S w' v g := by
  obtain ⟨v0, v1, v2, S0, S1, S2, rfl, rfl, h0, h1, h2, hf⟩ := h
  exact ⟨v0, v1, v2, S0, S1, S2, rfl, rfl, h0.turn ht (fun k hk => hS k (by simp [hk])), h1.turn ht (fun k hk => hS k (by simp [hk])), h2.turn ht (fun k hk => hS k (by simp [hk])), hf⟩
theorem GatherFull.up {S : List Nat} {w w' : World} {v : Value} {g : GatherV} (h : GatherFull S w v g) (hb : Below w.heap.size w w') : GatherFull S w' v g := h.turn (Turn.of_below (S := []) hb) (by simp)
def SmallGatherF (g : GatherV) : Prop := SmallStringS g.ins ∧ SmallItemSSF g.wins ∧ SmallMarkS g.shown
def nGatherF (g : GatherV) : Nat := nStringS g.ins + nItemSSF g.wins + nMarkS g.shown
theorem nGatherF_le {g : GatherV} (h : SmallGatherF g) : nGatherF g ≤ 100000000 := by
  have h0 := h.1.1
  have h1 := nItemSSF_w g.wins g.wins.length
  rw [List.take_length] at h1
  have h2 := h.2.1.2
  have h3 := h.2.2.1.1
  unfold wItemSS at h2
  unfold nGatherF nStringS nMarkS
  omega
def marksGatherF (k : Nat) (g : GatherV) : GatherV := ⟨marksStringS k g.ins, marksItemSSF (k + nStringS g.ins) g.wins, marksMarkS (k + nStringS g.ins + nItemSSF g.wins) g.shown⟩
theorem eqGatherF_kit (d : GatherV) (v v' : Value) (w : World) (hs : SmallGatherF d) (h : GatherRd w v d) (h' : GatherRd w v' d) :
    Calls Try.prog 8 #[v, v'] w fun e w' => e = .returned (.bool true) ∧ Below w.heap.size w w' := eqGather_kit d v v' w ⟨hs.1, hs.2.1.1, hs.2.2⟩ h h'
set_option maxHeartbeats 3200000 in
theorem markGatherF_kit (S : List Nat) (g : GatherV) (v : Value) (w : World) (k n : Nat) (K : Int) (hK : K = (k : Int)) (hn : nGatherF g = n) (hk : k ≤ 500000000) (hs : SmallGatherF g) (h : GatherFull S w v g) :
    Calls Try.prog 11 #[v, .int .i64 K] w fun e w' => e = .returned (.int .i64 (K + (n : Int))) ∧ Hid (GatherFull S w' v (marksGatherF k g) ∧ Turn S w w') := by
  subst hK hn
  have hle := nGatherF_le hs
  obtain ⟨v0, v1, v2, S0, S1, S2, rfl, rfl, h0, h1, h2, f01, f02, f12⟩ := h
  obtain ⟨a0, n0, c0, rfl⟩ := h0.rd.form
  obtain ⟨a1, n1, c1, rfl⟩ := h1.rd.form
  obtain ⟨a2, n2, c2, rfl⟩ := h2.rd.form
  obtain ⟨bx, bb, zz⟩ := boxNew3 w (.slice a0 n0 c0) (.slice a1 n1 c1) (.slice a2 n2 c2) 27
  have X := hide bx
  have B0 := hide bb
  have O0 := hide (h0.up bb)
  have O1 := hide (h1.up bb)
  have O2 := hide (h2.up bb)
  have L0 := hide h0.lt
  have L1 := hide h1.lt
  have L2 := hide h2.lt
  have HS := hide hs
  have F01 := hide f01
  have F02 := hide f02
  have F12 := hide f12
  obtain ⟨x0, x1, x2⟩ := bx.three
  unfold nGatherF at hle ⊢
  have HMK := hide (show marksGatherF k g = ⟨marksStringS k g.ins, marksItemSSF (k + nStringS g.ins) g.wins, marksMarkS (k + nStringS g.ins + nItemSSF g.wins) g.shown⟩ from rfl)
  obtain ⟨m0, hm0⟩ : ∃ m, nStringS g.ins = m := ⟨_, rfl⟩
  obtain ⟨m1, hm1⟩ : ∃ m, nItemSSF g.wins = m := ⟨_, rfl⟩
  obtain ⟨m2, hm2⟩ : ∃ m, nMarkS g.shown = m := ⟨_, rfl⟩
  rw [hm0, hm1] at HMK
  rw [hm0, hm1, hm2] at hle ⊢
  have M0 := hide hm0
  have M1 := hide hm1
  have M2 := hide hm2
  clear h0 h1 h2 hs f01 f02 f12 bx bb hm0 hm1 hm2
  go_enter Try.func11, Try.ntmps11
  go_wp2_with fail
  generalize w.alloc (.cells #[.slice a0 n0 c0, .slice a1 n1 c1, .slice a2 n2 c2] 27) = W at *
  clear x0 x1 x2
  refine (markStringS_kit S0 g.ins _ W k m0 (k : Int) rfl (unhide M0) (by omega) (unhide HS).1 (unhide O0)).mono ?_
  rintro e w1 ⟨rfl, P⟩
  have t1 := (unhide P).2
  have X1 := hide ((unhide X).turn t1 (fun hm => by have := unhide L0 _ hm; omega))
  have P0 := hide (unhide P).1
  have P1 := hide ((unhide O1).turn t1 (fun k hk hm => unhide F01 k hm hk))
  have P2 := hide ((unhide O2).turn t1 (fun k hk hm => unhide F02 k hm hk))
  have T1 := hide t1
  clear t1 P X O0 O1 O2
  obtain ⟨x0, x1, x2⟩ := (unhide X1).three
  go_wp2_with fail
  clear x0 x1 x2
  refine (markItemSSF_kit S1 g.wins _ w1 (k + m0) m1 ((k : Int) + (m0 : Int)) (by omega) (unhide M1) (by omega) (unhide HS).2.1 (unhide P1)).mono ?_
  rintro e w2 ⟨rfl, P⟩
  have t2 := (unhide P).2
  have X2 := hide ((unhide X1).turn t2 (fun hm => by have := unhide L1 _ hm; omega))
  have Q0 := hide ((unhide P0).turn t2 (fun k hk hm => unhide F01 k hk hm))
  have Q1 := hide (unhide P).1
  have Q2 := hide ((unhide P2).turn t2 (fun k hk hm => unhide F12 k hm hk))
  have T2 := hide t2
  clear t2 P X1 P0 P1 P2
  obtain ⟨x0, x1, x2⟩ := (unhide X2).three
  go_wp2_with fail
  clear x0 x1 x2
  refine (markMarkS_kit S2 g.shown _ w2 (k + m0 + m1) m2 ((k : Int) + (m0 : Int) + (m1 : Int)) (by omega) (unhide M2) (by omega) (unhide HS).2.2 (unhide Q2)).mono ?_
  rintro e w3 ⟨rfl, P⟩
  have t3 := (unhide P).2
  have R0 := hide ((unhide Q0).turn t3 (fun k hk hm => unhide F02 k hk hm))
  have R1 := hide ((unhide Q1).turn t3 (fun k hk hm => unhide F12 k hk hm))
  have R2 := hide (unhide P).1
  have T3 := hide t3
  clear t3 P X2 Q0 Q1 Q2
  have HT := hide (show Turn (S0 ++ (S1 ++ S2)) w w3 from ((Turn.of_below (unhide B0)).trans ((unhide T1).mono (fun k hk => .inl (by simp [hk])))).trans (((unhide T2).mono (fun k hk => .inl (by simp [hk]))).trans ((unhide T3).mono (fun k hk => .inl (by simp [hk])))))
  go_wp2_with fail
  go_ret
  refine ⟨by rw [show ((k : Int) + (m0 : Int) + (m1 : Int) + (m2 : Int)) = (k : Int) + ((m0 + m1 + m2 : Nat) : Int) by omega]; rfl, hide ⟨?_, unhide HT⟩⟩
  rw [unhide HMK]
  exact ⟨_, _, _, S0, S1, S2, rfl, rfl, unhide R0, unhide R1, unhide R2, unhide F01, unhide F02, unhide F12⟩
set_option maxHeartbeats 3200000 in
theorem heldGatherF_kit (g : GatherV) (v : Value) (w : World) (k n : Nat) (K : Int) (hK : K = (k : Int)) (hn : nGatherF g = n) (hk : k ≤ 500000000) (hs : SmallGatherF g) (h : GatherRd w v (marksGatherF k g)) :
    Calls Try.prog 12 #[v, .int .i64 K] w fun e w' => e = .returned (.int .i64 (K + (n : Int))) ∧ Below w.heap.size w w' := by
  subst hK hn
  have hle := nGatherF_le hs
  obtain ⟨v0, v1, v2, rfl, h0, h1, h2⟩ := h
  obtain ⟨a0, n0, c0, rfl⟩ := h0.form
  obtain ⟨a1, n1, c1, rfl⟩ := h1.form
  obtain ⟨a2, n2, c2, rfl⟩ := h2.form
  obtain ⟨bx, bb, zz⟩ := boxNew3 w (.slice a0 n0 c0) (.slice a1 n1 c1) (.slice a2 n2 c2) 27
  have X := hide bx
  have B0 := hide bb
  have HS := hide hs
  obtain ⟨x0, x1, x2⟩ := bx.three
  unfold nGatherF at hle ⊢
  have H0 := hide (fun W (b : Below w.heap.size w W) => h0.up b)
  have H1 := hide (fun W (b : Below w.heap.size w W) => h1.up b)
  have H2 := hide (fun W (b : Below w.heap.size w W) => h2.up b)
  unfold marksGatherF at H0 H1 H2
  simp only at H0 H1 H2
  obtain ⟨m0, hm0⟩ : ∃ m, nStringS g.ins = m := ⟨_, rfl⟩
  obtain ⟨m1, hm1⟩ : ∃ m, nItemSSF g.wins = m := ⟨_, rfl⟩
  obtain ⟨m2, hm2⟩ : ∃ m, nMarkS g.shown = m := ⟨_, rfl⟩
  rw [hm0] at H1 H2
  rw [hm1] at H2
  rw [hm0, hm1, hm2] at hle ⊢
  have M0 := hide hm0
  have M1 := hide hm1
  have M2 := hide hm2
  clear h0 h1 h2 hs bx bb hm0 hm1 hm2
  go_enter Try.func12, Try.ntmps12
  go_wp2_with fail
  generalize w.alloc (.cells #[.slice a0 n0 c0, .slice a1 n1 c1, .slice a2 n2 c2] 27) = W at *
  clear x0 x1 x2
  refine (heldStringS_kit g.ins _ W k m0 (k : Int) rfl (unhide M0) (by omega) (unhide HS).1 (unhide H0 _ (unhide B0))).mono ?_
  rintro e w1 ⟨rfl, b1⟩
  have X1 := hide ((unhide X).up b1)
  have B1 := hide ((unhide B0).trans (b1.mono (unhide B0).size))
  clear b1 X B0
  obtain ⟨x0, x1, x2⟩ := (unhide X1).three
  have g1 : ¬ ((k : Int) + (m0 : Int)) < 0 := by omega
  go_wp2_with fail
  clear x0 x1 x2
  refine (heldItemSSF_kit g.wins _ w1 (k + m0) m1 ((k : Int) + (m0 : Int)) (by omega) (unhide M1) (by omega) (unhide HS).2.1 (unhide H1 _ (unhide B1))).mono ?_
  rintro e w2 ⟨rfl, b2⟩
  have X2 := hide ((unhide X1).up b2)
  have B2 := hide ((unhide B1).trans (b2.mono (unhide B1).size))
  clear b2 X1 B1
  obtain ⟨x0, x1, x2⟩ := (unhide X2).three
  have g2 : ¬ ((k : Int) + (m0 : Int) + (m1 : Int)) < 0 := by omega
  go_wp2_with fail
  clear x0 x1 x2
  refine (heldMarkS_kit g.shown _ w2 (k + m0 + m1) m2 ((k : Int) + (m0 : Int) + (m1 : Int)) (by omega) (unhide M2) (by omega) (unhide HS).2.2 (unhide H2 _ (unhide B2))).mono ?_
  rintro e w3 ⟨rfl, b3⟩
  have B3 := hide ((unhide B2).trans (b3.mono (unhide B2).size))
  clear b3 X2 B2
  have g3 : ¬ ((k : Int) + (m0 : Int) + (m1 : Int) + (m2 : Int)) < 0 := by omega
  go_wp2_with fail
  go_ret
  exact ⟨by rw [show ((k : Int) + (m0 : Int) + (m1 : Int) + (m2 : Int)) = (k : Int) + ((m0 + m1 + m2 : Nat) : Int) by omega]; rfl, unhide B3⟩
end Go.Proofs.Ytcjomdbklgjojaa
