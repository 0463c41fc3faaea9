/-
  What the law on streams in pieces asks: two listeners compared; rows of rows put behind each other; a listener in a variable.
-/
import Derived.Test.YtlgmmibncoedgaaMerged41
import Derived.Test.YtlgmmibncoedgaaPiecesM
import Derived.Test.YtlgmmibncoedgaaSplitFeedI
import Derived.Test.YtlgmmibncoedgaaMerged16
import Derived.Handy
import Derived.BigQuiet
import Derived.Deep.QuietTactic
import Derived.Deep.DeepCutAuto
import Derived.Deep.CutBlock
import Derived.Deep.RegionWith
import Derived.Deep.RegionHeld3
set_option linter.unusedVariables false
namespace Go.Proofs.Ytlgmmibncoedgaa
open Go.RowKit Go.Maps Go.Deep

theorem BoxF.pr {w : World} {g : Nat} {a b : Value} (h : BoxF w g [a, b]) : (w.cell? ⟨g, 0, none⟩ = some a ∧ w.cell? ⟨g, 1, none⟩ = some b) ∧ (w.frozen? ⟨g, 0, none⟩ = false ∧ w.frozen? ⟨g, 1, none⟩ = false) := two33 h
theorem boxF_new2 (w : World) (a b : Value) (T : TypeId) : BoxF (w.alloc (.cells #[a, b] T)) w.heap.size [a, b] := boxF_new w [a, b] T
theorem sp_form {w : World} {v : Value} {d : SplitV} (h : SplitRd w v d) : ∃ a n c, v = .agg #[.slice a n c, .int .i64 d.lost] := by
  obtain ⟨v0, rfl, h0⟩ := h
  obtain ⟨a, c, rfl⟩ := h0.len
  exact ⟨a, _, c, rfl⟩
theorem bss_n {w : World} {a : Option Addr} {n c : Nat} {ns : List (List UInt8)} (h : ByteSSRd w (.slice a n c) ns) : n = ns.length := by
  obtain ⟨a', c', e, h⟩ := h
  simp only [Value.slice.injEq] at e
  exact e.2.1
def LenQ (vs : List Value) (ms : List (List UInt8)) : Prop := vs.length + ms.length ≤ 1000000
theorem bvLit (w : World) (B : Nat) (hB : B ≤ w.heap.size) : BvRow B (w.alloc (.cells #[] 22)) (.slice (some ⟨w.heap.size, 0, none⟩) 0 0) [] :=
  World.ownsRow_lit (size := 1) w #[] 0 hB (by unfold maxLen; omega) rfl
theorem ByteSSOwn.below {Q : List Nat} {B : Nat} {w w' : World} {v : Value} {ns : List (List UInt8)} (h : ByteSSOwn Q w v ns) (hb : Below B w w') (hQ : ∀ k ∈ Q, k < B) : ByteSSOwn Q w' v ns := by
  obtain ⟨a, c, rfl, hl, h⟩ := h
  have kc : ∀ k i, k < B → w'.cell? ⟨k, i, none⟩ = w.cell? ⟨k, i, none⟩ := fun k i hk => hb.cell (by exact hk)
  have kf : ∀ k i, k < B → w'.frozen? ⟨k, i, none⟩ = w.frozen? ⟨k, i, none⟩ := fun k i hk => hb.frozen (by exact hk)
  refine ⟨a, c, rfl, fun k hk => Nat.lt_of_lt_of_le (hl k hk) hb.size, ?_⟩
  rcases h with h | ⟨b, off, G, vs, rfl, h⟩
  · exact .inl h
  · refine .inr ⟨b, off, G, vs, rfl, h.mem, h.sub, h.apart, h.off', fun i hi => (kc _ _ (hQ b h.mem)).trans (h.cell i hi), fun i hi => ?_⟩
    have o := h.own i hi
    have hs := h.sub i hi
    rcases o with o | ⟨b', off', cap', e, hS, hb', hc, hf⟩
    · exact .inl o
    · have hk : b' < B := hQ b' (hs b' (by rw [e]; simp))
      exact .inr ⟨b', off', cap', e, hS, Nat.lt_of_lt_of_le hb' hb.size, fun i hi => (kc _ _ hk).trans (hc i hi), fun i hi => (kf _ _ hk).trans (hf.1 i hi), hf.2⟩
/-- rows that lie below, put into a new row of rows: as they were -/
theorem spread1 {B : Nat} {Q : List Nat} {w w' : World} {v : Value} {vs us : List Value} {ms : List (List UInt8)} (r : BvRow B w v vs) (hm : BsQ (fun k => k ∈ Q) w us ms) (hQ : ∀ k ∈ Q, k < B) (g : w.grownBy w' v.ownBlock) : BsQ (fun k => k < B) w' us ms := by
  have t4 : Turn v.ownBlock.toList w w' := Turn.of_grown g (fun k hk => .inl (by rw [hk]; simp))
  exact (hm.mono (fun k _ hk => hQ k hk)).turn t4 (fun k hk => by have := r.ge k (by simpa using hk); omega)
theorem spread2 {B : Nat} {Q : List Nat} {w w' : World} {v v' : Value} {vs us : List Value} {ns ms : List (List UInt8)} (r : BvRow B w v vs) (hn : BsQ (fun k => k < B) w vs ns) (hm : BsQ (fun k => k ∈ Q) w us ms) (hQ : ∀ k ∈ Q, k < B) (g : w.grownBy w' v.ownBlock) (r' : BvRow B w' v' (vs ++ us)) : ByteSSRd w' v' (ns ++ ms) := by
  have t4 : Turn v.ownBlock.toList w w' := Turn.of_grown g (fun k hk => .inl (by rw [hk]; simp))
  exact r'.rdQ ((hn.append (hm.mono (fun k _ hk => hQ k hk))).turn t4 (fun k hk => by have := r.ge k (by simpa using hk); omega))
theorem below_s2 {n : Nat} {W X : World} {nb : Nat} (h : Below n W X) (hn : n ≤ nb) (a b : Value) : Below n W ((X.setCell ⟨nb, 0, none⟩ a).setCell ⟨nb, 1, none⟩ b) :=
  (h.setCell (p := ⟨nb, 0, none⟩) hn _).setCell (p := ⟨nb, 1, none⟩) hn _
theorem ended_a2 {W X : World} {q0 : Option Addr} {q1 q2 : Nat} {f : Int} {d : SplitV} {Q : List Nat} {vh : Value} {ns : List (List UInt8)} (hb : Below W.heap.size W X) (h : SplitRd X (.agg #[.slice q0 q1 q2, .int .i64 f]) d) (ho : ByteSSOwn Q X vh ns) :
    BoxF (X.alloc (.cells #[.slice q0 q1 q2, .int .i64 f] 35)) X.heap.size [.slice q0 q1 q2, .int .i64 f] ∧ SplitRd (X.alloc (.cells #[.slice q0 q1 q2, .int .i64 f] 35)) (.agg #[.slice q0 q1 q2, .int .i64 f]) d ∧ ByteSSOwn Q (X.alloc (.cells #[.slice q0 q1 q2, .int .i64 f] 35)) vh ns ∧ Below W.heap.size W (X.alloc (.cells #[.slice q0 q1 q2, .int .i64 f] 35)) :=
  ⟨boxF_new2 X _ _ _, h.up ((Below.refl _ _).alloc (Nat.le_refl _) _), ho.up ((Below.refl _ _).alloc (Nat.le_refl _) _), hb.alloc hb.size _⟩
theorem ended_b2 {W X : World} {nb : Nat} {z0 z1 : Value} {S Q : List Nat} {q0 : Option Addr} {q1 q2 : Nat} {f : Int} {d : SplitV} {vh : Value} {ns : List (List UInt8)} (hb : Below W.heap.size W X) (n : BoxF X nb [z0, z1]) (hn : W.heap.size ≤ nb) (hm : ∀ k ∈ S, nb < k) (hq : ∀ k ∈ Q, nb < k) (h : SplitOwn S X (.agg #[.slice q0 q1 q2, .int .i64 f]) d) (ho : ByteSSOwn Q X vh ns) :
    BoxF ((X.setCell ⟨nb, 0, none⟩ (.slice q0 q1 q2)).setCell ⟨nb, 1, none⟩ (.int .i64 f)) nb [.slice q0 q1 q2, .int .i64 f] ∧ SplitRd ((X.setCell ⟨nb, 0, none⟩ (.slice q0 q1 q2)).setCell ⟨nb, 1, none⟩ (.int .i64 f)) (.agg #[.slice q0 q1 q2, .int .i64 f]) d ∧ ByteSSOwn Q ((X.setCell ⟨nb, 0, none⟩ (.slice q0 q1 q2)).setCell ⟨nb, 1, none⟩ (.int .i64 f)) vh ns ∧ Below W.heap.size W ((X.setCell ⟨nb, 0, none⟩ (.slice q0 q1 q2)).setCell ⟨nb, 1, none⟩ (.int .i64 f)) := by
  have q := (n.set 0 (.slice q0 q1 q2) (by simp)).set 1 (.int .i64 f) (by simp)
  simp only [List.set] at q
  have t : Turn [nb] X ((X.setCell ⟨nb, 0, none⟩ (.slice q0 q1 q2)).setCell ⟨nb, 1, none⟩ (.int .i64 f)) := ((Turn.refl _ _).setCell (by simp) _ _).setCell (by simp) _ _
  exact ⟨q, (h.turn t (fun k hk hq => by have := hm k hk; simp at hq; omega)).rd, ho.turn t (fun k hk hq' => by have := hq k hk; simp at hq'; omega), hb.trans (t.below hb.size (by simpa using hn))⟩
set_option maxRecDepth 20000 in
set_option maxHeartbeats 3200000 in
theorem leSplit_same (d : SplitV) (v v' : Value) (w : World) (hs : SmallSplit d) (h : SplitRd w v d) (h' : SplitRd w v' d) :
    Calls Try.prog 18 #[v, v'] w fun e w' => e = .returned (.bool true) ∧ Below w.heap.size w w' := by
  obtain ⟨v0, rfl, h0⟩ := h
  obtain ⟨v0', rfl, h0'⟩ := h'
  obtain ⟨buf, lost⟩ := d
  simp only at h0 h0' ⊢
  have cv := hide (fun (W : World) (b : Below w.heap.size w W) => And.intro (h0.up b) (h0'.up b))
  obtain ⟨a, c, rfl⟩ := h0.len
  obtain ⟨a', c', rfl⟩ := h0'.len
  clear h0 h0' hs
  have bA := hide (((Below.refl w.heap.size w).alloc (Nat.le_refl _) (.cells #[.slice a buf.length c, .int .i64 lost] 35)).alloc (by simp) (.cells #[.slice a' buf.length c', .int .i64 lost] 35))
  have hcv := conv_back (unhide cv _ (unhide bA)).1
  have hcv' := conv_back (unhide cv _ (unhide bA)).2
  generalize (⟨buf.toArray⟩ : ByteArray) = st at *
  generalize buf.length = m at *
  clear cv
  go_enter Try.func18, Try.ntmps18
  go_wp2_with fail
  go_ret
  exact ⟨by simp, unhide bA⟩
end Go.Proofs.Ytlgmmibncoedgaa
