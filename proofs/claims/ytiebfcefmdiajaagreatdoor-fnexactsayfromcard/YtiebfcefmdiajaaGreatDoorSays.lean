/-
  Words in memory: for reading and of one's own; the laws' own helpers over one: how much it holds, how it is copied, compared, and how one that comes in is opened.
-/
import Derived.Test.YtiebfcefmdiajaaGreatDoorSayMath
import Derived.Test.YtiebfcefmdiajaaGreatDoorBoxes
import Derived.OpenShut
import Derived.Handy
set_option linter.unusedVariables false
namespace Go.Proofs.YtiebfcefmdiajaaGreatDoor
open Go.RowKit Go.Maps Go.Deep Go.ChangeShapes Go.WideShapes Go.ChangeAt

def SayFit (s : SayV) : Prop := (s.name.size ≤ maxLen ∧ s.stamp.length ≤ maxLen ∧ VerOk s.stamp) ∧ (-9223372036854775808 ≤ s.kind ∧ s.kind ≤ 9223372036854775807) ∧ (-9223372036854775808 ≤ s.src ∧ s.src ≤ 9223372036854775807) ∧ (-9223372036854775808 ≤ s.dst ∧ s.dst ≤ 9223372036854775807) ∧ (-9223372036854775808 ≤ s.val ∧ s.val ≤ 9223372036854775807)
def SmallSay (s : SayV) : Prop := (s.name.size ≤ 1048576 ∧ VerSmall s.stamp) ∧ SayFit s
def SayRd (w : World) (v : Value) (s : SayV) : Prop := ∃ v5, v = .agg #[.int .i64 s.kind, .int .i64 s.src, .int .i64 s.dst, .string s.name, .int .i64 s.val, v5] ∧ VerRd w v5 s.stamp
def SayOwn (S : List Nat) (w : World) (v : Value) (s : SayV) : Prop := ∃ v5, v = .agg #[.int .i64 s.kind, .int .i64 s.src, .int .i64 s.dst, .string s.name, .int .i64 s.val, v5] ∧ VerOwn S w v5 s.stamp
theorem SayRd.up {w w' : World} {v : Value} {d : SayV} (h : SayRd w v d) (hb : Below w.heap.size w w') : SayRd w' v d := by
  obtain ⟨v0, e, h0⟩ := h
  exact ⟨v0, e, h0.up hb⟩
theorem SayOwn.rd {S : List Nat} {w : World} {v : Value} {d : SayV} (h : SayOwn S w v d) : SayRd w v d := by
  obtain ⟨v0, e, h0⟩ := h
  exact ⟨v0, e, h0.rd⟩
theorem SayOwn.turn {S S' : List Nat} {w w' : World} {v : Value} {d : SayV} (h : SayOwn S w v d) (ht : Turn S' w w') (hS : ∀ k ∈ S, k ∉ S') : SayOwn S w' v d := by
  obtain ⟨v0, e, h0⟩ := h
  exact ⟨v0, e, h0.turn ht hS⟩
theorem SayOwn.up {S : List Nat} {w w' : World} {v : Value} {d : SayV} (h : SayOwn S w v d) (hb : Below w.heap.size w w') : SayOwn S w' v d := h.turn (Turn.of_below (S := []) hb) (by simp)
theorem SayOwn.lt {S : List Nat} {w : World} {v : Value} {d : SayV} (h : SayOwn S w v d) : ∀ k ∈ S, k < w.heap.size := by
  obtain ⟨v0, e, h0⟩ := h
  exact h0.lt
theorem SayRd.form {w : World} {v : Value} {d : SayV} (h : SayRd w v d) : ∃ k f t nm vl a n c, v = .agg #[.int .i64 k, .int .i64 f, .int .i64 t, .string nm, .int .i64 vl, .slice a n c] := by
  obtain ⟨v0, rfl, h0⟩ := h
  obtain ⟨a0, c0, rfl⟩ := h0.len
  exact ⟨_, _, _, _, _, _, _, _, rfl⟩
def nSay (d : SayV) : Nat := 2 * d.stamp.length
theorem nSay_le {d : SayV} (h : SmallSay d) : nSay d ≤ 100000000 := by have := h.1.2.1; unfold nSay; omega
theorem bcell {W w1 : World} (hb : Below W.heap.size W w1) : (∀ b o, b < W.heap.size → w1.cell? ⟨b, o, none⟩ = W.cell? ⟨b, o, none⟩) ∧ (∀ b o, b < W.heap.size → w1.frozen? ⟨b, o, none⟩ = W.frozen? ⟨b, o, none⟩) :=
  ⟨fun b o h => hb.cell (p := ⟨b, o, none⟩) h, fun b o h => hb.frozen (p := ⟨b, o, none⟩) h⟩
set_option maxHeartbeats 3200000 in
theorem eqSay_kit (d : SayV) (v v' : Value) (w : World) (hs : SmallSay d) (h : SayRd w v d) (h' : SayRd w v' d) :
    Calls Tryz.prog 8 #[v, v'] w fun e w' => e = .returned (.bool true) ∧ Below w.heap.size w w' := by
  obtain ⟨v0, rfl, i0⟩ := h
  obtain ⟨v0', rfl, i0'⟩ := h'
  obtain ⟨kind, src, dst, name, val, stamp⟩ := d
  have hl := hs.1.2.1
  simp only at hl i0 i0' ⊢
  have HA := hide (fun W (b : Below w.heap.size w W) => eqVerS_rd W v0 v0' stamp (by omega) (i0.up b) (i0'.up b))
  obtain ⟨a0, c0, rfl⟩ := i0.len
  obtain ⟨a0', c0', rfl⟩ := i0'.len
  clear i0 i0' hs hl
  go_enter Tryz.func8, Tryz.ntmps8
  go_wp2_with fail
  refine (unhide HA _ (by go_grown)).mono ?_
  rintro e w1 ⟨rfl, b1⟩
  have B1 := hide (show Below w.heap.size w w1 from Below.trans (by go_grown) (b1.mono (by simp; omega)))
  clear b1
  go_wp2_with fail
  go_ret
  exact ⟨rfl, unhide B1⟩
end Go.Proofs.YtiebfcefmdiajaaGreatDoor
