/-
  sideBySide as a whole: what its value hands to a loop's body.
-/
/-
  What the callers of the iterator over two stamps share: boxes, and what rows they read.
-/
import Derived.Test.YtlbhandkpnjgmaaSideIter
import Derived.Test.YtlbhandkpnjgmaaStampI
import Derived.RangeFuncBox
set_option linter.unusedVariables false
namespace Go.Proofs.Ytlbhandkpnjgmaa
open Go.RowKit Go.Maps Go.Deep Go.Shelf

attribute [local go_sem] Oper.semAt_some

set_option maxHeartbeats 1000000 in
theorem side_in (n : Nat) (a b : Option Addr) (la ca lb cb : Nat) (w : World) :
    CallsIn Fence.wide n Try.prog 52 #[.slice a la ca, .slice b lb cb] w fun e w' => e = .returned (.func (.func 55) #[] #[.pointer (some ⟨w.heap.size, 0, none⟩), .pointer (some ⟨w.heap.size + 1, 0, none⟩)]) ∧ w' = (w.alloc (.cells #[.slice a la ca] 28)).alloc (.cells #[.slice b lb cb] 28) := by
  refine callsIn_of_wp Try.func52 rfl trivial ?_ rfl
  simp only [Try.ntmps52, List.size_toArray, List.length_cons, List.length_nil, Nat.reduceAdd, Nat.reduceSub, Array.replicate_succ, Array.replicate_zero, List.push_toArray, List.append_toArray, List.nil_append, List.cons_append]
  gi_wp2
  go_ret
  exact ⟨rfl, rfl⟩
theorem abides_below {α : Type} {B : Nat} {J : List α → World → Prop} (h : AbidesFrom B J) : ∀ pre X Y, J pre X → Below X.heap.size X Y → J pre Y :=
  fun pre X Y hJ hb => h pre X Y none hJ ⟨hb.os, hb.tape, hb.output, hb.size, fun k hk _ => hb.block k hk⟩ (fun r e => by cases e)
/-- sideBySide hands back a value that stops: all pairs, or a beginning of them -/
theorem side_stops (n : Nat) (hn : 1 ≤ n) (Ba Bb n₀ : Nat) (aa ab : Option Addr) (ca cb : Nat) (xa xb : List MarkV) (hla : xa.length ≤ 12) (hlb : xb.length ≤ 12) (S : List Nat) (hBa : Ba < n₀) (hBb : Bb < n₀) (hSa : Ba ∉ S) (hSb : Bb ∉ S) (w : World) (hn₀ : n₀ ≤ w.heap.size)
    (cA : w.cell? ⟨Ba, 0, none⟩ = some (.slice aa xa.length ca)) (cB : w.cell? ⟨Bb, 0, none⟩ = some (.slice ab xb.length cb)) (rA : MarkLow n₀ S w aa xa) (rB : MarkLow n₀ S w ab xb) :
    SeqStopsK Fence.wide n Try.prog 55 #[.pointer (some ⟨Ba, 0, none⟩), .pointer (some ⟨Bb, 0, none⟩)] encM (Keep n₀ S) (fun ys => ys = sideL xa xb)
      (fun pre => pre <+: sideL xa xb) (xa.length + xb.length) w := fun l J Jx W hW hJ _ hY h0 => by
  have hW' := hW.mono hn₀
  refine side1_in n hn l Ba Bb n₀ aa ab ca cb xa xb hla hlb S hBa hBb hSa hSb J Jx (abides_below hJ) (fun pre x W _ => hY pre x W) W (Nat.le_trans hn₀ hW.size) ((hW'.cell (p := ⟨Ba, 0, none⟩) hBa).trans cA) ((hW'.cell (p := ⟨Bb, 0, none⟩) hBb).trans cB) ?_ ?_ h0
  · rcases rA with h | ⟨b, off, e, hb, hc⟩
    · exact .inl h
    · exact .inr ⟨b, off, e, hb, hc.below hW' hb.1⟩
  · rcases rB with h | ⟨b, off, e, hb, hc⟩
    · exact .inl h
    · exact .inr ⟨b, off, e, hb, hc.below hW' hb.1⟩
/-- a pair whose texts are not too long -/
def MPair : Type := { p : MarkV × MarkV // p.1.a0.size ≤ 1048576 ∧ p.2.a0.size ≤ 1048576 }
/-- the same, told of such pairs alone -/
theorem side_stopsB (n : Nat) (hn : 1 ≤ n) (Ba Bb n₀ : Nat) (aa ab : Option Addr) (ca cb : Nat) (xa xb : List MarkV) (hla : xa.length ≤ 12) (hlb : xb.length ≤ 12) (S : List Nat) (hBa : Ba < n₀) (hBb : Bb < n₀) (hSa : Ba ∉ S) (hSb : Bb ∉ S) (w : World) (hn₀ : n₀ ≤ w.heap.size)
    (cA : w.cell? ⟨Ba, 0, none⟩ = some (.slice aa xa.length ca)) (cB : w.cell? ⟨Bb, 0, none⟩ = some (.slice ab xb.length cb)) (rA : MarkLow n₀ S w aa xa) (rB : MarkLow n₀ S w ab xb) (hsm : ∀ p ∈ sideL xa xb, p.1.a0.size ≤ 1048576 ∧ p.2.a0.size ≤ 1048576) :
    SeqStopsK Fence.wide n Try.prog 55 #[.pointer (some ⟨Ba, 0, none⟩), .pointer (some ⟨Bb, 0, none⟩)] (fun x : MPair => encM x.1) (Keep n₀ S) (fun ys => ys.map (fun x : MPair => x.1) = sideL xa xb)
      (fun pre => pre.map (fun x : MPair => x.1) <+: sideL xa xb) (xa.length + xb.length) w := fun l J Jx W hW hJ _ hY h0 => by
  have hW' := hW.mono hn₀
  refine (side1_in n hn l Ba Bb n₀ aa ab ca cb xa xb hla hlb S hBa hBb hSa hSb (fun pre W => ∃ ps : List MPair, ps.map (fun x : MPair => x.1) = pre ∧ J ps W) (fun pre W => ∃ ps : List MPair, ps.map (fun x : MPair => x.1) = pre ∧ Jx ps W) ?_ ?_ W (Nat.le_trans hn₀ hW.size) ((hW'.cell (p := ⟨Ba, 0, none⟩) hBa).trans cA) ((hW'.cell (p := ⟨Bb, 0, none⟩) hBb).trans cB) ?_ ?_ ⟨[], rfl, h0⟩).mono ?_
  · rintro pre X Y ⟨ps, h1, h2⟩ hb
    exact ⟨ps, h1, abides_below hJ ps X Y h2 hb⟩
  · rintro pre x W1 hx ⟨ps, rfl, h2⟩ hlen
    obtain ⟨fn, tmps, assign, body, hy, hR⟩ := hY ps ⟨x, hsm x hx⟩ W1 h2 (by simpa using hlen)
    refine ⟨fn, tmps, assign, body, hy, hR.mono ?_⟩
    rintro e W2 (⟨h3, h4, h5⟩ | ⟨h3, h4⟩)
    · exact .inl ⟨h3, ⟨ps ++ [⟨x, hsm x hx⟩], by rw [List.map_append]; rfl, h4⟩, h5⟩
    · exact .inr ⟨h3, ps ++ [⟨x, hsm x hx⟩], by rw [List.map_append]; rfl, h4⟩
  · rcases rA with h | ⟨b, off, e, hb, hc⟩
    · exact .inl h
    · exact .inr ⟨b, off, e, hb, hc.below hW' hb.1⟩
  · rcases rB with h | ⟨b, off, e, hb, hc⟩
    · exact .inl h
    · exact .inr ⟨b, off, e, hb, hc.below hW' hb.1⟩
  · rintro e W2 ⟨h1, (⟨ys, h2, ps, h3, h4⟩ | ⟨pre, h2, ps, h3, h4⟩)⟩
    · exact ⟨h1, .inl ⟨ps, h3.trans h2, h4⟩⟩
    · exact ⟨h1, .inr ⟨ps, by show ps.map (fun x : MPair => x.1) <+: sideL xa xb; rw [h3]; exact h2, h4⟩⟩
end Go.Proofs.Ytlbhandkpnjgmaa

set_option linter.unusedVariables false
namespace Go.Proofs.Ytlbhandkpnjgmaa
open Go.RowKit Go.Maps Go.Deep Go.Shelf

theorem mstamp_len {ns : List MarkV} (h : mstampB ns = true) : ns.length ≤ 12 := by
  simp [mstampB] at h
  exact h.1
theorem boxed_up {W W' : World} {B : Nat} {t : TypeId} {v : Value} (h : Boxed W B t v) (hb : Below W.heap.size W W') : Boxed W' B t v := (hb.block B h.lt).trans h
/-- a mark in a box of its own -/
def BoxM (W : World) (B : Nat) (x : MarkV) : Prop := W.heap[B]? = some (.cells #[.string x.a0, .int .i64 x.a1] 76 (0, 0))
theorem boxM_cells {W : World} {B : Nat} {x : MarkV} (h : BoxM W B x) : W.cell? ⟨B, 0, none⟩ = some (.string x.a0) ∧ W.cell? ⟨B, 1, none⟩ = some (.int .i64 x.a1) := by
  constructor <;> simp [World.cell?, show W.heap[B]? = _ from h]
theorem boxM_frozen {W : World} {B : Nat} {x : MarkV} (h : BoxM W B x) (i : Nat) : W.frozen? ⟨B, i, none⟩ = false := by simp [World.frozen?, show W.heap[B]? = _ from h]
theorem ownFrom_size {α : Type} (B n : Nat) : OwnFrom B (fun (_ : α) W => n ≤ W.heap.size) := fun s W W' row hs hg hr => Nat.le_trans hs hg.size
theorem boxM_own (B : Nat) (x : MarkV) : Own (fun (_ : Unit) W => BoxM W B x) := fun s X Y row hs hg hrow =>
  (hg.block B (Array.getElem?_eq_some_iff.1 hs).1 (fun e' => by obtain ⟨o, ho, hc⟩ := hrow B e'.symm; rw [show X.heap[B]? = _ from hs] at ho; cases ho; cases hc)).trans hs
theorem markIn_low {w : World} {a : Option Addr} {ns : List MarkV} (h : MarkIn w a ns) {n₀ : Nat} {S : List Nat} (hn : w.heap.size ≤ n₀) (hS : ∀ k ∈ S, w.heap.size ≤ k) {X : World} (hb : Below w.heap.size w X) : MarkLow n₀ S X a ns := by
  rcases h with h | ⟨b, off, e, hb', hc⟩
  · exact .inl h
  · exact .inr ⟨b, off, e, ⟨by omega, fun hm => by have := hS _ hm; omega⟩, hc.below hb hb'⟩

end Go.Proofs.Ytlbhandkpnjgmaa
