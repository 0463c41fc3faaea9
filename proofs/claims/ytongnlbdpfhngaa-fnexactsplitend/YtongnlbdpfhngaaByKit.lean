/-
  The laws' helpers over bytes, in the form in which the walks of exact laws take them.
-/
import Derived.Test.YtongnlbdpfhngaaByAppend
set_option linter.unusedVariables false
namespace Go.Proofs.Ytongnlbdpfhngaa
open Go.RowKit Go.Maps Go.Deep

def SmallByteS (bs : List UInt8) : Prop := bs.length ≤ 1048576
def nByteS (bs : List UInt8) : Nat := bs.length
theorem nByteS_le {bs : List UInt8} (h : SmallByteS bs) : nByteS bs ≤ 100000000 := by unfold SmallByteS at h; unfold nByteS; omega
theorem ByRd.form {w : World} {v : Value} {bs : List UInt8} (h : ByRd w v bs) : ∃ a n c, v = .slice a n c := by
  obtain ⟨a, c, e⟩ := h.len
  exact ⟨a, _, c, e⟩
def ByFit (bs : List UInt8) : Prop := bs.length ≤ maxLen
theorem small_of_len {w : World} {a : Option Addr} {n c : Nat} {bs : List UInt8} (h : ByRd w (.slice a n c) bs) (hl : (n : Int) ≤ 1048576) : SmallByteS bs := by
  obtain ⟨a', c', e, _⟩ := h
  simp only [Value.slice.injEq] at e
  unfold SmallByteS
  omega
theorem toByteS_kit (bs : List UInt8) (v : Value) (w : World) (hs : SmallByteS bs) (h : ByRd w v bs) :
    Calls Try.prog 16 #[v] w fun e w' => ∃ v S, e = .returned v ∧ Hid (ByOwn S w' v bs) ∧ Hid (∀ k ∈ S, w.heap.size ≤ k) ∧ Below w.heap.size w w' := by
  obtain ⟨a, cap, rfl, h, _⟩ := h
  refine (toByteS_own w a cap bs hs h).mono ?_
  rintro e w' ⟨rfl, h1, h2, h3⟩
  exact ⟨_, _, rfl, h1, by intro k hk; simp at hk; omega, h3⟩
theorem eqByteS_kit (bs : List UInt8) (v v' : Value) (w : World) (hs : SmallByteS bs) (h : ByRd w v bs) (h' : ByRd w v' bs) :
    Calls Try.prog 21 #[v, v'] w fun e w' => e = .returned (.bool true) ∧ Below w.heap.size w w' := eqByteS_same w v v' bs (by unfold SmallByteS at hs; unfold maxLen; omega) h h'
def marksByteS (k : Nat) (bs : List UInt8) : List UInt8 := byMarks k bs.length
theorem markByteS_kit (S : List Nat) (bs : List UInt8) (v : Value) (w : World) (k n : Nat) (K : Int) (hK : K = (k : Int)) (hn : nByteS bs = n) (hk : k ≤ 1000000000) (hs : SmallByteS bs) (h : ByOwn S w v bs) :
    Calls Try.prog 22 #[v, .int .i64 K] w fun e w' => e = .returned (.int .i64 (K + (n : Int))) ∧ Hid (ByOwn S w' v (marksByteS k bs) ∧ Turn S w w') := by
  subst hK hn
  exact markByteS_any S w v bs k (by omega) hs h
theorem heldByteS_kit (bs : List UInt8) (v : Value) (w : World) (k n : Nat) (K : Int) (hK : K = (k : Int)) (hn : nByteS bs = n) (hk : k ≤ 1000000000) (hs : SmallByteS bs) (h : ByRd w v (marksByteS k bs)) :
    Calls Try.prog 23 #[v, .int .i64 K] w fun e w' => e = .returned (.int .i64 (K + (n : Int))) ∧ Below w.heap.size w w' := by
  subst hK hn
  refine (heldByteS_any w v bs.length k (by omega) hs h).mono ?_
  rintro e w' ⟨rfl, rfl⟩
  exact ⟨rfl, Below.refl _ _⟩
end Go.Proofs.Ytongnlbdpfhngaa
