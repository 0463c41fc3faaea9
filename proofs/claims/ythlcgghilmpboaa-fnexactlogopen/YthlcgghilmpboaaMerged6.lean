/-
  The laws' helpers over bytes, in the form in which the walks of exact laws take them.
-/
/-
  The laws' helpers over disks, in the form in which the walks of exact laws take them.
-/
import Derived.Test.YthlcgghilmpboaaByAppend
import Derived.Test.YthlcgghilmpboaaDiskLaw
set_option linter.unusedVariables false
namespace Go.Proofs.Ythlcgghilmpboaa
open Go.RowKit Go.Maps Go.Deep

def SmallByteS (bs : List UInt8) : Prop := bs.length ≤ 1048576
def nByteS (bs : List UInt8) : Nat := bs.length
theorem nByteS_le {bs : List UInt8} (h : SmallByteS bs) : nByteS bs ≤ 100000000 := by unfold SmallByteS at h; unfold nByteS; omega
theorem ByRd.form {w : World} {v : Value} {bs : List UInt8} (h : ByRd w v bs) : ∃ a n c, v = .slice a n c := by
  obtain ⟨a, c, e⟩ := h.len
  exact ⟨a, _, c, e⟩
def ByFit (bs : List UInt8) : Prop := bs.length ≤ maxLen
theorem small_of_len {w : World} {a : Option Addr} {n c : Nat} {bs : List UInt8} (h : ByRd w (.slice a n c) bs) (hl : (n : Int) ≤ 1048576) : SmallByteS bs := by
  obtain ⟨a', c', e, _⟩ := h
  simp only [Value.slice.injEq] at e
  unfold SmallByteS
  omega
theorem toByteS_kit (bs : List UInt8) (v : Value) (w : World) (hs : SmallByteS bs) (h : ByRd w v bs) :
    Calls Try.prog 20 #[v] w fun e w' => ∃ v S, e = .returned v ∧ Hid (ByOwn S w' v bs) ∧ Hid (∀ k ∈ S, w.heap.size ≤ k) ∧ Below w.heap.size w w' := by
  obtain ⟨a, cap, rfl, h, _⟩ := h
  refine (toByteS_own w a cap bs hs h).mono ?_
  rintro e w' ⟨rfl, h1, h2, h3⟩
  exact ⟨_, _, rfl, h1, by intro k hk; simp at hk; omega, h3⟩
theorem eqByteS_kit (bs : List UInt8) (v v' : Value) (w : World) (hs : SmallByteS bs) (h : ByRd w v bs) (h' : ByRd w v' bs) :
    Calls Try.prog 24 #[v, v'] w fun e w' => e = .returned (.bool true) ∧ Below w.heap.size w w' := eqByteS_same w v v' bs (by unfold SmallByteS at hs; unfold maxLen; omega) h h'
def marksByteS (k : Nat) (bs : List UInt8) : List UInt8 := byMarks k bs.length
theorem markByteS_kit (S : List Nat) (bs : List UInt8) (v : Value) (w : World) (k n : Nat) (K : Int) (hK : K = (k : Int)) (hn : nByteS bs = n) (hk : k ≤ 1000000000) (hs : SmallByteS bs) (h : ByOwn S w v bs) :
    Calls Try.prog 26 #[v, .int .i64 K] w fun e w' => e = .returned (.int .i64 (K + (n : Int))) ∧ Hid (ByOwn S w' v (marksByteS k bs) ∧ Turn S w w') := by
  subst hK hn
  exact markByteS_any S w v bs k (by omega) hs h
theorem heldByteS_kit (bs : List UInt8) (v : Value) (w : World) (k n : Nat) (K : Int) (hK : K = (k : Int)) (hn : nByteS bs = n) (hk : k ≤ 1000000000) (hs : SmallByteS bs) (h : ByRd w v (marksByteS k bs)) :
    Calls Try.prog 28 #[v, .int .i64 K] w fun e w' => e = .returned (.int .i64 (K + (n : Int))) ∧ Below w.heap.size w w' := by
  subst hK hn
  refine (heldByteS_any w v bs.length k (by omega) hs h).mono ?_
  rintro e w' ⟨rfl, rfl⟩
  exact ⟨rfl, Below.refl _ _⟩
end Go.Proofs.Ythlcgghilmpboaa

set_option linter.unusedVariables false
namespace Go.Proofs.Ythlcgghilmpboaa
open Go.RowKit Go.Maps Go.Deep

def SmallDisk (d : DiskV) : Prop := d.safe.length ≤ 1048576 ∧ d.soft.length ≤ 1048576
def nDisk (d : DiskV) : Nat := d.safe.length + d.soft.length
theorem nDisk_le {d : DiskV} (h : SmallDisk d) : nDisk d ≤ 100000000 := by unfold SmallDisk at h; unfold nDisk; omega
theorem DiskRd.form {w : World} {v : Value} {d : DiskV} (h : DiskRd w v d) : ∃ a0 n0 c0 a1 n1 c1 fs dn, v = .agg #[.slice a0 n0 c0, .slice a1 n1 c1, .int .i64 fs, .bool dn] := by
  obtain ⟨v0, v1, rfl, h0, h1⟩ := h
  obtain ⟨a0, c0, rfl⟩ := h0.len
  obtain ⟨a1, c1, rfl⟩ := h1.len
  exact ⟨_, _, _, _, _, _, _, _, rfl⟩
theorem szDisk_kit (d : DiskV) (v : Value) (w : World) (hf : DiskFit d) (h : DiskRd w v d) :
    Calls Try.prog 4 #[v, .int .i64 1048576] w fun e w' => ∃ q : Int, e = .returned (.int .i64 q) ∧ Hid (0 ≤ q → SmallDisk d) ∧ Below w.heap.size w w' := by
  obtain ⟨v0, v1, rfl, ⟨a0, c0, rfl, _⟩, ⟨a1, c1, rfl, _⟩⟩ := h
  exact szDisk_any d a0 a1 c0 c1 w hf
theorem toDisk_kit (d : DiskV) (v : Value) (w : World) (hs : SmallDisk d) (h : DiskRd w v d) :
    Calls Try.prog 6 #[v] w fun e w' => ∃ v S, e = .returned v ∧ Hid (DiskOwn S w' v d) ∧ Hid (∀ k ∈ S, w.heap.size ≤ k) ∧ Below w.heap.size w w' := toDisk_any d v w hs.1 hs.2 h
theorem eqDisk_kit (d : DiskV) (v v' : Value) (w : World) (hs : SmallDisk d) (h : DiskRd w v d) (h' : DiskRd w v' d) :
    Calls Try.prog 8 #[v, v'] w fun e w' => e = .returned (.bool true) ∧ Below w.heap.size w w' := eqDisk_same d v v' w (by have := hs.1; unfold maxLen; omega) (by have := hs.2; unfold maxLen; omega) h h'
def marksDisk (k : Nat) (d : DiskV) : DiskV := diskMarks k d
theorem markDisk_kit (S : List Nat) (d : DiskV) (v : Value) (w : World) (k n : Nat) (K : Int) (hK : K = (k : Int)) (hn : nDisk d = n) (hk : k ≤ 1000000000) (hs : SmallDisk d) (h : DiskOwn S w v d) :
    Calls Try.prog 10 #[v, .int .i64 K] w fun e w' => e = .returned (.int .i64 (K + (n : Int))) ∧ Hid (DiskOwn S w' v (marksDisk k d) ∧ Turn S w w') := by
  subst hK hn
  have := markDisk_any S w v d k hk hs.1 hs.2 h
  rw [Nat.add_assoc] at this
  exact this
theorem heldDisk_kit (d : DiskV) (v : Value) (w : World) (k n : Nat) (K : Int) (hK : K = (k : Int)) (hn : nDisk d = n) (hk : k ≤ 1000000000) (hs : SmallDisk d) (h : DiskRd w v (marksDisk k d)) :
    Calls Try.prog 12 #[v, .int .i64 K] w fun e w' => e = .returned (.int .i64 (K + (n : Int))) ∧ Below w.heap.size w w' := by
  subst hK hn
  have := heldDisk_any w v d k hk hs.1 hs.2 h
  rw [Nat.add_assoc] at this
  exact this
end Go.Proofs.Ythlcgghilmpboaa
