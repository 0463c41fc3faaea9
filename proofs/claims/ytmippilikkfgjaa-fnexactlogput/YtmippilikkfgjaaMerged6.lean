/-
  One record and one disk as arguments of a law: how much they hold, how they are copied, how one that comes in is opened.
-/
/-
  A region that draws its order, with a call whose answer is a disk and a new variable for it: what stands behind it, wherever the variable was made.
-/
import Derived.Test.YtmippilikkfgjaaRecRowsOwn
import Derived.Test.YtmippilikkfgjaaMerged2
import Derived.ProofKit
import Derived.OpenShut
import Derived.Test.YtmippilikkfgjaaDisks
import Derived.Test.YtmippilikkfgjaaBoxes
set_option linter.unusedVariables false
namespace Go.Proofs.Ytmippilikkfgjaa
open Go.RowKit Go.Maps Go.Deep Go.WideShapes Go.ChangeShapes

theorem szRec_kitL (r : RecV) (left : Int) (w : World) (h0 : 0 ≤ left) (h1 : left ≤ 1048576) (hf : RecFit r) :
    Calls Try.prog 6 #[.agg #[.int .i64 r.kind, .string r.name, .int .i64 r.num, .string r.text], .int .i64 left] w fun e w' => ∃ q : Int, e = .returned (.int .i64 q) ∧ q ≤ left ∧ Hid (0 ≤ q → r.name.size ≤ 1048576 ∧ r.text.size ≤ 1048576) ∧ Below w.heap.size w w' := by
  refine (szRec_any r.kind r.name r.num r.text left w hf.1 hf.2.1 h0 h1).mono ?_
  rintro e w' ⟨q, he, hl, hb⟩
  exact ⟨q, unhide he, (unhide hl).1, hide (fun h => by have := (unhide hl).2 h; omega), hb⟩
theorem toRec_kit (r : RecV) (w : World) : Calls Try.prog 9 #[.agg #[.int .i64 r.kind, .string r.name, .int .i64 r.num, .string r.text]] w fun e w' => e = .returned (.agg #[.int .i64 r.kind, .string r.name, .int .i64 r.num, .string r.text]) ∧ Below w.heap.size w w' := toRec_any r.kind r.name r.num r.text w
set_option maxHeartbeats 1600000 in
theorem szDisk_anyL (d : DiskV) (a0 a1 : Option Addr) (c0 c1 : Nat) (left : Int) (w : World) (g0 : 0 ≤ left) (g1 : left ≤ 1048576) (hf : DiskFit d) :
    Calls Try.prog 5 #[.agg #[.slice a0 d.safe.length c0, .slice a1 d.soft.length c1, .int .i64 d.fuse, .bool d.down], .int .i64 left] w fun e w' => ∃ q : Int, e = .returned (.int .i64 q) ∧ q ≤ left ∧ Hid (0 ≤ q → d.safe.length ≤ 1048576 ∧ d.soft.length ≤ 1048576) ∧ Below w.heap.size w w' := by
  obtain ⟨safe, soft, fuse, down⟩ := d
  obtain ⟨h0, h1⟩ := hf
  simp only at h0 h1 ⊢
  have HA := hide (fun W => szByteS_any W a0 safe.length c0 left g0 (by omega) h0)
  have HB := hide (fun W (g : 0 ≤ szB safe.length left) => szByteS_any W a1 soft.length c1 (szB safe.length left) g (by unfold szB; split <;> omega) h1)
  have H0 := hide (show szB safe.length left ≤ left ∧ (0 ≤ szB safe.length left → safe.length ≤ 1048576) by unfold szB; split <;> omega)
  have H1 := hide (show szB safe.length left ≤ left → 0 ≤ szB safe.length left → szB soft.length (szB safe.length left) ≤ left ∧ (0 ≤ szB soft.length (szB safe.length left) → soft.length ≤ 1048576) by intro a b; unfold szB at *; split at * <;> (try split) <;> omega)
  clear h0 h1
  generalize szB safe.length left = q0 at *
  generalize szB soft.length q0 = q1 at *
  by_cases g2 : q0 < 0
  · go_enter Try.func5, Try.ntmps5
    go_wp2_with fail
    refine (unhide HA _).mono ?_
    rintro e w1 ⟨rfl, rfl⟩
    go_wp2_with fail
    go_ret
    exact ⟨_, rfl, by omega, hide (fun h => by omega), by go_grown⟩
  · go_enter Try.func5, Try.ntmps5
    go_wp2_with fail
    refine (unhide HA _).mono ?_
    rintro e w1 ⟨rfl, rfl⟩
    go_wp2_with fail
    refine (unhide HB _ (by omega)).mono ?_
    rintro e w1 ⟨rfl, rfl⟩
    by_cases g3 : q1 < 0
    · go_wp2_with fail
      go_ret
      exact ⟨_, rfl, by omega, hide (fun h => by omega), by go_grown⟩
    · have HH := hide (unhide H1 (unhide H0).1 (by omega))
      go_wp2_with fail
      go_ret
      exact ⟨_, rfl, (unhide HH).1, hide (fun h => ⟨(unhide H0).2 (by omega), (unhide HH).2 h⟩), by go_grown⟩
theorem szDisk_kitL (d : DiskV) (v : Value) (left : Int) (w : World) (h0 : 0 ≤ left) (h1 : left ≤ 1048576) (hf : DiskFit d) (h : DiskRd w v d) :
    Calls Try.prog 5 #[v, .int .i64 left] w fun e w' => ∃ q : Int, e = .returned (.int .i64 q) ∧ q ≤ left ∧ Hid (0 ≤ q → SmallDisk d) ∧ Below w.heap.size w w' := by
  obtain ⟨v0, v1, rfl, ⟨a0, c0, rfl, _⟩, ⟨a1, c1, rfl, _⟩⟩ := h
  exact szDisk_anyL d a0 a1 c0 c1 left w h0 h1 hf
set_option maxRecDepth 100000 in
theorem aggOfR {w : World} {base : Nat} {v : Value} (h : Value.okWide Try.prog w .any base 26 v) : ∃ c0 c1 c2 c3, v = .agg #[c0, c1, c2, c3] := by
  simp only [Value.okWide, Try.underlying26] at h
  obtain ⟨cs, h1, h2, _⟩ := h
  have hn : cs.size = 4 := by rw [h2]; exact cellsOfRec
  obtain ⟨l⟩ := cs
  match l, hn with
  | [a, b, c, d], _ => exact ⟨a, b, c, d, h1⟩
set_option maxRecDepth 100000 in
theorem openRec1 {H : Type} {enc : TypeId × Value → H} {w : World} {base : Nat} {spare : Nat → Bool} {held : Bool} {c0 c1 c2 c3 : Value} {d : DataW H} {p : List MemPlace}
    (h : DataW.Trod enc Try.prog w base spare held 26 (.agg #[c0, c1, c2, c3]) d p) : ∃ r : RecV, .agg #[c0, c1, c2, c3] = recVal r ∧ RecFit r := by
  obtain ⟨fuel, hf⟩ := h
  obtain ⟨xs, k, hk, hxy, _, hxl, hf⟩ := DataW.trod_struct Try.underlying26 hf
  match xs, hxl with
  | [y0, y1, y2, y3], _ =>
    have g0 := hf 0 _ rfl
    have g1 := hf 1 _ rfl
    have g2 := hf 2 _ rfl
    have g3 := hf 3 _ rfl
    simp [Value.cells, cellsIRec, cellsSRec] at g0 g1 g2 g3
    obtain ⟨n0, e0, _, hs0⟩ := DataW.trod_int Try.underlying3 g0
    obtain ⟨n1, e1, _, hs1⟩ := DataW.trod_string Try.underlying9 g1
    obtain ⟨n2, e2, _, hs2⟩ := DataW.trod_int Try.underlying3 g2
    obtain ⟨n3, e3, _, hs3⟩ := DataW.trod_string Try.underlying9 g3
    simp at e0 e1 e2 e3
    subst e0 e1 e2 e3
    exact ⟨⟨n0, n1, n2, n3⟩, rfl, hs1, hs3, recRange hs0, recRange hs2⟩
theorem below_set4 {n : Nat} {W X : World} {nb : Nat} (h : Below n W X) (hn : n ≤ nb) (a b c d : Value) : Below n W ((((X.setCell ⟨nb, 0, none⟩ a).setCell ⟨nb, 1, none⟩ b).setCell ⟨nb, 2, none⟩ c).setCell ⟨nb, 3, none⟩ d) :=
  (((h.setCell (p := ⟨nb, 0, none⟩) hn _).setCell (p := ⟨nb, 1, none⟩) hn _).setCell (p := ⟨nb, 2, none⟩) hn _).setCell (p := ⟨nb, 3, none⟩) hn _
end Go.Proofs.Ytmippilikkfgjaa

set_option linter.unusedVariables false
namespace Go.Proofs.Ytmippilikkfgjaa
open Go.RowKit Go.Maps Go.Deep

def EndedDisk (W Y : World) (nb : Nat) (cs : List Value) (S : List Nat) (v : Value) (d : DiskV) : Prop :=
  Below W.heap.size W Y ∧ BoxIs Y nb cs ∧ W.heap.size ≤ nb ∧ DiskOwn S Y v d ∧ (∀ k ∈ S, W.heap.size ≤ k) ∧ nb ∉ S
theorem boxF_notin {X : World} {g : Nat} {xs : List Value} {S : List Nat} (h : BoxF X g xs) (l : ∀ k ∈ S, X.heap.size ≤ k) : g ∉ S := by
  intro hm
  have h1 := l g hm
  have h2 : g < X.heap.size := h.1.1
  omega
theorem ended_alloc4 {W X X0 : World} {S : List Nat} {v : Value} {d : DiskV} (b : Below W.heap.size W X) (o : DiskOwn S X v d) (l : ∀ k ∈ S, X0.heap.size ≤ k) (b0 : W.heap.size ≤ X0.heap.size) (c0 c1 c2 c3 : Value) (T : TypeId) :
    EndedDisk W (X.alloc (.cells #[c0, c1, c2, c3] T)) X.heap.size [c0, c1, c2, c3] S v d :=
  ⟨b.alloc b.size _, boxMade4 X c0 c1 c2 c3 T, b.size, o.up ((Below.refl _ _).alloc (Nat.le_refl _) _), fun k hk => Nat.le_trans b0 (l k hk), fun hm => Nat.lt_irrefl _ (o.lt _ hm)⟩
theorem ended_set4 {W X X0 : World} {nb : Nat} {z0 z1 z2 z3 : Value} {S : List Nat} {v : Value} {d : DiskV} (b : Below W.heap.size W X) (n : BoxF X nb [z0, z1, z2, z3]) (hn : W.heap.size ≤ nb) (hm : nb ∉ S) (o : DiskOwn S X v d) (l : ∀ k ∈ S, X0.heap.size ≤ k) (b0 : W.heap.size ≤ X0.heap.size) (c0 c1 c2 c3 : Value) :
    EndedDisk W ((((X.setCell ⟨nb, 0, none⟩ c0).setCell ⟨nb, 1, none⟩ c1).setCell ⟨nb, 2, none⟩ c2).setCell ⟨nb, 3, none⟩ c3) nb [c0, c1, c2, c3] S v d := by
  have q := (((n.set 0 c0 (by simp)).set 1 c1 (by simp)).set 2 c2 (by simp)).set 3 c3 (by simp)
  simp only [List.set] at q
  refine ⟨below_set4 b hn _ _ _ _, q.1, hn, o.turn (((((Turn.refl [nb] X).setCell (g := nb) (by simp) _ _).setCell (g := nb) (by simp) _ _).setCell (g := nb) (by simp) _ _).setCell (g := nb) (by simp) _ _) ?_, fun k hk => Nat.le_trans b0 (l k hk), hm⟩
  intro k hk hq
  simp at hq
  subst hq
  exact hm hk
end Go.Proofs.Ytmippilikkfgjaa
