/-
  The disk at work is cut.
-/
/-
  A list of bytes that comes in, opened.
-/
import Derived.Test.YtmippilikkfgjaaAttemptRun
import Derived.Test.YtmippilikkfgjaaDiskCut
import Derived.Test.YtmippilikkfgjaaBytes
import Derived.ProofKit
import Derived.OpenShut
set_option linter.unusedVariables false
namespace Go.Proofs.Ytmippilikkfgjaa
open Go.RowKit Go.Maps Go.Deep

def cutW (w : World) (g : Nat) (at' : Int) : World := (w.alloc (.cells #[.pointer (some ⟨g, 0, none⟩)] 98)).alloc (.cells #[.int .i64 at'] 3)
theorem cutW_size (w : World) (g : Nat) (at' : Int) : (cutW w g at').heap.size = w.heap.size + 1 + 1 := by simp [cutW]
theorem cutW_up (w : World) (g : Nat) (at' : Int) : Below w.heap.size w (cutW w g at') := ((Below.refl _ _).alloc (Nat.le_refl _) _).alloc (by simp) _
theorem cutW_cells (w : World) (g : Nat) (at' : Int) : (cutW w g at').cell? ⟨w.heap.size, 0, none⟩ = some (.pointer (some ⟨g, 0, none⟩)) ∧ (cutW w g at').cell? ⟨w.heap.size + 1, 0, none⟩ = some (.int .i64 at') := by
  unfold cutW
  refine ⟨?_, ?_⟩
  · rw [World.cell?_alloc_past _ _ _ (by simp), World.cell?_alloc_at _ _ _ _ (by simp)]
    rfl
  · rw [World.cell?_alloc_at _ _ _ _ (by simp)]
    rfl
theorem cut_ready (B : Nat) (w : World) (g at' : Nat) (v0 v1 : Value) (d : DiskV) (hl : d.safe.length + d.soft.length ≤ 8000) (hB : B ≤ w.heap.size) (ha : at' ≤ d.safe.length + d.soft.length) (h : Drive B w g v0 v1 d) (hf : d.fuse ≠ 0) (hf1 : -1 ≤ d.fuse) (hf2 : d.fuse ≤ 400) :
    Calls Try.prog 65 #[.pointer (some ⟨g, 0, none⟩), .func (.func 67) #[] #[.pointer (some ⟨w.heap.size, 0, none⟩), .pointer (some ⟨w.heap.size + 1, 0, none⟩)]] (cutW w g (at' : Int)) fun e w' => e = .returned (.int .i64 0) ∧ Drove B g (.slice none 0 0) (cutD d at') (cutW w g (at' : Int)) w' := by
  have hs := cutW_size w g at'
  have hup := cutW_up w g at'
  have hD := h.up hup
  have hgl := h.lt
  obtain ⟨q1, q2⟩ := cutW_cells w g (at' : Int)
  generalize cutW w g (at' : Int) = W at *
  refine attempt_done B g _ _ W (.slice none 0 0) (cutD d at') hD.lt (by omega) ?_
  have ua := attW_up W g
  have sa := attW_size W g
  refine (cutAct_done B (attW W g) g W.heap.size w.heap.size (w.heap.size + 1) at' v0 v1 d hl (by omega) ha (hD.up ua) (attW_gw W g) ((ua.cell (by simp only; omega)).trans q1) ((ua.cell (by simp only; omega)).trans q2) (by omega) (by omega) hf hf1 hf2).mono ?_
  rintro e w' ⟨rfl, P⟩
  obtain ⟨v, p1, p2⟩ := unhide P
  obtain ⟨k0, k1, k2⟩ := attW_gc W g
  have hn : W.heap.size + 1 ∉ [g] := by have := hD.lt; simp; omega
  have kb : w'.heap[W.heap.size + 1]? = some (.cells #[.int .i64 0] 3) := (p2.block _ (by omega) hn).trans k0
  exact ⟨rfl, hide ⟨v, p1, p2.below (by omega) (by simpa using h.le), (p2.cell (by omega) hn).trans k1, (p2.frozen (by omega) hn).trans k2, row_apart kb p1.r0 tIntBy, by simp [Value.ownBlock]⟩⟩
theorem cut_gone' (B : Nat) (w : World) (g at' : Nat) (v0 v1 : Value) (d : DiskV) (hl : d.safe.length + d.soft.length ≤ 8000) (hB : B ≤ w.heap.size) (h : Drive B w g v0 v1 d) (hf : d.fuse = 0) :
    Calls Try.prog 65 #[.pointer (some ⟨g, 0, none⟩), .func (.func 67) #[] #[.pointer (some ⟨w.heap.size, 0, none⟩), .pointer (some ⟨w.heap.size + 1, 0, none⟩)]] (cutW w g (at' : Int)) fun e w' => e = .returned (.int .i64 2) ∧ Drove B g (.slice none 0 0) (fellD d) (cutW w g (at' : Int)) w' := by
  have hs := cutW_size w g at'
  have hup := cutW_up w g at'
  have hD := h.up hup
  generalize cutW w g (at' : Int) = W at *
  exact attempt_gone B g _ _ W v0 v1 d (by omega) hD.lt (by omega) hD (cutAct_gone B (attW W g) g W.heap.size _ _ v0 v1 d (hD.up (attW_up W g)) (attW_gw W g) hf)
def cutOut (d : DiskV) (at' : Nat) : DiskV := if d.down then d else if d.fuse = 0 then fellD d else cutD d at'
def cutCode (d : DiskV) : Int := if d.down then 2 else if d.fuse = 0 then 2 else 0
def RetCut (B g : Nat) (d : DiskV) (at' : Nat) (w : World) (e : Ending) (w' : World) : Prop := e = .returned (.int .i64 (cutCode d)) ∧ ∃ v v1, Drive B w' g v v1 (cutOut d at') ∧ Below B w w'
set_option maxHeartbeats 3200000 in
theorem driveCut_any (B : Nat) (w : World) (g at' : Nat) (v0 v1 : Value) (d : DiskV) (hl : d.safe.length + d.soft.length ≤ 8000) (hB : B ≤ w.heap.size) (ha : at' ≤ d.safe.length + d.soft.length) (h : Drive B w g v0 v1 d) (hf1 : -1 ≤ d.fuse) (hf2 : d.fuse ≤ 400) :
    Calls Try.prog 57 #[.pointer (some ⟨g, 0, none⟩), .int .i64 (at' : Int)] w fun e w' => RetCut B g d at' w e w' := by
  have hmf : ∀ (fn : Fn) (first cap : Array Value) (w : World), (Instr.makeFunc fn first cap).run Try.prog w = .ok (.func fn first cap) w := fun _ _ _ _ => rfl
  have bu := cutW_up w g at'
  have hD := h.up bu
  have c3 := hD.c3
  unfold cutW at c3
  cases hdn : d.down
  · by_cases hf : d.fuse = 0
    · have HA := hide (cut_gone' B w g at' v0 v1 d hl hB h hf)
      have HB := hide (bu.mono hB)
      unfold cutW at HA HB
      rw [hdn] at c3
      have HE := hide (show cutCode d = 2 ∧ cutOut d at' = fellD d by simp [cutCode, cutOut, hdn, hf])
      clear h hD bu hdn
      go_enter Try.func57, Try.ntmps57
      go_wp2_with fail
      refine (unhide HA).mono ?_
      rintro e w2 ⟨rfl, P⟩
      have HP := hide P
      clear P c3
      go_wp2_with fail
      go_ret
      obtain ⟨v, p1, p2⟩ := unhide HP
      exact ⟨by rw [(unhide HE).1]; rfl, v, _, by rw [(unhide HE).2]; exact p1, (unhide HB).trans p2⟩
    · have HA := hide (cut_ready B w g at' v0 v1 d hl hB ha h hf hf1 hf2)
      have HB := hide (bu.mono hB)
      unfold cutW at HA HB
      rw [hdn] at c3
      have HE := hide (show cutCode d = 0 ∧ cutOut d at' = cutD d at' by simp [cutCode, cutOut, hdn, hf])
      clear h hD bu hdn
      go_enter Try.func57, Try.ntmps57
      go_wp2_with fail
      refine (unhide HA).mono ?_
      rintro e w2 ⟨rfl, P⟩
      have HP := hide P
      clear P c3
      go_wp2_with fail
      go_ret
      obtain ⟨v, p1, p2⟩ := unhide HP
      exact ⟨by rw [(unhide HE).1]; rfl, v, _, by rw [(unhide HE).2]; exact p1, (unhide HB).trans p2⟩
  · have HD := hide hD
    have HB := hide (bu.mono hB)
    unfold cutW at HD HB
    rw [hdn] at c3
    have HE := hide (show cutCode d = 2 ∧ cutOut d at' = d by simp [cutCode, cutOut, hdn])
    clear h hD bu hdn
    go_enter Try.func57, Try.ntmps57
    go_wp2_with fail
    go_ret
    exact ⟨by rw [(unhide HE).1]; rfl, _, _, by rw [(unhide HE).2]; exact unhide HD, unhide HB⟩
end Go.Proofs.Ytmippilikkfgjaa

namespace Go.Proofs.Ytmippilikkfgjaa
open Go.RowKit Go.Maps Go.Deep Go.ChangeShapes Go.WideShapes Go.ChangeAt

theorem cells_byte : Try.prog.cellsOf 5 = 1 := by kernel_rfl
theorem choose_byte {n : Nat} {P : Nat → UInt8 → Prop} (h : ∀ i, i < n → ∃ c, P i c) : ∃ bs : List UInt8, bs.length = n ∧ ∀ i (hi : i < bs.length), P i bs[i] := by
  induction n with
  | zero => exact ⟨[], rfl, fun i hi => absurd hi (Nat.not_lt_zero _)⟩
  | succ n ih =>
    obtain ⟨bs, hl, hb⟩ := ih (fun i hi => h i (by omega))
    obtain ⟨c, hc⟩ := h n (by omega)
    refine ⟨bs ++ [c], by simp [hl], fun i hi => ?_⟩
    by_cases e : i < bs.length
    · rw [List.getElem_append_left e]; exact hb i e
    · have : i = n := by simp at hi; omega
      subst this
      rw [List.getElem_append_right (by omega)]
      simpa [hl] using hc
theorem open_byte_cell {H : Type} {enc : TypeId × Value → H} {w : World} {base : Nat} {spare : Nat → Bool} {held : Bool} {c : Value} {fuel : Nat} {y : DataW H × List MemPlace}
    (hf : DataW.trod enc Try.prog w base spare held fuel 22 [c] = some y) :
    ∃ a cap, ∃ bs : List UInt8, c = .slice a bs.length cap ∧ bs.length ≤ maxLen ∧ bs.length ≤ cap ∧ ByIn w a bs := by
  rcases open_slice Try.underlying22 hf with ⟨hcs, _⟩ | ⟨a', len, cap, m, n, D, Pl, hcs, hb, hl, hm, hmm, _, hx⟩
  · simp at hcs
    subst hcs
    exact ⟨none, 0, [], rfl, by unfold maxLen; simp, Nat.le_refl _, .inl rfl⟩
  · simp at hcs
    subst hcs
    have hlm : len ≤ m := by rw [hmm]; split <;> omega
    have each : ∀ i, i < len → ∃ c : UInt8, w.cell? (a'.add i) = some (.int .u8 (c.toNat : Int)) := by
      intro i hi
      obtain ⟨cs', h1, h2⟩ := hx i (by omega)
      rw [cells_byte] at h1
      obtain ⟨_, hlen, hcell⟩ := World.cells?_some h1
      match cs', hlen with
      | [v0], _ =>
        obtain ⟨n0, e0, _, hr⟩ := DataW.trod_int Try.underlying5 h2
        simp at e0
        subst e0
        have c0 := hcell 0 (by omega)
        have hr' : 0 ≤ n0 ∧ n0 ≤ 255 := by
          have hr2 := Bool.and_eq_true_iff.1 hr
          exact ⟨of_decide_eq_true hr2.1, of_decide_eq_true hr2.2⟩
        obtain ⟨v, rfl⟩ := Int.eq_ofNat_of_zero_le hr'.1
        rw [Nat.mul_one] at c0
        refine ⟨UInt8.ofNat v, ?_⟩
        rw [UInt8.toNat_ofNat', Nat.mod_eq_of_lt (by omega)]
        simpa [Addr.add] using c0
    obtain ⟨bs, hbl, hbs⟩ := choose_byte each
    refine ⟨some a', cap, bs, by rw [hbl], by omega, by omega, ?_⟩
    by_cases h0 : len = 0
    · exact .inl (List.eq_nil_of_length_eq_zero (by omega))
    · have hc0 := hbs 0 (by omega)
      obtain ⟨b, off, spot⟩ := a'
      have hspot : spot = none := by simpa [Addr.add] using World.cell?_spot hc0
      subst hspot
      refine .inr ⟨b, off, rfl, lt_of_cell0 (by simpa [Addr.add] using hc0), ?_⟩
      intro i hi
      have h2 := hbs i hi
      by_cases e : i = 0
      · subst e; simpa [Addr.add] using h2
      · simpa [Addr.add, e] using h2
theorem open_byteS {H : Type} {enc : TypeId × Value → H} {w : World} {base : Nat} {spare : Nat → Bool} {held : Bool} {a : Option Addr} {len cap : Nat} {d : DataW H} {p : List MemPlace}
    (h : DataW.Trod enc Try.prog w base spare held 22 (.slice a len cap) d p) :
    ∃ bs : List UInt8, bs.length = len ∧ len ≤ maxLen ∧ len ≤ cap ∧ ByIn w a bs := by
  obtain ⟨fuel, hf⟩ := h
  obtain ⟨a', cap', bs, e, h1, h2, h3⟩ := open_byte_cell (c := .slice a len cap) (by simpa [Value.cells] using hf)
  simp only [Value.slice.injEq] at e
  obtain ⟨rfl, rfl, rfl⟩ := e
  exact ⟨bs, rfl, h1, h2, h3⟩
end Go.Proofs.Ytmippilikkfgjaa
