/-
  Words in a row whose versions lie elsewhere; two lists of words compared.
-/
import Derived.Test.YtlgmmibncoedgaaMerged30
import Derived.Test.YtlgmmibncoedgaaMerged35
import Derived.Test.YtlgmmibncoedgaaMerged29
import Derived.Test.YtlgmmibncoedgaaLeSay
import Derived.Test.YtlgmmibncoedgaaMerged9
import Derived.Deep.RegionWith
set_option linter.unusedVariables false
namespace Go.Proofs.Ytlgmmibncoedgaa
open Go.RowKit Go.Maps Go.Deep

/-- versions that may be read, in a block of a kind -/
def VerQ (P : Nat → Prop) (w : World) (v : Value) (ns : List VerV) : Prop := VerRd w v ns ∧ (ns ≠ [] → ∀ a n c, v = .slice (some a) n c → P a.block)
theorem VerQ.turn {P : Nat → Prop} {S : List Nat} {w w' : World} {v : Value} {ns : List VerV} (h : VerQ P w v ns) (t : Turn S w w') (hS : ∀ k ∈ S, ¬ P k) : VerQ P w' v ns := by
  obtain ⟨⟨a, c, rfl, hin⟩, h2⟩ := h
  refine ⟨⟨a, c, rfl, ?_⟩, h2⟩
  rcases hin with h0 | ⟨b, off, rfl, hb, hx⟩
  · exact .inl h0
  · by_cases e : ns = []
    · exact .inl e
    · have := h2 e _ _ _ rfl
      exact .inr ⟨b, off, rfl, Nat.lt_of_lt_of_le hb t.size, hx.turn t hb (fun hm => hS b hm this)⟩
theorem VerQ.mono {P P' : Nat → Prop} {w : World} {v : Value} {ns : List VerV} (h : VerQ P w v ns) (hP : ∀ k, k < w.heap.size → P k → P' k) : VerQ P' w v ns := by
  obtain ⟨⟨a, c, rfl, hin⟩, h2⟩ := h
  refine ⟨⟨a, c, rfl, hin⟩, fun hn a' n c' e => ?_⟩
  rcases hin with h0 | ⟨b, off, rfl, hb, hx⟩
  · exact absurd h0 hn
  · have := h2 hn a' n c' e
    simp only [Value.slice.injEq, Option.some.injEq] at e
    obtain ⟨rfl, _, _⟩ := e
    exact hP _ hb this
theorem VerQ.up {P : Nat → Prop} {w w' : World} {v : Value} {ns : List VerV} (h : VerQ P w v ns) (hb : Below w.heap.size w w') : VerQ P w' v ns := h.turn (Turn.of_below (S := []) hb) (by simp)
/-- a word that no write into an older block turns has its versions in a newer one -/
theorem say_new {B : Nat} {w : World} {k f t x : Int} {nm : ByteArray} {u : Value} {s : SayV} (h : ∀ W S, Turn S w W → (∀ k ∈ S, k ≤ B) → SayRd W (.agg #[.int .i64 k, .int .i64 f, .int .i64 t, .string nm, .int .i64 x, u]) s) : VerQ (fun k => B < k) w u s.stamp ∧ .agg #[.int .i64 k, .int .i64 f, .int .i64 t, .string nm, .int .i64 x, u] = Value.agg #[.int .i64 s.kind, .int .i64 s.src, .int .i64 s.dst, .string s.name, .int .i64 s.val, u] := by
  obtain ⟨v5, e, hv⟩ := h w [] (Turn.refl _ _) (by simp)
  have e0 := e
  simp at e0
  obtain ⟨r0, r1, r2, r3, r4, r5⟩ := e0
  subst r5
  refine ⟨⟨hv, fun hn a n c ev => ?_⟩, e⟩
  obtain ⟨a', c', e', hin⟩ := hv
  rw [ev] at e'
  simp only [Value.slice.injEq] at e'
  obtain ⟨rfl, rfl, rfl⟩ := e'
  rcases hin with h0 | ⟨b, off, eb, hb, hx⟩
  · exact absurd h0 hn
  · simp only [Option.some.injEq] at eb
    subst eb
    apply Decidable.byContradiction
    intro hlt
    have hpos : 0 < s.stamp.length := List.length_pos_iff.2 hn
    obtain ⟨v6, e6, a6, c6, q6, hin6⟩ := h (w.setCell ⟨b, off, none⟩ (.bool true)) [b] ((Turn.refl _ _).setCell (by simp) _ _) (fun k hk => by have h1 : ¬ B < b := hlt; simp at hk; omega)
    simp at e6
    have e6' : u = v6 := e6.2.2.2.2.2
    rw [← e6', ev] at q6
    simp only [Value.slice.injEq] at q6
    obtain ⟨q6, _, _⟩ := q6
    rcases hin6 with h0 | ⟨b7, off7, e7, _, hx7⟩
    · exact hn h0
    · rw [← q6] at e7
      simp only [Option.some.injEq, Addr.mk.injEq] at e7
      obtain ⟨rfl, rfl, _⟩ := e7
      have c0 := (hx 0 hpos).1
      have c7 := (hx7 0 hpos).1
      simp only [Nat.zero_mul, Nat.add_zero] at c0 c7
      rw [World.cell?_setCell_same _ _ _ c0] at c7
      cases c7
/-- each one's versions in a block of a kind -/
def WdsR (P : Nat → Prop) (w : World) (xs : List (SayV × Value)) : Prop := ∀ i (h : i < xs.length), VerQ P w xs[i].2 xs[i].1.stamp
theorem WdsR.nil (P : Nat → Prop) (w : World) : WdsR P w [] := fun i h => by simp at h
theorem WdsR.turn {P : Nat → Prop} {S : List Nat} {w w' : World} {xs : List (SayV × Value)} (h : WdsR P w xs) (t : Turn S w w') (hS : ∀ k ∈ S, ¬ P k) : WdsR P w' xs := fun i hi => (h i hi).turn t hS
theorem WdsR.mono {P P' : Nat → Prop} {w : World} {xs : List (SayV × Value)} (h : WdsR P w xs) (hP : ∀ k, k < w.heap.size → P k → P' k) : WdsR P' w xs := fun i hi => (h i hi).mono hP
theorem WdsR.up {P : Nat → Prop} {w w' : World} {xs : List (SayV × Value)} (h : WdsR P w xs) (hb : Below w.heap.size w w') : WdsR P w' xs := fun i hi => (h i hi).up hb
theorem WdsR.snoc {P : Nat → Prop} {w : World} {xs : List (SayV × Value)} {s : SayV} {u : Value} (h : WdsR P w xs) (hu : VerQ P w u s.stamp) : WdsR P w (xs ++ [(s, u)]) := by
  intro i hi
  by_cases e : i < xs.length
  · rw [List.getElem_append_left e]; exact h i e
  · rw [List.getElem_append_right (by omega)]
    have e0 : i - xs.length = 0 := by simp at hi; omega
    simp only [e0, List.getElem_cons_zero]
    exact hu
theorem SyRow.rdW {B : Nat} {P : Nat → Prop} {w : World} {v : Value} {xs : List (SayV × Value)} (h : SyRow B w v xs) (hx : WdsR P w xs) : SaySRd w v (xs.map (·.1)) := by
  have hh : w.ownsRow B 26 6 v xs.length (syCells xs) := h
  rcases h with ⟨_, ⟨rfl, h0⟩ | ⟨g, cap, cur, rfl, hB, hg, hnc, _⟩⟩
  · have e : xs = [] := List.eq_nil_of_length_eq_zero h0
    subst e
    exact ⟨none, 0, rfl, .inl rfl⟩
  · refine ⟨some ⟨g, 0, none⟩, cap, by simp, .inr ⟨g, 0, rfl, (Array.getElem?_eq_some_iff.1 hg).1, fun i hi => ?_⟩⟩
    simp only [List.length_map] at hi
    refine ⟨xs[i].2, ?_, by simpa using (hx i hi).1⟩
    obtain ⟨e0, e1, e2, e3, e4, e5⟩ := syCells_get xs i hi
    simp only [List.getElem_map]
    constructor
    · rw [Nat.zero_add, hh.cellAt _ (by omega)]; exact e0
    · rw [Nat.zero_add, hh.cellAt _ (by omega)]; exact e1
    · rw [Nat.zero_add, hh.cellAt _ (by omega)]; exact e2
    · rw [Nat.zero_add, hh.cellAt _ (by omega)]; exact e3
    · rw [Nat.zero_add, hh.cellAt _ (by omega)]; exact e4
    · rw [Nat.zero_add, hh.cellAt _ (by omega)]; exact e5
/-- a row of words and one of bytes have blocks of two kinds -/
theorem SyRow.apart {B B' : Nat} {w : World} {v u : Value} {xs : List (SayV × Value)} {bs : List UInt8} (h : SyRow B w v xs) (h' : ByRow B' w u bs) : ∀ k, u.ownBlock = some k → v.ownBlock ≠ some k := by
  intro k hk hv
  rcases h.2 with ⟨rfl, _⟩ | ⟨g, cap, cur, rfl, hB, hg, _⟩
  · simp [Value.ownBlock] at hv
  · obtain ⟨c2, hc⟩ := h'.typed k hk
    simp [Value.ownBlock] at hv
    subst hv
    rw [hg] at hc
    simp at hc
set_option maxHeartbeats 3200000 in
theorem leSays_row (w : World) (b off cap b' off' cap' : Nat) (ns : List SayV) (hs : SmallSayS ns) (hc : SayAt w b off ns) (hc' : SayAt w b' off' ns) (hb : b < w.heap.size) (hb' : b' < w.heap.size) :
    Calls Try.prog 12 #[.slice (some ⟨b, off, none⟩) ns.length cap, .slice (some ⟨b', off', none⟩) ns.length cap'] w fun e w' => e = .returned (.bool true) ∧ Below w.heap.size w w' := by
  have HS := hide hs.2
  have hl := hs.1
  have HC := hide hc
  have HC' := hide hc'
  clear hs hc hc'
  go_enter Try.func12, Try.ntmps12
  go_wp2_with fail
  go_loopw [5] (fun i wr => ∃ (k : Nat), k ≤ ns.length ∧ i = .int .i64 k ∧ Hid (Below w.heap.size w wr)) (fun i _ => ns.length - (intOf i).toNat)
  case atStart => exact ⟨0, Nat.zero_le _, rfl, Below.refl _ _⟩
  case round =>
    obtain ⟨k, hk, rfl, HB⟩ := hrel
    by_cases hlt : k < ns.length
    · obtain ⟨v, ⟨c0, c1, c2, c3, c4, c5⟩, hv⟩ := (unhide HC).up hb (unhide HB) k hlt
      obtain ⟨v', ⟨d0, d1, d2, d3, d4, d5⟩, hv'⟩ := (unhide HC').up hb' (unhide HB) k hlt
      have HV := hide (fun W (bW : Below wr.heap.size wr W) => leSay_same ns[k] (.agg #[.int .i64 ns[k].kind, .int .i64 ns[k].src, .int .i64 ns[k].dst, .string ns[k].name, .int .i64 ns[k].val, v]) (.agg #[.int .i64 ns[k].kind, .int .i64 ns[k].src, .int .i64 ns[k].dst, .string ns[k].name, .int .i64 ns[k].val, v']) W (by have := (unhide HS _ (List.getElem_mem hlt)).2; omega) ⟨v, rfl, hv.up bW⟩ ⟨v', rfl, hv'.up bW⟩)
      obtain ⟨va, vc, rfl⟩ := hv.len
      obtain ⟨va', vc', rfl⟩ := hv'.len
      clear hv hv'
      generalize ns[k].stamp.length = m at *
      generalize ns[k].kind = z0 at *
      generalize ns[k].src = z1 at *
      generalize ns[k].dst = z2 at *
      generalize ns[k].name = z3 at *
      generalize ns[k].val = z4 at *
      go_wp2_with fail
      go_region_with (go_at_call 15; refine (unhide HV _ ((Below.refl _ _).drew)).mono ?_; rintro e w2 ⟨rfl, hb2⟩)
      all_goals
        have hb3 := hide ((unhide HB).trans (Below.mono (((Below.refl wr.heap.size wr).drew).trans hb2) (unhide HB).size))
        clear c0 c1 c2 c3 c4 c5 d0 d1 d2 d3 d4 d5
        go_wp2_with fail
        go_roundw
        case rel => exact ⟨k + 1, by omega, by go_num, hb3⟩
        case measure => simp [intOf]; omega
    · go_wp2_with fail
      go_ret
      exact ⟨rfl, unhide HB⟩
theorem leSays_same (ns : List SayV) (v v' : Value) (w : World) (hs : SmallSayS ns) (h : SaySRd w v ns) (h' : SaySRd w v' ns) :
    Calls Try.prog 12 #[v, v'] w fun e w' => e = .returned (.bool true) ∧ Below w.heap.size w w' := by
  have none : ∀ a a' c c', Calls Try.prog 12 #[.slice a 0 c, .slice a' 0 c'] w fun e w' => e = .returned (.bool true) ∧ Below w.heap.size w w' := by
    intro a a' c c'
    go_enter Try.func12, Try.ntmps12
    go_wp2
    refine wp_loop_rounds 1 ?_
    rw [rounds_succ]
    go_wp2
    go_ret
    exact ⟨rfl, Below.refl _ _⟩
  obtain ⟨a, c, rfl, h⟩ := h
  obtain ⟨a', c', rfl, h'⟩ := h'
  rcases h with rfl | ⟨b, off, rfl, hb, hc⟩
  · exact none _ _ _ _
  · rcases h' with rfl | ⟨b', off', rfl, hb', hc'⟩
    · exact none _ _ _ _
    · exact leSays_row w b off c b' off' c' ns hs hc hc' hb hb'
end Go.Proofs.Ytlgmmibncoedgaa
