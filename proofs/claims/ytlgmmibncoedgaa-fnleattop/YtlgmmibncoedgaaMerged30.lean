/-
  What the laws on words ask: whether two words are the same.
-/
/-
  Words in a row whose versions lie elsewhere; two lists of words compared.
-/
import Derived.Test.YtlgmmibncoedgaaMerged14
import Derived.BigQuiet
import Derived.Deep.QuietTactic
import Derived.WalkKit
import Derived.Handy
import Derived.Test.YtlgmmibncoedgaaMerged37
import Derived.Test.YtlgmmibncoedgaaMerged16
import Derived.Test.YtlgmmibncoedgaaMerged36
import Derived.Test.YtlgmmibncoedgaaMerged3
import Derived.Deep.RegionWith
set_option linter.unusedVariables false
namespace Go.Proofs.Ytlgmmibncoedgaa
open Go.RowKit Go.Maps Go.Deep

theorem cmpVer (x0 y0 : ByteArray) (x1 y1 : Int) (w : World) : (Op.equalIn 10000 65 (.agg #[.string x0, .int .i64 x1]) (.agg #[.string y0, .int .i64 y1])).run Try.prog w = .ok ((x0.toList == y0.toList) && (x1 == y1)) w := by
  rw [run_equalIn_struct w 9999 65 _ _ (by kernel_rfl) (by kernel_rfl)]
  have hf : (Try.prog.fieldsOf 65).toList.map (fun f => (f.name, f.type, f.offset)) = [("Src", 9, 0), ("Ver", 3, 1)] := by kernel_rfl
  have hp : ∀ (T : TypeId) (a b : Value) (k : Nat) (v : Value), (isAgg T).run Try.prog w = .ok false w → (#[a, b] : Array Value)[k]? = some v → (part T #[a, b] k).run Try.prog w = .ok v w := by
    intro T a b k v ha hv
    unfold part
    simp only [Sem.run_bind, ha, Result.andThen_ok, Bool.false_eq_true, if_false, hv, Sem.run_pure]
  have hs : (isAgg 9).run Try.prog w = .ok false w := by kernel_rfl
  have hi : (isAgg 3).run Try.prog w = .ok false w := by kernel_rfl
  generalize (Try.prog.fieldsOf 65).toList = fs at hf ⊢
  match fs, hf with
  | [], hf => simp at hf
  | [_], hf => simp at hf
  | _ :: _ :: _ :: _, hf => simp at hf
  | [f0, f1], hf =>
    simp only [List.map_cons, List.map_nil, List.cons.injEq, Prod.mk.injEq, and_true] at hf
    obtain ⟨⟨n0, t0, o0⟩, ⟨n1, t1, o1⟩⟩ := hf
    simp only [Op.eqFields, n0, n1, t0, t1, o0, o1]
    rw [if_pos (by decide), if_pos (by decide)]
    simp only [Sem.run_bind]
    rw [hp _ _ _ 0 (.string x0) hs rfl, Result.andThen_ok, hp _ _ _ 0 (.string y0) hs rfl, Result.andThen_ok, run_equalIn_string w 9998 9 x0 y0 Try.underlying9, Result.andThen_ok]
    cases (x0.toList == y0.toList)
    · simp
    · simp only [Bool.not_true, Bool.false_eq_true, if_false, Sem.run_bind]
      rw [hp _ _ _ 1 (.int .i64 x1) hi rfl, Result.andThen_ok, hp _ _ _ 1 (.int .i64 y1) hi rfl, Result.andThen_ok, run_equalIn_int w 9998 3 .i64 .i64 x1 y1 Try.underlying3, Result.andThen_ok]
      cases (x1 == y1) <;> simp

theorem lt_cells33 {w : World} {g o : Nat} {v : Value} (h : w.cell? ⟨g, o, none⟩ = some v) : g < w.heap.size := World.block_lt_of_cell? w ⟨g, o, none⟩ h
set_option maxHeartbeats 6400000 in
set_option maxRecDepth 20000 in
theorem leSay_row (k f t val : Int) (nm : ByteArray) (vs : List VerV) (w : World) (b off c b' off' c' : Nat) (hs : vs.length ≤ 1048576) (hA : VerAt w b off vs) (hB : VerAt w b' off' vs) (hb : b < w.heap.size) (hb' : b' < w.heap.size) :
    Calls Try.prog 15 #[.agg #[.int .i64 k, .int .i64 f, .int .i64 t, .string nm, .int .i64 val, .slice (some ⟨b, off, none⟩) vs.length c], .agg #[.int .i64 k, .int .i64 f, .int .i64 t, .string nm, .int .i64 val, .slice (some ⟨b', off', none⟩) vs.length c']] w fun e w' => e = .returned (.bool true) ∧ Below w.heap.size w w' := by
  have bA := (Below.refl w.heap.size w).alloc (Nat.le_refl _) (.cells #[.int .i64 k, .int .i64 f, .int .i64 t, .string nm, .int .i64 val, .slice (some ⟨b, off, none⟩) vs.length c] 26)
  have bB := bA.alloc (by simp) (.cells #[.int .i64 k, .int .i64 f, .int .i64 t, .string nm, .int .i64 val, .slice (some ⟨b', off', none⟩) vs.length c'] 26)
  have X1 := hide (boxF_new w [.int .i64 k, .int .i64 f, .int .i64 t, .string nm, .int .i64 val, .slice (some ⟨b, off, none⟩) vs.length c] 26)
  have X2 := hide (boxF_new (w.alloc (.cells #[.int .i64 k, .int .i64 f, .int .i64 t, .string nm, .int .i64 val, .slice (some ⟨b, off, none⟩) vs.length c] 26)) [.int .i64 k, .int .i64 f, .int .i64 t, .string nm, .int .i64 val, .slice (some ⟨b', off', none⟩) vs.length c'] 26)
  simp only [List.toArray] at X1 X2
  rw [World.size_alloc] at X2
  have HX1 := hide ((unhide X1).up ((Below.refl _ _).alloc (Nat.le_refl _) (.cells #[.int .i64 k, .int .i64 f, .int .i64 t, .string nm, .int .i64 val, .slice (some ⟨b', off', none⟩) vs.length c'] 26)))
  have BB := hide bB
  have HA := hide (hA.below bB hb)
  have HB := hide (hB.below bB hb')
  have HZB := hide (Nat.lt_of_lt_of_le hb bB.size)
  have HZB' := hide (Nat.lt_of_lt_of_le hb' bB.size)
  clear bA bB X1 hA hB hb hb'
  go_enter Try.func15, Try.ntmps15
  go_wp2_with fail
  generalize (w.alloc (.cells #[.int .i64 k, .int .i64 f, .int .i64 t, .string nm, .int .i64 val, .slice (some ⟨b, off, none⟩) vs.length c] 26)).alloc (.cells #[.int .i64 k, .int .i64 f, .int .i64 t, .string nm, .int .i64 val, .slice (some ⟨b', off', none⟩) vs.length c'] 26) = W at *
  go_loopw [5] (fun i wr => ∃ j : Nat, j ≤ vs.length ∧ i = .int .i64 j ∧ Hid (Below W.heap.size W wr)) (fun i _ => vs.length - (intOf i).toNat)
  case atStart => exact ⟨0, Nat.zero_le _, rfl, Below.refl _ _⟩
  case round =>
    obtain ⟨j, hj, rfl, HBr⟩ := hrel
    have q5 := ((unhide HX1).up (unhide HBr)).1.at 5 _ rfl
    have r5 := ((unhide X2).up (unhide HBr)).1.at 5 _ rfl
    by_cases hlt : j < vs.length
    · obtain ⟨c0, c1⟩ := (unhide HA).below (unhide HBr) (unhide HZB) j hlt
      obtain ⟨d0, d1⟩ := (unhide HB).below (unhide HBr) (unhide HZB') j hlt
      have hcmp := fun (X : World) => cmpVer vs[j].a0 vs[j].a0 vs[j].a1 vs[j].a1 X
      simp only [BEq.rfl, Bool.and_self] at hcmp
      have hgd : Try.prog.eqGuardType Try.prog.depth 65 = false := by kernel_rfl
      generalize vs[j] = x at *
      go_wp2_with fail
      go_quiet (fail)
      go_wp2_with fail
      go_roundw
      case rel => exact ⟨j + 1, by omega, by go_num, hide ((unhide HBr).trans ((belowN _ _).mono (unhide HBr).size))⟩
      case measure => simp [intOf]; omega
    · go_wp2_with fail
      go_ret
      exact ⟨rfl, (unhide BB).trans ((unhide HBr).mono (unhide BB).size)⟩
set_option maxHeartbeats 3200000 in
set_option maxRecDepth 20000 in
theorem leSay_none (k f t val : Int) (nm : ByteArray) (w : World) (a a' : Option Addr) (c c' : Nat) :
    Calls Try.prog 15 #[.agg #[.int .i64 k, .int .i64 f, .int .i64 t, .string nm, .int .i64 val, .slice a 0 c], .agg #[.int .i64 k, .int .i64 f, .int .i64 t, .string nm, .int .i64 val, .slice a' 0 c']] w fun e w' => e = .returned (.bool true) ∧ Below w.heap.size w w' := by
  go_enter Try.func15, Try.ntmps15
  go_wp2_with fail
  refine wp_loop_rounds 1 ?_
  rw [rounds_succ]
  go_wp2_with fail
  go_ret
  exact ⟨rfl, by go_grown⟩
theorem leSay_same (s : SayV) (v v' : Value) (w : World) (hs : s.stamp.length ≤ 1048576) (h : SayRd w v s) (h' : SayRd w v' s) :
    Calls Try.prog 15 #[v, v'] w fun e w' => e = .returned (.bool true) ∧ Below w.heap.size w w' := by
  obtain ⟨v0, rfl, a, c, rfl, h⟩ := h
  obtain ⟨v0', rfl, a', c', rfl, h'⟩ := h'
  obtain ⟨k, f, t, nm, val, vs⟩ := s
  simp only at h h' hs ⊢
  rcases h with rfl | ⟨b, off, rfl, hb, h⟩
  · exact leSay_none k f t val nm w a a' c c'
  · rcases h' with rfl | ⟨b', off', rfl, hb', h'⟩
    · exact leSay_none k f t val nm w _ a' c c'
    · exact leSay_row k f t val nm vs w b off c b' off' c' hs h h' hb hb'
end Go.Proofs.Ytlgmmibncoedgaa

set_option linter.unusedVariables false
namespace Go.Proofs.Ytlgmmibncoedgaa
open Go.RowKit Go.Maps Go.Deep

/-- versions that may be read, in a block of a kind -/
def VerQ (P : Nat → Prop) (w : World) (v : Value) (ns : List VerV) : Prop := VerRd w v ns ∧ (ns ≠ [] → ∀ a n c, v = .slice (some a) n c → P a.block)
theorem VerQ.turn {P : Nat → Prop} {S : List Nat} {w w' : World} {v : Value} {ns : List VerV} (h : VerQ P w v ns) (t : Turn S w w') (hS : ∀ k ∈ S, ¬ P k) : VerQ P w' v ns := by
  obtain ⟨⟨a, c, rfl, hin⟩, h2⟩ := h
  refine ⟨⟨a, c, rfl, ?_⟩, h2⟩
  rcases hin with h0 | ⟨b, off, rfl, hb, hx⟩
  · exact .inl h0
  · by_cases e : ns = []
    · exact .inl e
    · have := h2 e _ _ _ rfl
      exact .inr ⟨b, off, rfl, Nat.lt_of_lt_of_le hb t.size, hx.turn t hb (fun hm => hS b hm this)⟩
theorem VerQ.mono {P P' : Nat → Prop} {w : World} {v : Value} {ns : List VerV} (h : VerQ P w v ns) (hP : ∀ k, k < w.heap.size → P k → P' k) : VerQ P' w v ns := by
  obtain ⟨⟨a, c, rfl, hin⟩, h2⟩ := h
  refine ⟨⟨a, c, rfl, hin⟩, fun hn a' n c' e => ?_⟩
  rcases hin with h0 | ⟨b, off, rfl, hb, hx⟩
  · exact absurd h0 hn
  · have := h2 hn a' n c' e
    simp only [Value.slice.injEq, Option.some.injEq] at e
    obtain ⟨rfl, _, _⟩ := e
    exact hP _ hb this
theorem VerQ.up {P : Nat → Prop} {w w' : World} {v : Value} {ns : List VerV} (h : VerQ P w v ns) (hb : Below w.heap.size w w') : VerQ P w' v ns := h.turn (Turn.of_below (S := []) hb) (by simp)
/-- a word that no write into an older block turns has its versions in a newer one -/
theorem say_new {B : Nat} {w : World} {k f t x : Int} {nm : ByteArray} {u : Value} {s : SayV} (h : ∀ W S, Turn S w W → (∀ k ∈ S, k ≤ B) → SayRd W (.agg #[.int .i64 k, .int .i64 f, .int .i64 t, .string nm, .int .i64 x, u]) s) : VerQ (fun k => B < k) w u s.stamp ∧ .agg #[.int .i64 k, .int .i64 f, .int .i64 t, .string nm, .int .i64 x, u] = Value.agg #[.int .i64 s.kind, .int .i64 s.src, .int .i64 s.dst, .string s.name, .int .i64 s.val, u] := by
  obtain ⟨v5, e, hv⟩ := h w [] (Turn.refl _ _) (by simp)
  have e0 := e
  simp at e0
  obtain ⟨r0, r1, r2, r3, r4, r5⟩ := e0
  subst r5
  refine ⟨⟨hv, fun hn a n c ev => ?_⟩, e⟩
  obtain ⟨a', c', e', hin⟩ := hv
  rw [ev] at e'
  simp only [Value.slice.injEq] at e'
  obtain ⟨rfl, rfl, rfl⟩ := e'
  rcases hin with h0 | ⟨b, off, eb, hb, hx⟩
  · exact absurd h0 hn
  · simp only [Option.some.injEq] at eb
    subst eb
    apply Decidable.byContradiction
    intro hlt
    have hpos : 0 < s.stamp.length := List.length_pos_iff.2 hn
    obtain ⟨v6, e6, a6, c6, q6, hin6⟩ := h (w.setCell ⟨b, off, none⟩ (.bool true)) [b] ((Turn.refl _ _).setCell (by simp) _ _) (fun k hk => by have h1 : ¬ B < b := hlt; simp at hk; omega)
    simp at e6
    have e6' : u = v6 := e6.2.2.2.2.2
    rw [← e6', ev] at q6
    simp only [Value.slice.injEq] at q6
    obtain ⟨q6, _, _⟩ := q6
    rcases hin6 with h0 | ⟨b7, off7, e7, _, hx7⟩
    · exact hn h0
    · rw [← q6] at e7
      simp only [Option.some.injEq, Addr.mk.injEq] at e7
      obtain ⟨rfl, rfl, _⟩ := e7
      have c0 := (hx 0 hpos).1
      have c7 := (hx7 0 hpos).1
      simp only [Nat.zero_mul, Nat.add_zero] at c0 c7
      rw [World.cell?_setCell_same _ _ _ c0] at c7
      cases c7
/-- each one's versions in a block of a kind -/
def WdsR (P : Nat → Prop) (w : World) (xs : List (SayV × Value)) : Prop := ∀ i (h : i < xs.length), VerQ P w xs[i].2 xs[i].1.stamp
theorem WdsR.nil (P : Nat → Prop) (w : World) : WdsR P w [] := fun i h => by simp at h
theorem WdsR.turn {P : Nat → Prop} {S : List Nat} {w w' : World} {xs : List (SayV × Value)} (h : WdsR P w xs) (t : Turn S w w') (hS : ∀ k ∈ S, ¬ P k) : WdsR P w' xs := fun i hi => (h i hi).turn t hS
theorem WdsR.mono {P P' : Nat → Prop} {w : World} {xs : List (SayV × Value)} (h : WdsR P w xs) (hP : ∀ k, k < w.heap.size → P k → P' k) : WdsR P' w xs := fun i hi => (h i hi).mono hP
theorem WdsR.up {P : Nat → Prop} {w w' : World} {xs : List (SayV × Value)} (h : WdsR P w xs) (hb : Below w.heap.size w w') : WdsR P w' xs := fun i hi => (h i hi).up hb
theorem WdsR.snoc {P : Nat → Prop} {w : World} {xs : List (SayV × Value)} {s : SayV} {u : Value} (h : WdsR P w xs) (hu : VerQ P w u s.stamp) : WdsR P w (xs ++ [(s, u)]) := by
  intro i hi
  by_cases e : i < xs.length
  · rw [List.getElem_append_left e]; exact h i e
  · rw [List.getElem_append_right (by omega)]
    have e0 : i - xs.length = 0 := by simp at hi; omega
    simp only [e0, List.getElem_cons_zero]
    exact hu
theorem SyRow.rdW {B : Nat} {P : Nat → Prop} {w : World} {v : Value} {xs : List (SayV × Value)} (h : SyRow B w v xs) (hx : WdsR P w xs) : SaySRd w v (xs.map (·.1)) := by
  have hh : w.ownsRow B 26 6 v xs.length (syCells xs) := h
  rcases h with ⟨_, ⟨rfl, h0⟩ | ⟨g, cap, cur, rfl, hB, hg, hnc, _⟩⟩
  · have e : xs = [] := List.eq_nil_of_length_eq_zero h0
    subst e
    exact ⟨none, 0, rfl, .inl rfl⟩
  · refine ⟨some ⟨g, 0, none⟩, cap, by simp, .inr ⟨g, 0, rfl, (Array.getElem?_eq_some_iff.1 hg).1, fun i hi => ?_⟩⟩
    simp only [List.length_map] at hi
    refine ⟨xs[i].2, ?_, by simpa using (hx i hi).1⟩
    obtain ⟨e0, e1, e2, e3, e4, e5⟩ := syCells_get xs i hi
    simp only [List.getElem_map]
    constructor
    · rw [Nat.zero_add, hh.cellAt _ (by omega)]; exact e0
    · rw [Nat.zero_add, hh.cellAt _ (by omega)]; exact e1
    · rw [Nat.zero_add, hh.cellAt _ (by omega)]; exact e2
    · rw [Nat.zero_add, hh.cellAt _ (by omega)]; exact e3
    · rw [Nat.zero_add, hh.cellAt _ (by omega)]; exact e4
    · rw [Nat.zero_add, hh.cellAt _ (by omega)]; exact e5
/-- a row of words and one of bytes have blocks of two kinds -/
theorem SyRow.apart {B B' : Nat} {w : World} {v u : Value} {xs : List (SayV × Value)} {bs : List UInt8} (h : SyRow B w v xs) (h' : ByRow B' w u bs) : ∀ k, u.ownBlock = some k → v.ownBlock ≠ some k := by
  intro k hk hv
  rcases h.2 with ⟨rfl, _⟩ | ⟨g, cap, cur, rfl, hB, hg, _⟩
  · simp [Value.ownBlock] at hv
  · obtain ⟨c2, hc⟩ := h'.typed k hk
    simp [Value.ownBlock] at hv
    subst hv
    rw [hg] at hc
    simp at hc
set_option maxHeartbeats 3200000 in
theorem leSays_row (w : World) (b off cap b' off' cap' : Nat) (ns : List SayV) (hs : SmallSayS ns) (hc : SayAt w b off ns) (hc' : SayAt w b' off' ns) (hb : b < w.heap.size) (hb' : b' < w.heap.size) :
    Calls Try.prog 12 #[.slice (some ⟨b, off, none⟩) ns.length cap, .slice (some ⟨b', off', none⟩) ns.length cap'] w fun e w' => e = .returned (.bool true) ∧ Below w.heap.size w w' := by
  have HS := hide hs.2
  have hl := hs.1
  have HC := hide hc
  have HC' := hide hc'
  clear hs hc hc'
  go_enter Try.func12, Try.ntmps12
  go_wp2_with fail
  go_loopw [5] (fun i wr => ∃ (k : Nat), k ≤ ns.length ∧ i = .int .i64 k ∧ Hid (Below w.heap.size w wr)) (fun i _ => ns.length - (intOf i).toNat)
  case atStart => exact ⟨0, Nat.zero_le _, rfl, Below.refl _ _⟩
  case round =>
    obtain ⟨k, hk, rfl, HB⟩ := hrel
    by_cases hlt : k < ns.length
    · obtain ⟨v, ⟨c0, c1, c2, c3, c4, c5⟩, hv⟩ := (unhide HC).up hb (unhide HB) k hlt
      obtain ⟨v', ⟨d0, d1, d2, d3, d4, d5⟩, hv'⟩ := (unhide HC').up hb' (unhide HB) k hlt
      have HV := hide (fun W (bW : Below wr.heap.size wr W) => leSay_same ns[k] (.agg #[.int .i64 ns[k].kind, .int .i64 ns[k].src, .int .i64 ns[k].dst, .string ns[k].name, .int .i64 ns[k].val, v]) (.agg #[.int .i64 ns[k].kind, .int .i64 ns[k].src, .int .i64 ns[k].dst, .string ns[k].name, .int .i64 ns[k].val, v']) W (by have := (unhide HS _ (List.getElem_mem hlt)).2; omega) ⟨v, rfl, hv.up bW⟩ ⟨v', rfl, hv'.up bW⟩)
      obtain ⟨va, vc, rfl⟩ := hv.len
      obtain ⟨va', vc', rfl⟩ := hv'.len
      clear hv hv'
      generalize ns[k].stamp.length = m at *
      generalize ns[k].kind = z0 at *
      generalize ns[k].src = z1 at *
      generalize ns[k].dst = z2 at *
      generalize ns[k].name = z3 at *
      generalize ns[k].val = z4 at *
      go_wp2_with fail
      go_region_with (go_at_call 15; refine (unhide HV _ ((Below.refl _ _).drew)).mono ?_; rintro e w2 ⟨rfl, hb2⟩)
      all_goals
        have hb3 := hide ((unhide HB).trans (Below.mono (((Below.refl wr.heap.size wr).drew).trans hb2) (unhide HB).size))
        clear c0 c1 c2 c3 c4 c5 d0 d1 d2 d3 d4 d5
        go_wp2_with fail
        go_roundw
        case rel => exact ⟨k + 1, by omega, by go_num, hb3⟩
        case measure => simp [intOf]; omega
    · go_wp2_with fail
      go_ret
      exact ⟨rfl, unhide HB⟩
theorem leSays_same (ns : List SayV) (v v' : Value) (w : World) (hs : SmallSayS ns) (h : SaySRd w v ns) (h' : SaySRd w v' ns) :
    Calls Try.prog 12 #[v, v'] w fun e w' => e = .returned (.bool true) ∧ Below w.heap.size w w' := by
  have none : ∀ a a' c c', Calls Try.prog 12 #[.slice a 0 c, .slice a' 0 c'] w fun e w' => e = .returned (.bool true) ∧ Below w.heap.size w w' := by
    intro a a' c c'
    go_enter Try.func12, Try.ntmps12
    go_wp2
    refine wp_loop_rounds 1 ?_
    rw [rounds_succ]
    go_wp2
    go_ret
    exact ⟨rfl, Below.refl _ _⟩
  obtain ⟨a, c, rfl, h⟩ := h
  obtain ⟨a', c', rfl, h'⟩ := h'
  rcases h with rfl | ⟨b, off, rfl, hb, hc⟩
  · exact none _ _ _ _
  · rcases h' with rfl | ⟨b', off', rfl, hb', hc'⟩
    · exact none _ _ _ _
    · exact leSays_row w b off c b' off' c' ns hs hc hc' hb hb'
end Go.Proofs.Ytlgmmibncoedgaa
