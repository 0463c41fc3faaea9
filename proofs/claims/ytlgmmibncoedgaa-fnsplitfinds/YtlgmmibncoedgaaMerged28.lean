/-
  What the laws on words ask: whether two words are the same.
-/
/-
  A loop over an iterator that writes a variable of its own (a captured one, in the block Br): what the loop keeps must not speak of that block.
-/
import Derived.Test.YtlgmmibncoedgaaMerged2
import Derived.BigQuiet
import Derived.Deep.QuietTactic
import Derived.WalkKit
import Derived.Handy
import Derived.Test.YtlgmmibncoedgaaMerged1
import Derived.RangeFuncNested
set_option linter.unusedVariables false
namespace Go.Proofs.Ytlgmmibncoedgaa
open Go.RowKit Go.Maps Go.Deep

theorem cmpVer (x0 y0 : ByteArray) (x1 y1 : Int) (w : World) : (Op.equalIn 10000 65 (.agg #[.string x0, .int .i64 x1]) (.agg #[.string y0, .int .i64 y1])).run Try.prog w = .ok ((x0.toList == y0.toList) && (x1 == y1)) w := by
  rw [run_equalIn_struct w 9999 65 _ _ (by kernel_rfl) (by kernel_rfl)]
  have hf : (Try.prog.fieldsOf 65).toList.map (fun f => (f.name, f.type, f.offset)) = [("Src", 9, 0), ("Ver", 3, 1)] := by kernel_rfl
  have hp : ∀ (T : TypeId) (a b : Value) (k : Nat) (v : Value), (isAgg T).run Try.prog w = .ok false w → (#[a, b] : Array Value)[k]? = some v → (part T #[a, b] k).run Try.prog w = .ok v w := by
    intro T a b k v ha hv
    unfold part
    simp only [Sem.run_bind, ha, Result.andThen_ok, Bool.false_eq_true, if_false, hv, Sem.run_pure]
  have hs : (isAgg 9).run Try.prog w = .ok false w := by kernel_rfl
  have hi : (isAgg 3).run Try.prog w = .ok false w := by kernel_rfl
  generalize (Try.prog.fieldsOf 65).toList = fs at hf ⊢
  match fs, hf with
  | [], hf => simp at hf
  | [_], hf => simp at hf
  | _ :: _ :: _ :: _, hf => simp at hf
  | [f0, f1], hf =>
    simp only [List.map_cons, List.map_nil, List.cons.injEq, Prod.mk.injEq, and_true] at hf
    obtain ⟨⟨n0, t0, o0⟩, ⟨n1, t1, o1⟩⟩ := hf
    simp only [Op.eqFields, n0, n1, t0, t1, o0, o1]
    rw [if_pos (by decide), if_pos (by decide)]
    simp only [Sem.run_bind]
    rw [hp _ _ _ 0 (.string x0) hs rfl, Result.andThen_ok, hp _ _ _ 0 (.string y0) hs rfl, Result.andThen_ok, run_equalIn_string w 9998 9 x0 y0 Try.underlying9, Result.andThen_ok]
    cases (x0.toList == y0.toList)
    · simp
    · simp only [Bool.not_true, Bool.false_eq_true, if_false, Sem.run_bind]
      rw [hp _ _ _ 1 (.int .i64 x1) hi rfl, Result.andThen_ok, hp _ _ _ 1 (.int .i64 y1) hi rfl, Result.andThen_ok, run_equalIn_int w 9998 3 .i64 .i64 x1 y1 Try.underlying3, Result.andThen_ok]
      cases (x1 == y1) <;> simp

theorem lt_cells33 {w : World} {g o : Nat} {v : Value} (h : w.cell? ⟨g, o, none⟩ = some v) : g < w.heap.size := World.block_lt_of_cell? w ⟨g, o, none⟩ h
set_option maxHeartbeats 6400000 in
set_option maxRecDepth 20000 in
theorem leSay_row (k f t val : Int) (nm : ByteArray) (vs : List VerV) (w : World) (b off c b' off' c' : Nat) (hs : vs.length ≤ 1048576) (hA : VerAt w b off vs) (hB : VerAt w b' off' vs) (hb : b < w.heap.size) (hb' : b' < w.heap.size) :
    Calls Try.prog 15 #[.agg #[.int .i64 k, .int .i64 f, .int .i64 t, .string nm, .int .i64 val, .slice (some ⟨b, off, none⟩) vs.length c], .agg #[.int .i64 k, .int .i64 f, .int .i64 t, .string nm, .int .i64 val, .slice (some ⟨b', off', none⟩) vs.length c']] w fun e w' => e = .returned (.bool true) ∧ Below w.heap.size w w' := by
  have bA := (Below.refl w.heap.size w).alloc (Nat.le_refl _) (.cells #[.int .i64 k, .int .i64 f, .int .i64 t, .string nm, .int .i64 val, .slice (some ⟨b, off, none⟩) vs.length c] 26)
  have bB := bA.alloc (by simp) (.cells #[.int .i64 k, .int .i64 f, .int .i64 t, .string nm, .int .i64 val, .slice (some ⟨b', off', none⟩) vs.length c'] 26)
  have X1 := hide (boxF_new w [.int .i64 k, .int .i64 f, .int .i64 t, .string nm, .int .i64 val, .slice (some ⟨b, off, none⟩) vs.length c] 26)
  have X2 := hide (boxF_new (w.alloc (.cells #[.int .i64 k, .int .i64 f, .int .i64 t, .string nm, .int .i64 val, .slice (some ⟨b, off, none⟩) vs.length c] 26)) [.int .i64 k, .int .i64 f, .int .i64 t, .string nm, .int .i64 val, .slice (some ⟨b', off', none⟩) vs.length c'] 26)
  simp only [List.toArray] at X1 X2
  rw [World.size_alloc] at X2
  have HX1 := hide ((unhide X1).up ((Below.refl _ _).alloc (Nat.le_refl _) (.cells #[.int .i64 k, .int .i64 f, .int .i64 t, .string nm, .int .i64 val, .slice (some ⟨b', off', none⟩) vs.length c'] 26)))
  have BB := hide bB
  have HA := hide (hA.below bB hb)
  have HB := hide (hB.below bB hb')
  have HZB := hide (Nat.lt_of_lt_of_le hb bB.size)
  have HZB' := hide (Nat.lt_of_lt_of_le hb' bB.size)
  clear bA bB X1 hA hB hb hb'
  go_enter Try.func15, Try.ntmps15
  go_wp2_with fail
  generalize (w.alloc (.cells #[.int .i64 k, .int .i64 f, .int .i64 t, .string nm, .int .i64 val, .slice (some ⟨b, off, none⟩) vs.length c] 26)).alloc (.cells #[.int .i64 k, .int .i64 f, .int .i64 t, .string nm, .int .i64 val, .slice (some ⟨b', off', none⟩) vs.length c'] 26) = W at *
  go_loopw [5] (fun i wr => ∃ j : Nat, j ≤ vs.length ∧ i = .int .i64 j ∧ Hid (Below W.heap.size W wr)) (fun i _ => vs.length - (intOf i).toNat)
  case atStart => exact ⟨0, Nat.zero_le _, rfl, Below.refl _ _⟩
  case round =>
    obtain ⟨j, hj, rfl, HBr⟩ := hrel
    have q5 := ((unhide HX1).up (unhide HBr)).1.at 5 _ rfl
    have r5 := ((unhide X2).up (unhide HBr)).1.at 5 _ rfl
    by_cases hlt : j < vs.length
    · obtain ⟨c0, c1⟩ := (unhide HA).below (unhide HBr) (unhide HZB) j hlt
      obtain ⟨d0, d1⟩ := (unhide HB).below (unhide HBr) (unhide HZB') j hlt
      have hcmp := fun (X : World) => cmpVer vs[j].a0 vs[j].a0 vs[j].a1 vs[j].a1 X
      simp only [BEq.rfl, Bool.and_self] at hcmp
      have hgd : Try.prog.eqGuardType Try.prog.depth 65 = false := by kernel_rfl
      generalize vs[j] = x at *
      go_wp2_with fail
      go_quiet (fail)
      go_wp2_with fail
      go_roundw
      case rel => exact ⟨j + 1, by omega, by go_num, hide ((unhide HBr).trans ((belowN _ _).mono (unhide HBr).size))⟩
      case measure => simp [intOf]; omega
    · go_wp2_with fail
      go_ret
      exact ⟨rfl, (unhide BB).trans ((unhide HBr).mono (unhide BB).size)⟩
set_option maxHeartbeats 3200000 in
set_option maxRecDepth 20000 in
theorem leSay_none (k f t val : Int) (nm : ByteArray) (w : World) (a a' : Option Addr) (c c' : Nat) :
    Calls Try.prog 15 #[.agg #[.int .i64 k, .int .i64 f, .int .i64 t, .string nm, .int .i64 val, .slice a 0 c], .agg #[.int .i64 k, .int .i64 f, .int .i64 t, .string nm, .int .i64 val, .slice a' 0 c']] w fun e w' => e = .returned (.bool true) ∧ Below w.heap.size w w' := by
  go_enter Try.func15, Try.ntmps15
  go_wp2_with fail
  refine wp_loop_rounds 1 ?_
  rw [rounds_succ]
  go_wp2_with fail
  go_ret
  exact ⟨rfl, by go_grown⟩
theorem leSay_same (s : SayV) (v v' : Value) (w : World) (hs : s.stamp.length ≤ 1048576) (h : SayRd w v s) (h' : SayRd w v' s) :
    Calls Try.prog 15 #[v, v'] w fun e w' => e = .returned (.bool true) ∧ Below w.heap.size w w' := by
  obtain ⟨v0, rfl, a, c, rfl, h⟩ := h
  obtain ⟨v0', rfl, a', c', rfl, h'⟩ := h'
  obtain ⟨k, f, t, nm, val, vs⟩ := s
  simp only at h h' hs ⊢
  rcases h with rfl | ⟨b, off, rfl, hb, h⟩
  · exact leSay_none k f t val nm w a a' c c'
  · rcases h' with rfl | ⟨b', off', rfl, hb', h'⟩
    · exact leSay_none k f t val nm w _ a' c c'
    · exact leSay_row k f t val nm vs w b off c b' off' c' hs h h' hb hb'
end Go.Proofs.Ytlgmmibncoedgaa

set_option linter.unusedVariables false
namespace Go.Proofs.Ytlgmmibncoedgaa
open Go.RowKit Go.Maps

/-- an iterator's contract, for whatever does not speak of the block Br -/
def SeqWr {α : Type} (F : Fence) (n : Nat) (P : Program) (gf : Nat) (lb : Array Value) (encs : α → Array Value) (Kp : World → World → Prop) (S Sp : List α → Prop) (N Br : Nat) (w : World) : Prop :=
  ∀ (l : Nat) (J Jx : List α → World → Prop) (W : World), Below w.heap.size w W → AbidesFrom W.heap.size J → AbidesFrom W.heap.size Jx → (∀ s X v, J s X → J s (X.setCell ⟨Br, 0, none⟩ v)) →
    (∀ pre x W1, J pre W1 → pre.length < N → YieldAt F (n - 1) P l (encs x) W1 fun e W' => (e = .returned (.bool true) ∧ J (pre ++ [x]) W' ∧ Kp W1 W') ∨ (e = .returned (.bool false) ∧ Jx (pre ++ [x]) W')) → J [] W →
    CallsIn F n P gf (#[.func (.yield l) #[] #[]] ++ lb) W fun e W' => (∃ v, e = .returned v) ∧ ((∃ ys, S ys ∧ J ys W') ∨ ∃ pre, Sp pre ∧ Jx pre W')
/-- the blocks that a loop lays for itself: its record, and the one for its rounds' deferred calls -/
def LoopAt (b : Nat) (r : Loop) (W : World) : Prop := W.heap[b + 1]? = some (.loop r) ∧ W.heap[b]? = some (.deferred (some []))
theorem LoopAt.lt {b : Nat} {r : Loop} {W : World} (h : LoopAt b r W) : b + 1 < W.heap.size := (Array.getElem?_eq_some_iff.1 h.1).1
theorem LoopAt.far {b : Nat} {r : Loop} {W : World} (h : LoopAt b r W) {Br : Nat} (hB : Br < b) (v : Value) : LoopAt b r (W.setCell ⟨Br, 0, none⟩ v) :=
  ⟨(Below.heap_setCell W ⟨Br, 0, none⟩ v _ (by simp; omega)).trans h.1, (Below.heap_setCell W ⟨Br, 0, none⟩ v _ (by simp; omega)).trans h.2⟩
theorem LoopAt.from {b : Nat} {r : Loop} {W W' : World} (h : LoopAt b r W) (hk : KeepsFrom b W W') : LoopAt b r W' := ⟨hk.same _ _ (by omega) h.1 rfl, hk.same _ _ (Nat.le_refl _) h.2 rfl⟩
theorem LoopAt.put {b : Nat} {r : Loop} {W : World} (h : LoopAt b r W) (r' : Loop) : LoopAt b r' (W.putObj (b + 1) (.loop r')) := ⟨World.putObj_heap_same h.lt, (World.putObj_heap_other (by omega)).trans h.2⟩
theorem LoopAt.grown {b : Nat} {r : Loop} {A B : World} {row : Option Nat} {m : Nat} (h : LoopAt b r A) (hg : A.grownBy B row) (hr : ∀ k, row = some k → m ≤ k ∧ ∃ o : Obj, A.heap[k]? = some o ∧ o.isWalk = true) : LoopAt b r B :=
  ⟨(grownBy_keeps hg (fun k e => (hr k e).2) h.1 rfl).trans h.1, (grownBy_keeps hg (fun k e => (hr k e).2) h.2 rfl).trans h.2⟩
theorem range_wr {F : Fence} {n : Nat} {P : Program} {α : Type} {g : Operand} {ps : Array Tmp} {assign body : Code} {Q : Exit → Act → World → Prop} {a : Act} {w : World}
    (hro : F.round = none) (h1 : 1 ≤ n) {gf : Nat} {lb : Array Value} (hg : a.eval g = .func (.func gf) #[] lb) (hFg : F.fn gf) (eg : ∀ args w, (callFunc gf args).run P w = .ok (.enter gf args) w)
    {encs : α → Array Value} {Kp : World → World → Prop} {S Sp : List α → Prop} {N Br : Nat} {w0 : World} (hseq : SeqWr F (n - 1) P gf lb encs Kp S Sp N Br w0) (hBr : Br < w.heap.size)
    (hKt : ∀ {A B C : World}, Kp A B → Kp B C → Kp A C) (hKb : ∀ (W : World) (l : Nat) (o o' : Obj), w.heap.size ≤ l → W.heap[l]? = some o → o.isCells = false → o.isWalk = false → Kp W (W.putObj l o')) (hb0 : Below w0.heap.size w0 w) (hps : ∀ x, (encs x).size = ps.size)
    (I : List α → World → Prop) (Ix : Code → List α → World → Prop) (hI : OwnFrom w.heap.size I) (hIx : ∀ c, OwnFrom w.heap.size (Ix c)) (hIw : ∀ s X v, I s X → I s (X.setCell ⟨Br, 0, none⟩ v)) (h0 : I [] w)
    (Ax : α → Act → World → Prop) (hAx : ∀ x a', OwnFrom w.heap.size (fun (_ : Unit) W => Ax x a' W))
    (hassign : ∀ (l : Nat) (pre : List α) (x : α) (W : World) (K : Act → World → Prop), I pre W → (∀ a' W', KeepsFrom w.heap.size W W' → Kp W W' → I pre W' → Ax x a' W' → K a' W') →
      assign.wpIn (F.inRound l) (n - 1 - 1) P (Exit.then K (fun _ _ _ => False)) { tmps := (ps.zip (encs x)).foldl (fun t (p, v) => t.setIfInBounds p v) a.tmps, defers := [] } W)
    (hbody : ∀ (l : Nat) (pre : List α) (x : α) (a' : Act) (W : World), w.heap.size ≤ l → (∃ r, W.heap[l]? = some (.loop r)) → I pre W → Ax x a' W → pre.length < N → body.wpIn (F.inRound l) (n - 1 - 1) P (ownPostG w.heap.size Kp I Ix (pre ++ [x]) W) a' W)
    (hdone : ∀ (D : Nat) (xs : List α) (W : World), w.heap.size ≤ D → S xs → I xs W → W.heap[D]? = some (.deferred (some [])) → Q .normal { a with defers := { target := .collected D, args := #[] } :: a.defers } W)
    (hstop : ∀ (D : Nat) (c : Code) (pre : List α) (W : World), w.heap.size ≤ D → Sp pre → Ix c pre W → W.heap[D]? = some (.deferred (some [])) → c.wpIn F n P Q { a with defers := { target := .collected D, args := #[] } :: a.defers } W) :
    (Code.rangeFunc g ps assign body).wpIn F n P Q a w := by
  refine wpIn_rangeFunc fun fn hfn => ?_
  rw [hro]
  let R : LoopState → Option Code → Loop := fun st pe => { state := st, pending := pe, fn, tmps := a.tmps, params := ps, assign, body, defers := w.heap.size }
  have e0 := run_enterLoop_outer (P := P) (w := w) fn a.tmps ps assign body
  have hA : LoopAt w.heap.size (R .ready none) ((w.alloc (.deferred (some []))).alloc (.loop (R .ready none))) := by
    refine ⟨?_, (Below.heap_alloc _ _ _ (by simp)).trans (World.alloc_heap_new w _)⟩
    have := World.alloc_heap_new (w.alloc (.deferred (some []))) (.loop (R .ready none))
    rwa [World.size_alloc] at this
  have hI1 : I [] ((w.alloc (.deferred (some []))).alloc (.loop (R .ready none))) := hI.alloc _ (hI.alloc _ h0)
  have hb1 : Below w0.heap.size w0 ((w.alloc (.deferred (some []))).alloc (.loop (R .ready none))) := hb0.trans ((((Below.refl _ w).alloc (Nat.le_refl _) _).alloc (by simp) _).mono hb0.size)
  have hz : w.heap.size ≤ ((w.alloc (.deferred (some []))).alloc (.loop (R .ready none))).heap.size := by simp; omega
  refine ⟨_, _, _, { target := .fn (.func gf) lb, args := #[.func (.yield (w.heap.size + 1)) #[] #[]] }, ((w.alloc (.deferred (some []))).alloc (.loop (R .ready none))), gf, #[.func (.yield (w.heap.size + 1)) #[] #[]] ++ lb, ((w.alloc (.deferred (some []))).alloc (.loop (R .ready none))), e0, ?_, ?_, ?_, fun _ => h1, ?_⟩
  · simp only [resolve, hg]
    simp [go_sem]
    rfl
  · intro f' hf'
    simp [Target.leads] at hf'
    subst hf'
    exact hFg
  · simp [invoke, go_sem, eg]
  generalize ((w.alloc (.deferred (some []))).alloc (.loop (R .ready none))) = W1 at *
  have hrow : ∀ {A : World} {row : Option Nat}, (∀ k, row = some k → W1.heap.size ≤ k ∧ ∃ o : Obj, A.heap[k]? = some o ∧ o.isWalk = true) → (∀ k, row = some k → w.heap.size ≤ k ∧ ∃ o : Obj, A.heap[k]? = some o ∧ o.isCells = false) := fun hr k e => by
    obtain ⟨hB, o, ho, hw⟩ := hr k e
    exact ⟨by omega, o, ho, Obj.not_cells_of_walk hw⟩
  refine (hseq (w.heap.size + 1) (fun pre W => I pre W ∧ LoopAt w.heap.size (R .ready none) W) (fun pre W => ∃ c, Ix c pre W ∧ LoopAt w.heap.size (R .done (some c)) W) W1 hb1
    (fun s A B row hs hg' hr => ⟨hI s A B row hs.1 hg' (hrow hr), hs.2.grown hg' hr⟩)
    (fun s A B row hs hg' hr => by
      obtain ⟨c, hc, hl⟩ := hs
      exact ⟨c, hIx c s A B row hc hg' (hrow hr), hl.grown hg' hr⟩)
    (fun s X v hs => ⟨hIw s X v hs.1, hs.2.far hBr v⟩) ?_ ⟨hI1, hA⟩).mono ?_
  · rintro pre x W ⟨hi, hl⟩ hlen
    refine ⟨fn, _, assign, body, run_yield (P := P) (args := encs x) hl.1 (hps x), roundIn_of_wpIn hfn (hassign _ pre x W _ hi ?_)⟩
    intro a' Wa hka hpa hia hax
    have hla := hl.from hka
    refine ⟨_, run_beginRound hla.1 rfl, ?_⟩
    have hl2 := hla.put { R .ready none with state := .busy }
    refine wpIn_mono (hbody _ pre x a' _ (by omega) ⟨_, hl2.1⟩ (hI.putObj _ hia (by omega) hla.1 rfl) ((hAx x a').putObj (s := ()) _ hax (by omega) hla.1 rfl) hlen) ?_
    have kp2 := hKb _ _ _ (.loop { R .ready none with state := .busy }) (by omega : w.heap.size ≤ w.heap.size + 1) hla.1 rfl rfl
    rintro e a3 W3 hp
    cases e with
    | normal =>
      obtain ⟨k3, p3, i3⟩ := hp
      have l3 := hl2.from k3
      exact ⟨_, _, run_endRound (P := P) none l3.1, .inl ⟨rfl, ⟨hI.putObj _ i3 (by omega) l3.1 rfl, l3.put _⟩, hKt hpa (hKt (hKt kp2 p3) (hKb _ _ _ _ (by omega) l3.1 rfl rfl))⟩⟩
    | ret =>
      have l3 := hl2.from hp.1
      exact ⟨_, _, run_endRound (P := P) (some .ret) l3.1, .inr ⟨rfl, .ret, (hIx _).putObj _ hp.2 (by omega) l3.1 rfl, l3.put _⟩⟩
    | exit id =>
      have l3 := hl2.from hp.1
      exact ⟨_, _, run_endRound (P := P) (some (.exit id)) l3.1, .inr ⟨rfl, .exit id, (hIx _).putObj _ hp.2 (by omega) l3.1 rfl, l3.put _⟩⟩
    | goto t =>
      have l3 := hl2.from hp.1
      exact ⟨_, _, run_endRound (P := P) (some (.goto t)) l3.1, .inr ⟨rfl, .goto t, (hIx _).putObj _ hp.2 (by omega) l3.1 rfl, l3.put _⟩⟩
    | panic ch => exact hp.elim
    | outgrown => exact hp.elim
  · rintro e W2 ⟨⟨v, rfl⟩, ⟨xs, hS, hi, hl⟩ | ⟨pre, hSp, c, hi, hl⟩⟩
    · exact ⟨none, _, run_endLoop (P := P) hl.1 (by simp [R]), hdone _ xs _ (Nat.le_refl _) hS (hI.putObj _ hi (by omega) hl.1 rfl) (hl.put _).2⟩
    · exact ⟨some c, _, run_endLoop (P := P) hl.1 (by simp [R]), hstop _ c pre _ (Nat.le_refl _) hSp ((hIx c).putObj _ hi (by omega) hl.1 rfl) (hl.put _).2⟩
end Go.Proofs.Ytlgmmibncoedgaa
