/-
  A loop over an iterator that writes a variable of its own (a captured one, in the block Br): what the loop keeps must not speak of that block.
-/
/-
  A loop over an iterator that writes a block of its own; what the iterator leaves is told with the world.
-/
/-
  FrameBytes of the program.
-/
import Derived.Test.YtlgmmibncoedgaaMerged1
import Derived.RangeFuncNested
import Derived.Test.YtlgmmibncoedgaaFrameBytesS
import Derived.Test.YtlgmmibncoedgaaMerged7
set_option linter.unusedVariables false
namespace Go.Proofs.Ytlgmmibncoedgaa
open Go.RowKit Go.Maps

/-- an iterator's contract, for whatever does not speak of the block Br -/
def SeqWr {α : Type} (F : Fence) (n : Nat) (P : Program) (gf : Nat) (lb : Array Value) (encs : α → Array Value) (Kp : World → World → Prop) (S Sp : List α → Prop) (N Br : Nat) (w : World) : Prop :=
  ∀ (l : Nat) (J Jx : List α → World → Prop) (W : World), Below w.heap.size w W → AbidesFrom W.heap.size J → AbidesFrom W.heap.size Jx → (∀ s X v, J s X → J s (X.setCell ⟨Br, 0, none⟩ v)) →
    (∀ pre x W1, J pre W1 → pre.length < N → YieldAt F (n - 1) P l (encs x) W1 fun e W' => (e = .returned (.bool true) ∧ J (pre ++ [x]) W' ∧ Kp W1 W') ∨ (e = .returned (.bool false) ∧ Jx (pre ++ [x]) W')) → J [] W →
    CallsIn F n P gf (#[.func (.yield l) #[] #[]] ++ lb) W fun e W' => (∃ v, e = .returned v) ∧ ((∃ ys, S ys ∧ J ys W') ∨ ∃ pre, Sp pre ∧ Jx pre W')
/-- the blocks that a loop lays for itself: its record, and the one for its rounds' deferred calls -/
def LoopAt (b : Nat) (r : Loop) (W : World) : Prop := W.heap[b + 1]? = some (.loop r) ∧ W.heap[b]? = some (.deferred (some []))
theorem LoopAt.lt {b : Nat} {r : Loop} {W : World} (h : LoopAt b r W) : b + 1 < W.heap.size := (Array.getElem?_eq_some_iff.1 h.1).1
theorem LoopAt.far {b : Nat} {r : Loop} {W : World} (h : LoopAt b r W) {Br : Nat} (hB : Br < b) (v : Value) : LoopAt b r (W.setCell ⟨Br, 0, none⟩ v) :=
  ⟨(Below.heap_setCell W ⟨Br, 0, none⟩ v _ (by simp; omega)).trans h.1, (Below.heap_setCell W ⟨Br, 0, none⟩ v _ (by simp; omega)).trans h.2⟩
theorem LoopAt.from {b : Nat} {r : Loop} {W W' : World} (h : LoopAt b r W) (hk : KeepsFrom b W W') : LoopAt b r W' := ⟨hk.same _ _ (by omega) h.1 rfl, hk.same _ _ (Nat.le_refl _) h.2 rfl⟩
theorem LoopAt.put {b : Nat} {r : Loop} {W : World} (h : LoopAt b r W) (r' : Loop) : LoopAt b r' (W.putObj (b + 1) (.loop r')) := ⟨World.putObj_heap_same h.lt, (World.putObj_heap_other (by omega)).trans h.2⟩
theorem LoopAt.grown {b : Nat} {r : Loop} {A B : World} {row : Option Nat} {m : Nat} (h : LoopAt b r A) (hg : A.grownBy B row) (hr : ∀ k, row = some k → m ≤ k ∧ ∃ o : Obj, A.heap[k]? = some o ∧ o.isWalk = true) : LoopAt b r B :=
  ⟨(grownBy_keeps hg (fun k e => (hr k e).2) h.1 rfl).trans h.1, (grownBy_keeps hg (fun k e => (hr k e).2) h.2 rfl).trans h.2⟩
theorem range_wr {F : Fence} {n : Nat} {P : Program} {α : Type} {g : Operand} {ps : Array Tmp} {assign body : Code} {Q : Exit → Act → World → Prop} {a : Act} {w : World}
    (hro : F.round = none) (h1 : 1 ≤ n) {gf : Nat} {lb : Array Value} (hg : a.eval g = .func (.func gf) #[] lb) (hFg : F.fn gf) (eg : ∀ args w, (callFunc gf args).run P w = .ok (.enter gf args) w)
    {encs : α → Array Value} {Kp : World → World → Prop} {S Sp : List α → Prop} {N Br : Nat} {w0 : World} (hseq : SeqWr F (n - 1) P gf lb encs Kp S Sp N Br w0) (hBr : Br < w.heap.size)
    (hKt : ∀ {A B C : World}, Kp A B → Kp B C → Kp A C) (hKb : ∀ (W : World) (l : Nat) (o o' : Obj), w.heap.size ≤ l → W.heap[l]? = some o → o.isCells = false → o.isWalk = false → Kp W (W.putObj l o')) (hb0 : Below w0.heap.size w0 w) (hps : ∀ x, (encs x).size = ps.size)
    (I : List α → World → Prop) (Ix : Code → List α → World → Prop) (hI : OwnFrom w.heap.size I) (hIx : ∀ c, OwnFrom w.heap.size (Ix c)) (hIw : ∀ s X v, I s X → I s (X.setCell ⟨Br, 0, none⟩ v)) (h0 : I [] w)
    (Ax : α → Act → World → Prop) (hAx : ∀ x a', OwnFrom w.heap.size (fun (_ : Unit) W => Ax x a' W))
    (hassign : ∀ (l : Nat) (pre : List α) (x : α) (W : World) (K : Act → World → Prop), I pre W → (∀ a' W', KeepsFrom w.heap.size W W' → Kp W W' → I pre W' → Ax x a' W' → K a' W') →
      assign.wpIn (F.inRound l) (n - 1 - 1) P (Exit.then K (fun _ _ _ => False)) { tmps := (ps.zip (encs x)).foldl (fun t (p, v) => t.setIfInBounds p v) a.tmps, defers := [] } W)
    (hbody : ∀ (l : Nat) (pre : List α) (x : α) (a' : Act) (W : World), w.heap.size ≤ l → (∃ r, W.heap[l]? = some (.loop r)) → I pre W → Ax x a' W → pre.length < N → body.wpIn (F.inRound l) (n - 1 - 1) P (ownPostG w.heap.size Kp I Ix (pre ++ [x]) W) a' W)
    (hdone : ∀ (D : Nat) (xs : List α) (W : World), w.heap.size ≤ D → S xs → I xs W → W.heap[D]? = some (.deferred (some [])) → Q .normal { a with defers := { target := .collected D, args := #[] } :: a.defers } W)
    (hstop : ∀ (D : Nat) (c : Code) (pre : List α) (W : World), w.heap.size ≤ D → Sp pre → Ix c pre W → W.heap[D]? = some (.deferred (some [])) → c.wpIn F n P Q { a with defers := { target := .collected D, args := #[] } :: a.defers } W) :
    (Code.rangeFunc g ps assign body).wpIn F n P Q a w := by
  refine wpIn_rangeFunc fun fn hfn => ?_
  rw [hro]
  let R : LoopState → Option Code → Loop := fun st pe => { state := st, pending := pe, fn, tmps := a.tmps, params := ps, assign, body, defers := w.heap.size }
  have e0 := run_enterLoop_outer (P := P) (w := w) fn a.tmps ps assign body
  have hA : LoopAt w.heap.size (R .ready none) ((w.alloc (.deferred (some []))).alloc (.loop (R .ready none))) := by
    refine ⟨?_, (Below.heap_alloc _ _ _ (by simp)).trans (World.alloc_heap_new w _)⟩
    have := World.alloc_heap_new (w.alloc (.deferred (some []))) (.loop (R .ready none))
    rwa [World.size_alloc] at this
  have hI1 : I [] ((w.alloc (.deferred (some []))).alloc (.loop (R .ready none))) := hI.alloc _ (hI.alloc _ h0)
  have hb1 : Below w0.heap.size w0 ((w.alloc (.deferred (some []))).alloc (.loop (R .ready none))) := hb0.trans ((((Below.refl _ w).alloc (Nat.le_refl _) _).alloc (by simp) _).mono hb0.size)
  have hz : w.heap.size ≤ ((w.alloc (.deferred (some []))).alloc (.loop (R .ready none))).heap.size := by simp; omega
  refine ⟨_, _, _, { target := .fn (.func gf) lb, args := #[.func (.yield (w.heap.size + 1)) #[] #[]] }, ((w.alloc (.deferred (some []))).alloc (.loop (R .ready none))), gf, #[.func (.yield (w.heap.size + 1)) #[] #[]] ++ lb, ((w.alloc (.deferred (some []))).alloc (.loop (R .ready none))), e0, ?_, ?_, ?_, fun _ => h1, ?_⟩
  · simp only [resolve, hg]
    simp [go_sem]
    rfl
  · intro f' hf'
    simp [Target.leads] at hf'
    subst hf'
    exact hFg
  · simp [invoke, go_sem, eg]
  generalize ((w.alloc (.deferred (some []))).alloc (.loop (R .ready none))) = W1 at *
  have hrow : ∀ {A : World} {row : Option Nat}, (∀ k, row = some k → W1.heap.size ≤ k ∧ ∃ o : Obj, A.heap[k]? = some o ∧ o.isWalk = true) → (∀ k, row = some k → w.heap.size ≤ k ∧ ∃ o : Obj, A.heap[k]? = some o ∧ o.isCells = false) := fun hr k e => by
    obtain ⟨hB, o, ho, hw⟩ := hr k e
    exact ⟨by omega, o, ho, Obj.not_cells_of_walk hw⟩
  refine (hseq (w.heap.size + 1) (fun pre W => I pre W ∧ LoopAt w.heap.size (R .ready none) W) (fun pre W => ∃ c, Ix c pre W ∧ LoopAt w.heap.size (R .done (some c)) W) W1 hb1
    (fun s A B row hs hg' hr => ⟨hI s A B row hs.1 hg' (hrow hr), hs.2.grown hg' hr⟩)
    (fun s A B row hs hg' hr => by
      obtain ⟨c, hc, hl⟩ := hs
      exact ⟨c, hIx c s A B row hc hg' (hrow hr), hl.grown hg' hr⟩)
    (fun s X v hs => ⟨hIw s X v hs.1, hs.2.far hBr v⟩) ?_ ⟨hI1, hA⟩).mono ?_
  · rintro pre x W ⟨hi, hl⟩ hlen
    refine ⟨fn, _, assign, body, run_yield (P := P) (args := encs x) hl.1 (hps x), roundIn_of_wpIn hfn (hassign _ pre x W _ hi ?_)⟩
    intro a' Wa hka hpa hia hax
    have hla := hl.from hka
    refine ⟨_, run_beginRound hla.1 rfl, ?_⟩
    have hl2 := hla.put { R .ready none with state := .busy }
    refine wpIn_mono (hbody _ pre x a' _ (by omega) ⟨_, hl2.1⟩ (hI.putObj _ hia (by omega) hla.1 rfl) ((hAx x a').putObj (s := ()) _ hax (by omega) hla.1 rfl) hlen) ?_
    have kp2 := hKb _ _ _ (.loop { R .ready none with state := .busy }) (by omega : w.heap.size ≤ w.heap.size + 1) hla.1 rfl rfl
    rintro e a3 W3 hp
    cases e with
    | normal =>
      obtain ⟨k3, p3, i3⟩ := hp
      have l3 := hl2.from k3
      exact ⟨_, _, run_endRound (P := P) none l3.1, .inl ⟨rfl, ⟨hI.putObj _ i3 (by omega) l3.1 rfl, l3.put _⟩, hKt hpa (hKt (hKt kp2 p3) (hKb _ _ _ _ (by omega) l3.1 rfl rfl))⟩⟩
    | ret =>
      have l3 := hl2.from hp.1
      exact ⟨_, _, run_endRound (P := P) (some .ret) l3.1, .inr ⟨rfl, .ret, (hIx _).putObj _ hp.2 (by omega) l3.1 rfl, l3.put _⟩⟩
    | exit id =>
      have l3 := hl2.from hp.1
      exact ⟨_, _, run_endRound (P := P) (some (.exit id)) l3.1, .inr ⟨rfl, .exit id, (hIx _).putObj _ hp.2 (by omega) l3.1 rfl, l3.put _⟩⟩
    | goto t =>
      have l3 := hl2.from hp.1
      exact ⟨_, _, run_endRound (P := P) (some (.goto t)) l3.1, .inr ⟨rfl, .goto t, (hIx _).putObj _ hp.2 (by omega) l3.1 rfl, l3.put _⟩⟩
    | panic ch => exact hp.elim
    | outgrown => exact hp.elim
  · rintro e W2 ⟨⟨v, rfl⟩, ⟨xs, hS, hi, hl⟩ | ⟨pre, hSp, c, hi, hl⟩⟩
    · exact ⟨none, _, run_endLoop (P := P) hl.1 (by simp [R]), hdone _ xs _ (Nat.le_refl _) hS (hI.putObj _ hi (by omega) hl.1 rfl) (hl.put _).2⟩
    · exact ⟨some c, _, run_endLoop (P := P) hl.1 (by simp [R]), hstop _ c pre _ (Nat.le_refl _) hSp ((hIx c).putObj _ hi (by omega) hl.1 rfl) (hl.put _).2⟩
end Go.Proofs.Ytlgmmibncoedgaa

set_option linter.unusedVariables false
namespace Go.Proofs.Ytlgmmibncoedgaa
open Go.RowKit Go.Maps

/-- an iterator's contract, for whatever does not speak of the block Br; what it leaves is told with the world -/
def SeqWs {α : Type} (F : Fence) (n : Nat) (P : Program) (gf : Nat) (lb : Array Value) (encs : α → Array Value) (Kp : Nat → World → World → Prop) (S : List α → World → Prop) (Sp : List α → Prop) (N Br : Nat) (w : World) : Prop :=
  ∀ (l : Nat) (J Jx : List α → World → Prop) (W : World), Below w.heap.size w W → OwnFrom W.heap.size J → OwnFrom W.heap.size Jx → (∀ s X i v, J s X → J s (X.setCell ⟨Br, i, none⟩ v)) →
    (∀ pre x W1, J pre W1 → pre.length < N → YieldAt F (n - 1) P l (encs x) W1 fun e W' => (e = .returned (.bool true) ∧ J (pre ++ [x]) W' ∧ Kp W.heap.size W1 W') ∨ (e = .returned (.bool false) ∧ Jx (pre ++ [x]) W' ∧ KeepsFrom W.heap.size W1 W')) → J [] W →
    CallsIn F n P gf (#[.func (.yield l) #[] #[]] ++ lb) W fun e W' => (∃ v, e = .returned v) ∧ ((∃ ys, S ys W' ∧ J ys W') ∨ ∃ pre, Sp pre ∧ Jx pre W')
theorem LoopAt.farI {b : Nat} {r : Loop} {W : World} (h : LoopAt b r W) {Br : Nat} (hB : Br < b) (i : Nat) (v : Value) : LoopAt b r (W.setCell ⟨Br, i, none⟩ v) :=
  ⟨(Below.heap_setCell W ⟨Br, i, none⟩ v _ (by simp; omega)).trans h.1, (Below.heap_setCell W ⟨Br, i, none⟩ v _ (by simp; omega)).trans h.2⟩
theorem kfMore {B B' : Nat} {W W' : World} (h : KeepsFrom B W W') (hB : B ≤ B') : KeepsFrom B' W W' := ⟨h.size, fun k o hk => h.same k o (Nat.le_trans hB hk)⟩
theorem keepsFrom_put {B l : Nat} {o : Obj} (W : World) (hl : l < B) : KeepsFrom B W (W.putObj l o) := KeepsFrom.of_grownBy (grownBy_putObj' W l o) (fun j e => by cases e; exact hl)
theorem LoopAt.grownO {b : Nat} {r : Loop} {A B : World} {row : Option Nat} {m : Nat} (h : LoopAt b r A) (hm : b + 1 < m) (hg : A.grownBy B row) (hr : ∀ k, row = some k → m ≤ k ∧ ∃ o : Obj, A.heap[k]? = some o ∧ o.isCells = false) : LoopAt b r B :=
  ⟨(hg.block _ h.lt (fun e => by have := (hr _ e.symm).1; omega)).trans h.1, (hg.block _ (by have := h.lt; omega) (fun e => by have := (hr _ e.symm).1; omega)).trans h.2⟩
theorem range_ws {F : Fence} {n : Nat} {P : Program} {α : Type} {g : Operand} {ps : Array Tmp} {assign body : Code} {Q : Exit → Act → World → Prop} {a : Act} {w : World}
    (hro : F.round = none) (h1 : 1 ≤ n) {gf : Nat} {lb : Array Value} (hg : a.eval g = .func (.func gf) #[] lb) (hFg : F.fn gf) (eg : ∀ args w, (callFunc gf args).run P w = .ok (.enter gf args) w)
    {encs : α → Array Value} {Kp : Nat → World → World → Prop} {S : List α → World → Prop} {Sp : List α → Prop} {N Br : Nat} {w0 : World} (hseq : SeqWs F (n - 1) P gf lb encs Kp S Sp N Br w0) (hBr : Br < w.heap.size)
    (hKt : ∀ {M : Nat} {A B C : World}, Kp M A B → Kp M B C → Kp M A C) (hKb : ∀ (W : World) (l : Nat) (o o' : Obj), w.heap.size ≤ l → l < w.heap.size + 2 → W.heap[l]? = some o → o.isCells = false → o.isWalk = false → Kp (w.heap.size + 2) W (W.putObj l o')) (hb0 : Below w0.heap.size w0 w) (hps : ∀ x, (encs x).size = ps.size)
    (I : List α → World → Prop) (Ix : Code → List α → World → Prop) (hI : OwnFrom w.heap.size I) (hIx : ∀ c, OwnFrom w.heap.size (Ix c)) (hIw : ∀ s X i v, I s X → I s (X.setCell ⟨Br, i, none⟩ v)) (hSb : ∀ xs (W : World) (l : Nat) (o o' : Obj), w.heap.size ≤ l → W.heap[l]? = some o → o.isCells = false → o.isWalk = false → S xs W → S xs (W.putObj l o')) (h0 : I [] w)
    (Ax : α → Act → World → Prop) (hAx : ∀ x a', OwnFrom w.heap.size (fun (_ : Unit) W => Ax x a' W))
    (hassign : ∀ (l : Nat) (pre : List α) (x : α) (W : World) (K : Act → World → Prop), I pre W → (∀ a' W', KeepsFrom w.heap.size W W' → Kp (w.heap.size + 2) W W' → I pre W' → Ax x a' W' → K a' W') →
      assign.wpIn (F.inRound l) (n - 1 - 1) P (Exit.then K (fun _ _ _ => False)) { tmps := (ps.zip (encs x)).foldl (fun t (p, v) => t.setIfInBounds p v) a.tmps, defers := [] } W)
    (hbody : ∀ (l : Nat) (pre : List α) (x : α) (a' : Act) (W : World), w.heap.size ≤ l → (∃ r, W.heap[l]? = some (.loop r)) → I pre W → Ax x a' W → pre.length < N → body.wpIn (F.inRound l) (n - 1 - 1) P (ownPostG w.heap.size (Kp (w.heap.size + 2)) I Ix (pre ++ [x]) W) a' W)
    (hdone : ∀ (D : Nat) (xs : List α) (W : World), w.heap.size ≤ D → S xs W → I xs W → W.heap[D]? = some (.deferred (some [])) → Q .normal { a with defers := { target := .collected D, args := #[] } :: a.defers } W)
    (hstop : ∀ (D : Nat) (c : Code) (pre : List α) (W : World), w.heap.size ≤ D → Sp pre → Ix c pre W → W.heap[D]? = some (.deferred (some [])) → c.wpIn F n P Q { a with defers := { target := .collected D, args := #[] } :: a.defers } W) :
    (Code.rangeFunc g ps assign body).wpIn F n P Q a w := by
  refine wpIn_rangeFunc fun fn hfn => ?_
  rw [hro]
  let R : LoopState → Option Code → Loop := fun st pe => { state := st, pending := pe, fn, tmps := a.tmps, params := ps, assign, body, defers := w.heap.size }
  have e0 := run_enterLoop_outer (P := P) (w := w) fn a.tmps ps assign body
  have hA : LoopAt w.heap.size (R .ready none) ((w.alloc (.deferred (some []))).alloc (.loop (R .ready none))) := by
    refine ⟨?_, (Below.heap_alloc _ _ _ (by simp)).trans (World.alloc_heap_new w _)⟩
    have := World.alloc_heap_new (w.alloc (.deferred (some []))) (.loop (R .ready none))
    rwa [World.size_alloc] at this
  have hI1 : I [] ((w.alloc (.deferred (some []))).alloc (.loop (R .ready none))) := hI.alloc _ (hI.alloc _ h0)
  have hb1 : Below w0.heap.size w0 ((w.alloc (.deferred (some []))).alloc (.loop (R .ready none))) := hb0.trans ((((Below.refl _ w).alloc (Nat.le_refl _) _).alloc (by simp) _).mono hb0.size)
  have hz2 : ((w.alloc (.deferred (some []))).alloc (.loop (R .ready none))).heap.size = w.heap.size + 2 := by simp
  have hz : w.heap.size ≤ ((w.alloc (.deferred (some []))).alloc (.loop (R .ready none))).heap.size := by simp; omega
  refine ⟨_, _, _, { target := .fn (.func gf) lb, args := #[.func (.yield (w.heap.size + 1)) #[] #[]] }, ((w.alloc (.deferred (some []))).alloc (.loop (R .ready none))), gf, #[.func (.yield (w.heap.size + 1)) #[] #[]] ++ lb, ((w.alloc (.deferred (some []))).alloc (.loop (R .ready none))), e0, ?_, ?_, ?_, fun _ => h1, ?_⟩
  · simp only [resolve, hg]
    simp [go_sem]
    rfl
  · intro f' hf'
    simp [Target.leads] at hf'
    subst hf'
    exact hFg
  · simp [invoke, go_sem, eg]
  generalize ((w.alloc (.deferred (some []))).alloc (.loop (R .ready none))) = W1 at *
  have hrow : ∀ {A : World} {row : Option Nat}, (∀ k, row = some k → W1.heap.size ≤ k ∧ ∃ o : Obj, A.heap[k]? = some o ∧ o.isCells = false) → (∀ k, row = some k → w.heap.size ≤ k ∧ ∃ o : Obj, A.heap[k]? = some o ∧ o.isCells = false) := fun hr k e => by
    obtain ⟨hB, ho⟩ := hr k e
    exact ⟨by omega, ho⟩
  refine (hseq (w.heap.size + 1) (fun pre W => I pre W ∧ LoopAt w.heap.size (R .ready none) W) (fun pre W => ∃ c, Ix c pre W ∧ LoopAt w.heap.size (R .done (some c)) W) W1 hb1
    (fun s A B row hs hg' hr => ⟨hI s A B row hs.1 hg' (hrow hr), hs.2.grownO (by omega) hg' hr⟩)
    (fun s A B row hs hg' hr => by
      obtain ⟨c, hc, hl⟩ := hs
      exact ⟨c, hIx c s A B row hc hg' (hrow hr), hl.grownO (by omega) hg' hr⟩)
    (fun s X i v hs => ⟨hIw s X i v hs.1, hs.2.farI hBr i v⟩) ?_ ⟨hI1, hA⟩).mono ?_
  · rintro pre x W ⟨hi, hl⟩ hlen
    rw [hz2]
    refine ⟨fn, _, assign, body, run_yield (P := P) (args := encs x) hl.1 (hps x), roundIn_of_wpIn hfn (hassign _ pre x W _ hi ?_)⟩
    intro a' Wa hka hpa hia hax
    have hla := hl.from hka
    refine ⟨_, run_beginRound hla.1 rfl, ?_⟩
    have hl2 := hla.put { R .ready none with state := .busy }
    refine wpIn_mono (hbody _ pre x a' _ (by omega) ⟨_, hl2.1⟩ (hI.putObj _ hia (by omega) hla.1 rfl) ((hAx x a').putObj (s := ()) _ hax (by omega) hla.1 rfl) hlen) ?_
    have kp2 := hKb _ _ _ (.loop { R .ready none with state := .busy }) (by omega : w.heap.size ≤ w.heap.size + 1) (by omega) hla.1 rfl rfl
    rintro e a3 W3 hp
    cases e with
    | normal =>
      obtain ⟨k3, p3, i3⟩ := hp
      have l3 := hl2.from k3
      exact ⟨_, _, run_endRound (P := P) none l3.1, .inl ⟨rfl, ⟨hI.putObj _ i3 (by omega) l3.1 rfl, l3.put _⟩, hKt hpa (hKt (hKt kp2 p3) (hKb _ _ _ _ (by omega) (by omega) l3.1 rfl rfl))⟩⟩
    | ret =>
      have l3 := hl2.from hp.1
      exact ⟨_, _, run_endRound (P := P) (some .ret) l3.1, .inr ⟨rfl, ⟨.ret, (hIx _).putObj _ hp.2 (by omega) l3.1 rfl, l3.put _⟩, (((kfMore hka (by omega)).trans (keepsFrom_put _ (by omega))).trans (kfMore hp.1 (by omega))).trans (keepsFrom_put _ (by omega))⟩⟩
    | exit id =>
      have l3 := hl2.from hp.1
      exact ⟨_, _, run_endRound (P := P) (some (.exit id)) l3.1, .inr ⟨rfl, ⟨.exit id, (hIx _).putObj _ hp.2 (by omega) l3.1 rfl, l3.put _⟩, (((kfMore hka (by omega)).trans (keepsFrom_put _ (by omega))).trans (kfMore hp.1 (by omega))).trans (keepsFrom_put _ (by omega))⟩⟩
    | goto t =>
      have l3 := hl2.from hp.1
      exact ⟨_, _, run_endRound (P := P) (some (.goto t)) l3.1, .inr ⟨rfl, ⟨.goto t, (hIx _).putObj _ hp.2 (by omega) l3.1 rfl, l3.put _⟩, (((kfMore hka (by omega)).trans (keepsFrom_put _ (by omega))).trans (kfMore hp.1 (by omega))).trans (keepsFrom_put _ (by omega))⟩⟩
    | panic ch => exact hp.elim
    | outgrown => exact hp.elim
  · rintro e W2 ⟨⟨v, rfl⟩, ⟨xs, hS, hi, hl⟩ | ⟨pre, hSp, c, hi, hl⟩⟩
    · exact ⟨none, _, run_endLoop (P := P) hl.1 (by simp [R]), hdone _ xs _ (Nat.le_refl _) (hSb xs _ _ _ _ (by omega) hl.1 rfl rfl hS) (hI.putObj _ hi (by omega) hl.1 rfl) (hl.put _).2⟩
    · exact ⟨some c, _, run_endLoop (P := P) hl.1 (by simp [R]), hstop _ c pre _ (Nat.le_refl _) hSp ((hIx c).putObj _ hi (by omega) hl.1 rfl) (hl.put _).2⟩
end Go.Proofs.Ytlgmmibncoedgaa

set_option linter.unusedVariables false
namespace Go.Proofs.Ytlgmmibncoedgaa
open Go.RowKit Go.Maps Go.Deep

def headV (n : Nat) : Value := .agg #[.int .u8 245, .int .u8 ((beB (n : Int) 1).toNat : Int), .int .u8 ((beB (n : Int) 0).toNat : Int)]
theorem beB_one (n : Nat) : ((beB (n : Int) 1).toNat : Int) = (n : Int) / 256 % 256 := by rw [beB_val]; rfl
theorem beB_zero (n : Nat) : ((beB (n : Int) 0).toNat : Int) = (n : Int) % 256 := by rw [beB_val]; simp; rfl
set_option maxHeartbeats 3200000 in
theorem headFor_any (n : Nat) (w : World) (hn : n ≤ 1048576) : Calls Try.prog 39 #[.int .i64 (n : Int)] w fun e w' => e = .returned (headV n) ∧ Below w.heap.size w w' := by
  unfold headV
  rw [beB_one, beB_zero]
  go_enter Try.func39, Try.ntmps39
  go_wp2_with fail
  exact bodyPost_ret (v := .agg #[.int .u8 245, .int .u8 ((n : Int) / 256 % 256), .int .u8 ((n : Int) % 256)]) (by simp [results, Try.results39, go_sem]) rfl ⟨rfl, by go_grown⟩
theorem headRow (w : World) (n : Nat) (T : TypeId) : ByRd (w.alloc (.cells #[.int .u8 245, .int .u8 ((beB (n : Int) 1).toNat : Int), .int .u8 ((beB (n : Int) 0).toNat : Int)] T)) (.slice (some ⟨w.heap.size, 0, none⟩) 3 3) [245, beB (n : Int) 1, beB (n : Int) 0] := by
  refine ⟨_, 3, rfl, .inr ⟨w.heap.size, 0, rfl, by simp, fun i hi => ?_⟩, Nat.le_refl _⟩
  rw [World.cell?_alloc_at _ _ _ _ (by simp)]
  match i, hi with
  | 0, _ => rfl
  | 1, _ => rfl
  | 2, _ => rfl
theorem pairRow (w : World) (u v : Value) (T : TypeId) (g : Nat) (hg : g = w.heap.size) : g < (w.alloc (.cells #[u, v] T)).heap.size ∧ (w.alloc (.cells #[u, v] T)).cell? ⟨g, 0, none⟩ = some u ∧ (w.alloc (.cells #[u, v] T)).cell? ⟨g, 1, none⟩ = some v := by
  subst hg
  refine ⟨by simp, ?_, ?_⟩
  all_goals
    rw [World.cell?_alloc_at _ _ _ _ rfl]
    rfl
set_option maxHeartbeats 3200000 in
theorem implFrame_any (body : List UInt8) (v : Value) (w : World) (hl : body.length ≤ 1048576) (h : ByRd w v body) :
    Calls Try.prog 10 #[v] w fun e w' => ∃ v S, e = .returned (.tuple #[v, .bool (frameFitB body)]) ∧ Hid (ByOwn S w' v (frameL body)) ∧ Hid (∀ k ∈ S, w.heap.size ≤ k) ∧ Below w.heap.size w w' := by
  obtain ⟨a, c, rfl⟩ := h.len
  have HFI := hide (show fitI (body.length : Int) = frameFitB body by unfold fitI frameFitB; congr 1 <;> (rw [decide_eq_decide]; omega))
  cases hfit : frameFitB body
  · have HV := hide (show frameL body = [] by simp [frameL, hfit])
    have HFB := hide ((unhide HFI).trans hfit)
    clear h hfit
    generalize body.length = n at *
    go_enter Try.func10, Try.ntmps10
    go_wp2_with fail
    refine (bodySizeOk_any _ _).mono ?_
    rintro e w1 ⟨rfl, hw⟩
    rw [hw, unhide HFB]
    clear hw w1
    go_wp2_with fail
    go_ret2
    exact ⟨_, [], rfl, by rw [unhide HV]; exact ByOwn.nil _ _ _, hide (by intro k hk; cases hk), by go_grown⟩
  · have HFB := hide ((unhide HFI).trans hfit)
    have hn : body.length ≤ 260 := by simp [frameFitB] at hfit; omega
    have HV := hide (show frameL body = (frameHd body ++ body) ++ putL 2 [saySum (frameHd body ++ body)] by simp [frameL, hfit, putL])
    have HD := hide (show [245, beB (body.length : Int) 1, beB (body.length : Int) 0] = frameHd body from rfl)
    have HL3 := hide (hd_len body)
    have HR := hide h
    clear h hfit
    go_enter Try.func10, Try.ntmps10
    go_wp2_with fail
    refine (bodySizeOk_any _ _).mono ?_
    rintro e w1 ⟨rfl, hw⟩
    rw [hw, unhide HFB]
    clear hw w1
    go_wp2_with fail
    refine (headFor_any body.length w (by omega)).mono ?_
    rintro e w1 ⟨rfl, b1⟩
    have B1 := hide b1
    have U1 := hide (headRow w1 body.length 68)
    rw [unhide HD] at U1
    have B2 := hide ((unhide B1).alloc (unhide B1).size (.cells #[.int .u8 245, .int .u8 ((beB (body.length : Int) 1).toNat : Int), .int .u8 ((beB (body.length : Int) 0).toNat : Int)] 68))
    unfold headV
    generalize ((beB (body.length : Int) 1).toNat : Int) = y1 at *
    generalize ((beB (body.length : Int) 0).toNat : Int) = y0 at *
    clear b1
    go_wp2_with fail
    obtain ⟨p0, p1, p2⟩ := pairRow (w1.alloc (.cells #[.int .u8 245, .int .u8 y1, .int .u8 y0] 68)) (.slice (some ⟨w1.heap.size, 0, none⟩) 3 3) (.slice a body.length c) 22 (w1.heap.size + 1) (by simp)
    have B3 := hide ((unhide B2).alloc (unhide B2).size (.cells #[.slice (some ⟨w1.heap.size, 0, none⟩) 3 3, .slice a body.length c] 22))
    have U3 := hide ((unhide U1).up ((Below.refl _ _).alloc (Nat.le_refl _) (.cells #[.slice (some ⟨w1.heap.size, 0, none⟩) 3 3, .slice a body.length c] 22)))
    refine (concat2_any _ (w1.heap.size + 1) 2 _ _ (frameHd body) body p0 p1 p2 (unhide U3) ((unhide HR).up (unhide B3)) (by rw [unhide HL3]; omega)).mono ?_
    rintro e w4 ⟨a4, n4, c4, rfl, HN4, r4, b4⟩
    have R4 := hide (r4.mono (unhide B3).size)
    have B4 := hide ((unhide B3).trans (b4.mono (unhide B3).size))
    clear p0 p1 p2 r4 b4 U1 U3 B1 B2 B3
    go_wp2_with fail
    refine (implSSum_any _ _ (frameHd body ++ body) (by rw [List.length_append, unhide HL3]; unfold maxLen; omega) (unhide R4).rd).mono ?_
    rintro e w5 ⟨rfl, hw⟩
    rw [hw]
    clear hw
    have R5 := hide ((unhide R4).up' (.cells #[.int .i64 (saySum (frameHd body ++ body))] 3))
    have B5 := hide ((unhide B4).alloc (unhide B4).size (.cells #[.int .i64 (saySum (frameHd body ++ body))] 3))
    have HAW := hide (show (Value.slice a4 n4 c4).ownBlock ≠ some w4.heap.size from fun e => by have := (unhide R4).lt _ e; omega)
    go_wp2_with fail
    refine (putNums_any w.heap.size _ _ _ _ (frameHd body ++ body) 2 w4.heap.size 1 [saySum (frameHd body ++ body)] (by omega) (by simp) (by rw [List.length_append, unhide HL3]; omega) (unhide B5).size (unhide HAW) (unhide R5) (nums1 (numsOne w4 _ 3))).mono ?_
    rintro e w6 ⟨a6, n6, c6, rfl, P6⟩
    have R6 := hide (unhide P6).1
    have B6 := hide (show Below w.heap.size w w6 from (unhide B5).trans ((unhide P6).2.1.below (unhide B5).size (ownL_ge (unhide R5))))
    clear P6
    go_wp2_with fail
    go_ret2
    obtain ⟨S, s1, s2, _⟩ := (unhide R6).own
    exact ⟨_, S, rfl, by rw [unhide HV]; exact s1, s2, unhide B6⟩
end Go.Proofs.Ytlgmmibncoedgaa
