/-
  The lexicon's two maps: from words to kinds, and back.
-/
/-
  sync.Once, its lock free and not yet done: the parts, each a contract of its own.
-/
import Derived.Test.YtiebfcefmdiajaaGreatDoorLineMath
import Derived.Test.YtiebfcefmdiajaaGreatDoorBoxes
import Derived.Maps.Own
import Derived.Maps.OwnSet
import Derived.Maps.OwnOps
import Derived.Maps.Views
import Derived.Maps.RangeWalk
import Derived.StringKeys
import Derived.Tactics
import Derived.Tactics2
import Derived.Defers
import Derived.Laws.Pointers
import Derived.Laws.LoneSync
import Derived.RegionTactic
import Derived.RegionCalls
import Derived.ChangeAlike
set_option linter.unusedVariables false
namespace Go.Proofs.YtiebfcefmdiajaaGreatDoor
open Go.RowKit Go.Maps Go.Deep

/-- a composite literal's entry, at the operation: as a store into a map of the call's own -/
theorem wpList_insertLex {H : Type} {P : Program} (w : World) {ops : Array Oper} {rest : List Oper} {o : Oper} {a : Act} {Q : Exit → Act → World → Prop}
    (hg : o.guard = none) (m x v : Operand) (t : TypeId) (hop : o.op = Op.insert t m x v)
    (k e : TypeId) (K : Keyed P k) (ht : P.underlying t = some (.map k e)) (R : Value → Option (DataW H × List MemPlace)) (b n : Nat) (D : DataW H)
    (hm : a.eval m = .map (some b)) (w0 : World) (B : Nat) (hown : w.ownsMap P k R b n D ∧ Below B w0 w ∧ B ≤ b) (hn : n < maxLen) (key val : Value) (kl : Lit) (hx : a.eval x = key) (hv : a.eval v = val) (hkey : keyOf P k key = some kl)
    (d : DataW H) (ps : List MemPlace) (hval : R val = some (d, ps))
    (hK : ∀ w', w'.ownsMap P k R b (n + 1) (D.put kl d) ∧ Below B w0 w' ∧ B ≤ b → wpList P ops Q rest (a.put o.dst undef) w') :
    wpList P ops Q (o :: rest) a w := by
  refine wpList_plain hg fun K' hK' => ?_
  obtain ⟨hown, hb, hB⟩ := hown
  obtain ⟨w', hrun, r1, r2⟩ := hown.update K ht hn hkey hval
  unfold Oper.wp
  simp [execOp, hop, hm, hx, hv, hrun, Result.andThen]
  exact hK' _ _ (hK w' ⟨r1, hb.grown r2 (Nat.le_trans hB (Nat.le_of_lt hown.lt)) (fun k hk => by cases hk; exact hB), hB⟩)
theorem keyedStr : Keyed Tryz.prog 9 := string_keyed Tryz.underlying9
theorem keyedInt : Keyed Tryz.prog 3 := int_keyed Tryz.underlying3
open Classical in
/-- an element that is a text in a struct -/
noncomputable def spR (v : Value) : Option (DataW Unit × List MemPlace) := if h : ∃ s : ByteArray, v = .agg #[.string s] then some (.lit (.string (Classical.choose h).data.toList), []) else none
theorem spR_mk (s : ByteArray) : spR (.agg #[.string s]) = some (.lit (.string s.data.toList), []) := by
  have hx : ∃ s' : ByteArray, Value.agg #[.string s] = .agg #[.string s'] := ⟨s, rfl⟩
  unfold spR
  rw [dif_pos hx]
  have key : ∀ s' : ByteArray, Value.agg #[.string s] = .agg #[.string s'] → s' = s := fun s' h => by
    simp only [Value.agg.injEq, Array.mk.injEq, List.cons.injEq, Value.string.injEq, and_true] at h
    exact h.symm
  rw [key _ (Classical.choose_spec hx)]
theorem spR_inv {v : Value} {z : DataW Unit × List MemPlace} (h : spR v = some z) : ∃ s : ByteArray, v = .agg #[.string s] ∧ z = (.lit (.string s.data.toList), []) := by
  unfold spR at h
  split at h
  · rename_i hx
    exact ⟨_, Classical.choose_spec hx, (Option.some.inj h).symm⟩
  · cases h
theorem zeroSp (w : World) : (zeroValue 124).run Tryz.prog w = .ok (.agg #[.string ⟨#[]⟩]) w := by kernel_rfl
theorem zeroIn (w : World) : (zeroValue 3).run Tryz.prog w = .ok (.int .i64 0) w := by kernel_rfl
def litT (t : ByteArray) : Lit := .string t.data.toList
def inD (n : Int) : DataW Unit := .lit (.int .i64 n)
def kindsD : DataW Unit := (((DataW.map []).put (litT askT) (inD 1)).put (litT tellT) (inD 2)).put (litT goneT) (inD 3)
theorem litT_inj {s t : ByteArray} (h : litT s = litT t) : s = t := by
  unfold litT at h
  simp only [Lit.string.injEq] at h
  exact ByteArray.ext (Array.toList_inj.1 h)
theorem litT_key (t : ByteArray) : WideAt.IsKeyLit (litT t) := by simp [litT, WideAt.IsKeyLit]
theorem isMap0 : IsMap (DataW.map [] : DataW Unit) := isMap_empty
/-- what the words mean -/
theorem kinds_at (t : ByteArray) (z : DataW Unit) : kindsD.atKey (litT t) z = if kindN t = 0 then z else inD (kindN t) := by
  unfold kindsD kindN
  by_cases h1 : t = goneT
  · subst h1
    rw [atKey_put_same ((isMap0.put _ _).put _ _) (litT_key _)]
    rfl
  rw [atKey_put_other (fun e => h1 (litT_inj e))]
  by_cases h2 : t = tellT
  · subst h2
    rw [atKey_put_same (isMap0.put _ _) (litT_key _)]
    rfl
  rw [atKey_put_other (fun e => h2 (litT_inj e))]
  by_cases h3 : t = askT
  · subst h3
    rw [atKey_put_same isMap0 (litT_key _)]
    rfl
  rw [atKey_put_other (fun e => h3 (litT_inj e)), if_neg h3, if_neg h2, if_neg h1]
  rfl
theorem kinds_inv {t : ByteArray} {c : Int} (h : ∀ zd, kindsD.atKey (litT t) zd = inD c) : (c = 1 ∨ c = 2 ∨ c = 3) ∧ t = kindT c := by
  have h0 := kinds_at t (inD (c + 1))
  rw [h] at h0
  have key : kindN t ≠ 0 ∧ kindN t = c := by
    split at h0
    · exfalso
      unfold inD at h0
      simp only [DataW.lit.injEq, Lit.int.injEq, true_and] at h0
      omega
    · rename_i hn
      unfold inD at h0
      simp only [DataW.lit.injEq, Lit.int.injEq, true_and] at h0
      exact ⟨hn, h0.symm⟩
  have hk := key.2
  unfold kindN at key
  split at key
  · rename_i e; obtain rfl := key.2; exact ⟨by omega, e⟩
  split at key
  · rename_i e; obtain rfl := key.2; exact ⟨by omega, e⟩
  split at key
  · rename_i e; obtain rfl := key.2; exact ⟨by omega, e⟩
  · exact absurd rfl key.1
theorem kinds_look {w : World} {b : Nat} (h : w.ownsMap Tryz.prog 9 (plainElem (H := Unit) Tryz.prog 3) b 3 kindsD) (t : ByteArray) (ht : t.size ≤ maxLen) : (Instr.lookup 72 (.map (some b)) (.string t) false).run Tryz.prog w = .ok (.int .i64 (kindN t)) w := by
  obtain ⟨c, h1, h2, -⟩ := h.lookup_int keyedStr Tryz.underlying72 Tryz.underlying3 (zeroIn w) (WideMaps.keyOf_string_mk Tryz.underlying9 ht)
  have e := kinds_at t (.lit (.int .i64 0))
  rw [show kindsD.atKey (litT t) (.lit (.int .i64 0)) = .lit (.int .i64 c) from h2] at e
  have : c = kindN t := by
    split at e
    · rename_i hz
      simp only [DataW.lit.injEq, Lit.int.injEq, true_and] at e
      rw [hz]; exact e
    · unfold inD at e
      simp only [DataW.lit.injEq, Lit.int.injEq, true_and] at e
      exact e
  rw [h1, this]
/-- the way back, as far as it is made -/
def BackTo (left : Lit → Bool) (D : DataW Unit) : Prop := ∀ k : Int, (k = 1 ∨ k = 2 ∨ k = 3) → left (litT (kindT k)) = false → ∀ z, D.atKey (.int .i64 k) z = .lit (litT (kindT k))
theorem kindT_inj {k l : Int} (hk : k = 1 ∨ k = 2 ∨ k = 3) (hl : l = 1 ∨ l = 2 ∨ l = 3) (h : kindT k = kindT l) : k = l := by
  have := congrArg kindN h
  rw [kindN_kindT hk, kindN_kindT hl] at this
  exact this
theorem BackTo.start : BackTo (Maps.has kindsD) (.map []) := by
  intro k hk h
  exfalso
  have h1 := kinds_at (kindT k) (inD 7)
  rw [atKey_of_not_has h, kindN_kindT hk, if_neg (by omega)] at h1
  unfold inD at h1
  simp only [DataW.lit.injEq, Lit.int.injEq, true_and] at h1
  omega
theorem BackTo.put {left : Lit → Bool} {D : DataW Unit} (h : BackTo left D) (hm : IsMap D) {c : Int} (hc : c = 1 ∨ c = 2 ∨ c = 3) : BackTo (fun z => left z && !z.sameKey (litT (kindT c))) (D.put (.int .i64 c) (.lit (litT (kindT c)))) := by
  intro k hk hl z
  by_cases e : k = c
  · subst e
    exact atKey_put_same hm (by simp [WideAt.IsKeyLit]) _ _
  · rw [atKey_put_other (by simpa using e)]
    refine h k hk ?_ z
    have hs := sameKey_ne (fun e' => e (kindT_inj hk hc (litT_inj e')))
    simp only [hs, Bool.not_false, Bool.and_true] at hl
    exact hl
theorem back_look {w : World} {b n : Nat} {D : DataW Unit} (h : w.ownsMap Tryz.prog 3 spR b n D) (hD : ∀ k : Int, (k = 1 ∨ k = 2 ∨ k = 3) → ∀ z, D.atKey (.int .i64 k) z = .lit (litT (kindT k))) (k : Int) (hk : k = 1 ∨ k = 2 ∨ k = 3) :
    (Instr.lookup 85 (.map (some b)) (.int .i64 k) false).run Tryz.prog w = .ok (.agg #[.string (kindT k)]) w := by
  obtain ⟨v, ps, h1, h2⟩ := h.lookup keyedInt Tryz.underlying85 (zeroSp w) (spR_mk ⟨#[]⟩) (keyOf_int_mk Tryz.underlying3 (show (Lit.int .i64 k).wf = true from WalkArith.wf_i64 (by omega)))
  obtain ⟨s, rfl, e⟩ := spR_inv h2
  simp only [Prod.mk.injEq] at e
  have e1 := e.1
  rw [hD k hk] at e1
  simp only [DataW.lit.injEq] at e1
  rw [h1, litT_inj (show litT s = litT (kindT k) from e1.symm)]
theorem kinds_size : Maps.size kindsD = 3 := by decide
end Go.Proofs.YtiebfcefmdiajaaGreatDoor

set_option linter.unusedVariables false
namespace Go.Proofs.YtiebfcefmdiajaaGreatDoor
open Go.RowKit Go.Maps

theorem disable_any (w : World) : (callFunc 119 #[]).run Tryz.prog w = .ok (.value (.tuple #[])) w := run_call_mark0 Tryz.func119 (by kernel_rfl) (by kernel_rfl) (by kernel_rfl) .disable (by kernel_rfl) w
theorem enable_any (w : World) : (callFunc 121 #[]).run Tryz.prog w = .ok (.value (.tuple #[])) w := run_call_mark0 Tryz.func121 (by kernel_rfl) (by kernel_rfl) (by kernel_rfl) .enable (by kernel_rfl) w
theorem acquire_any (a : Addr) (w : World) : (callFunc 122 #[.pointer (some a)]).run Tryz.prog w = .ok (.value (.tuple #[])) w := run_call_marked Tryz.func122 (by kernel_rfl) (by kernel_rfl) (by kernel_rfl) .acquire (by kernel_rfl) a w
theorem releaseMerge_any (a : Addr) (w : World) : (callFunc 124 #[.pointer (some a)]).run Tryz.prog w = .ok (.value (.tuple #[])) w := run_call_marked Tryz.func124 (by kernel_rfl) (by kernel_rfl) (by kernel_rfl) .releaseMerge (by kernel_rfl) a w
/-- (*sync/atomic.Bool).Store(true), entered as a deferred call -/
theorem store_deferred (a : Addr) (x : Value) (u : FrameMode) (w : World) (hc : w.cell? a = some x) (hz : w.frozen? a = false) :
    CallsD Tryz.prog 101 #[.pointer (some a), .bool true] u w fun e u' w' => u' = u ∧ (e = .returned (.tuple #[]) ∧ w' = w.drew.setCell a (.int .u32 1)) := by
  have hc' : w.drew.cell? a = some x := by go_simp
  have hz' : w.drew.frozen? a = false := by go_simp
  have hst := run_call_store (P := Tryz.prog) Tryz.func113 (by kernel_rfl) (by kernel_rfl) (by kernel_rfl) (by kernel_rfl) (k := .u32) (y := 1) hc' hz'
  go_enter_d Tryz.func101, Tryz.ntmps101
  go_wp2
  go_region_calls
  all_goals (go_end0; exact ⟨rfl, rfl⟩)
set_option maxRecDepth 20000 in
/-- (*sync.Mutex).Unlock, entered as a deferred call, the lock held and nobody waiting -/
theorem unlock_deferred (a : Addr) (u : FrameMode) (w : World) (hc : w.cell? a = some (.int .i32 1)) (hz : w.frozen? a = false) :
    CallsD Tryz.prog 100 #[.pointer (some a)] u w fun e u' w' => u' = u ∧ (e = .returned (.tuple #[]) ∧ w' = w.setCell a (.int .i32 0)) := by
  have hd := disable_any
  have he := enable_any
  have hr := releaseMerge_any
  have hadd := run_call_add (P := Tryz.prog) Tryz.func125 (by kernel_rfl) (by kernel_rfl) (by kernel_rfl) .i32 (by kernel_rfl) (y := -1) (s := 0) hc hz (by simp [go_sem]; rfl)
  have hcv := run_convert_to_unsafe (P := Tryz.prog) (src := 173) (dst := 154) Tryz.underlying173 Tryz.underlying154 (by kernel_rfl) hc
  go_enter_d Tryz.func100, Tryz.ntmps100
  go_wp2
  go_end0
  go_wp2
  all_goals go_end0
  all_goals exact ⟨rfl, rfl⟩
set_option maxRecDepth 20000 in
/-- (*sync.Mutex).Lock, the lock free -/
theorem lock_free (a : Addr) (w : World) (hc : w.cell? a = some (.int .i32 0)) (hz : w.frozen? a = false) :
    Calls Tryz.prog 99 #[.pointer (some a)] w fun e w' => e = .returned (.tuple #[]) ∧ w' = w.setCell a (.int .i32 1) := by
  have hd := disable_any
  have he := enable_any
  have ha := acquire_any
  have hcas := run_call_cas_hit (P := Tryz.prog) Tryz.func120 (by kernel_rfl) (by kernel_rfl) (by kernel_rfl) .i32 (by kernel_rfl) (y := 1) hc hz
  have hc' : (w.setCell a (.int .i32 1)).cell? a = some (.int .i32 1) := World.cell?_setCell_same w a _ hc
  have hcv := run_convert_to_unsafe (P := Tryz.prog) (src := 173) (dst := 154) Tryz.underlying173 Tryz.underlying154 (by kernel_rfl) hc'
  go_enter Tryz.func99, Tryz.ntmps99
  go_wp2
  first | go_end0 | (simp only [Exit.inBlock, Exit.then]; refine bodyPost_ret (results_none rfl _ _ _) rfl ?_) | refine bodyPost_ret (results_none rfl _ _ _) rfl ?_
  go_wp2
  all_goals go_end0
  all_goals exact ⟨rfl, rfl⟩
theorem load_zero (a : Addr) (w : World) (h0 : w.cell? a = some (.int .u32 0)) : (callFunc 98 #[.pointer (some a)]).run Tryz.prog w = .ok (.value (.int .u32 0)) w :=
  run_call_load (P := Tryz.prog) Tryz.func98 (by kernel_rfl) (by kernel_rfl) (by kernel_rfl) .u32 (by kernel_rfl) h0
/-- (*sync/atomic.Bool).Load, not set -/
theorem load_false (a : Addr) (w : World) (h0 : w.cell? a = some (.int .u32 0)) : Calls Tryz.prog 84 #[.pointer (some a)] w fun e w' => e = .returned (.bool false) ∧ w' = w := by
  have hl := load_zero a w h0
  go_enter Tryz.func84, Tryz.ntmps84
  go_wp2
  go_ret
  exact ⟨rfl, rfl⟩
end Go.Proofs.YtiebfcefmdiajaaGreatDoor
