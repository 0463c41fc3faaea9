/-
  StampJoin of both sides, whatever marks come.
-/
/-
  The join of the stamps of a choice.
-/
/-
  StampOnly of the specification.
-/
/-
  StampGet of both sides.
-/
/-
  The mathematics of stamps that the laws ask for.
-/
/-
  What the laws on stamps ask: whether two lists of marks are the same; their sources.
-/
/-
  When two stamps agree: the mathematics.
-/
/-
  How two stamps stand: the mathematics.
-/
/-
  The greatest choice that agrees: mathematics.
-/
import Derived.Test.YtknkdbfgfcgkiaaGreatDoorJoinI
import Derived.Test.YtknkdbfgfcgkiaaGreatDoorMerged21
import Derived.Test.YtknkdbfgfcgkiaaGreatDoorMerged15
import Derived.Test.YtknkdbfgfcgkiaaGreatDoorMerged9
import Derived.Test.YtknkdbfgfcgkiaaGreatDoorStrRows
import Derived.Test.YtknkdbfgfcgkiaaGreatDoorMerged7
import Derived.OwnWalk
import Derived.Test.YtknkdbfgfcgkiaaGreatDoorMerged16
import Derived.Test.YtknkdbfgfcgkiaaGreatDoorMerged32
import Derived.Test.YtknkdbfgfcgkiaaGreatDoorMerged20
import Derived.Test.YtknkdbfgfcgkiaaGreatDoorMerged4
import Derived.BigQuiet
import Derived.Deep.QuietTactic
import Derived.Handy
import Derived.Test.YtknkdbfgfcgkiaaGreatDoorMerged18
set_option linter.unusedVariables false
namespace Go.Proofs.YtknkdbfgfcgkiaaGreatDoor
open Go.RowKit Go.Maps Go.Deep Go.Shelf

attribute [local go_sem] Oper.semAt_some

theorem retJoin_no {xa xb : List MarkV} {w w' : World} (h : mstampB xa = false ∨ mstampB xb = false) (hb : Below w.heap.size w w') : RetJoin xa xb w (.returned (.tuple #[.slice none 0 0, .bool false])) w' := by
 have hE : joinOkB xa xb = false := by
  unfold joinOkB
  rcases h with h | h <;> simp [h]
 exact ⟨_, by rw [hE], hide (by unfold joinV; rw [hE, if_neg (by simp)]; exact MkRow.nil _ _), hb⟩
set_option maxHeartbeats 1600000 in
theorem specJoin_any (xa : List MarkV) (va : Value) (xb : List MarkV) (vb : Value) (w : World) (hsa : SmallMarkS xa) (hsb : SmallMarkS xb) (hA : MarkSRd w va xa) (hB : MarkSRd w vb xb) :
  Calls Tryz.prog 61 #[va, vb] w fun e w' => RetJoin xa xb w e w' := by
 have HO1 := hide (fun W (bb : Below w.heap.size w W) => specStampOk_any xa va W hsa (hA.up bb))
 have HO2 := hide (fun W (bb : Below w.heap.size w W) => specStampOk_any xb vb W hsb (hB.up bb))
 obtain ⟨a, ca, rfl, hA⟩ := hA
 obtain ⟨b, cb, rfl, hB⟩ := hB
 cases oa : mstampB xa
 ·have NO := hide (fun w' => retJoin_no (xa := xa) (xb := xb) (w := w) (w' := w') (.inl oa))
  rw [oa] at HO1
  clear hA hB hsa hsb oa
  generalize xa.length = n at *
  generalize xb.length = n' at *
  go_enter Tryz.func61, Tryz.ntmps61
  go_wp2_with fail
  refine (unhide HO1 _ (Below.refl _ _)).mono ?_
  rintro e w1 ⟨rfl, b1⟩
  have B1 := hide b1
  clear b1
  go_wp2_with fail
  refine bodyPost_ret (v := .tuple #[.slice none 0 0, .bool false]) (by simp [results, Tryz.results61, go_sem]) rfl ?_
  exact unhide NO _ (unhide B1)
 ·cases ob : mstampB xb
  ·have NO := hide (fun w' => retJoin_no (xa := xa) (xb := xb) (w := w) (w' := w') (.inr ob))
   rw [oa] at HO1
   rw [ob] at HO2
   clear hA hB hsa hsb oa ob
   generalize xa.length = n at *
   generalize xb.length = n' at *
   go_enter Tryz.func61, Tryz.ntmps61
   go_wp2_with fail
   refine (unhide HO1 _ (Below.refl _ _)).mono ?_
   rintro e w1 ⟨rfl, b1⟩
   have B1 := hide b1
   clear b1
   go_wp2_with fail
   refine (unhide HO2 _ (unhide B1)).mono ?_
   rintro e w2 ⟨rfl, b2⟩
   have B2 := hide ((unhide B1).trans (b2.mono (unhide B1).size))
   clear b2
   go_wp2_with fail
   refine bodyPost_ret (v := .tuple #[.slice none 0 0, .bool false]) (by simp [results, Tryz.results61, go_sem]) rfl ?_
   exact unhide NO _ (unhide B2)
  ·exact specJoin_yes a b ca cb xa xb w hsa hsb oa ob hA hB
set_option maxHeartbeats 3200000 in
set_option maxRecDepth 20000 in
theorem implJoin_any (xa : List MarkV) (va : Value) (xb : List MarkV) (vb : Value) (w : World) (hsa : SmallMarkS xa) (hsb : SmallMarkS xb) (hA : MarkSRd w va xa) (hB : MarkSRd w vb xb) :
  Calls Tryz.prog 115 #[va, vb] w fun e w' => RetJoin xa xb w e w' := by
 have HO1 := hide (fun W (bb : Below w.heap.size w W) => implStampOk_any xa va W hsa (hA.up bb))
 have HO2 := hide (fun W (bb : Below w.heap.size w W) => implStampOk_any xb vb W hsb (hB.up bb))
 obtain ⟨a, ca, rfl, hA⟩ := hA
 obtain ⟨b, cb, rfl, hB⟩ := hB
 have bR := (Boxed.new w 34 (.slice none 0 0)).alloc (.cells #[.bool false] 4)
 have bQ := Boxed.new (w.alloc (.cells #[.slice none 0 0] 34)) 4 (.bool false)
 rw [World.size_alloc] at bQ
 have bl := ((Below.refl w.heap.size w).alloc (Nat.le_refl _) (.cells #[.slice none 0 0] 34)).alloc (by simp) (.cells #[.bool false] 4)
 cases oa : mstampB xa
 ·have NO := hide (fun w' => retJoin_no (xa := xa) (xb := xb) (w := w) (w' := w') (.inl oa))
  rw [oa] at HO1
  refine (callsIn_wide (n := 3)).1 ?_
  refine callsIn_of_wp_marks Tryz.func115 rfl trivial ?_ rfl
  simp only [Tryz.ntmps115, List.size_toArray, List.length_cons, List.length_nil, Nat.reduceAdd, Nat.reduceSub, Array.replicate_succ, Array.replicate_zero, List.push_toArray, List.append_toArray, List.nil_append, List.cons_append]
  gi_wp2_with fail
  generalize (w.alloc (.cells #[.slice none 0 0] 34)).alloc (.cells #[.bool false] 4) = w0 at *
  refine ⟨trivial, ?_⟩
  refine (callsIn_wide.2 (unhide HO1 _ bl)).mono ?_
  rintro e w1 ⟨rfl, b1⟩
  have bR1 := boxed_up bR b1
  have bQ1 := boxed_up bQ b1
  have bl1 := bl.trans (b1.mono bl.size)
  have cR := bR1.cell
  have fR := bR1.frozen
  have cQ := bQ1.cell
  have fQ := bQ1.frozen
  have n1 : ¬ (w.heap.size = w.heap.size + 1) := by omega
  clear b1 bR bQ bl
  gi_wp2
  refine ⟨trivial, ?_⟩
  gi_wp2
  have hc5 := ((bR1.set (.slice none 0 0)).other (B' := w.heap.size + 1) (by omega) (.bool false)).cell
  have hc6 := ((bQ1.other (B' := w.heap.size) (by omega) (.slice none 0 0)).set (.bool false)).cell
  refine ⟨.tuple #[.slice none 0 0, .bool false], ?_, unhide NO _ ((bl1.setCell (p := ⟨w.heap.size, 0, none⟩) (by simp) _).setCell (p := ⟨w.heap.size + 1, 0, none⟩) (by simp) _)⟩
  simp [results, Tryz.f115, go_sem, hc5, hc6]
 ·cases ob : mstampB xb
  ·have NO := hide (fun w' => retJoin_no (xa := xa) (xb := xb) (w := w) (w' := w') (.inr ob))
   rw [oa] at HO1
   rw [ob] at HO2
   refine (callsIn_wide (n := 3)).1 ?_
   refine callsIn_of_wp_marks Tryz.func115 rfl trivial ?_ rfl
   simp only [Tryz.ntmps115, List.size_toArray, List.length_cons, List.length_nil, Nat.reduceAdd, Nat.reduceSub, Array.replicate_succ, Array.replicate_zero, List.push_toArray, List.append_toArray, List.nil_append, List.cons_append]
   gi_wp2_with fail
   generalize (w.alloc (.cells #[.slice none 0 0] 34)).alloc (.cells #[.bool false] 4) = w0 at *
   refine ⟨trivial, ?_⟩
   refine (callsIn_wide.2 (unhide HO1 _ bl)).mono ?_
   rintro e w1 ⟨rfl, b1⟩
   have bR1 := boxed_up bR b1
   have bQ1 := boxed_up bQ b1
   have bl1 := bl.trans (b1.mono bl.size)
   clear b1 bR bQ bl
   gi_wp2_with fail
   refine ⟨trivial, ?_⟩
   refine (callsIn_wide.2 (unhide HO2 _ bl1)).mono ?_
   rintro e w2 ⟨rfl, b2⟩
   have bR2 := boxed_up bR1 b2
   have bQ2 := boxed_up bQ1 b2
   have bl2 := bl1.trans (b2.mono bl1.size)
   have cR := bR2.cell
   have fR := bR2.frozen
   have cQ := bQ2.cell
   have fQ := bQ2.frozen
   have n1 : ¬ (w.heap.size = w.heap.size + 1) := by omega
   clear b2 bR1 bQ1 bl1
   gi_wp2
   have hc5 := ((bR2.set (.slice none 0 0)).other (B' := w.heap.size + 1) (by omega) (.bool false)).cell
   have hc6 := ((bQ2.other (B' := w.heap.size) (by omega) (.slice none 0 0)).set (.bool false)).cell
   refine ⟨.tuple #[.slice none 0 0, .bool false], ?_, unhide NO _ ((bl2.setCell (p := ⟨w.heap.size, 0, none⟩) (by simp) _).setCell (p := ⟨w.heap.size + 1, 0, none⟩) (by simp) _)⟩
   simp [results, Tryz.f115, go_sem, hc5, hc6]
  ·exact (callsIn_wide (n := 3)).1 (join_yesyes a b ca cb xa xb w hsa hsb oa ob hA hB)
theorem getV_range {ns : List MarkV} (h : MarkOk ns) (s : ByteArray) : -9223372036854775808 ≤ getV ns s ∧ getV ns s ≤ 9223372036854775807 := by
 induction ns with
 | nil => simp [getV]
 | cons x xs ih =>
  unfold getV
  split
  ·exact (h x (by simp)).2
  ·exact ih (fun y hy => h y (by simp [hy]))
theorem small_join {xa xb : List MarkV} (hsa : SmallMarkS xa) (hsb : SmallMarkS xb) : SmallMarkS (joinV xa xb) := by
 unfold joinV
 split
 ·rename_i hok
  unfold joinOkB at hok
  simp only [Bool.and_eq_true, decide_eq_true_eq] at hok
  obtain ⟨⟨oa, ob⟩, hl⟩ := hok
  have key : ∀ z ∈ joinL xa xb, z.a0.size ≤ 1048576 ∧ (-9223372036854775808 ≤ z.a1 ∧ z.a1 ≤ 9223372036854775807) := fun z hz => by
   obtain ⟨s, hs, rfl⟩ := joinL_src (asc_of_stamp oa) (asc_of_stamp ob) hz
   rw [maxP_src, maxP_ver]
   refine ⟨?_, ?_⟩
   ·rcases hs with ⟨x, hx, rfl⟩ | ⟨x, hx, rfl⟩
    ·exact hsa.1.2 x hx
    ·exact hsb.1.2 x hx
   ·split
    ·exact getV_range hsb.2 s
    ·exact getV_range hsa.2 s
  exact ⟨⟨by omega, fun z hz => (key z hz).1⟩, fun z hz => ⟨by have := (key z hz).1; unfold maxLen; omega, (key z hz).2⟩⟩
 ·exact ⟨⟨by simp, by simp⟩, by intro x hx; simp at hx⟩
theorem specJoin_kit (xa : List MarkV) (va : Value) (xb : List MarkV) (vb : Value) (w : World) (hsa : SmallMarkS xa) (hsb : SmallMarkS xb) (hA : MarkSRd w va xa) (hB : MarkSRd w vb xb) :
  Calls Tryz.prog 61 #[va, vb] w fun e w' => ∃ v, e = .returned (.tuple #[v, .bool (joinOkB xa xb)]) ∧ Hid (MarkSRd w' v (joinV xa xb)) ∧ Below w.heap.size w w' := by
 refine (specJoin_any xa va xb vb w hsa hsb hA hB).mono ?_
 rintro e w' ⟨v, rfl, h, b⟩
 exact ⟨v, rfl, hide (unhide h).rd, b⟩
theorem implJoin_kit (xa : List MarkV) (va : Value) (xb : List MarkV) (vb : Value) (w : World) (hsa : SmallMarkS xa) (hsb : SmallMarkS xb) (hA : MarkSRd w va xa) (hB : MarkSRd w vb xb) :
  Calls Tryz.prog 115 #[va, vb] w fun e w' => ∃ v S, e = .returned (.tuple #[v, .bool (joinOkB xa xb)]) ∧ Hid (MarkSOwn S w' v (joinV xa xb)) ∧ Hid (∀ k ∈ S, w.heap.size ≤ k) ∧ Below w.heap.size w w' := by
 refine (implJoin_any xa va xb vb w hsa hsb hA hB).mono ?_
 rintro e w' ⟨v, rfl, h, b⟩
 obtain ⟨S, h1, h2, _⟩ := (unhide h).own
 exact ⟨v, S, rfl, h1, h2, b⟩
end Go.Proofs.YtknkdbfgfcgkiaaGreatDoor

set_option linter.unusedVariables false
namespace Go.Proofs.YtknkdbfgfcgkiaaGreatDoor
open Go.RowKit Go.Maps Go.Deep

/-- the join of the first k stamps; none where it is none -/
def jnTo (ws : List (List ItemV)) (ps : List Int) : Nat → Option (List MarkV)
 | 0 => some []
 | k + 1 => (jnTo ws ps k).bind (fun x => if joinOkB x (stampAt ws ps k) then some (joinV x (stampAt ws ps k)) else none)
def chB (ws : List (List ItemV)) (ps : List Int) : Bool := choiceB ws ps && (jnTo ws ps ps.length).isSome
def chV (ws : List (List ItemV)) (ps : List Int) : List MarkV := if choiceB ws ps then (jnTo ws ps ps.length).getD [] else []
theorem jn_step {ws : List (List ItemV)} {ps : List Int} {k : Nat} {x : List MarkV} (h : jnTo ws ps k = some x) (hj : joinOkB x (stampAt ws ps k) = true) : jnTo ws ps (k + 1) = some (joinV x (stampAt ws ps k)) := by
 simp [jnTo, h, hj]
theorem jn_none {ws : List (List ItemV)} {ps : List Int} {k : Nat} (h : jnTo ws ps k = none) : ∀ n, k ≤ n → jnTo ws ps n = none := by
 intro n hn
 obtain ⟨d, rfl⟩ := Nat.exists_eq_add_of_le hn
 induction d with
 | zero => exact h
 | succ d ih =>
  show (jnTo ws ps (k + d)).bind _ = none
  rw [ih (by omega)]
  rfl
theorem jn_stop {ws : List (List ItemV)} {ps : List Int} {k : Nat} {x : List MarkV} (hk : k < ps.length) (h : jnTo ws ps k = some x) (hj : joinOkB x (stampAt ws ps k) = false) : chB ws ps = false ∧ chV ws ps = [] := by
 have e : jnTo ws ps (k + 1) = none := by simp [jnTo, h, hj]
 have e2 := jn_none e ps.length (by omega)
 constructor
 ·simp [chB, e2]
 ·simp [chV, e2]
theorem ch_no {ws : List (List ItemV)} {ps : List Int} (h : choiceB ws ps = false) : chB ws ps = false ∧ chV ws ps = [] := by simp [chB, chV, h]
theorem ch_yes {ws : List (List ItemV)} {ps : List Int} {x : List MarkV} (h : choiceB ws ps = true) (hj : jnTo ws ps ps.length = some x) : chB ws ps = true ∧ chV ws ps = x := by simp [chB, chV, h, hj]
theorem small_nilMk : SmallMarkS [] := ⟨⟨by simp, fun _ h => by cases h⟩, fun _ h => by cases h⟩
theorem choice_parts {ws : List (List ItemV)} {ps : List Int} (h : choiceB ws ps = true) : winsB ws = true ∧ ps.length = ws.length ∧ inB ws ps = true := by
 unfold choiceB at h
 simp only [Bool.and_eq_true, decide_eq_true_eq] at h
 exact ⟨h.1, h.2.1, h.2.2.1⟩
theorem stamp_small {ws : List (List ItemV)} {ps : List Int} (hs : SmallItemSS ws) (i : Nat) : SmallMarkS (stampAt ws ps i) := by
 unfold stampAt
 cases h : (ws.getD i [])[(ps.getD i 0).toNat]? with
 | none => exact small_nilMk
 | some x =>
  have hm := List.mem_of_getElem? h
  by_cases hi : i < ws.length
  ·rw [List.getD_eq_getElem?_getD, List.getElem?_eq_getElem hi] at hm
   exact ((hs.2 _ (List.getElem_mem hi)).2 x hm).2
  ·rw [List.getD_eq_getElem?_getD, List.getElem?_eq_none (by omega)] at hm
   simp at hm
theorem jn_small {ws : List (List ItemV)} {ps : List Int} (hs : SmallItemSS ws) (k : Nat) : ∀ x, jnTo ws ps k = some x → SmallMarkS x := by
 induction k with
 | zero => intro x h; simp [jnTo] at h; subst h; exact small_nilMk
 | succ k ih =>
  intro x h
  cases hj : jnTo ws ps k with
  | none => simp [jnTo, hj] at h
  | some y =>
   simp only [jnTo, hj, Option.bind_some] at h
   split at h
   ·cases h
    exact small_join (ih y hj) (stamp_small hs k)
   ·cases h
theorem small_ch {ws : List (List ItemV)} {ps : List Int} (hs : SmallItemSS ws) : SmallMarkS (chV ws ps) := by
 unfold chV
 split
 ·cases h : jnTo ws ps ps.length with
  | none => exact small_nilMk
  | some x => exact jn_small hs _ x h
 ·exact small_nilMk
end Go.Proofs.YtknkdbfgfcgkiaaGreatDoor

set_option linter.unusedVariables false
namespace Go.Proofs.YtknkdbfgfcgkiaaGreatDoor
open Go.RowKit Go.Maps Go.Deep

end Go.Proofs.YtknkdbfgfcgkiaaGreatDoor

set_option linter.unusedVariables false
namespace Go.Proofs.YtknkdbfgfcgkiaaGreatDoor
open Go.RowKit Go.Maps Go.Deep

end Go.Proofs.YtknkdbfgfcgkiaaGreatDoor

set_option linter.unusedVariables false
namespace Go.Proofs.YtknkdbfgfcgkiaaGreatDoor
open Go.RowKit Go.Maps Go.Deep

end Go.Proofs.YtknkdbfgfcgkiaaGreatDoor

set_option linter.unusedVariables false
namespace Go.Proofs.YtknkdbfgfcgkiaaGreatDoor
open Go.RowKit Go.Maps Go.Deep

instance : DecidableEq MarkV := fun a b => if h : a.a0 = b.a0 ∧ a.a1 = b.a1 then isTrue (by cases a; cases b; simp_all) else isFalse (fun e => h (by rw [e]; exact ⟨rfl, rfl⟩))
end Go.Proofs.YtknkdbfgfcgkiaaGreatDoor

set_option linter.unusedVariables false
namespace Go.Proofs.YtknkdbfgfcgkiaaGreatDoor
open Go.RowKit Go.Maps Go.Deep

theorem getV_in {ns : List MarkV} {s : ByteArray} (h : getV ns s ≠ 0) : ∃ x ∈ ns, x.a0 = s := by
 refine Classical.byContradiction fun hn => h (getV_none fun x hx e => hn ⟨x, hx, e⟩)
def Agr (xa xb : List MarkV) : Prop := ∀ s, 0 < getV xa s → 0 < getV xb s → getV xa s = getV xb s
theorem bad_iff (xa xb : List MarkV) (s : ByteArray) : badP (pairOf xa xb s) = true ↔ 0 < getV xa s ∧ 0 < getV xb s ∧ getV xa s ≠ getV xb s := by
 unfold badP pairOf
 dsimp only
 rw [str_same]
 simp [and_assoc]
theorem agree_iff {xa xb : List MarkV} (ha : AscM xa) (hb : AscM xb) : agreeS xa xb = true ↔ Agr xa xb := by
 unfold agreeS
 rw [List.all_eq_true]
 constructor
 ·intro h s h1 h2
  refine Classical.byContradiction fun hn => ?_
  obtain ⟨x, hx, e⟩ := getV_in (ns := xa) (s := s) (by omega)
  have hp := h (pairOf xa xb s) ((side_mem xa xb ha hb _).2 ⟨s, .inl ⟨x, hx, e⟩, rfl⟩)
  rw [(bad_iff xa xb s).2 ⟨h1, h2, hn⟩] at hp
  cases hp
 ·intro h p hp
  obtain ⟨s, _, rfl⟩ := (side_mem xa xb ha hb p).1 hp
  cases hbd : badP (pairOf xa xb s)
  ·rfl
  ·obtain ⟨h1, h2, h3⟩ := (bad_iff xa xb s).1 hbd
   exact absurd (h s h1 h2) h3
end Go.Proofs.YtknkdbfgfcgkiaaGreatDoor

set_option linter.unusedVariables false
namespace Go.Proofs.YtknkdbfgfcgkiaaGreatDoor
open Go.RowKit Go.Maps Go.Deep

def LtM (xa xb : List MarkV) : Prop := ∃ s, getV xa s < getV xb s
theorem less_iff {xa xb : List MarkV} (ha : mstampB xa = true) (hb : mstampB xb = true) : lessP (sideL xa xb) = true ↔ LtM xa xb := by
 unfold lessP LtM
 rw [List.any_eq_true]
 constructor
 ·rintro ⟨p, hp, hd⟩
  obtain ⟨s, _, rfl⟩ := (side_mem xa xb (asc_of_stamp ha) (asc_of_stamp hb) p).1 hp
  exact ⟨s, of_decide_eq_true hd⟩
 ·rintro ⟨s, h⟩
  have h0 := getV_nonneg (pos_of_stamp ha) s
  obtain ⟨x, hx, e⟩ := getV_in (ns := xb) (s := s) (by omega)
  exact ⟨pairOf xa xb s, (side_mem xa xb (asc_of_stamp ha) (asc_of_stamp hb) _).2 ⟨s, .inr ⟨x, hx, e⟩, rfl⟩, decide_eq_true h⟩
theorem more_iff {xa xb : List MarkV} (ha : mstampB xa = true) (hb : mstampB xb = true) : moreP (sideL xa xb) = true ↔ LtM xb xa := by
 unfold moreP LtM
 rw [List.any_eq_true]
 constructor
 ·rintro ⟨p, hp, hd⟩
  obtain ⟨s, _, rfl⟩ := (side_mem xa xb (asc_of_stamp ha) (asc_of_stamp hb) p).1 hp
  exact ⟨s, of_decide_eq_true hd⟩
 ·rintro ⟨s, h⟩
  have h0 := getV_nonneg (pos_of_stamp hb) s
  obtain ⟨x, hx, e⟩ := getV_in (ns := xa) (s := s) (by omega)
  exact ⟨pairOf xa xb s, (side_mem xa xb (asc_of_stamp ha) (asc_of_stamp hb) _).2 ⟨s, .inl ⟨x, hx, e⟩, rfl⟩, decide_eq_true h⟩
theorem order_less_iff {xa xb : List MarkV} : orderOut xa xb = 1 ↔ mstampB xa = true ∧ mstampB xb = true ∧ LtM xa xb ∧ ¬ LtM xb xa := by
 unfold orderOut
 cases h1 : mstampB xa
 ·simp
 ·cases h2 : mstampB xb
  ·simp
  ·simp only [Bool.and_self, if_true, true_and]
   unfold orderS
   rw [← less_iff h1 h2, ← more_iff h1 h2]
   cases lessP (sideL xa xb) <;> cases moreP (sideL xa xb) <;> simp [orderB]
end Go.Proofs.YtknkdbfgfcgkiaaGreatDoor

set_option linter.unusedVariables false
namespace Go.Proofs.YtknkdbfgfcgkiaaGreatDoor
open Go.RowKit Go.Maps Go.Deep

theorem win_items {ns : List ItemV} (h : windowB orderOut ns = true) : ns.length ≤ 4 ∧ ∀ i (hi : i < ns.length), itemB ns[i] = true ∧ (0 < i → aboveB orderOut (ns[i - 1]'(by omega)).a1 ns[i].a1 = true) := by
 simp only [windowB, Bool.and_eq_true, decide_eq_true_eq] at h
 exact ⟨h.1, fun i hi => h.2 i hi hi⟩
theorem win_stamp {ns : List ItemV} (h : windowB orderOut ns = true) {i : Nat} (hi : i < ns.length) : mstampB ns[i].a1 = true := by
 have := ((win_items h).2 i hi).1
 unfold itemB at this
 simp only [Bool.and_eq_true] at this
 exact this.1
/-- within a window versions never go down -/
theorem win_mono {ns : List ItemV} (h : windowB orderOut ns = true) (s : ByteArray) : ∀ j (hj : j < ns.length) i (hi : i ≤ j), getV (ns[i]'(by omega)).a1 s ≤ getV ns[j].a1 s := by
 intro j
 induction j with
 | zero =>
  intro hj i hi
  obtain rfl : i = 0 := by omega
  exact Int.le_refl _
 | succ j ih =>
  intro hj i hi
  by_cases e : i = j + 1
  ·subst e; exact Int.le_refl _
  ·have h1 := ih (by omega) i (by omega)
   have ha := ((win_items h).2 (j + 1) hj).2 (by omega)
   simp only [Nat.add_sub_cancel] at ha
   unfold aboveB at ha
   simp only [Bool.and_eq_true, beq_iff_eq] at ha
   have ho := (order_less_iff.1 ha.2).2.2.2
   have h2 : getV ns[j].a1 s ≤ getV ns[j + 1].a1 s := by
    refine Classical.byContradiction fun hn => ho ⟨s, by omega⟩
   omega
theorem src_names {xs ys : List MarkV} (hx : mstampB xs = true) (hy : mstampB ys = true) (h : srcB xs ys = true) (s : ByteArray) : 0 < getV xs s ↔ 0 < getV ys s := by
 unfold srcB at h
 simp only [decide_eq_true_eq] at h
 have key : ∀ {xs ys : List MarkV}, mstampB xs = true → mstampB ys = true → xs.map (·.a0) = ys.map (·.a0) → 0 < getV xs s → 0 < getV ys s := by
  intro xs ys hx hy h hp
  obtain ⟨x, hm, e⟩ := getV_in (ns := xs) (s := s) (by omega)
  have hin : s ∈ ys.map (·.a0) := by rw [← h, ← e]; exact List.mem_map.2 ⟨x, hm, rfl⟩
  obtain ⟨y, hy', ey⟩ := List.mem_map.1 hin
  have := getV_pos (asc_of_stamp hy) (pos_of_stamp hy) (s := s) ⟨y, hy', ey⟩
  omega
 exact ⟨key hx hy h, key hy hx h.symm⟩
theorem win_same {ns : List ItemV} (h : windowB orderOut ns = true) (s : ByteArray) : ∀ j (hj : j < ns.length) (h0 : 0 < ns.length), 0 < getV ns[j].a1 s ↔ 0 < getV ns[0].a1 s := by
 intro j
 induction j with
 | zero => intro hj h0; exact Iff.rfl
 | succ j ih =>
  intro hj h0
  have ha := ((win_items h).2 (j + 1) hj).2 (by omega)
  simp only [Nat.add_sub_cancel] at ha
  unfold aboveB at ha
  simp only [Bool.and_eq_true] at ha
  rw [← src_names (win_stamp h (by omega)) (win_stamp h hj) ha.1 s]
  exact ih (by omega) h0

/-- what a choice has of a source, by window -/
def verC (ws : List (List ItemV)) (ps : List Int) (i : Nat) (s : ByteArray) : Int := getV (stampAt ws ps i) s
def InR (ws : List (List ItemV)) (ps : List Int) : Prop := ps.length = ws.length ∧ inB ws ps = true
def IsCh (ws : List (List ItemV)) (ps : List Int) : Prop := InR ws ps ∧ agB ws ps = true
theorem inR_at {ws : List (List ItemV)} {ps : List Int} (h : InR ws ps) {i : Nat} (hi : i < ws.length) : ∃ q : Nat, ps.getD i 0 = (q : Int) ∧ q < ws[i].length ∧ stampAt ws ps i = (ws[i][q]?.map (fun x => x.a1)).getD [] := by
 have hp := in_each h.2 (by rw [h.1]; exact hi)
 unfold placeB at hp
 simp only [Bool.and_eq_true, decide_eq_true_eq] at hp
 have hw : ws.getD i [] = ws[i] := by rw [List.getD_eq_getElem?_getD, List.getElem?_eq_getElem hi]; rfl
 rw [hw] at hp
 refine ⟨(ps.getD i 0).toNat, by omega, by omega, ?_⟩
 unfold stampAt
 rw [hw]
theorem inR_stamp {ws : List (List ItemV)} {ps : List Int} (hw : winsB ws = true) (h : InR ws ps) {i : Nat} (hi : i < ws.length) : ∃ (q : Nat) (hq : q < ws[i].length), ps.getD i 0 = (q : Int) ∧ stampAt ws ps i = ws[i][q].a1 ∧ mstampB (stampAt ws ps i) = true ∧ windowB orderOut ws[i] = true := by
 obtain ⟨q, h1, h2, h3⟩ := inR_at h hi
 have hwin := winsB_each hw _ (List.getElem_mem hi)
 rw [List.getElem?_eq_getElem h2, Option.map_some, Option.getD_some] at h3
 exact ⟨q, h2, h1, h3, by rw [h3]; exact win_stamp hwin h2, hwin⟩
theorem ver_mono {ws : List (List ItemV)} {p q : List Int} (hw : winsB ws = true) (hp : InR ws p) (hq : InR ws q) {i : Nat} (hi : i < ws.length) (hle : p.getD i 0 ≤ q.getD i 0) (s : ByteArray) : verC ws p i s ≤ verC ws q i s := by
 obtain ⟨a, ha, e1, e2, -, hwin⟩ := inR_stamp hw hp hi
 obtain ⟨b, hb, f1, f2, -, -⟩ := inR_stamp hw hq hi
 unfold verC
 rw [e2, f2]
 exact win_mono hwin s b hb a (by omega)
theorem ver_has {ws : List (List ItemV)} {p q : List Int} (hw : winsB ws = true) (hp : InR ws p) (hq : InR ws q) {i : Nat} (hi : i < ws.length) (s : ByteArray) : 0 < verC ws p i s ↔ 0 < verC ws q i s := by
 obtain ⟨a, ha, e1, e2, -, hwin⟩ := inR_stamp hw hp hi
 obtain ⟨b, hb, f1, f2, -, -⟩ := inR_stamp hw hq hi
 unfold verC
 rw [e2, f2, win_same hwin s a ha (by omega), win_same hwin s b hb (by omega)]
theorem pair_agr {ws : List (List ItemV)} {ps : List Int} (hw : winsB ws = true) (h : InR ws ps) {i k : Nat} (hi : i < ws.length) (hk : k < ws.length) : pairB ws ps i k = true ↔ ∀ s, 0 < verC ws ps i s → 0 < verC ws ps k s → verC ws ps i s = verC ws ps k s := by
 obtain ⟨-, -, -, -, h1, -⟩ := inR_stamp hw h hi
 obtain ⟨-, -, -, -, h2, -⟩ := inR_stamp hw h hk
 unfold pairB agreeOut
 rw [h1, h2, Bool.true_and, Bool.true_and, agree_iff (asc_of_stamp h1) (asc_of_stamp h2)]
 rfl
theorem ag_all {ws : List (List ItemV)} {ps : List Int} (hw : winsB ws = true) (h : InR ws ps) : agB ws ps = true ↔ ∀ i k, i < ws.length → k < ws.length → ∀ s, 0 < verC ws ps i s → 0 < verC ws ps k s → verC ws ps i s = verC ws ps k s := by
 constructor
 ·intro ha i k hi hk s h1 h2
  rcases Nat.lt_trichotomy i k with hl | hl | hl
  ·exact ((pair_agr hw h hk hi).1 (ag_each ha (by rw [h.1]; exact hk) hl) s h2 h1).symm
  ·subst hl; rfl
  ·exact (pair_agr hw h hi hk).1 (ag_each ha (by rw [h.1]; exact hi) hl) s h1 h2
 ·intro ha
  refine pair_yes fun i k hi hk => ?_
  rw [h.1] at hi
  exact (pair_agr hw h hi (by omega)).2 fun s => ha i k hi (by omega) s
/-- no choice that agrees is anywhere ahead of q -/
def UB (ws : List (List ItemV)) (q : List Int) : Prop := ∀ p, IsCh ws p → ∀ k, k < ws.length → p.getD k 0 ≤ q.getD k 0
theorem getD_set (l : List Int) (a k : Nat) (v : Int) (ha : a < l.length) : (l.set a v).getD k 0 = if k = a then v else l.getD k 0 := by
 simp only [List.getD_eq_getElem?_getD, List.getElem?_set]
 by_cases e : k = a
 ·subst e; simp [ha]
 ·rw [if_neg (fun h => e h.symm), if_neg e]
/-- where one window has a later version than another, no choice that agrees has that item -/
theorem late_below {ws : List (List ItemV)} {q : List Int} (hw : winsB ws = true) (hq : InR ws q) (hu : UB ws q) {a b : Nat} (ha : a < ws.length) (hb : b < ws.length) {s : ByteArray} (h0 : 0 < verC ws q b s) (hlt : verC ws q b s < verC ws q a s) : ∀ p, IsCh ws p → p.getD a 0 < q.getD a 0 := by
 intro p hp
 have h1 := hu p hp a ha
 refine Classical.byContradiction fun hn => ?_
 have e : p.getD a 0 = q.getD a 0 := by omega
 have m1 := ver_mono hw hq hp.1 ha (by omega) s
 have m2 := ver_mono hw hp.1 hq hb (hu p hp b hb) s
 have p1 := (ver_has hw hp.1 hq hb s).2 h0
 have p2 : 0 < verC ws p a s := by omega
 have := (ag_all hw hp.1).1 hp.2 a b ha hb s p2 p1
 omega
theorem late_step {ws : List (List ItemV)} {q : List Int} (hw : winsB ws = true) (hq : InR ws q) (hu : UB ws q) {a b : Nat} (ha : a < ws.length) (hb : b < ws.length) {s : ByteArray} (h0 : 0 < verC ws q b s) (hlt : verC ws q b s < verC ws q a s) :
  (q.getD a 0 = 0 → ∀ p, ¬ IsCh ws p) ∧ (q.getD a 0 ≠ 0 → InR ws (q.set a (q.getD a 0 - 1)) ∧ UB ws (q.set a (q.getD a 0 - 1))) := by
 have hl := late_below hw hq hu ha hb h0 hlt
 constructor
 ·intro hz p hp
  have := hl p hp
  obtain ⟨x, hx, -⟩ := inR_at hp.1 ha
  omega
 ·intro hz
  have hal : a < q.length := by rw [hq.1]; exact ha
  refine ⟨⟨by rw [List.length_set]; exact hq.1, place_yes fun k hk => ?_⟩, fun p hp k hk => ?_⟩
  ·rw [List.length_set] at hk
   have hp := in_each hq.2 hk
   unfold placeB at hp ⊢
   simp only [Bool.and_eq_true, decide_eq_true_eq] at hp ⊢
   rw [getD_set q a k _ hal]
   split
   ·rename_i e; subst e; omega
   ·exact hp
  ·rw [getD_set q a k _ hal]
   split
   ·rename_i e; subst e; have := hl p hp; omega
   ·exact hu p hp k hk
/-- where all windows that share a source have one version of it, the choice agrees -/
theorem even_agrees {ws : List (List ItemV)} {q : List Int} (hw : winsB ws = true) (hq : InR ws q) (h : ∀ s a b, a < ws.length → b < ws.length → 0 < verC ws q a s → 0 < verC ws q b s → ¬ verC ws q b s < verC ws q a s) : IsCh ws q := by
 refine ⟨hq, (ag_all hw hq).2 fun i k hi hk s h1 h2 => ?_⟩
 have := h s i k hi hk h1 h2
 have := h s k i hk hi h2 h1
 omega
/-- the last items -/
def lasts (ws : List (List ItemV)) : List Int := ws.map fun w => (w.length : Int) - 1
theorem lasts_in {ws : List (List ItemV)} (h : ∀ w ∈ ws, w ≠ []) : InR ws (lasts ws) ∧ UB ws (lasts ws) := by
 have hg : ∀ k (hk : k < ws.length), (lasts ws).getD k 0 = (ws[k].length : Int) - 1 := by
  intro k hk
  unfold lasts
  simp [List.getD_eq_getElem?_getD, hk]
 refine ⟨⟨by simp [lasts], place_yes fun k hk => ?_⟩, fun p hp k hk => ?_⟩
 ·have hk' : k < ws.length := by simpa [lasts] using hk
  have := List.length_pos_iff.2 (h _ (List.getElem_mem hk'))
  unfold placeB
  rw [hg k hk', show ws.getD k [] = ws[k] by rw [List.getD_eq_getElem?_getD, List.getElem?_eq_getElem hk']; rfl]
  simp only [Bool.and_eq_true, decide_eq_true_eq]
  omega
 ·rw [hg k hk]
  obtain ⟨q, h1, h2, -⟩ := inR_at hp.1 hk
  omega
theorem empty_none {ws : List (List ItemV)} (h : ∃ w ∈ ws, w = []) : ∀ p, ¬ IsCh ws p := by
 intro p hp
 obtain ⟨w, hw, rfl⟩ := h
 obtain ⟨i, hi, e⟩ := List.getElem_of_mem hw
 obtain ⟨q, h1, h2, -⟩ := inR_at hp.1 hi
 rw [e] at h2
 simp at h2
/-- the greatest choice, if there is one -/
def BestIs (ws : List (List ItemV)) : Option (List Int) → Prop
 | none => winsB ws = false ∨ ∀ p, ¬ IsCh ws p
 | some b => winsB ws = true ∧ b.length = ws.length ∧ UB ws b ∧ ∀ k, k < ws.length → ∃ p, IsCh ws p ∧ p.getD k 0 = b.getD k 0
theorem best_same {ws : List (List ItemV)} (h1 : 1 ≤ ws.length ∨ winsB ws = false) {o o' : Option (List Int)} (h : BestIs ws o) (h' : BestIs ws o') : o = o' := by
 cases o with
 | none =>
  cases o' with
  | none => rfl
  | some b =>
   obtain ⟨g1, g2, g3, g4⟩ := h'
   rcases h with h | h
   ·rw [h] at g1; cases g1
   ·have : 1 ≤ ws.length := (winsB_len g1).1
    obtain ⟨p, hp, -⟩ := g4 0 (by omega)
    exact absurd hp (h p)
 | some b =>
  obtain ⟨g1, g2, g3, g4⟩ := h
  cases o' with
  | none =>
   rcases h' with h | h
   ·rw [h] at g1; cases g1
   ·have : 1 ≤ ws.length := (winsB_len g1).1
    obtain ⟨p, hp, -⟩ := g4 0 (by omega)
    exact absurd hp (h p)
  | some c =>
   obtain ⟨k1, k2, k3, k4⟩ := h'
   congr 1
   refine List.ext_getElem (by omega) fun i h1 h2 => ?_
   have hi : i < ws.length := by omega
   obtain ⟨p, hp, e⟩ := g4 i hi
   obtain ⟨q, hq, f⟩ := k4 i hi
   have a1 := k3 p hp i hi
   have a2 := g3 q hq i hi
   have b1 : b.getD i 0 = b[i] := by rw [List.getD_eq_getElem?_getD, List.getElem?_eq_getElem h1]; rfl
   have c1 : c.getD i 0 = c[i] := by rw [List.getD_eq_getElem?_getD, List.getElem?_eq_getElem h2]; rfl
   omega
/-- a choice that agrees and is nowhere behind is the greatest -/
theorem best_of_top {ws : List (List ItemV)} {q : List Int} (hw : winsB ws = true) (h : IsCh ws q) (hu : UB ws q) : BestIs ws (some q) := ⟨hw, h.1.1, hu, fun k _ => ⟨q, h, rfl⟩⟩
open Classical in
noncomputable def bestO (ws : List (List ItemV)) : Option (List Int) := if h : ∃ o, BestIs ws o then Classical.choose h else none
theorem best_is {ws : List (List ItemV)} {o : Option (List Int)} (h : BestIs ws o) : bestO ws = o := by
 have hx : ∃ o, BestIs ws o := ⟨o, h⟩
 have e : bestO ws = Classical.choose hx := by unfold bestO; rw [dif_pos hx]
 rw [e]
 refine best_same ?_ (Classical.choose_spec hx) h
 cases hw : winsB ws
 ·exact .inr rfl
 ·exact .inl (winsB_len hw).1
noncomputable def bestV (ws : List (List ItemV)) : List Int := (bestO ws).getD []
noncomputable def bestB (ws : List (List ItemV)) : Bool := (bestO ws).isSome
theorem best_yes {ws : List (List ItemV)} {b : List Int} (h : BestIs ws (some b)) : bestV ws = b ∧ bestB ws = true := by
 unfold bestV bestB
 rw [best_is h]
 exact ⟨rfl, rfl⟩
theorem best_no {ws : List (List ItemV)} (h : BestIs ws none) : bestV ws = [] ∧ bestB ws = false := by
 unfold bestV bestB
 rw [best_is h]
 exact ⟨rfl, rfl⟩
end Go.Proofs.YtknkdbfgfcgkiaaGreatDoor
