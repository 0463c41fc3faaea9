/-
  The specification's ChoiceAgrees.
-/
/-
  Rows of ints that one may append to, and rows of lists of ints, of which only the length is told.
-/
/-
  Rows of lists of ints that one may append to, with what they hold.
-/
/-
  A map whose elements are lists of numbers: which list each key has.
-/
import Derived.Test.YtknkdbfgfcgkiaaGreatDoorMerged24
import Derived.Deep.AppendLies
import Derived.Maps.Own
import Derived.Maps.OwnSet
import Derived.Maps.OwnOps
import Derived.Maps.Views
import Derived.StringKeys
set_option linter.unusedVariables false
namespace Go.Proofs.YtknkdbfgfcgkiaaGreatDoor
open Go.RowKit Go.Maps Go.Deep

set_option maxHeartbeats 6400000 in
theorem specChoice_any (ws : List (List ItemV)) (v : Value) (ps : List Int) (u : Value) (w : World) (hs : SmallItemSS ws) (hsp : SmallIntS ps) (h : ItemSSRd w v ws) (hp : IntSRd w u ps) :
  Calls Tryz.prog 60 #[v, u] w fun e w' => e = .returned (.bool (choiceB ws ps)) ∧ Below w.heap.size w w' := by
 have HK := hide (l15Ok_any ws v w hs h)
 have HV := hide h
 have HU := hide hp
 have hsl := hs.1
 have hpl := hsp.1
 obtain ⟨a, c, rfl, h⟩ := h
 obtain ⟨a2, c2, rfl, hp⟩ := hp
 cases hw : winsB ws
 ·rw [hw] at HK
  have HE := hide (choice_no1 (ps := ps) hw)
  rw [unhide HE]
  clear h hp hw HE
  go_enter Tryz.func60, Tryz.ntmps60
  go_wp2_with fail
  refine (unhide HK).mono ?_
  rintro e w1 ⟨rfl, b1⟩
  go_wp2_with fail
  go_ret
  exact ⟨rfl, b1⟩
 rw [hw] at HK
 by_cases hlen : ps.length = ws.length
 ·have HL := hide hlen
  obtain ⟨h1, h6⟩ := winsB_len hw
  rcases h with rfl | ⟨b, off, rfl, hb, hc⟩
  ·simp at h1
  rcases hp with rfl | ⟨b2, off2, rfl, hb2, hpc⟩
  ·simp at hlen; omega
  have HC := hide hc
  have HP := hide hpc
  have HS := hide hs
  have HAG := hide (fun (W : World) (bW : Below w.heap.size w W) (hin : inB ws ps = true) => l15Agrees_row W b off c b2 off2 c2 ws ps hs (by omega) h6 hin (hc.up hb bW) (hpc.up hb2 bW) (Nat.lt_of_lt_of_le hb bW.size) (Nat.lt_of_lt_of_le hb2 bW.size))
  have HCA := hide (fun h3 => choice_ag hw hlen h3)
  rw [← hlen] at HAG HK ⊢
  have hl6 : ps.length ≤ 6 := by omega
  clear hc hpc hs hw hlen h1 h6 hsl hpl
  go_enter Tryz.func60, Tryz.ntmps60
  go_wp2_with fail
  refine (unhide HK).mono ?_
  rintro e w1 ⟨rfl, b1⟩
  have B1 := hide b1
  clear b1
  go_wp2_with fail
  go_loopw [5] (fun i wr => ∃ (k : Nat), k ≤ ps.length ∧ i = .int .i64 k ∧ Hid (∀ j, j < k → placeB ws ps j = true) ∧ Hid (Below w.heap.size w wr)) (fun i _ => ps.length - (intOf i).toNat)
  case atStart => exact ⟨0, Nat.zero_le _, rfl, hide (fun j hj => absurd hj (Nat.not_lt_zero _)), B1⟩
  case round =>
   obtain ⟨k, hk, rfl, HN, HB⟩ := hrel
   by_cases hlt : k < ps.length
   ·have hkw : k < ws.length := by have := unhide HL; omega
    have p1 := (unhide HP).up hb2 (unhide HB) k hlt
    obtain ⟨v, c1, hv⟩ := (unhide HC).up hb (unhide HB) k hkw
    have hwl := ((unhide HS).2 _ (List.getElem_mem hkw)).1
    have HPB := hide (show placeB ws ps k = (decide (0 ≤ ps[k]) && decide (ps[k] < (ws[k].length : Int))) by
     unfold placeB
     simp only [List.getD_eq_getElem?_getD, List.getElem?_eq_getElem hlt, List.getElem?_eq_getElem hkw, Option.getD_some])
    have HNO := hide (fun h => choice_no3 (place_no (ws := ws) hlt h))
    have HYES := hide (show placeB ws ps k = true → ∀ j, j < k + 1 → placeB ws ps j = true from fun h j hjk => by
     by_cases e : j = k
     ·subst e; exact h
     ·exact unhide HN j (by omega))
    obtain ⟨va, vc, rfl, _⟩ := hv
    rw [unhide HPB] at HNO HYES
    clear HPB HN
    generalize ps[k] = p at *
    generalize ws[k].length = n at *
    by_cases h0 : p < 0
    ·have HE := hide (unhide HNO (by rw [decide_eq_false (by omega : ¬ 0 ≤ p)]; rfl))
     clear HYES HNO
     go_wp2_with fail
     go_quiet (fail)
     have HBD := hide ((unhide HB).trans ((belowN wr nq).mono (unhide HB).size))
     clear p1 c1
     go_wp2_with fail
     go_ret
     exact ⟨ret_bool (unhide HE).symm, unhide HBD⟩
    by_cases h2 : p < (n : Int)
    ·have HY := hide (unhide HYES (by rw [decide_eq_true (by omega : 0 ≤ p), decide_eq_true h2]; rfl))
     clear HYES HNO
     have h2' : ¬ (n : Int) ≤ p := by omega
     go_wp2_with fail
     go_quiet (fail)
     have HBD := hide ((unhide HB).trans ((belowN wr nq).mono (unhide HB).size))
     clear p1 c1
     go_wp2_with fail
     go_roundw
     case rel => exact ⟨k + 1, by omega, by go_num, HY, HBD⟩
     case measure => simp [intOf]; omega
    ·have HE := hide (unhide HNO (by rw [decide_eq_false h2]; simp))
     have h2' : (n : Int) ≤ p := by omega
     clear HYES HNO
     go_wp2_with fail
     go_quiet (fail)
     have HBD := hide ((unhide HB).trans ((belowN wr nq).mono (unhide HB).size))
     clear p1 c1
     go_wp2_with fail
     go_ret
     exact ⟨ret_bool (unhide HE).symm, unhide HBD⟩
   ·have hin : inB ws ps = true := place_yes (fun j hj => unhide HN j (by omega))
    have HE := hide (unhide HCA hin)
    have HA1 := hide (unhide HAG wr (unhide HB) hin)
    clear hin HAG HCA
    go_wp2_with fail
    refine (unhide HA1).mono ?_
    rintro e w2 ⟨rfl, b2⟩
    have B2 := hide ((unhide HB).trans (b2.mono (unhide HB).size))
    go_wp2_with fail
    go_ret
    exact ⟨ret_bool (unhide HE).symm, unhide B2⟩
 ·have HE := hide (choice_no2 hlen)
  rw [unhide HE]
  have q1 : ((ps.length : Int) == (ws.length : Int)) = false := by simp; omega
  have q2 : ((ps.length : Int) != (ws.length : Int)) = true := by simp; omega
  generalize ps.length = n at *
  generalize ws.length = m at *
  clear h hp hw HE hlen
  go_enter Tryz.func60, Tryz.ntmps60
  go_wp2_with fail
  refine (unhide HK).mono ?_
  rintro e w1 ⟨rfl, b1⟩
  go_wp2_with fail
  go_ret
  exact ⟨rfl, b1⟩
end Go.Proofs.YtknkdbfgfcgkiaaGreatDoor

set_option linter.unusedVariables false
namespace Go.Proofs.YtknkdbfgfcgkiaaGreatDoor
open Go.RowKit Go.Maps Go.Deep

def InRow (B : Nat) (w : World) (v : Value) (ts : List Int) : Prop := w.ownsRow B 3 1 v ts.length (ts.map (.int .i64))
theorem InRow.form {B : Nat} {w : World} {v : Value} {ts : List Int} (h : InRow B w v ts) : ∃ a c, v = .slice a ts.length c := by
 rcases h with ⟨_, ⟨rfl, h0⟩ | ⟨g, cap, cur, rfl, _⟩⟩
 ·exact ⟨none, 0, by rw [h0]⟩
 ·exact ⟨_, cap, rfl⟩
theorem InRow.ge {B : Nat} {w : World} {v : Value} {ts : List Int} (h : InRow B w v ts) : ∀ g, v.ownBlock = some g → B ≤ g := by
 intro g hg
 rcases h.2 with ⟨rfl, _⟩ | ⟨g', cap, cur, rfl, hB, _⟩
 ·simp [Value.ownBlock] at hg
 ·simp [Value.ownBlock] at hg; omega
theorem InRow.lt {B : Nat} {w : World} {v : Value} {ts : List Int} (h : InRow B w v ts) : ∀ g, v.ownBlock = some g → g < w.heap.size := by
 intro g hg
 rcases h.2 with ⟨rfl, _⟩ | ⟨g', cap, cur, rfl, hB, hh, _⟩
 ·simp [Value.ownBlock] at hg
 ·simp [Value.ownBlock] at hg
  subst hg
  exact (Array.getElem?_eq_some_iff.1 hh).1
theorem InRow.keep {B : Nat} {w w' : World} {v : Value} {ts : List Int} (h : InRow B w v ts) (hk : ∀ g, v.ownBlock = some g → w'.heap[g]? = w.heap[g]?) : InRow B w' v ts := by
 rcases h with ⟨hl, h | ⟨g, cap, cur, rfl, hB, hg, hr⟩⟩
 ·exact ⟨hl, .inl h⟩
 ·exact ⟨hl, .inr ⟨g, cap, cur, rfl, hB, (hk g rfl).trans hg, hr⟩⟩
theorem InRow.up {B : Nat} {w w' : World} {v : Value} {ts : List Int} (h : InRow B w v ts) (hb : Below w.heap.size w w') : InRow B w' v ts := h.keep (fun g hg => hb.block g (h.lt g hg))
theorem InRow.rd {B : Nat} {w : World} {v : Value} {ts : List Int} (h : InRow B w v ts) : IntSRd w v ts := by
 have hh : w.ownsRow B 3 1 v ts.length (ts.map (.int .i64)) := h
 rcases h with ⟨_, ⟨rfl, h0⟩ | ⟨g, cap, cur, rfl, hB, hg, hnc, _⟩⟩
 ·have : ts = [] := List.eq_nil_of_length_eq_zero h0
  subst this
  exact ⟨none, 0, rfl, .inl rfl⟩
 ·refine ⟨some ⟨g, 0, none⟩, cap, rfl, .inr ⟨g, 0, rfl, (Array.getElem?_eq_some_iff.1 hg).1, fun i hi => ?_⟩⟩
  rw [Nat.zero_add, hh.cellAt _ (by omega)]
  simp [hi]
theorem inLit (w : World) (B : Nat) (hB : B ≤ w.heap.size) : InRow B (w.alloc (.cells #[] 3)) (.slice (some ⟨w.heap.size, 0, none⟩) 0 0) [] :=
 World.ownsRow_lit (size := 1) w #[] 0 hB (by unfold maxLen; omega) rfl
theorem inOne (w : World) (x : Int) : IntSRd (w.alloc (.cells #[.int .i64 x] 3)) (.slice (some ⟨w.heap.size, 0, none⟩) 1 1) [x] := by
 refine ⟨_, 1, rfl, .inr ⟨w.heap.size, 0, rfl, by simp, fun i hi => ?_⟩⟩
 obtain rfl : i = 0 := by simp at hi; omega
 exact World.cell?_alloc_at _ _ _ _ rfl
theorem run_append_none_i {P : Program} {w : World} (base : Nat) (t ty e : TypeId) (i : TypeInfo) (size c : Nat) (ad : Option Addr) (ht : P.underlying t = some (.slice e)) (hi : P.info? e = some i) (v : Value) (n : Nat) (xs : List Value) (hown : w.ownsRow base e size v n xs) :
  (Builtin.append_ #[t, t] ty #[v, .slice ad 0 c]).run P w = .ok v w := by
 rcases hown.2 with ⟨rfl, rfl⟩ | ⟨g, cap, cur, rfl, _, _, hnc, _⟩
 ·cases ad <;> simp [Builtin.append_, run_underlying ht, sizeOf, typeInfo, hi, Builtin.lenOf, Builtin.firstCells, loadCells, loadCellsFrom]
 ·cases ad <;> simp [Builtin.append_, run_underlying ht, sizeOf, typeInfo, hi, Builtin.lenOf, Builtin.firstCells, hnc, storeCells, loadCells, loadCellsFrom]
theorem inAppend_run (B : Nat) (w : World) (v u : Value) (xs ys : List Int) (hv : InRow B w v xs) (hu : IntSRd w u ys) (hl : xs.length + ys.length ≤ 1000000) (hB : B ≤ w.heap.size) (ty : TypeId) :
  ∃ a c w', (Builtin.append_ #[37, 37] ty #[v, u]).run Tryz.prog w = .ok (.slice a (xs.length + ys.length) c) w' ∧ InRow B w' (.slice a (xs.length + ys.length) c) (xs ++ ys) ∧ w.grownBy w' v.ownBlock := by
 obtain ⟨i0, hi, hz0, hz1, hz2⟩ := info_parts1 infoInt
 obtain ⟨au, cu, rfl, hin⟩ := hu
 by_cases h0 : ys = []
 ·subst h0
  obtain ⟨a, c, rfl⟩ := hv.form
  exact ⟨a, c, w, run_append_none_i B _ ty _ i0 1 cu au Tryz.underlying37 hi _ _ _ hv, by simpa using hv, ⟨rfl, rfl, rfl, Nat.le_refl _, fun _ _ _ => rfl⟩⟩
 ·obtain ⟨b, off, rfl, hb, hc⟩ := hin.resolve_left h0
  have hpos : 0 < ys.length := List.length_pos_iff.2 h0
  obtain ⟨g, cap, w', h1, h2, h3, h4, h5⟩ := run_append_lies (P := Tryz.prog) (w := w) 37 ty B 3 i0 _ 1 8 Tryz.underlying37 hi hz0 hz1 hz2 rfl (by decide) v xs.length (xs.map (.int .i64)) hv ⟨b, off, none⟩ ys.length cu (ys.map (.int .i64)) (by simp) (fun j u hu => by
   rw [List.getElem?_map] at hu
   obtain ⟨t, ht, rfl⟩ := Option.map_eq_some_iff.1 hu
   obtain ⟨hj, rfl⟩ := List.getElem?_eq_some_iff.1 ht
   rw [Addr.add_lit]
   exact hc j hj) (fun u hu => by obtain ⟨c, _, rfl⟩ := List.mem_map.1 hu; rfl) hpos (by unfold maxLen; omega) (by omega) hB w.heap.size rfl
  refine ⟨some ⟨g, 0, none⟩, cap, w', h1, ?_, h3⟩
  unfold InRow
  rw [List.length_append, List.map_append]
  exact h2
theorem wpList_inAppend {w : World} {ops : Array Oper} {rest : List Oper} {o : Oper} {a : Act} {Q : Exit → Act → World → Prop} (hgd : o.guard = none) (s x : Operand)
  (ho : o.op = .call { callee := .builtin .append, args := #[s, x], argTypes := #[37, 37] }) (B : Nat) (v u : Value) (xs ys : List Int) (hs : a.eval s = v) (hx : a.eval x = u)
  (hv : InRow B w v xs) (hu : IntSRd w u ys) (hl : xs.length + ys.length ≤ 1000000) (hB : B ≤ w.heap.size)
  (h : ∀ a' c w', InRow B w' (.slice a' (xs.length + ys.length) c) (xs ++ ys) → w.grownBy w' v.ownBlock → wpList Tryz.prog ops Q rest (a.put o.dst (.slice a' (xs.length + ys.length) c)) w') : wpList Tryz.prog ops Q (o :: rest) a w := by
 obtain ⟨a', c, w', h1, h2, h3⟩ := inAppend_run B w v u xs ys hv hu hl hB o.type
 refine wpList_plain hgd fun K hK => ?_
 unfold Oper.wp execOp
 simp only [ho, resolve, invoke, builtin, Sem.run_bind, Sem.run_pure, Result.andThen_ok, List.map_toArray, List.map_cons, List.map_nil, hs, hx, h1]
 exact hK _ _ (h a' c w' h2 h3)
theorem infoFd : (Tryz.prog.info? 37).map (fun i => (i.zero, i.size, i.bytes)) = some (some (.slice none 0 0), 1, 24) := by kernel_rfl
end Go.Proofs.YtknkdbfgfcgkiaaGreatDoor

set_option linter.unusedVariables false
namespace Go.Proofs.YtknkdbfgfcgkiaaGreatDoor
open Go.RowKit Go.Maps Go.Deep

theorem InRow.typed {B : Nat} {w : World} {v : Value} {ts : List Int} (h : InRow B w v ts) : ∀ g, v.ownBlock = some g → ∃ cur, w.heap[g]? = some (.cells cur 3) := by
 intro g hg
 rcases h.2 with ⟨rfl, _⟩ | ⟨g', cap, cur, rfl, hB, hh, _⟩
 ·simp [Value.ownBlock] at hg
 ·simp [Value.ownBlock] at hg
  subst hg
  exact ⟨cur, hh⟩
theorem InRow.mono {B B' : Nat} {w : World} {v : Value} {ts : List Int} (h : InRow B w v ts) (hB : B' ≤ B) : InRow B' w v ts := by
 rcases h with ⟨hl, h | ⟨g, cap, cur, rfl, hg, hr⟩⟩
 ·exact ⟨hl, .inl h⟩
 ·exact ⟨hl, .inr ⟨g, cap, cur, rfl, by omega, hr⟩⟩
theorem int_types {w : World} {g : Nat} {c1 c2 : Array Value} (h1 : w.heap[g]? = some (.cells c1 37)) (h2 : w.heap[g]? = some (.cells c2 3)) : False := by
 rw [h1] at h2
 simp at h2
/-- all blocks of ints are as they were -/
def KeepI (w w' : World) : Prop := ∀ (g : Nat) (cur : Array Value), w.heap[g]? = some (Obj.cells cur 3) → w'.heap[g]? = w.heap[g]?
theorem KeepI.below {w w' : World} (h : Below w.heap.size w w') : KeepI w w' := fun g cur hg => h.block g (Array.getElem?_eq_some_iff.1 hg).1
theorem KeepI.grown {w w' : World} {row : Option Nat} (h : w.grownBy w' row) (hr : ∀ g, row = some g → ∃ cur, w.heap[g]? = some (.cells cur 37)) : KeepI w w' :=
 fun g cur hg => h.block g (Array.getElem?_eq_some_iff.1 hg).1 (fun e => by
  obtain ⟨c2, hc⟩ := hr g e.symm
  exact int_types hc hg)
theorem InRow.keepI {B : Nat} {w w' : World} {v : Value} {ts : List Int} (h : InRow B w v ts) (hk : KeepI w w') : InRow B w' v ts := h.keep (fun g hg => by
 obtain ⟨cur, hc⟩ := h.typed g hg
 exact hk g cur hc)
/-- lists of ints, each a row of one's own -/
structure PsIs (B : Nat) (w : World) (vs : List Value) (xs : List (List Int)) : Prop where
 len : vs.length = xs.length
 el : ∀ i (h : i < vs.length) (h' : i < xs.length), InRow B w vs[i] xs[i]
theorem PsIs.keepI {B : Nat} {w w' : World} {vs : List Value} {xs : List (List Int)} (h : PsIs B w vs xs) (hk : KeepI w w') : PsIs B w' vs xs := ⟨h.len, fun i h1 h2 => (h.el i h1 h2).keepI hk⟩
theorem PsIs.snoc {B : Nat} {w : World} {vs : List Value} {xs : List (List Int)} {x : Value} {ps : List Int} (h : PsIs B w vs xs) (hx : InRow B w x ps) : PsIs B w (vs ++ [x]) (xs ++ [ps]) := by
 have hl := h.len
 refine ⟨by simp [hl], fun i h1 h2 => ?_⟩
 by_cases e : i < vs.length
 ·rw [List.getElem_append_left e, List.getElem_append_left (by omega)]
  exact h.el i e (by omega)
 ·have e' : i = vs.length := by simp at h1; omega
  subst e'
  simp only [hl, List.getElem_append_right (Nat.le_refl _), Nat.sub_self, List.getElem_cons_zero]
  rw [List.getElem_append_right (by omega)]
  simp only [hl, Nat.sub_self, List.getElem_cons_zero]
  exact hx
/-- a row of lists of ints that one may append to -/
def PsRow (B : Nat) (w : World) (v : Value) (xs : List (List Int)) : Prop := ∃ vs, w.ownsRow B 37 1 v xs.length vs ∧ PsIs B w vs xs
theorem PsRow.nil (B : Nat) (w : World) : PsRow B w (.slice none 0 0) [] := ⟨[], ⟨rfl, .inl ⟨rfl, rfl⟩⟩, rfl, fun i h => by simp at h⟩
theorem PsRow.form {B : Nat} {w : World} {v : Value} {xs : List (List Int)} (h : PsRow B w v xs) : ∃ a c, v = .slice a xs.length c := by
 obtain ⟨vs, ⟨_, ⟨rfl, h0⟩ | ⟨g, cap, cur, rfl, _⟩⟩, _⟩ := h
 ·exact ⟨none, 0, by rw [h0]⟩
 ·exact ⟨_, cap, rfl⟩
theorem PsRow.ge {B : Nat} {w : World} {v : Value} {xs : List (List Int)} (h : PsRow B w v xs) : ∀ g, v.ownBlock = some g → B ≤ g := by
 intro g hg
 obtain ⟨vs, ⟨_, ⟨rfl, _⟩ | ⟨g', cap, cur, rfl, hB, _⟩⟩, _⟩ := h
 ·simp [Value.ownBlock] at hg
 ·simp [Value.ownBlock] at hg; omega
theorem own_lt {B s : Nat} {t : TypeId} {n : Nat} {w : World} {v : Value} {vs : List Value} (h : w.ownsRow B t s v n vs) : ∀ g, v.ownBlock = some g → g < w.heap.size := by
 intro g hg
 rcases h.2 with ⟨rfl, _⟩ | ⟨g', cap, cur, rfl, hB, hh, _⟩
 ·simp [Value.ownBlock] at hg
 ·simp [Value.ownBlock] at hg
  subst hg
  exact (Array.getElem?_eq_some_iff.1 hh).1
theorem own_typed {B s : Nat} {t : TypeId} {n : Nat} {w : World} {v : Value} {vs : List Value} (h : w.ownsRow B t s v n vs) : ∀ g, v.ownBlock = some g → ∃ cur, w.heap[g]? = some (.cells cur t) := by
 intro g hg
 rcases h.2 with ⟨rfl, _⟩ | ⟨g', cap, cur, rfl, hB, hh, _⟩
 ·simp [Value.ownBlock] at hg
 ·simp [Value.ownBlock] at hg
  subst hg
  exact ⟨cur, hh⟩
theorem own_keep {B s : Nat} {t : TypeId} {n : Nat} {w w' : World} {v : Value} {vs : List Value} (h : w.ownsRow B t s v n vs) (hk : ∀ g, v.ownBlock = some g → w'.heap[g]? = w.heap[g]?) : w'.ownsRow B t s v n vs := by
 rcases h with ⟨hl, h | ⟨g, cap, cur, rfl, hB, hg, hr⟩⟩
 ·exact ⟨hl, .inl h⟩
 ·exact ⟨hl, .inr ⟨g, cap, cur, rfl, hB, (hk g rfl).trans hg, hr⟩⟩
theorem PsRow.lt {B : Nat} {w : World} {v : Value} {xs : List (List Int)} (h : PsRow B w v xs) : ∀ g, v.ownBlock = some g → g < w.heap.size := by
 obtain ⟨vs, h1, _⟩ := h
 exact own_lt h1
theorem PsRow.up {B : Nat} {w w' : World} {v : Value} {xs : List (List Int)} (h : PsRow B w v xs) (hb : Below w.heap.size w w') : PsRow B w' v xs := by
 obtain ⟨vs, h1, h2⟩ := h
 exact ⟨vs, own_keep h1 (fun g hg => hb.block g (own_lt h1 g hg)), h2.keepI (KeepI.below hb)⟩
/-- one of its lists -/
theorem PsRow.at {B : Nat} {w : World} {a : Option Addr} {n c : Nat} {xs : List (List Int)} (h : PsRow B w (.slice a n c) xs) {i : Nat} (hi : i < xs.length) : ∃ g ya yc, a = some ⟨g, 0, none⟩ ∧ w.cell? ⟨g, i, none⟩ = some (.slice ya xs[i].length yc) ∧ InRow B w (.slice ya xs[i].length yc) xs[i] := by
 obtain ⟨vs, h1, h2⟩ := h
 have hl := h2.len
 have hh := h1
 rcases h1 with ⟨_, ⟨_, h0⟩ | ⟨g, cap, cur, e, hB, hg, hnc, _⟩⟩
 ·omega
 ·simp only [Value.slice.injEq] at e
  obtain ⟨rfl, rfl, rfl⟩ := e
  have hv : i < vs.length := by omega
  have hr := h2.el i hv hi
  obtain ⟨ya, yc, e⟩ := hr.form
  refine ⟨g, ya, yc, rfl, ?_, e ▸ hr⟩
  rw [hh.cellAt _ (by omega)]
  simp [hv, e]
theorem wpList_psAppend {w : World} {ops : Array Oper} {rest : List Oper} {o : Oper} {a : Act} {Q : Exit → Act → World → Prop} (hgd : o.guard = none) (s x : Operand)
  (ho : o.op = .call { callee := .builtin .append, args := #[s, x], argTypes := #[107, 107] }) (B : Nat) (v : Value) (xs : List (List Int)) (ps : List Int) (ya : Option Addr) (yn yc : Nat) (g : Nat) (hs : a.eval s = v) (hx : a.eval x = .slice (some ⟨g, 0, none⟩) 1 1)
  (hv : PsRow B w v xs) (hy : InRow B w (.slice ya yn yc) ps) (c0 : w.cell? ⟨g, 0, none⟩ = some (.slice ya yn yc)) (hl : xs.length ≤ 1000000) (hB : B ≤ w.heap.size)
  (h : ∀ g' c w', PsRow B w' (.slice (some ⟨g', 0, none⟩) (xs.length + 1) c) (xs ++ [ps]) → w.grownBy w' v.ownBlock → (v.ownBlock = some g' ∨ g' = w.heap.size) → wpList Tryz.prog ops Q rest (a.put o.dst (.slice (some ⟨g', 0, none⟩) (xs.length + 1) c)) w') : wpList Tryz.prog ops Q (o :: rest) a w := by
 obtain ⟨i0, hi, hz0, hz1, hz2⟩ := info_parts1 infoFd
 obtain ⟨vs, hv, hp⟩ := hv
 refine wpList_append_lies w hgd s x 107 ho B 37 i0 _ 1 24 Tryz.underlying107 hi hz0 hz1 hz2 rfl (by decide) v xs.length vs hs hv ⟨g, 0, none⟩ 1 1 [.slice ya yn yc] hx rfl (fun j u hj => by
  match j, hj with
  | 0, hj => simp at hj; subst hj; simpa [Addr.add] using c0) (by intro u hu; simp at hu; rw [hu]; rfl) (by decide) (by unfold maxLen; omega) (by omega) hB w.heap.size rfl ?_
 intro g' cap w' h2 h3 h4 h5
 refine h g' cap w' ⟨vs ++ [.slice ya yn yc], ?_, (hp.snoc hy).keepI (KeepI.grown h3 (own_typed hv))⟩ h3 h4
 rw [List.length_append]
 exact h2
end Go.Proofs.YtknkdbfgfcgkiaaGreatDoor

set_option linter.unusedVariables false
namespace Go.Proofs.YtknkdbfgfcgkiaaGreatDoor
open Go.RowKit Go.Maps Go.Deep Go.ChangeMaps Go.ChangeShapes

/-- where a list lies: its block, its length, its room (none: nowhere) -/
abbrev Hd := Option (Nat × Nat × Nat)
def hdV : Hd → Value
 | none => .slice none 0 0
 | some (g, n, c) => .slice (some ⟨g, 0, none⟩) n c
def hdD : Hd → DataW Unit
 | none => .nil
 | some (g, n, c) => .slice [.lit (.int .i64 g), .lit (.int .i64 n), .lit (.int .i64 c)] []
open Classical in
noncomputable def hdR (v : Value) : Option (DataW Unit × List MemPlace) := if h : ∃ o, v = hdV o then some (hdD (Classical.choose h), []) else none
theorem hdV_inj {o o' : Hd} (h : hdV o = hdV o') : o = o' := by
 rcases o with _ | ⟨g, n, c⟩ <;> rcases o' with _ | ⟨g', n', c'⟩ <;> simp [hdV] at h ⊢
 exact h
theorem hdD_inj {o o' : Hd} (h : hdD o = hdD o') : o = o' := by
 rcases o with _ | ⟨g, n, c⟩ <;> rcases o' with _ | ⟨g', n', c'⟩ <;> simp [hdD] at h ⊢
 omega
theorem hdR_mk (o : Hd) : hdR (hdV o) = some (hdD o, []) := by
 have hx : ∃ o', hdV o = hdV o' := ⟨o, rfl⟩
 unfold hdR
 rw [dif_pos hx, ← hdV_inj (Classical.choose_spec hx)]
theorem hdR_inv {v : Value} {z : DataW Unit × List MemPlace} (h : hdR v = some z) : ∃ o, v = hdV o ∧ z = (hdD o, []) := by
 unfold hdR at h
 split at h
 ·rename_i hx
  exact ⟨_, Classical.choose_spec hx, (Option.some.inj h).symm⟩
 ·cases h
def keyL (s : ByteArray) : Lit := .string s.data.toList
theorem keyL_inj {s s' : ByteArray} (h : keyL s = keyL s') : s = s' := by
 unfold keyL at h
 simp only [Lit.string.injEq] at h
 exact ByteArray.ext (Array.toList_inj.1 h)
/-- the map in block b holds, for each key, the list that G says -/
structure HdMap (w : World) (b n : Nat) (D : DataW Unit) (G : ByteArray → Hd) : Prop where
 own : w.ownsMap Tryz.prog 9 hdR b n D
 gives : ∀ s, D.atKey (keyL s) .nil = hdD (G s)
 there : ∀ s, Maps.has D (keyL s) = (G s).isSome
theorem mapKeyed : Keyed Tryz.prog 9 := string_keyed Tryz.underlying9
theorem mapZero (w : World) : (zeroValue 37).run Tryz.prog w = .ok (.slice none 0 0) w := by kernel_rfl
theorem HdMap.made (w : World) : HdMap (w.alloc (.map #[] 0)) w.heap.size 0 (.map []) (fun _ => none) := ⟨World.ownsMap_made _ _ _ _, fun s => rfl, fun s => rfl⟩
theorem HdMap.lt {w : World} {b n : Nat} {D : DataW Unit} {G : ByteArray → Hd} (h : HdMap w b n D G) : b < w.heap.size := h.own.lt
theorem HdMap.kept {w w' : World} {row : Option Nat} {b n : Nat} {D : DataW Unit} {G : ByteArray → Hd} (h : HdMap w b n D G) (hg : w.grownBy w' row) (hne : some b ≠ row) : HdMap w' b n D G := ⟨h.own.kept hg hne, h.gives, h.there⟩
theorem HdMap.alloc {w : World} {b n : Nat} {D : DataW Unit} {G : ByteArray → Hd} (h : HdMap w b n D G) (o : Obj) : HdMap (w.alloc o) b n D G := ⟨h.own.alloc o, h.gives, h.there⟩
theorem HdMap.drew {w : World} {b n : Nat} {D : DataW Unit} {G : ByteArray → Hd} (h : HdMap w b n D G) : HdMap w.drew b n D G := ⟨h.own.drew, h.gives, h.there⟩
theorem HdMap.same {w w' : World} {b n : Nat} {D : DataW Unit} {G : ByteArray → Hd} (h : HdMap w b n D G) (hb : w'.heap[b]? = w.heap[b]?) : HdMap w' b n D G := by
 refine ⟨?_, h.gives, h.there⟩
 obtain ⟨es, clock, h1, h2⟩ := h.own
 exact ⟨es, clock, hb.trans h1, h2⟩
theorem HdMap.setCell {w : World} {b n : Nat} {D : DataW Unit} {G : ByteArray → Hd} (h : HdMap w b n D G) {a : Addr} (ha : b ≠ a.block) (u : Value) : HdMap (w.setCell a u) b n D G := ⟨h.own.setCell ha u, h.gives, h.there⟩
theorem HdMap.up {w w' : World} {b n : Nat} {D : DataW Unit} {G : ByteArray → Hd} (h : HdMap w b n D G) (hb : Below w.heap.size w w') : HdMap w' b n D G := h.same (hb.block b h.lt)
/-- what m[s] gives -/
theorem HdMap.look {w : World} {b n : Nat} {D : DataW Unit} {G : ByteArray → Hd} (h : HdMap w b n D G) {s : ByteArray} (hs : s.size ≤ maxLen) {t : TypeId} (ht : Tryz.prog.underlying t = some (.map 9 37)) : (Instr.lookup t (.map (some b)) (.string s) false).run Tryz.prog w = .ok (hdV (G s)) w := by
 obtain ⟨v, ps, h1, h2⟩ := h.own.lookup mapKeyed ht (mapZero w) (hdR_mk none) (WideMaps.keyOf_string_mk Tryz.underlying9 hs)
 obtain ⟨o, rfl, e⟩ := hdR_inv h2
 simp only [Prod.mk.injEq] at e
 have : hdD (G s) = hdD o := (h.gives s).symm.trans e.1
 rw [h1, hdD_inj this]
def setG (G : ByteArray → Hd) (s : ByteArray) (o : Nat × Nat × Nat) : ByteArray → Hd := fun s' => if s' = s then some o else G s'
/-- m[s] = .. -/
theorem HdMap.put {w : World} {b n : Nat} {D : DataW Unit} {G : ByteArray → Hd} (h : HdMap w b n D G) (hn : n < maxLen) {s : ByteArray} (hs : s.size ≤ maxLen) {t : TypeId} (ht : Tryz.prog.underlying t = some (.map 9 37)) (o : Nat × Nat × Nat) :
  ∃ w' D', (Instr.mapUpdate t (.map (some b)) (.string s) (hdV (some o))).run Tryz.prog w = .ok () w' ∧ HdMap w' b (n + 1) D' (setG G s o) ∧ w.grownBy w' (some b) := by
 have hk : keyOf Tryz.prog 9 (.string s) = some (keyL s) := WideMaps.keyOf_string_mk Tryz.underlying9 hs
 obtain ⟨w', h1, h2, h3⟩ := h.own.update mapKeyed ht hn hk (hdR_mk (some o))
 have hm : IsMap D := h.own.isMap
 refine ⟨w', _, h1, ⟨h2, fun s' => ?_, fun s' => ?_⟩, h3⟩
 ·unfold setG
  by_cases e : s' = s
  ·subst e
   rw [if_pos rfl]
   exact atKey_put_same hm (mapKeyed.key hk) _ _
  ·rw [if_neg e, atKey_put_other (fun e' => e (keyL_inj e'))]
   exact h.gives s'
 ·unfold setG
  by_cases e : s' = s
  ·subst e
   rw [if_pos rfl]
   exact has_put_same hm (mapKeyed.key hk) _
  ·rw [if_neg e, has_put_other (fun e' => e (keyL_inj e'))]
   exact h.there s'
/-- a number behind a list of one's own: where the new one lies -/
theorem step_inOne {w : World} {ops : Array Oper} {o : Oper} {a : Act} {K : Act → World → Prop} {Q : Exit → Act → World → Prop} {E : Prop} (hw : Region.wanted o (yielded ops a.tmps) = true) (s x : Operand)
  (ho : o.op = .call { callee := .builtin .append, args := #[s, x], argTypes := #[37, 37] }) (B : Nat) (v : Value) (xs : List Int) (y : Int) (g : Nat) (hs : a.eval s = v) (hx : a.eval x = .slice (some ⟨g, 0, none⟩) 1 1)
  (hv : InRow B w v xs) (c0 : w.cell? ⟨g, 0, none⟩ = some (.int .i64 y)) (hl : xs.length ≤ 1000000) (hB : B ≤ w.heap.size)
  (h : ∀ g' c w', InRow B w' (.slice (some ⟨g', 0, none⟩) (xs.length + 1) c) (xs ++ [y]) → w.grownBy w' v.ownBlock → (v.ownBlock = some g' ∨ g' = w.heap.size) → K (a.put o.dst (.slice (some ⟨g', 0, none⟩) (xs.length + 1) c)) w') :
  if Region.wanted o (yielded ops a.tmps) = true then Oper.wp Tryz.prog o a w K Q else E := by
 rw [if_pos hw]
 obtain ⟨i0, hi, hz0, hz1, hz2⟩ := info_parts1 infoInt
 obtain ⟨g', cap, w', h1, h2, h3, h4, h5⟩ := run_append_lies (P := Tryz.prog) (w := w) 37 o.type B 3 i0 _ 1 8 Tryz.underlying37 hi hz0 hz1 hz2 rfl (by decide) v xs.length (xs.map (.int .i64)) hv ⟨g, 0, none⟩ 1 1 [.int .i64 y] rfl (fun j u hj => by
  match j, hj with
  | 0, hj => simp at hj; subst hj; simpa [Addr.add] using c0) (by intro u hu; simp at hu; rw [hu]; rfl) (by decide) (by unfold maxLen; omega) (by omega) hB w.heap.size rfl
 unfold Oper.wp execOp
 simp only [ho, resolve, invoke, builtin, Sem.run_bind, Sem.run_pure, Result.andThen_ok, List.map_toArray, List.map_cons, List.map_nil, hs, hx, h1]
 refine h g' cap w' ?_ h3 h4
 unfold InRow
 rw [List.length_append, List.map_append]
 exact h2
theorem wpList_inOne {w : World} {ops : Array Oper} {rest : List Oper} {o : Oper} {a : Act} {Q : Exit → Act → World → Prop} (hgd : o.guard = none) (s x : Operand)
  (ho : o.op = .call { callee := .builtin .append, args := #[s, x], argTypes := #[37, 37] }) (B : Nat) (v : Value) (xs : List Int) (y : Int) (g : Nat) (hs : a.eval s = v) (hx : a.eval x = .slice (some ⟨g, 0, none⟩) 1 1)
  (hv : InRow B w v xs) (c0 : w.cell? ⟨g, 0, none⟩ = some (.int .i64 y)) (hl : xs.length ≤ 1000000) (hB : B ≤ w.heap.size)
  (h : ∀ g' c w', InRow B w' (.slice (some ⟨g', 0, none⟩) (xs.length + 1) c) (xs ++ [y]) → w.grownBy w' v.ownBlock → (v.ownBlock = some g' ∨ g' = w.heap.size) → wpList Tryz.prog ops Q rest (a.put o.dst (.slice (some ⟨g', 0, none⟩) (xs.length + 1) c)) w') : wpList Tryz.prog ops Q (o :: rest) a w := by
 obtain ⟨i0, hi, hz0, hz1, hz2⟩ := info_parts1 infoInt
 refine wpList_append_lies w hgd s x 37 ho B 3 i0 _ 1 8 Tryz.underlying37 hi hz0 hz1 hz2 rfl (by decide) v xs.length (xs.map (.int .i64)) hs hv ⟨g, 0, none⟩ 1 1 [.int .i64 y] hx rfl (fun j u hj => by
  match j, hj with
  | 0, hj => simp at hj; subst hj; simpa [Addr.add] using c0) (by intro u hu; simp at hu; rw [hu]; rfl) (by decide) (by unfold maxLen; omega) (by omega) hB w.heap.size rfl ?_
 intro g' cap w' h2 h3 h4 h5
 refine h g' cap w' ?_ h3 h4
 unfold InRow
 rw [List.length_append, List.map_append]
 exact h2
end Go.Proofs.YtknkdbfgfcgkiaaGreatDoor
