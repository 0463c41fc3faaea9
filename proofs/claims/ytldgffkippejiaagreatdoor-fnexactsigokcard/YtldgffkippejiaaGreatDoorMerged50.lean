/-
  Rows of texts that one may append to.
-/
/-
  The program's own copies of texts.
-/
/-
  The inputs of a body, on both sides.
-/
import Derived.Test.YtldgffkippejiaaGreatDoorStrRows
import Derived.Deep.AppendLies
import Derived.Test.YtldgffkippejiaaGreatDoorMerged48
import Derived.Handy
import Derived.Deep.RegionHeld3
import Derived.Test.YtldgffkippejiaaGreatDoorRdrR
import Derived.Test.YtldgffkippejiaaGreatDoorReadT
import Derived.Test.YtldgffkippejiaaGreatDoorMerged47
set_option linter.unusedVariables false
namespace Go.Proofs.YtldgffkippejiaaGreatDoor
open Go.RowKit Go.Maps Go.Deep

def TxRow (B : Nat) (w : World) (v : Value) (ts : List ByteArray) : Prop := w.ownsRow B 9 1 v ts.length (ts.map .string)
theorem TxRow.nil (B : Nat) (w : World) : TxRow B w (.slice none 0 0) [] := ⟨rfl, .inl ⟨rfl, rfl⟩⟩
theorem TxRow.slice {B : Nat} {w : World} {v : Value} {ts : List ByteArray} (h : TxRow B w v ts) : ∃ a c, v = .slice a ts.length c := by
  rcases h with ⟨_, ⟨rfl, h0⟩ | ⟨g, cap, cur, rfl, _⟩⟩
  · exact ⟨none, 0, by rw [h0]⟩
  · exact ⟨_, cap, rfl⟩
theorem TxRow.ge {B : Nat} {w : World} {v : Value} {ts : List ByteArray} (h : TxRow B w v ts) : ∀ g, v.ownBlock = some g → B ≤ g := by
  intro g hg
  rcases h.2 with ⟨rfl, _⟩ | ⟨g', cap, cur, rfl, hB, _⟩
  · simp [Value.ownBlock] at hg
  · simp [Value.ownBlock] at hg; omega
theorem TxRow.lt {B : Nat} {w : World} {v : Value} {ts : List ByteArray} (h : TxRow B w v ts) : ∀ g, v.ownBlock = some g → g < w.heap.size := by
  intro g hg
  rcases h.2 with ⟨rfl, _⟩ | ⟨g', cap, cur, rfl, hB, hh, _⟩
  · simp [Value.ownBlock] at hg
  · simp [Value.ownBlock] at hg
    subst hg
    exact (Array.getElem?_eq_some_iff.1 hh).1
theorem TxRow.keep {B : Nat} {w w' : World} {v : Value} {ts : List ByteArray} (h : TxRow B w v ts) (hk : ∀ g, v.ownBlock = some g → w'.heap[g]? = w.heap[g]?) : TxRow B w' v ts := by
  rcases h with ⟨hl, h | ⟨g, cap, cur, rfl, hB, hg, hr⟩⟩
  · exact ⟨hl, .inl h⟩
  · exact ⟨hl, .inr ⟨g, cap, cur, rfl, hB, (hk g rfl).trans hg, hr⟩⟩
theorem TxRow.up {B : Nat} {w w' : World} {v : Value} {ts : List ByteArray} (h : TxRow B w v ts) (hb : Below w.heap.size w w') : TxRow B w' v ts := h.keep (fun g hg => hb.block g (h.lt g hg))
theorem TxRow.turn {B g : Nat} {w w' : World} {v : Value} {ts : List ByteArray} (h : TxRow B w v ts) (t : Turn [g] w w') (hg : g < B) : TxRow B w' v ts :=
  h.keep (fun y hy => t.block y (h.lt y hy) (by have := h.ge y hy; simp; omega))
theorem TxRow.rd {B : Nat} {w : World} {v : Value} {ts : List ByteArray} (h : TxRow B w v ts) : StringSRd w v ts := by
  have hh : w.ownsRow B 9 1 v ts.length (ts.map .string) := h
  rcases h with ⟨_, ⟨rfl, h0⟩ | ⟨g, cap, cur, rfl, hB, hg, hnc, _⟩⟩
  · have : ts = [] := List.eq_nil_of_length_eq_zero h0
    subst this
    exact ⟨none, 0, rfl, .inl rfl⟩
  · refine ⟨some ⟨g, 0, none⟩, cap, rfl, .inr ⟨g, 0, rfl, (Array.getElem?_eq_some_iff.1 hg).1, fun i hi => ?_⟩⟩
    rw [Nat.zero_add, hh.cellAt _ (by omega)]
    simp [hi]
theorem infoTx : (Tryz.prog.info? 9).map (fun i => (i.zero, i.size, i.bytes)) = some (some (.string ByteArray.empty), 1, 16) := by kernel_rfl
theorem news_tx {w : World} {g : Nat} {x : ByteArray} (c0 : w.cell? ⟨g, 0, none⟩ = some (.string x)) : ∀ j u, ([.string x] : List Value)[j]? = some u → w.cell? ((⟨g, 0, none⟩ : Addr).add j) = some u := by
  intro j u hj
  match j, hj with
  | 0, hj => simp at hj; subst hj; simpa [Addr.add] using c0
/-- one more text -/
theorem wpList_txAppend {w : World} {ops : Array Oper} {rest : List Oper} {o : Oper} {a : Act} {Q : Exit → Act → World → Prop} (hgd : o.guard = none) (s x : Operand)
    (ho : o.op = .call { callee := .builtin .append, args := #[s, x], argTypes := #[22, 22] }) (B : Nat) (v : Value) (ts : List ByteArray) (y : ByteArray) (g : Nat) (hs : a.eval s = v) (hx : a.eval x = .slice (some ⟨g, 0, none⟩) 1 1)
    (hv : TxRow B w v ts) (c0 : w.cell? ⟨g, 0, none⟩ = some (.string y)) (hl : ts.length ≤ 1000000) (hB : B ≤ w.heap.size)
    (h : ∀ g' n c w', TxRow B w' (.slice (some ⟨g', 0, none⟩) n c) (ts ++ [y]) → w.grownBy w' v.ownBlock → wpList Tryz.prog ops Q rest (a.put o.dst (.slice (some ⟨g', 0, none⟩) n c)) w') : wpList Tryz.prog ops Q (o :: rest) a w := by
  obtain ⟨i0, hi, hz0, hz1, hz2⟩ := info_parts1 infoTx
  refine wpList_append_lies w hgd s x 22 ho B 9 i0 _ 1 16 Tryz.underlying22 hi hz0 hz1 hz2 rfl (by decide) v ts.length (ts.map .string) hs hv ⟨g, 0, none⟩ 1 1 [.string y] hx rfl (news_tx c0) (by intro u hu; simp at hu; rw [hu]; rfl) (by decide) (by unfold maxLen; omega) (by omega) hB w.heap.size rfl ?_
  intro g' cap w' h2 h3 h4 h5
  refine h g' _ cap w' ?_ h3
  unfold TxRow
  rw [List.length_append, List.map_append]
  exact h2
end Go.Proofs.YtldgffkippejiaaGreatDoor

set_option linter.unusedVariables false
namespace Go.Proofs.YtldgffkippejiaaGreatDoor
open Go.RowKit Go.Maps Go.Deep

theorem clone_any' (s : ByteArray) (w : World) (hs : s.size ≤ 1048576) : Calls Tryz.prog 28 #[.string s] w fun e w' => e = .returned (.string s) ∧ Below w.heap.size w w' := by
  have HK := hide (Tryz.stringslite_Clone s w (by omega))
  clear hs
  go_enter Tryz.func28, Tryz.ntmps28
  go_wp2_with fail
  refine (unhide HK).mono ?_
  rintro e w1 ⟨rfl, b1⟩
  have B1 := hide b1
  clear b1
  go_wp2_with fail
  go_ret
  exact ⟨rfl, unhide B1⟩
set_option maxHeartbeats 3200000 in
theorem ownTexts_any (ts : List ByteArray) (v : Value) (w : World) (hs : SmallStringS ts) (hl : ts.length ≤ 1000000) (h : StringSRd w v ts) :
    Calls Tryz.prog 17 #[v] w fun e w' => ∃ u, e = .returned u ∧ Hid (TxRow w.heap.size w' u ts) ∧ Below w.heap.size w w' := by
  obtain ⟨a, cap, rfl, h⟩ := h
  have HA := hide h
  have HSZ := hide hs.2
  clear h hs
  go_enter Tryz.func17, Tryz.ntmps17
  go_wp2_with fail
  go_loopw [3, 8] (fun v i wr => ∃ (k : Nat), k ≤ ts.length ∧ i = .int .i64 k ∧ Hid (TxRow w.heap.size wr v (ts.take k)) ∧ Hid (Below w.heap.size w wr)) (fun _ i _ => ts.length - (intOf i).toNat)
  case atStart => exact ⟨0, Nat.zero_le _, rfl, TxRow.nil _ _, Below.refl _ _⟩
  case round =>
    obtain ⟨k, hk, rfl, HR, HBr⟩ := hrel
    have hlo : (ts.take k).length ≤ 1000000 := by simp; omega
    obtain ⟨av, cv, hv⟩ := (unhide HR).slice
    subst hv
    by_cases hlt : k < ts.length
    · rcases unhide HA with rfl | ⟨ba, oa, rfl, hba, hca⟩
      · simp at hlt
      have HT := hide (show ts.take (k + 1) = ts.take k ++ [ts[k]] from List.take_succ_eq_append_getElem hlt)
      have c0 := hca.below (unhide HBr) hba k hlt
      have hms := unhide HSZ _ (List.getElem_mem hlt)
      have HCL := hide (fun X => clone_any' ts[k] X hms)
      clear hca hms
      generalize ts[k] = t at *
      generalize ts.take k = out at *
      go_wp2_with fail
      refine (unhide HCL _).mono ?_
      rintro e w3 ⟨rfl, b3⟩
      have B3 := hide ((unhide HBr).trans (b3.mono (unhide HBr).size))
      have R3 := hide ((unhide HR).up b3)
      clear b3 c0
      have hz1 : w.heap.size ≤ (w3.alloc (.cells #[.string t] 9)).heap.size := by have := (unhide B3).size; simp; omega
      have RA1 := hide ((unhide R3).up ((Below.refl _ _).alloc (Nat.le_refl _) (.cells #[.string t] 9)))
      have BA1 := hide ((unhide B3).alloc (unhide B3).size (.cells #[.string t] 9))
      have ca1 : (w3.alloc (.cells #[.string t] 9)).cell? ⟨w3.heap.size, 0, none⟩ = some (.string t) := World.cell?_alloc_at _ _ _ _ rfl
      go_wp2_with (first
        | (at_builtin; have _g := RA1; refine wpList_txAppend rfl _ _ rfl w.heap.size (.slice av out.length cv) out t w3.heap.size rfl rfl (unhide RA1) ca1 (by omega) hz1 ?_; intro g1 n1 cp1 X1 hr1 hg1; have RX1 := hide hr1; have BX1 := hide ((unhide BA1).grown hg1 (unhide BA1).size (fun q hq => (unhide RA1).ge q hq)); clear hr1 hg1 RA1 BA1)
        | fail)
      go_roundw
      case rel => exact ⟨k + 1, by omega, by go_num, by rw [unhide HT]; exact RX1, BX1⟩
      case measure => simp [intOf]; omega
    · obtain rfl : k = ts.length := by omega
      have HR2 := hide (show TxRow w.heap.size wr (.slice av (ts.take ts.length).length cv) ts by have := unhide HR; rwa [List.take_length] at this ⊢)
      go_wp2_with fail
      go_ret
      exact ⟨_, rfl, HR2, unhide HBr⟩
end Go.Proofs.YtldgffkippejiaaGreatDoor

set_option linter.unusedVariables false
namespace Go.Proofs.YtldgffkippejiaaGreatDoor
open Go.RowKit Go.Maps Go.Deep

/-- the names that the nodes ask for -/
noncomputable def freeOf (ns : List NodeV) : List ByteArray := open Classical in if h : ∃ ts, FreeIs ns ts then Classical.choose h else []
theorem free_of {ns : List NodeV} {ts : List ByteArray} (h : FreeIs ns ts) : ts = freeOf ns := by
  unfold freeOf
  rw [dif_pos ⟨ts, h⟩]
  exact free_same (Classical.choose_spec (⟨ts, h⟩ : ∃ ts, FreeIs ns ts)) h
noncomputable def sigB (t : ByteArray) : Bool := decide (t.size = 0) || (decide (t.size ≤ 200) && decide ((trRes t).code = 0) && decide (1 ≤ (freeOf (trRes t).nodes).length) && decide ((freeOf (trRes t).nodes).length ≤ 4))
noncomputable def sigOut (t : ByteArray) : List ByteArray := if t.size ≠ 0 ∧ sigB t = true then freeOf (trRes t).nodes else []
theorem sig_none {t : ByteArray} (h : t.size = 0) : sigB t = true ∧ sigOut t = [] := by
  refine ⟨by unfold sigB; simp [h], by unfold sigOut; rw [if_neg (by simp [h])]⟩
theorem sig_no {t : ByteArray} (h0 : t.size ≠ 0) (h : 200 < t.size ∨ (trRes t).code ≠ 0 ∨ (freeOf (trRes t).nodes).length < 1 ∨ 4 < (freeOf (trRes t).nodes).length) : sigB t = false ∧ sigOut t = [] := by
  have hb : sigB t = false := by
    unfold sigB
    rw [decide_eq_false h0]
    rcases h with h | h | h | h
    · rw [decide_eq_false (show ¬ t.size ≤ 200 by omega)]; rfl
    · rw [decide_eq_false h]; simp
    · rw [decide_eq_false (show ¬ 1 ≤ (freeOf (trRes t).nodes).length by omega)]; simp
    · rw [decide_eq_false (show ¬ (freeOf (trRes t).nodes).length ≤ 4 by omega)]; simp
  exact ⟨hb, by unfold sigOut; rw [if_neg (by simp [hb])]⟩
theorem sig_yes {t : ByteArray} (h0 : t.size ≠ 0) (h1 : t.size ≤ 200) (h2 : (trRes t).code = 0) (h3 : 1 ≤ (freeOf (trRes t).nodes).length) (h4 : (freeOf (trRes t).nodes).length ≤ 4) : sigB t = true ∧ sigOut t = freeOf (trRes t).nodes := by
  have hb : sigB t = true := by unfold sigB; rw [decide_eq_true h1, decide_eq_true h2, decide_eq_true h3, decide_eq_true h4]; simp
  exact ⟨hb, by unfold sigOut; rw [if_pos ⟨h0, hb⟩]⟩
/-- what is read fits -/
theorem tr_fit (t : ByteArray) : (trRes t).nodes.length ≤ 400 ∧ (∀ x ∈ (trRes t).nodes, NodeGd x) ∧ ((trRes t).code = 0 → (trRes t).nodes ≠ []) := by
  by_cases hc : bwCode t = 0
  rotate_left
  · rw [tr_words hc]
    exact ⟨by simp [TrRes.nodes], fun x hx => by simp [TrRes.nodes] at hx, fun h => absurd h hc⟩
  · cases hp : parse (bwWords t) (fuelT (bwWords t)) .expr 0 with
    | out => have := tr_good t; rw [hp] at this; exact this.elim
    | bad k => rw [tr_bad hc hp]; exact ⟨by simp [TrRes.nodes], fun x hx => by simp [TrRes.nodes] at hx, fun h => by simp [TrRes.code] at h⟩
    | ok x k =>
      by_cases h1 : k < (bwWords t).length
      · rw [tr_more hc hp h1]; exact ⟨by simp [TrRes.nodes], fun x hx => by simp [TrRes.nodes] at hx, fun h => by simp [TrRes.code] at h⟩
      by_cases h2 : 400 < sizeT x
      · rw [tr_many hc hp h1 h2]; exact ⟨by simp [TrRes.nodes], fun x hx => by simp [TrRes.nodes] at hx, fun h => by simp [TrRes.code] at h⟩
      by_cases h3 : 40 < dp x.l + 1
      · rw [tr_deep hc hp h1 h2 h3]; exact ⟨by simp [TrRes.nodes], fun x hx => by simp [TrRes.nodes] at hx, fun h => by simp [TrRes.code] at h⟩
      rw [tr_ok hc hp h1 h2 h3]
      have ht := tr_tree t
      rw [hp] at ht
      refine ⟨by show (fl x.f).length ≤ 400; have : (fl x.f).length = sizeT x := rfl; omega, ht.1.all, fun _ => ?_⟩
      show fl x.f ≠ []
      rw [fl_f]; simp
theorem tr_names (t : ByteArray) : NamesOk (trRes t).nodes := fun n hn => by have := ((tr_fit t).2.1 n hn).2.2.1; unfold maxLen; omega
theorem str_rd {w : World} {v : Value} {ts : List ByteArray} (h : StrAt w v ts) : StringSRd w v ts := by
  obtain ⟨a, cap, rfl, h⟩ := h
  refine ⟨a, cap, rfl, ?_⟩
  rcases h with h | ⟨g, rfl, hg, hc⟩
  · exact .inl h
  · exact .inr ⟨g, 0, rfl, hg, fun i hi => by rw [Nat.zero_add]; exact hc i hi⟩

/-! the program's TreeFree of nothing -/
theorem nodesOk_none (a : Option Addr) (c : Nat) (w : World) : Calls Tryz.prog 60 #[.slice a 0 c] w fun e w' => e = .returned (.bool true) ∧ Below w.heap.size w w' := by
  go_enter Tryz.func60, Tryz.ntmps60
  go_wp2_with fail
  refine (newKeySet_any _).mono ?_
  rintro e w1 ⟨rfl, hmap, hb1⟩
  have B1 := hide hb1
  clear hmap hb1
  go_wp2_with fail
  refine wp_loop_rounds 1 ?_
  rw [rounds_succ]
  go_wp2_with fail
  go_ret
  exact ⟨rfl, unhide B1⟩
theorem treeEnd_none (a : Option Addr) (c : Nat) (w : World) : Calls Tryz.prog 61 #[.slice a 0 c, .int .i64 0] w fun e w' => e = .returned (.int .i64 (-1)) ∧ w' = w := by
  go_enter Tryz.func61, Tryz.ntmps61
  go_wp2_with fail
  refine wp_loop_rounds 1 ?_
  rw [rounds_succ]
  go_wp2_with fail
  go_ret
  exact ⟨rfl, rfl⟩
theorem treeOf_none (a : Option Addr) (c : Nat) (w : World) : Calls Tryz.prog 45 #[.slice a 0 c] w fun e w' => e = .returned (.tuple #[.nilIface, .bool false]) ∧ Below w.heap.size w w' := by
  go_enter Tryz.func45, Tryz.ntmps45
  go_wp2_with fail
  refine (nodesOk_none a c _).mono ?_
  rintro e w1 ⟨rfl, hb1⟩
  have B1 := hide hb1
  clear hb1
  go_wp2_with (first
    | (go_at_call 61; refine (treeEnd_none a c _).mono ?_; rintro e w2 ⟨rfl, rfl⟩)
    | fail)
  go_ret2
  exact ⟨rfl, unhide B1⟩
theorem free_nil (a : Option Addr) (c : Nat) (w : World) : Calls Tryz.prog 27 #[.slice a 0 c] w fun e w' => e = .returned (.slice none 0 0) ∧ Below w.heap.size w w' := by
  go_enter Tryz.func27, Tryz.ntmps27
  go_wp2_with fail
  refine (treeOf_none a c _).mono ?_
  rintro e w1 ⟨rfl, hb1⟩
  have B1 := hide hb1
  clear hb1
  go_wp2_with fail
  go_ret
  exact ⟨rfl, unhide B1⟩
end Go.Proofs.YtldgffkippejiaaGreatDoor
