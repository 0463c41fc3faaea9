/-
  Rows of stamps (each cell a list of marks) that one may append to.
-/
/-
  The program's agreesWithAll: whether a stamp agrees with each of some others.
-/
import Derived.Test.YtnijccmhajjdoaaMarkRowsOwn
import Derived.Deep.AppendLies
import Derived.Test.YtnijccmhajjdoaaAgreeI
import Derived.Test.YtnijccmhajjdoaaAgreeS
import Derived.Handy
set_option linter.unusedVariables false
namespace Go.Proofs.Ytnijccmhajjdoaa
open Go.RowKit Go.Maps Go.Deep

def SlRow (B : Nat) (w : World) (v : Value) (vs : List Value) : Prop := w.ownsRow B 30 1 v vs.length vs
theorem SlRow.nil (B : Nat) (w : World) : SlRow B w (.slice none 0 0) [] := ⟨rfl, .inl ⟨rfl, rfl⟩⟩
theorem SlRow.slice {B : Nat} {w : World} {v : Value} {vs : List Value} (h : SlRow B w v vs) : (v = .slice none 0 0 ∧ vs = []) ∨ ∃ g c, v = .slice (some ⟨g, 0, none⟩) vs.length c ∧ vs.length ≤ c ∧ g < w.heap.size ∧ ∀ i (h : i < vs.length), w.cell? ⟨g, i, none⟩ = some vs[i] := by
  have hh : w.ownsRow B 30 1 v vs.length vs := h
  rcases h with ⟨_, ⟨rfl, h0⟩ | ⟨g, cap, cur, rfl, hB, hg, hnc, _⟩⟩
  · exact .inl ⟨rfl, List.eq_nil_of_length_eq_zero h0⟩
  · refine .inr ⟨g, cap, rfl, hnc, (Array.getElem?_eq_some_iff.1 hg).1, fun i hi => ?_⟩
    rw [hh.cellAt _ (by omega)]
    exact List.getElem?_eq_getElem hi
theorem SlRow.ge {B : Nat} {w : World} {v : Value} {vs : List Value} (h : SlRow B w v vs) : ∀ g, v.ownBlock = some g → B ≤ g := by
  intro g hg
  rcases h.2 with ⟨rfl, _⟩ | ⟨g', cap, cur, rfl, hB, _⟩
  · simp [Value.ownBlock] at hg
  · simp [Value.ownBlock] at hg; omega
theorem SlRow.lt {B : Nat} {w : World} {v : Value} {vs : List Value} (h : SlRow B w v vs) : ∀ g, v.ownBlock = some g → g < w.heap.size := by
  intro g hg
  rcases h.2 with ⟨rfl, _⟩ | ⟨g', cap, cur, rfl, hB, hh, _⟩
  · simp [Value.ownBlock] at hg
  · simp [Value.ownBlock] at hg
    subst hg
    exact (Array.getElem?_eq_some_iff.1 hh).1
theorem SlRow.keep {B : Nat} {w w' : World} {v : Value} {vs : List Value} (h : SlRow B w v vs) (hk : ∀ g, v.ownBlock = some g → w'.heap[g]? = w.heap[g]?) : SlRow B w' v vs := by
  rcases h with ⟨hl, h | ⟨g, cap, cur, rfl, hB, hg, hr⟩⟩
  · exact ⟨hl, .inl h⟩
  · exact ⟨hl, .inr ⟨g, cap, cur, rfl, hB, (hk g rfl).trans hg, hr⟩⟩
theorem SlRow.up {B : Nat} {w w' : World} {v : Value} {vs : List Value} (h : SlRow B w v vs) (hb : Below w.heap.size w w') : SlRow B w' v vs := h.keep (fun g hg => hb.block g (h.lt g hg))
theorem infoSl : (Try.prog.info? 30).map (fun i => (i.zero, i.size, i.bytes)) = some (some (.slice none 0 0), 1, 24) := by kernel_rfl
theorem news_sl {w : World} {g : Nat} {x : Value} (c0 : w.cell? ⟨g, 0, none⟩ = some x) : ∀ j u, ([x] : List Value)[j]? = some u → w.cell? ((⟨g, 0, none⟩ : Addr).add j) = some u := by
  intro j u hj
  match j, hj with
  | 0, hj => simp at hj; subst hj; simpa [Addr.add] using c0
/-- one more stamp -/
theorem wpList_slAppend {w : World} {ops : Array Oper} {rest : List Oper} {o : Oper} {a : Act} {Q : Exit → Act → World → Prop} (hgd : o.guard = none) (s x : Operand)
    (ho : o.op = .call { callee := .builtin .append, args := #[s, x], argTypes := #[64, 64] }) (B : Nat) (v : Value) (vs : List Value) (ya : Option Addr) (yn yc : Nat) (g : Nat) (hs : a.eval s = v) (hx : a.eval x = .slice (some ⟨g, 0, none⟩) 1 1)
    (hv : SlRow B w v vs) (c0 : w.cell? ⟨g, 0, none⟩ = some (.slice ya yn yc)) (hl : vs.length ≤ 1000000) (hB : B ≤ w.heap.size)
    (h : ∀ g' n c w', SlRow B w' (.slice (some ⟨g', 0, none⟩) n c) (vs ++ [.slice ya yn yc]) → n = vs.length + 1 → w.grownBy w' v.ownBlock → wpList Try.prog ops Q rest (a.put o.dst (.slice (some ⟨g', 0, none⟩) n c)) w') : wpList Try.prog ops Q (o :: rest) a w := by
  obtain ⟨i0, hi, hz0, hz1, hz2⟩ := info_parts1 infoSl
  refine wpList_append_lies w hgd s x 64 ho B 30 i0 _ 1 24 Try.underlying64 hi hz0 hz1 hz2 rfl (by decide) v vs.length vs hs hv ⟨g, 0, none⟩ 1 1 [.slice ya yn yc] hx rfl (news_sl c0) (by intro u hu; simp at hu; rw [hu]; rfl) (by decide) (by unfold maxLen; omega) (by omega) hB w.heap.size rfl ?_
  intro g' cap w' h2 h3 h4 h5
  refine h g' _ cap w' ?_ rfl h3
  unfold SlRow
  rw [List.length_append]
  exact h2
end Go.Proofs.Ytnijccmhajjdoaa

set_option linter.unusedVariables false
namespace Go.Proofs.Ytnijccmhajjdoaa
open Go.RowKit Go.Maps Go.Deep

def agAll (s : List MarkV) (ss : List (List MarkV)) : Bool := ss.all (agreeOut s)
theorem agAll_no {s : List MarkV} {ss : List (List MarkV)} {k : Nat} (hk : k < ss.length) (h : agreeOut s ss[k] = false) : agAll s ss = false := by
  unfold agAll
  rw [List.all_eq_false]
  exact ⟨ss[k], List.getElem_mem hk, by simp [h]⟩
theorem agAll_yes {s : List MarkV} {ss : List (List MarkV)} (h : ∀ k (hk : k < ss.length), agreeOut s ss[k] = true) : agAll s ss = true := by
  unfold agAll
  rw [List.all_eq_true]
  intro x hx
  obtain ⟨k, hk, rfl⟩ := List.getElem_of_mem hx
  exact h k hk
/-- the stamps that a row's cells have -/
def StsAt (w : World) (g : Nat) (ss : List (List MarkV)) : Prop := ∀ i (h : i < ss.length), ∃ a n c, w.cell? ⟨g, i, none⟩ = some (.slice a n c) ∧ MarkSRd w (.slice a n c) ss[i]
theorem StsAt.up {w w' : World} {g : Nat} {ss : List (List MarkV)} (h : StsAt w g ss) (hg : g < w.heap.size) (hw : Below w.heap.size w w') : StsAt w' g ss := by
  intro i hi
  obtain ⟨a, n, c, h1, h2⟩ := h i hi
  exact ⟨a, n, c, (hw.cell (by exact hg)).trans h1, h2.up hw⟩
set_option maxHeartbeats 3200000 in
theorem agreesWithAll_row (s : List MarkV) (ss : List (List MarkV)) (v : Value) (g cap : Nat) (w : World) (hs : SmallMarkS s) (hss : ∀ x ∈ ss, SmallMarkS x) (hl : ss.length ≤ 1048576) (hv : MarkSRd w v s) (hg : g < w.heap.size) (hc : StsAt w g ss) :
    Calls Try.prog 38 #[v, .slice (some ⟨g, 0, none⟩) ss.length cap] w fun e w' => e = .returned (.bool (agAll s ss)) ∧ Below w.heap.size w w' := by
  have HC := hide hc
  have HS := hide hss
  have HV := hide (fun (W : World) (b : Below w.heap.size w W) => hv.up b)
  obtain ⟨a, n, c, rfl⟩ := hv.form
  clear hc hss hv
  go_enter Try.func38, Try.ntmps38
  go_wp2_with fail
  go_loopw [9] (fun i wr => ∃ (k : Nat), k ≤ ss.length ∧ i = .int .i64 k ∧ Hid (∀ j (hj : j < ss.length), j < k → agreeOut s ss[j] = true) ∧ Hid (Below w.heap.size w wr)) (fun i _ => ss.length - (intOf i).toNat)
  case atStart => exact ⟨0, Nat.zero_le _, rfl, hide (fun j _ hj => absurd hj (Nat.not_lt_zero _)), Below.refl _ _⟩
  case round =>
    obtain ⟨k, hk, rfl, HN, HB⟩ := hrel
    by_cases hlt : k < ss.length
    · obtain ⟨xa, xn, xc, c0, hx⟩ := (unhide HC).up hg (unhide HB) k hlt
      have HA := hide (implAgree_any s (.slice a n c) ss[k] (.slice xa xn xc) wr hs (unhide HS _ (List.getElem_mem hlt)) (unhide HV _ (unhide HB)) hx)
      have HNO := hide (fun h => agAll_no (s := s) hlt h)
      have HYES := hide (show agreeOut s ss[k] = true → ∀ j (hj : j < ss.length), j < k + 1 → agreeOut s ss[j] = true from fun h j hj hjk => by
        by_cases e : j = k
        · subst e; exact h
        · exact unhide HN j hj (by omega))
      clear hx
      cases hw : agreeOut s ss[k]
      · rw [hw] at HA
        have HE := hide (unhide HNO hw)
        clear HYES HNO hw
        go_wp2_with fail
        refine (unhide HA).mono ?_
        rintro e w1 ⟨rfl, b1⟩
        have B1 := hide ((unhide HB).trans (b1.mono (unhide HB).size))
        clear b1 c0
        go_wp2_with fail
        go_ret
        exact ⟨ret_bool (unhide HE).symm, unhide B1⟩
      · rw [hw] at HA
        have HY := hide (unhide HYES hw)
        clear HYES HNO hw
        go_wp2_with fail
        refine (unhide HA).mono ?_
        rintro e w1 ⟨rfl, b1⟩
        have B1 := hide ((unhide HB).trans (b1.mono (unhide HB).size))
        clear b1 c0
        go_wp2_with fail
        go_roundw
        case rel => exact ⟨k + 1, by omega, by go_num, HY, B1⟩
        case measure => simp [intOf]; omega
    · have HE := hide (agAll_yes (fun j hj => unhide HN j hj (by omega)))
      go_wp2_with fail
      go_ret
      exact ⟨ret_bool (unhide HE).symm, unhide HB⟩
theorem agreesWithAll_none (s : List MarkV) (v : Value) (a : Option Addr) (cap : Nat) (w : World) (hv : MarkSRd w v s) :
    Calls Try.prog 38 #[v, .slice a 0 cap] w fun e w' => e = .returned (.bool (agAll s [])) ∧ Below w.heap.size w w' := by
  obtain ⟨va, n, c, rfl⟩ := hv.form
  go_enter Try.func38, Try.ntmps38
  go_wp2
  refine wp_loop_rounds 1 ?_
  rw [rounds_succ]
  go_wp2
  go_ret
  exact ⟨rfl, Below.refl _ _⟩
end Go.Proofs.Ytnijccmhajjdoaa
