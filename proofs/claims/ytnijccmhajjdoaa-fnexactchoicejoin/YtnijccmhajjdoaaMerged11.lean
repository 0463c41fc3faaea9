/-
  The specification's ChoiceJoin.
-/
/-
  Rows of stamps (each cell a list of marks) that one may append to.
-/
import Derived.Test.YtnijccmhajjdoaaMerged17
import Derived.Test.YtnijccmhajjdoaaChoiceS2
import Derived.Test.YtnijccmhajjdoaaMarkRowsOwn
import Derived.Deep.AppendLies
set_option linter.unusedVariables false
namespace Go.Proofs.Ytnijccmhajjdoaa
open Go.RowKit Go.Maps Go.Deep

set_option maxHeartbeats 6400000 in
theorem specChJoin_any (ws : List (List ItemV)) (v : Value) (ps : List Int) (u : Value) (w : World) (hs : SmallItemSS ws) (hsp : SmallIntS ps) (h : ItemSSRd w v ws) (hp : IntSRd w u ps) :
    Calls Try.prog 10 #[v, u] w fun e w' => ∃ v, e = .returned (.tuple #[v, .bool (chB ws ps)]) ∧ Hid (MarkSRd w' v (chV ws ps)) ∧ Below w.heap.size w w' := by
  have HK := hide (specChoice_any ws v ps u w hs hsp h hp)
  have hsl := hs.1
  have hpl := hsp.1
  cases hch : choiceB ws ps
  · rw [hch] at HK
    obtain ⟨hE1, hE2⟩ := ch_no hch
    rw [hE1, hE2]
    obtain ⟨a, n, c, rfl⟩ := h.form
    obtain ⟨a2, n2, c2, rfl⟩ := hp.form
    clear h hp hch hE1 hE2
    go_enter Try.func10, Try.ntmps10
    go_wp2_with fail
    refine (unhide HK).mono ?_
    rintro e w1 ⟨rfl, b1⟩
    go_wp2_with fail
    refine bodyPost_ret (v := .tuple #[.slice none 0 0, .bool false]) ?_ rfl ?_
    · simp [results, Try.results10, go_sem]
    exact ⟨_, rfl, hide ⟨none, 0, rfl, .inl rfl⟩, b1⟩
  rw [hch] at HK
  obtain ⟨hwin, hlen, hin⟩ := choice_parts hch
  obtain ⟨h1, h6⟩ := winsB_len hwin
  obtain ⟨a, c, rfl, h⟩ := h
  obtain ⟨a2, c2, rfl, hp⟩ := hp
  rcases h with rfl | ⟨b, off, rfl, hb, hc⟩
  · simp at h1
  rcases hp with rfl | ⟨b2, off2, rfl, hb2, hpc⟩
  · simp at hlen; omega
  have HL := hide hlen
  have HIN := hide hin
  have HC := hide hc
  have HP := hide hpc
  have HS := hide hs
  have HCH := hide hch
  rw [← hlen] at HK ⊢
  have hl6 : ps.length ≤ 6 := by omega
  clear hc hpc hs hch hlen h1 h6 hsl hpl hin hwin
  go_enter Try.func10, Try.ntmps10
  go_wp2_with fail
  refine (unhide HK).mono ?_
  rintro e w1 ⟨rfl, b1⟩
  have B1 := hide b1
  clear b1
  go_wp2_with fail
  go_loopw [6, 7] (fun o i wr => ∃ (k : Nat) (x : List MarkV) (a : Option Addr) (n cc : Nat), k ≤ ps.length ∧ i = .int .i64 k ∧ o = .slice a n cc ∧ Hid (MarkSRd wr (.slice a n cc) x) ∧ Hid (jnTo ws ps k = some x) ∧ Hid (Below w.heap.size w wr)) (fun _ i _ => ps.length - (intOf i).toNat)
  case atStart => exact ⟨0, [], none, 0, 0, Nat.zero_le _, rfl, rfl, hide ⟨none, 0, rfl, .inl rfl⟩, hide rfl, B1⟩
  case round =>
    obtain ⟨k, x, oa, on, oc, hk, rfl, rfl, HX, HJ, HB⟩ := hrel
    by_cases hlt : k < ps.length
    · have hkw : k < ws.length := by have := unhide HL; omega
      obtain ⟨q1, bi, oi, ni, ci, ma, mn, mc, e1, hq1, hni, c1, d1, hm1, hsm1, -⟩ := choice_reach (unhide HS) ((unhide HC).up hb (unhide HB)) hlt (Nat.le_of_eq (unhide HL)) (unhide HIN)
      have p1 := (unhide HP).up hb2 (unhide HB) k hlt
      rw [e1] at p1
      have HA := hide (fun W (bW : Below wr.heap.size wr W) => specJoin_kit x (.slice oa on oc) (stampAt ws ps k) (.slice ma mn mc) W (jn_small (unhide HS) k x (unhide HJ)) hsm1 ((unhide HX).up bW) (hm1.up bW))
      have HNO := hide (fun h => jn_stop (ws := ws) hlt (unhide HJ) h)
      have HYES := hide (fun h => jn_step (unhide HJ) h)
      clear hm1 hsm1 e1
      generalize joinV x (stampAt ws ps k) = y at *
      generalize joinOkB x (stampAt ws ps k) = r at *
      cases r
      · have HE1 := hide (unhide HNO rfl).1
        have HE2 := hide (unhide HNO rfl).2
        clear HNO HYES
        go_wp2_with fail
        go_region_with (go_at_call 27; refine (unhide HA _ ((Below.refl _ _).drew)).mono ?_; rintro e w2 ⟨jv, rfl, HM, hb2'⟩)
        all_goals
          have hb3 := hide ((unhide HB).trans (Below.mono (((Below.refl wr.heap.size wr).drew).trans hb2') (unhide HB).size))
          obtain ⟨ja, jn, jc, rfl⟩ := (unhide HM).form
          clear c1 d1 p1 hb2'
          go_wp2_with fail
          refine bodyPost_ret (v := .tuple #[.slice none 0 0, .bool false]) ?_ rfl ?_
          · simp [results, Try.results10, go_sem]
          rw [unhide HE1, unhide HE2]
          exact ⟨_, rfl, hide ⟨none, 0, rfl, .inl rfl⟩, unhide hb3⟩
      · have HJ2 := hide (unhide HYES rfl)
        clear HNO HYES
        go_wp2_with fail
        go_region_with (go_at_call 27; refine (unhide HA _ ((Below.refl _ _).drew)).mono ?_; rintro e w2 ⟨jv, rfl, HM, hb2'⟩)
        all_goals
          have hb3 := hide ((unhide HB).trans (Below.mono (((Below.refl wr.heap.size wr).drew).trans hb2') (unhide HB).size))
          obtain ⟨ja, jn, jc, rfl⟩ := (unhide HM).form
          clear c1 d1 p1 hb2'
          go_wp2_with fail
          go_roundw
          case rel => exact ⟨k + 1, y, ja, jn, jc, by omega, by go_num, rfl, HM, HJ2, hb3⟩
          case measure => simp [intOf]; omega
    · obtain rfl : k = ps.length := by omega
      obtain ⟨hE1, hE2⟩ := ch_yes (unhide HCH) (unhide HJ)
      have HE1 := hide hE1
      have HE2 := hide hE2
      clear hE1 hE2
      go_wp2_with fail
      refine bodyPost_ret (v := .tuple #[.slice oa on oc, .bool true]) ?_ rfl ?_
      · simp [results, Try.results10, go_sem]
      rw [unhide HE1, unhide HE2]
      exact ⟨_, rfl, HX, unhide HB⟩
end Go.Proofs.Ytnijccmhajjdoaa

set_option linter.unusedVariables false
namespace Go.Proofs.Ytnijccmhajjdoaa
open Go.RowKit Go.Maps Go.Deep

def SlRow (B : Nat) (w : World) (v : Value) (vs : List Value) : Prop := w.ownsRow B 30 1 v vs.length vs
theorem SlRow.nil (B : Nat) (w : World) : SlRow B w (.slice none 0 0) [] := ⟨rfl, .inl ⟨rfl, rfl⟩⟩
theorem SlRow.slice {B : Nat} {w : World} {v : Value} {vs : List Value} (h : SlRow B w v vs) : (v = .slice none 0 0 ∧ vs = []) ∨ ∃ g c, v = .slice (some ⟨g, 0, none⟩) vs.length c ∧ vs.length ≤ c ∧ g < w.heap.size ∧ ∀ i (h : i < vs.length), w.cell? ⟨g, i, none⟩ = some vs[i] := by
  have hh : w.ownsRow B 30 1 v vs.length vs := h
  rcases h with ⟨_, ⟨rfl, h0⟩ | ⟨g, cap, cur, rfl, hB, hg, hnc, _⟩⟩
  · exact .inl ⟨rfl, List.eq_nil_of_length_eq_zero h0⟩
  · refine .inr ⟨g, cap, rfl, hnc, (Array.getElem?_eq_some_iff.1 hg).1, fun i hi => ?_⟩
    rw [hh.cellAt _ (by omega)]
    exact List.getElem?_eq_getElem hi
theorem SlRow.ge {B : Nat} {w : World} {v : Value} {vs : List Value} (h : SlRow B w v vs) : ∀ g, v.ownBlock = some g → B ≤ g := by
  intro g hg
  rcases h.2 with ⟨rfl, _⟩ | ⟨g', cap, cur, rfl, hB, _⟩
  · simp [Value.ownBlock] at hg
  · simp [Value.ownBlock] at hg; omega
theorem SlRow.lt {B : Nat} {w : World} {v : Value} {vs : List Value} (h : SlRow B w v vs) : ∀ g, v.ownBlock = some g → g < w.heap.size := by
  intro g hg
  rcases h.2 with ⟨rfl, _⟩ | ⟨g', cap, cur, rfl, hB, hh, _⟩
  · simp [Value.ownBlock] at hg
  · simp [Value.ownBlock] at hg
    subst hg
    exact (Array.getElem?_eq_some_iff.1 hh).1
theorem SlRow.keep {B : Nat} {w w' : World} {v : Value} {vs : List Value} (h : SlRow B w v vs) (hk : ∀ g, v.ownBlock = some g → w'.heap[g]? = w.heap[g]?) : SlRow B w' v vs := by
  rcases h with ⟨hl, h | ⟨g, cap, cur, rfl, hB, hg, hr⟩⟩
  · exact ⟨hl, .inl h⟩
  · exact ⟨hl, .inr ⟨g, cap, cur, rfl, hB, (hk g rfl).trans hg, hr⟩⟩
theorem SlRow.up {B : Nat} {w w' : World} {v : Value} {vs : List Value} (h : SlRow B w v vs) (hb : Below w.heap.size w w') : SlRow B w' v vs := h.keep (fun g hg => hb.block g (h.lt g hg))
theorem infoSl : (Try.prog.info? 30).map (fun i => (i.zero, i.size, i.bytes)) = some (some (.slice none 0 0), 1, 24) := by kernel_rfl
theorem news_sl {w : World} {g : Nat} {x : Value} (c0 : w.cell? ⟨g, 0, none⟩ = some x) : ∀ j u, ([x] : List Value)[j]? = some u → w.cell? ((⟨g, 0, none⟩ : Addr).add j) = some u := by
  intro j u hj
  match j, hj with
  | 0, hj => simp at hj; subst hj; simpa [Addr.add] using c0
/-- one more stamp -/
theorem wpList_slAppend {w : World} {ops : Array Oper} {rest : List Oper} {o : Oper} {a : Act} {Q : Exit → Act → World → Prop} (hgd : o.guard = none) (s x : Operand)
    (ho : o.op = .call { callee := .builtin .append, args := #[s, x], argTypes := #[64, 64] }) (B : Nat) (v : Value) (vs : List Value) (ya : Option Addr) (yn yc : Nat) (g : Nat) (hs : a.eval s = v) (hx : a.eval x = .slice (some ⟨g, 0, none⟩) 1 1)
    (hv : SlRow B w v vs) (c0 : w.cell? ⟨g, 0, none⟩ = some (.slice ya yn yc)) (hl : vs.length ≤ 1000000) (hB : B ≤ w.heap.size)
    (h : ∀ g' n c w', SlRow B w' (.slice (some ⟨g', 0, none⟩) n c) (vs ++ [.slice ya yn yc]) → n = vs.length + 1 → w.grownBy w' v.ownBlock → wpList Try.prog ops Q rest (a.put o.dst (.slice (some ⟨g', 0, none⟩) n c)) w') : wpList Try.prog ops Q (o :: rest) a w := by
  obtain ⟨i0, hi, hz0, hz1, hz2⟩ := info_parts1 infoSl
  refine wpList_append_lies w hgd s x 64 ho B 30 i0 _ 1 24 Try.underlying64 hi hz0 hz1 hz2 rfl (by decide) v vs.length vs hs hv ⟨g, 0, none⟩ 1 1 [.slice ya yn yc] hx rfl (news_sl c0) (by intro u hu; simp at hu; rw [hu]; rfl) (by decide) (by unfold maxLen; omega) (by omega) hB w.heap.size rfl ?_
  intro g' cap w' h2 h3 h4 h5
  refine h g' _ cap w' ?_ rfl h3
  unfold SlRow
  rw [List.length_append]
  exact h2
end Go.Proofs.Ytnijccmhajjdoaa
