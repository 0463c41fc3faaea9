/-
  The specification's ChoiceJoin.
-/
/-
  The specification's GatherPut. (Made by wip/mkputgs.py.)
-/
import Derived.Test.YtknkdbfgfcgkiaaGreatDoorMerged34
import Derived.Test.YtknkdbfgfcgkiaaGreatDoorMerged36
import Derived.Test.YtknkdbfgfcgkiaaGreatDoorCopyS
import Derived.Test.YtknkdbfgfcgkiaaGreatDoorPutGJ
import Derived.Test.YtknkdbfgfcgkiaaGreatDoorMerged40
import Derived.Test.YtknkdbfgfcgkiaaGreatDoorMerged18
set_option linter.unusedVariables false
namespace Go.Proofs.YtknkdbfgfcgkiaaGreatDoor
open Go.RowKit Go.Maps Go.Deep

set_option maxHeartbeats 6400000 in
theorem specChJoin_any (ws : List (List ItemV)) (v : Value) (ps : List Int) (u : Value) (w : World) (hs : SmallItemSS ws) (hsp : SmallIntS ps) (h : ItemSSRd w v ws) (hp : IntSRd w u ps) :
    Calls Tryz.prog 26 #[v, u] w fun e w' => ∃ v, e = .returned (.tuple #[v, .bool (chB ws ps)]) ∧ Hid (MarkSRd w' v (chV ws ps)) ∧ Below w.heap.size w w' := by
  have HK := hide (specChoice_any ws v ps u w hs hsp h hp)
  have hsl := hs.1
  have hpl := hsp.1
  cases hch : choiceB ws ps
  · rw [hch] at HK
    obtain ⟨hE1, hE2⟩ := ch_no hch
    rw [hE1, hE2]
    obtain ⟨a, n, c, rfl⟩ := h.form
    obtain ⟨a2, n2, c2, rfl⟩ := hp.form
    clear h hp hch hE1 hE2
    go_enter Tryz.func26, Tryz.ntmps26
    go_wp2_with fail
    refine (unhide HK).mono ?_
    rintro e w1 ⟨rfl, b1⟩
    go_wp2_with fail
    refine bodyPost_ret (v := .tuple #[.slice none 0 0, .bool false]) ?_ rfl ?_
    · simp [results, Tryz.results26, go_sem]
    exact ⟨_, rfl, hide ⟨none, 0, rfl, .inl rfl⟩, b1⟩
  rw [hch] at HK
  obtain ⟨hwin, hlen, hin⟩ := choice_parts hch
  obtain ⟨h1, h6⟩ := winsB_len hwin
  obtain ⟨a, c, rfl, h⟩ := h
  obtain ⟨a2, c2, rfl, hp⟩ := hp
  rcases h with rfl | ⟨b, off, rfl, hb, hc⟩
  · simp at h1
  rcases hp with rfl | ⟨b2, off2, rfl, hb2, hpc⟩
  · simp at hlen; omega
  have HL := hide hlen
  have HIN := hide hin
  have HC := hide hc
  have HP := hide hpc
  have HS := hide hs
  have HCH := hide hch
  rw [← hlen] at HK ⊢
  have hl6 : ps.length ≤ 6 := by omega
  clear hc hpc hs hch hlen h1 h6 hsl hpl hin hwin
  go_enter Tryz.func26, Tryz.ntmps26
  go_wp2_with fail
  refine (unhide HK).mono ?_
  rintro e w1 ⟨rfl, b1⟩
  have B1 := hide b1
  clear b1
  go_wp2_with fail
  go_loopw [6, 7] (fun o i wr => ∃ (k : Nat) (x : List MarkV) (a : Option Addr) (n cc : Nat), k ≤ ps.length ∧ i = .int .i64 k ∧ o = .slice a n cc ∧ Hid (MarkSRd wr (.slice a n cc) x) ∧ Hid (jnTo ws ps k = some x) ∧ Hid (Below w.heap.size w wr)) (fun _ i _ => ps.length - (intOf i).toNat)
  case atStart => exact ⟨0, [], none, 0, 0, Nat.zero_le _, rfl, rfl, hide ⟨none, 0, rfl, .inl rfl⟩, hide rfl, B1⟩
  case round =>
    obtain ⟨k, x, oa, on, oc, hk, rfl, rfl, HX, HJ, HB⟩ := hrel
    by_cases hlt : k < ps.length
    · have hkw : k < ws.length := by have := unhide HL; omega
      obtain ⟨q1, bi, oi, ni, ci, ma, mn, mc, e1, hq1, hni, c1, d1, hm1, hsm1, -⟩ := choice_reach (unhide HS) ((unhide HC).up hb (unhide HB)) hlt (Nat.le_of_eq (unhide HL)) (unhide HIN)
      have p1 := (unhide HP).up hb2 (unhide HB) k hlt
      rw [e1] at p1
      have HA := hide (fun W (bW : Below wr.heap.size wr W) => specJoin_kit x (.slice oa on oc) (stampAt ws ps k) (.slice ma mn mc) W (jn_small (unhide HS) k x (unhide HJ)) hsm1 ((unhide HX).up bW) (hm1.up bW))
      have HNO := hide (fun h => jn_stop (ws := ws) hlt (unhide HJ) h)
      have HYES := hide (fun h => jn_step (unhide HJ) h)
      clear hm1 hsm1 e1
      generalize joinV x (stampAt ws ps k) = y at *
      generalize joinOkB x (stampAt ws ps k) = r at *
      cases r
      · have HE1 := hide (unhide HNO rfl).1
        have HE2 := hide (unhide HNO rfl).2
        clear HNO HYES
        go_wp2_with fail
        go_region_with (go_at_call 61; refine (unhide HA _ ((Below.refl _ _).drew)).mono ?_; rintro e w2 ⟨jv, rfl, HM, hb2'⟩)
        all_goals
          have hb3 := hide ((unhide HB).trans (Below.mono (((Below.refl wr.heap.size wr).drew).trans hb2') (unhide HB).size))
          obtain ⟨ja, jn, jc, rfl⟩ := (unhide HM).form
          clear c1 d1 p1 hb2'
          go_wp2_with fail
          refine bodyPost_ret (v := .tuple #[.slice none 0 0, .bool false]) ?_ rfl ?_
          · simp [results, Tryz.results26, go_sem]
          rw [unhide HE1, unhide HE2]
          exact ⟨_, rfl, hide ⟨none, 0, rfl, .inl rfl⟩, unhide hb3⟩
      · have HJ2 := hide (unhide HYES rfl)
        clear HNO HYES
        go_wp2_with fail
        go_region_with (go_at_call 61; refine (unhide HA _ ((Below.refl _ _).drew)).mono ?_; rintro e w2 ⟨jv, rfl, HM, hb2'⟩)
        all_goals
          have hb3 := hide ((unhide HB).trans (Below.mono (((Below.refl wr.heap.size wr).drew).trans hb2') (unhide HB).size))
          obtain ⟨ja, jn, jc, rfl⟩ := (unhide HM).form
          clear c1 d1 p1 hb2'
          go_wp2_with fail
          go_roundw
          case rel => exact ⟨k + 1, y, ja, jn, jc, by omega, by go_num, rfl, HM, HJ2, hb3⟩
          case measure => simp [intOf]; omega
    · obtain rfl : k = ps.length := by omega
      obtain ⟨hE1, hE2⟩ := ch_yes (unhide HCH) (unhide HJ)
      have HE1 := hide hE1
      have HE2 := hide hE2
      clear hE1 hE2
      go_wp2_with fail
      refine bodyPost_ret (v := .tuple #[.slice oa on oc, .bool true]) ?_ rfl ?_
      · simp [results, Tryz.results26, go_sem]
      rw [unhide HE1, unhide HE2]
      exact ⟨_, rfl, HX, unhide HB⟩
end Go.Proofs.YtknkdbfgfcgkiaaGreatDoor

set_option linter.unusedVariables false
namespace Go.Proofs.YtknkdbfgfcgkiaaGreatDoor
open Go.RowKit Go.Maps Go.Deep

theorem SParts.up {B : Nat} {w w' : World} {u0 u1 u2 : Value} {vs : List Value} {ins : List ByteArray} {wins : List (List ItemV)} {shown : List MarkV} (h : SParts B w u0 u1 u2 vs ins wins shown) (b : Below w.heap.size w w') : SParts B w' u0 u1 u2 vs ins wins shown :=
  ⟨h.tx.up b, h.row.up b, h.len, fun i h1 h2 => (h.each i h1 h2).up b, h.mr.up b⟩
theorem SParts.put {B : Nat} {w : World} {u0 u2 y : Value} {gb n c k : Nat} {x : List ItemV} {vs : List Value} {ins : List ByteArray} {wins : List (List ItemV)} {shown : List MarkV} (h : SParts B w u0 (.slice (some ⟨gb, 0, none⟩) n c) u2 vs ins wins shown) (hy : ItGood B w y x) : SParts B (w.setCell ⟨gb, k, none⟩ y) u0 (.slice (some ⟨gb, 0, none⟩) n c) u2 (vs.set k y) ins (wins.set k x) shown := by
  have t : Turn [gb] w (w.setCell ⟨gb, k, none⟩ y) := (Turn.refl _ _).setCell (by simp) k _
  have off : ∀ {v : Value} {ns : List ItemV}, ItGood B w v ns → ItGood B (w.setCell ⟨gb, k, none⟩ y) v ns := fun h1 => h1.off h.row t (fun q hq => by simp at hq; subst hq; exact .inl rfl)
  refine ⟨h.tx.keep (fun q hq => t.block q (h.tx.lt q hq) (fun hm => by simp at hm; subst hm; exact h.row.apartTx h.tx q hq rfl)), h.row.set k y, by rw [List.length_set, List.length_set, h.len], fun i h1 h2 => ?_, h.mr.keep (fun q hq => t.block q (h.mr.lt q hq) (fun hm => by simp at hm; subst hm; exact h.row.apartMk h.mr q hq rfl))⟩
  rw [List.length_set] at h1 h2
  by_cases ei : i = k
  · subst ei
    simp only [List.getElem_set_self]
    exact off hy
  · rw [List.getElem_set_ne (fun h => ei h.symm), List.getElem_set_ne (fun h => ei h.symm)]
    exact off (h.each i h1 h2)
theorem SParts.wins {B : Nat} {w : World} {u0 u2 : Value} {gb n c : Nat} {vs : List Value} {ins : List ByteArray} {wins : List (List ItemV)} {shown : List MarkV} (h : SParts B w u0 (.slice (some ⟨gb, 0, none⟩) n c) u2 vs ins wins shown) : ItemSSRd w (.slice (some ⟨gb, 0, none⟩) n c) wins :=
  h.row.rdWins h.len (fun i h1 h2 => (h.each i h1 h2).rd)
theorem TxRow.rdT {B : Nat} {w : World} {v : Value} {ts : List ByteArray} (h : TxRow B w v ts) : StringSRd w v ts := by
  obtain ⟨S, h, -⟩ := h.own
  exact h.rd
theorem SParts.rd {B : Nat} {w : World} {u0 u2 : Value} {gb n c : Nat} {vs : List Value} {ins : List ByteArray} {wins : List (List ItemV)} {shown : List MarkV} (h : SParts B w u0 (.slice (some ⟨gb, 0, none⟩) n c) u2 vs ins wins shown) : GatherRd w (.agg #[u0, .slice (some ⟨gb, 0, none⟩) n c, u2]) ⟨ins, wins, shown⟩ :=
  ⟨_, _, _, rfl, h.tx.rdT, h.wins, h.mr.rd⟩
/-- items in rows, all in blocks ahead of N -/
def ItGoodN (B N : Nat) (w : World) (v : Value) (ns : List ItemV) : Prop := ∃ xs, ItRow B w v xs ∧ ItsAre B w xs ns ∧ (∀ q, v.ownBlock = some q → q < N) ∧ ∀ i (h : i < xs.length) q, xs[i].2.ownBlock = some q → q < N
theorem ItGood.n {B : Nat} {w : World} {v : Value} {ns : List ItemV} (h : ItGood B w v ns) : ItGoodN B w.heap.size w v ns := by
  obtain ⟨xs, h1, h2⟩ := h
  exact ⟨xs, h1, h2, h1.lt, fun i hi q hq => (h2.2 i hi (by rw [← h2.1]; exact hi)).2.lt q hq⟩
theorem ItGoodN.good {B N : Nat} {w : World} {v : Value} {ns : List ItemV} (h : ItGoodN B N w v ns) : ItGood B w v ns := by
  obtain ⟨xs, h1, h2, -⟩ := h
  exact ⟨xs, h1, h2⟩
theorem ItGoodN.turn {B N : Nat} {S : List Nat} {w w' : World} {v : Value} {ns : List ItemV} (h : ItGoodN B N w v ns) (t : Turn S w w') (hS : ∀ q ∈ S, q < B ∨ N ≤ q) : ItGoodN B N w' v ns := by
  obtain ⟨xs, h1, h2, h3, h4⟩ := h
  refine ⟨xs, h1.keep (fun q hq => t.block q (h1.lt q hq) (fun hm => ?_)), ⟨h2.1, fun i hi hi' => ⟨(h2.2 i hi hi').1, (h2.2 i hi hi').2.keep (fun q hq => t.block q ((h2.2 i hi hi').2.lt q hq) (fun hm => ?_))⟩⟩, h3, h4⟩
  · have := h1.ge q hq; have := h3 q hq; rcases hS q hm with e | e <;> omega
  · have := (h2.2 i hi hi').2.ge q hq; have := h4 i hi q hq; rcases hS q hm with e | e <;> omega
theorem ItGoodN.off {B N B' : Nat} {w w' : World} {v u : Value} {ns : List ItemV} {vs : List Value} {g : Nat} (h : ItGoodN B N w v ns) (hr : WiRow B' w u vs) (hu : u.ownBlock = some g) (t : Turn [g] w w') : ItGoodN B N w' v ns := by
  obtain ⟨xs, h1, h2, h3, h4⟩ := h
  refine ⟨xs, h1.keep (fun q hq => t.block q (h1.lt q hq) (fun hm => ?_)), ⟨h2.1, fun i hi hi' => ⟨(h2.2 i hi hi').1, (h2.2 i hi hi').2.keep (fun q hq => t.block q ((h2.2 i hi hi').2.lt q hq) (fun hm => ?_))⟩⟩, h3, h4⟩
  · simp at hm; subst hm; exact hr.apartIt h1 q hq hu
  · simp at hm; subst hm; exact hr.apartMk (h2.2 i hi hi').2 q hq hu
structure SPN (B N : Nat) (w : World) (u0 u1 u2 : Value) (vs : List Value) (ins : List ByteArray) (wins : List (List ItemV)) (shown : List MarkV) : Prop where
  tx : TxRow B w u0 ins
  row : WiRow B w u1 vs
  len : vs.length = wins.length
  each : ∀ i (h : i < vs.length) (h' : i < wins.length), ItGoodN B N w vs[i] wins[i]
  mr : MkRow B w u2 shown
  ltx : ∀ q, u0.ownBlock = some q → q < N
  lrow : ∀ q, u1.ownBlock = some q → q < N
  lmr : ∀ q, u2.ownBlock = some q → q < N
theorem SParts.n {B : Nat} {w : World} {u0 u1 u2 : Value} {vs : List Value} {ins : List ByteArray} {wins : List (List ItemV)} {shown : List MarkV} (h : SParts B w u0 u1 u2 vs ins wins shown) : SPN B w.heap.size w u0 u1 u2 vs ins wins shown :=
  ⟨h.tx, h.row, h.len, fun i h1 h2 => (h.each i h1 h2).n, h.mr, h.tx.lt, h.row.lt, h.mr.lt⟩
theorem SPN.parts {B N : Nat} {w : World} {u0 u1 u2 : Value} {vs : List Value} {ins : List ByteArray} {wins : List (List ItemV)} {shown : List MarkV} (h : SPN B N w u0 u1 u2 vs ins wins shown) : SParts B w u0 u1 u2 vs ins wins shown :=
  ⟨h.tx, h.row, h.len, fun i h1 h2 => (h.each i h1 h2).good, h.mr⟩
theorem SPN.turn {B N : Nat} {S : List Nat} {w w' : World} {u0 u1 u2 : Value} {vs : List Value} {ins : List ByteArray} {wins : List (List ItemV)} {shown : List MarkV} (h : SPN B N w u0 u1 u2 vs ins wins shown) (t : Turn S w w') (hS : ∀ q ∈ S, q < B ∨ N ≤ q) : SPN B N w' u0 u1 u2 vs ins wins shown :=
  ⟨h.tx.keep (fun q hq => t.block q (h.tx.lt q hq) (fun hm => by have := h.tx.ge q hq; have := h.ltx q hq; rcases hS q hm with e | e <;> omega)), h.row.keep (fun q hq => t.block q (h.row.lt q hq) (fun hm => by have := h.row.ge q hq; have := h.lrow q hq; rcases hS q hm with e | e <;> omega)), h.len, fun i h1 h2 => (h.each i h1 h2).turn t hS, h.mr.keep (fun q hq => t.block q (h.mr.lt q hq) (fun hm => by have := h.mr.ge q hq; have := h.lmr q hq; rcases hS q hm with e | e <;> omega)), h.ltx, h.lrow, h.lmr⟩
theorem SPN.up {B N : Nat} {w w' : World} {u0 u1 u2 : Value} {vs : List Value} {ins : List ByteArray} {wins : List (List ItemV)} {shown : List MarkV} (h : SPN B N w u0 u1 u2 vs ins wins shown) (b : Below w.heap.size w w') : SPN B N w' u0 u1 u2 vs ins wins shown := h.turn (Turn.of_below (S := []) b) (by simp)
theorem SPN.put {B N : Nat} {w : World} {u0 u2 y : Value} {gb n c k : Nat} {x : List ItemV} {vs : List Value} {ins : List ByteArray} {wins : List (List ItemV)} {shown : List MarkV} (h : SPN B N w u0 (.slice (some ⟨gb, 0, none⟩) n c) u2 vs ins wins shown) (hy : ItGoodN B N w y x) : SPN B N (w.setCell ⟨gb, k, none⟩ y) u0 (.slice (some ⟨gb, 0, none⟩) n c) u2 (vs.set k y) ins (wins.set k x) shown := by
  have t : Turn [gb] w (w.setCell ⟨gb, k, none⟩ y) := (Turn.refl _ _).setCell (by simp) k _
  refine ⟨h.tx.keep (fun q hq => t.block q (h.tx.lt q hq) (fun hm => by simp at hm; subst hm; exact h.row.apartTx h.tx q hq rfl)), h.row.set k y, by rw [List.length_set, List.length_set, h.len], fun i h1 h2 => ?_, h.mr.keep (fun q hq => t.block q (h.mr.lt q hq) (fun hm => by simp at hm; subst hm; exact h.row.apartMk h.mr q hq rfl)), h.ltx, h.lrow, h.lmr⟩
  rw [List.length_set] at h1 h2
  by_cases ei : i = k
  · subst ei
    simp only [List.getElem_set_self]
    exact hy.off h.row rfl t
  · rw [List.getElem_set_ne (fun h => ei h.symm), List.getElem_set_ne (fun h => ei h.symm)]
    exact (h.each i h1 h2).off h.row rfl t
theorem ItGoodN.mono {B B' N : Nat} {w : World} {v : Value} {ns : List ItemV} (h : ItGoodN B N w v ns) (hB : B' ≤ B) : ItGoodN B' N w v ns := by
  obtain ⟨xs, h1, h2, h3, h4⟩ := h
  exact ⟨xs, h1.mono hB, h2.mono hB, h3, h4⟩
theorem SPN.mono {B B' N : Nat} {w : World} {u0 u1 u2 : Value} {vs : List Value} {ins : List ByteArray} {wins : List (List ItemV)} {shown : List MarkV} (h : SPN B N w u0 u1 u2 vs ins wins shown) (hB : B' ≤ B) : SPN B' N w u0 u1 u2 vs ins wins shown :=
  ⟨h.tx.mono hB, h.row.mono hB, h.len, fun i h1 h2 => (h.each i h1 h2).mono hB, h.mr.mono hB, h.ltx, h.lrow, h.lmr⟩
theorem SPN.rd {B N : Nat} {w : World} {u0 u2 : Value} {gb n c : Nat} {vs : List Value} {ins : List ByteArray} {wins : List (List ItemV)} {shown : List MarkV} (h : SPN B N w u0 (.slice (some ⟨gb, 0, none⟩) n c) u2 vs ins wins shown) : GatherRd w (.agg #[u0, .slice (some ⟨gb, 0, none⟩) n c, u2]) ⟨ins, wins, shown⟩ := h.parts.rd
def RetSR (G : GatherV) (s : ShowV) (c : Int) (w : World) (e : Ending) (w' : World) : Prop :=
  ∃ gv sv, e = .returned (.tuple #[gv, sv, .int .i64 c]) ∧ Hid (∀ (S : List Nat) (W : World), (∀ q ∈ S, q < w.heap.size ∨ w'.heap.size ≤ q) → Turn S w' W → GatherRd W gv G ∧ ShowRd W sv s) ∧ Below w.heap.size w w'
theorem gp_bad {g : GatherV} {f : FeedV} (h : feedB g f = false ∨ putI (winAt g f) f.item = 1) : gpC g f = 2 ∧ gpG g f = ⟨[], [], []⟩ ∧ gpS g f = ⟨[], []⟩ := by
  rcases gpWay g f with ⟨h1, c, e, s⟩ | ⟨h1, p1, c, e, s⟩ | ⟨h1, p1, c, e, s⟩ | ⟨h1, p1, b, c, e, s⟩ | ⟨h1, p1, b, j, c, e, s⟩ | ⟨h1, p1, b, j, o, c, e, s⟩ | ⟨h1, p1, b, j, o, c, e, s⟩
  · exact ⟨c, e, s⟩
  · exact ⟨c, e, s⟩
  all_goals
    rcases h with h | h
    · rw [h1] at h; cases h
    · omega
theorem gp_old {g : GatherV} {f : FeedV} (h : feedB g f = true) (p : putI (winAt g f) f.item = 2) : gpC g f = 3 ∧ gpG g f = g ∧ gpS g f = ⟨[], []⟩ := by
  rcases gpWay g f with ⟨h1, c, e, s⟩ | ⟨h1, p1, c, e, s⟩ | ⟨h1, p1, c, e, s⟩ | ⟨h1, p1, b, c, e, s⟩ | ⟨h1, p1, b, j, c, e, s⟩ | ⟨h1, p1, b, j, o, c, e, s⟩ | ⟨h1, p1, b, j, o, c, e, s⟩
  · rw [h1] at h; cases h
  · omega
  · exact ⟨c, e, s⟩
  all_goals omega
theorem order_len {xa xb : List MarkV} (h : orderOut xa xb = 1) : xb.length ≤ 12 := by
  unfold orderOut at h
  split at h
  · rename_i hb
    simp only [Bool.and_eq_true] at hb
    exact mstamp_len hb.2
  · omega
theorem zeroRd (w : World) : GatherRd w (.agg #[.slice none 0 0, .slice none 0 0, .slice none 0 0]) ⟨[], [], []⟩ := (gatherNone w).rd
theorem zeroSh (w : World) : ShowRd w (.agg #[.slice none 0 0, .slice none 0 0]) ⟨[], []⟩ := (showNone w).rd

set_option maxRecDepth 20000 in
set_option maxHeartbeats 6400000 in
theorem specGPut_no (g : GatherV) (f : FeedV) (v u : Value) (w : World) (hs : SmallGather g) (h : GatherOwn [] w v g) (hu : FeedRd w u f) (hno : feedB g f = false) :
    Calls Tryz.prog 6 #[v, u] w fun e w' => RetSR ⟨[], [], []⟩ ⟨[], []⟩ 2 w e w' := by
  have KG := hide (fun (W : World) (bW : Below w.heap.size w W) => specGatherOk_any g v W hs (h.up bW))
  obtain ⟨a0, n0, c0, a1, n1, c1, a2, n2, c2, rfl⟩ := h.rd.form
  obtain ⟨hn0, hn1, -⟩ := gather_parts h.rd
  obtain ⟨sv, rfl, hsv⟩ := hu
  obtain ⟨sa, sn, sc, rfl⟩ := hsv.form
  have HNO := hide hno
  have hl : n0 ≤ 1048576 := by rw [hn0]; exact hs.1.1
  have HN0 := hide hn0
  clear hsv h hs hno hn0 hn1
  obtain ⟨X0, X1, X2, X3, b0, hz⟩ := boxes4 w [.slice a0 n0 c0, .slice a1 n1 c1, .slice a2 n2 c2] [.int .i64 f.inn, .int .i64 f.item.a0, .slice sa sn sc] [.slice none 0 0, .slice none 0 0, .slice none 0 0] [.slice none 0 0, .slice none 0 0] 36 46 36 39
  simp only [List.toArray] at X0 X1 X2 X3 b0 hz
  generalize f.item.a0 = z at *
  cases hG : gatherB g
  · rw [hG] at KG
    clear hG
    go_enter Tryz.func6, Tryz.ntmps6
    go_wp2_with fail
    generalize (((w.alloc (.cells #[.slice a0 n0 c0, .slice a1 n1 c1, .slice a2 n2 c2] 36)).alloc (.cells #[.int .i64 f.inn, .int .i64 z, .slice sa sn sc] 46)).alloc (.cells #[.slice none 0 0, .slice none 0 0, .slice none 0 0] 36)).alloc (.cells #[.slice none 0 0, .slice none 0 0] 39) = W at *
    obtain ⟨⟨x0, x1, x2⟩, -⟩ := BoxF.three X0
    go_wp2_with fail
    refine (unhide KG _ b0).mono ?_
    rintro e w1 ⟨rfl, b1⟩
    have B1 := hide (b0.trans (b1.mono b0.size))
    have R0 := hide (X2.up b1)
    have R1 := hide (X3.up b1)
    clear b1 x0 x1 x2 b0 X0 X1 X2 X3 hz
    obtain ⟨⟨p0, p1, p2⟩, f0, f1, f2⟩ := BoxF.three (unhide R0)
    obtain ⟨⟨s0, s1⟩, h0, h1⟩ := (unhide R1).twoF
    have XB := ((((((unhide R0).set 0 (.slice none 0 0) (by simp)).set 1 (.slice none 0 0) (by simp)).set 2 (.slice none 0 0) (by simp)).far 0 (.slice none 0 0) (show w.heap.size + 2 ≠ w.heap.size + 3 by omega)).far 1 (.slice none 0 0) (show w.heap.size + 2 ≠ w.heap.size + 3 by omega))
    have XC := ((((((unhide R1).far 0 (.slice none 0 0) (show w.heap.size + 3 ≠ w.heap.size + 2 by omega)).far 1 (.slice none 0 0) (show w.heap.size + 3 ≠ w.heap.size + 2 by omega)).far 2 (.slice none 0 0) (show w.heap.size + 3 ≠ w.heap.size + 2 by omega)).set 0 (.slice none 0 0) (by simp)).set 1 (.slice none 0 0) (by simp))
    simp only [List.set] at XB XC
    have TT : Turn [w.heap.size + 2, w.heap.size + 3] w1 (((((w1.setCell ⟨w.heap.size + 2, 0, none⟩ (.slice none 0 0)).setCell ⟨w.heap.size + 2, 1, none⟩ (.slice none 0 0)).setCell ⟨w.heap.size + 2, 2, none⟩ (.slice none 0 0)).setCell ⟨w.heap.size + 3, 0, none⟩ (.slice none 0 0)).setCell ⟨w.heap.size + 3, 1, none⟩ (.slice none 0 0)) := ((((((Turn.refl _ _).setCell (by simp) _ _).setCell (by simp) _ _).setCell (by simp) _ _).setCell (by simp) _ _).setCell (by simp) _ _)
    have BF := hide ((unhide B1).trans (TT.below (unhide B1).size (fun q hq => by simp at hq; omega)))
    clear TT
    go_wp2_with fail
    clear p0 p1 p2 f0 f1 f2 s0 s1 h0 h1
    generalize ((((w1.setCell ⟨w.heap.size + 2, 0, none⟩ (.slice none 0 0)).setCell ⟨w.heap.size + 2, 1, none⟩ (.slice none 0 0)).setCell ⟨w.heap.size + 2, 2, none⟩ (.slice none 0 0)).setCell ⟨w.heap.size + 3, 0, none⟩ (.slice none 0 0)).setCell ⟨w.heap.size + 3, 1, none⟩ (.slice none 0 0) = WF at *
    obtain ⟨⟨q0, q1, q2⟩, -⟩ := BoxF.three XB
    obtain ⟨⟨q3, q4⟩, -⟩ := XC.twoF
    refine bodyPost_ret (v := .tuple #[.agg #[.slice none 0 0, .slice none 0 0, .slice none 0 0], .agg #[.slice none 0 0, .slice none 0 0], .int .i64 2]) ?_ rfl ?_
    · simp [results, Tryz.results6, go_sem, q0, q1, q2, q3, q4]
    exact ⟨_, _, rfl, hide (fun _ _ _ _ => ⟨zeroRd _, zeroSh _⟩), unhide BF⟩
  · rw [hG] at KG
    have hi : f.inn < 0 ∨ (n0 : Int) ≤ f.inn := by
      have := unhide HNO
      unfold feedB at this
      rw [hG] at this
      have h0 := unhide HN0
      simp only [Bool.true_and, Bool.and_eq_false_iff, decide_eq_false_iff_not] at this
      omega
    clear hG HNO HN0
    generalize f.inn = inn at *
    go_enter Tryz.func6, Tryz.ntmps6
    go_wp2_with fail
    generalize (((w.alloc (.cells #[.slice a0 n0 c0, .slice a1 n1 c1, .slice a2 n2 c2] 36)).alloc (.cells #[.int .i64 inn, .int .i64 z, .slice sa sn sc] 46)).alloc (.cells #[.slice none 0 0, .slice none 0 0, .slice none 0 0] 36)).alloc (.cells #[.slice none 0 0, .slice none 0 0] 39) = W at *
    obtain ⟨⟨x0, x1, x2⟩, -⟩ := BoxF.three X0
    go_wp2_with fail
    refine (unhide KG _ b0).mono ?_
    rintro e w1 ⟨rfl, b1⟩
    have B1 := hide (b0.trans (b1.mono b0.size))
    have R0 := hide (X2.up b1)
    have R1 := hide (X3.up b1)
    have XA := hide (X0.up b1)
    have XF := hide (X1.up b1)
    clear b1 x0 x1 x2 b0 X0 X1 X2 X3 hz
    obtain ⟨⟨x0, x1, x2⟩, -⟩ := BoxF.three (unhide XA)
    obtain ⟨⟨y0, y1, y2⟩, -⟩ := BoxF.three (unhide XF)
    rcases hi with hi | hi
    · skip
      obtain ⟨⟨p0, p1, p2⟩, f0, f1, f2⟩ := BoxF.three (unhide R0)
      obtain ⟨⟨s0, s1⟩, h0, h1⟩ := (unhide R1).twoF
      have XB := ((((((unhide R0).set 0 (.slice none 0 0) (by simp)).set 1 (.slice none 0 0) (by simp)).set 2 (.slice none 0 0) (by simp)).far 0 (.slice none 0 0) (show w.heap.size + 2 ≠ w.heap.size + 3 by omega)).far 1 (.slice none 0 0) (show w.heap.size + 2 ≠ w.heap.size + 3 by omega))
      have XC := ((((((unhide R1).far 0 (.slice none 0 0) (show w.heap.size + 3 ≠ w.heap.size + 2 by omega)).far 1 (.slice none 0 0) (show w.heap.size + 3 ≠ w.heap.size + 2 by omega)).far 2 (.slice none 0 0) (show w.heap.size + 3 ≠ w.heap.size + 2 by omega)).set 0 (.slice none 0 0) (by simp)).set 1 (.slice none 0 0) (by simp))
      simp only [List.set] at XB XC
      have TT : Turn [w.heap.size + 2, w.heap.size + 3] w1 (((((w1.setCell ⟨w.heap.size + 2, 0, none⟩ (.slice none 0 0)).setCell ⟨w.heap.size + 2, 1, none⟩ (.slice none 0 0)).setCell ⟨w.heap.size + 2, 2, none⟩ (.slice none 0 0)).setCell ⟨w.heap.size + 3, 0, none⟩ (.slice none 0 0)).setCell ⟨w.heap.size + 3, 1, none⟩ (.slice none 0 0)) := ((((((Turn.refl _ _).setCell (by simp) _ _).setCell (by simp) _ _).setCell (by simp) _ _).setCell (by simp) _ _).setCell (by simp) _ _)
      have BF := hide ((unhide B1).trans (TT.below (unhide B1).size (fun q hq => by simp at hq; omega)))
      clear TT
      go_wp2_with fail
      clear p0 p1 p2 f0 f1 f2 s0 s1 h0 h1
      generalize ((((w1.setCell ⟨w.heap.size + 2, 0, none⟩ (.slice none 0 0)).setCell ⟨w.heap.size + 2, 1, none⟩ (.slice none 0 0)).setCell ⟨w.heap.size + 2, 2, none⟩ (.slice none 0 0)).setCell ⟨w.heap.size + 3, 0, none⟩ (.slice none 0 0)).setCell ⟨w.heap.size + 3, 1, none⟩ (.slice none 0 0) = WF at *
      obtain ⟨⟨q0, q1, q2⟩, -⟩ := BoxF.three XB
      obtain ⟨⟨q3, q4⟩, -⟩ := XC.twoF
      refine bodyPost_ret (v := .tuple #[.agg #[.slice none 0 0, .slice none 0 0, .slice none 0 0], .agg #[.slice none 0 0, .slice none 0 0], .int .i64 2]) ?_ rfl ?_
      · simp [results, Tryz.results6, go_sem, q0, q1, q2, q3, q4]
      exact ⟨_, _, rfl, hide (fun _ _ _ _ => ⟨zeroRd _, zeroSh _⟩), unhide BF⟩
    · have h00 : ¬ (inn < 0) := by omega
      have hge : decide (inn ≥ (n0 : Int)) = true := by simpa using hi
      obtain ⟨⟨p0, p1, p2⟩, f0, f1, f2⟩ := BoxF.three (unhide R0)
      obtain ⟨⟨s0, s1⟩, h0, h1⟩ := (unhide R1).twoF
      have XB := ((((((unhide R0).set 0 (.slice none 0 0) (by simp)).set 1 (.slice none 0 0) (by simp)).set 2 (.slice none 0 0) (by simp)).far 0 (.slice none 0 0) (show w.heap.size + 2 ≠ w.heap.size + 3 by omega)).far 1 (.slice none 0 0) (show w.heap.size + 2 ≠ w.heap.size + 3 by omega))
      have XC := ((((((unhide R1).far 0 (.slice none 0 0) (show w.heap.size + 3 ≠ w.heap.size + 2 by omega)).far 1 (.slice none 0 0) (show w.heap.size + 3 ≠ w.heap.size + 2 by omega)).far 2 (.slice none 0 0) (show w.heap.size + 3 ≠ w.heap.size + 2 by omega)).set 0 (.slice none 0 0) (by simp)).set 1 (.slice none 0 0) (by simp))
      simp only [List.set] at XB XC
      have TT : Turn [w.heap.size + 2, w.heap.size + 3] w1 (((((w1.setCell ⟨w.heap.size + 2, 0, none⟩ (.slice none 0 0)).setCell ⟨w.heap.size + 2, 1, none⟩ (.slice none 0 0)).setCell ⟨w.heap.size + 2, 2, none⟩ (.slice none 0 0)).setCell ⟨w.heap.size + 3, 0, none⟩ (.slice none 0 0)).setCell ⟨w.heap.size + 3, 1, none⟩ (.slice none 0 0)) := ((((((Turn.refl _ _).setCell (by simp) _ _).setCell (by simp) _ _).setCell (by simp) _ _).setCell (by simp) _ _).setCell (by simp) _ _)
      have BF := hide ((unhide B1).trans (TT.below (unhide B1).size (fun q hq => by simp at hq; omega)))
      clear TT
      go_wp2_with fail
      clear p0 p1 p2 f0 f1 f2 s0 s1 h0 h1
      generalize ((((w1.setCell ⟨w.heap.size + 2, 0, none⟩ (.slice none 0 0)).setCell ⟨w.heap.size + 2, 1, none⟩ (.slice none 0 0)).setCell ⟨w.heap.size + 2, 2, none⟩ (.slice none 0 0)).setCell ⟨w.heap.size + 3, 0, none⟩ (.slice none 0 0)).setCell ⟨w.heap.size + 3, 1, none⟩ (.slice none 0 0) = WF at *
      obtain ⟨⟨q0, q1, q2⟩, -⟩ := BoxF.three XB
      obtain ⟨⟨q3, q4⟩, -⟩ := XC.twoF
      refine bodyPost_ret (v := .tuple #[.agg #[.slice none 0 0, .slice none 0 0, .slice none 0 0], .agg #[.slice none 0 0, .slice none 0 0], .int .i64 2]) ?_ rfl ?_
      · simp [results, Tryz.results6, go_sem, q0, q1, q2, q3, q4]
      exact ⟨_, _, rfl, hide (fun _ _ _ _ => ⟨zeroRd _, zeroSh _⟩), unhide BF⟩
end Go.Proofs.YtknkdbfgfcgkiaaGreatDoor
