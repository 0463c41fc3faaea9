/-
  The specification's copy of a gatherer. (Made by wip/mkcopy.py.)
-/
import Derived.Test.YtknkdbfgfcgkiaaGreatDoorCopyM
import Derived.Test.YtknkdbfgfcgkiaaGreatDoorMerged24
import Derived.Test.YtknkdbfgfcgkiaaGreatDoorMerged22
import Derived.Deep.RegionHeld
import Derived.Deep.DeepCutAuto
import Derived.BigRegion
set_option linter.unusedVariables false
namespace Go.Proofs.YtknkdbfgfcgkiaaGreatDoor
open Go.RowKit Go.Maps Go.Deep

/-- more texts, out of a list, at a step of a region that draws its order -/
theorem step_txSpread {w : World} {ops : Array Oper} {o : Oper} {a : Act} {K : Act → World → Prop} {Q : Exit → Act → World → Prop} {E : Prop} (hgd : o.guard = none) (s x : Operand)
    (ho : o.op = .call { callee := .builtin .append, args := #[s, x], argTypes := #[22, 22] }) (B : Nat) (v : Value) (ts ys : List ByteArray) (b off c : Nat) (hs : a.eval s = v) (hx : a.eval x = .slice (some ⟨b, off, none⟩) ys.length c)
    (hv : TxRow B w v ts) (c0 : StrsAt w b off ys) (hm : 0 < ys.length) (hl : ts.length + ys.length ≤ 1000000) (hB : B ≤ w.heap.size)
    (h : ∀ g' n c w', TxRow B w' (.slice (some ⟨g', 0, none⟩) n c) (ts ++ ys) → n = (ts ++ ys).length → w.grownBy w' v.ownBlock → (v.ownBlock = some g' ∨ g' = w.heap.size) → K (a.put o.dst (.slice (some ⟨g', 0, none⟩) n c)) w') :
    if Region.wanted o (yielded ops a.tmps) = true then Oper.wp Tryz.prog o a w K Q else E := by
  obtain ⟨i0, hi, hz0, hz1, hz2⟩ := info_parts1 infoTx
  refine step_append_lies w hgd s x 22 ho B 9 i0 _ 1 16 Tryz.underlying22 hi hz0 hz1 hz2 rfl (by decide) v ts.length (ts.map .string) hs hv ⟨b, off, none⟩ ys.length c (ys.map .string) hx (by simp) (fun j u hj => ?_) (by intro u hu; simp at hu; obtain ⟨y, _, rfl⟩ := hu; rfl) hm (by unfold maxLen; omega) (by omega) hB w.heap.size rfl ?_
  · have hj' : j < ys.length := by
      have := (List.getElem?_eq_some_iff.1 hj).1
      simpa using this
    have e : u = .string ys[j] := by
      rw [List.getElem?_map, List.getElem?_eq_getElem hj'] at hj
      simpa using hj.symm
    rw [e]
    have := c0 j hj'
    by_cases h0 : j = 0
    · subst h0; simpa [Addr.add] using this
    · simpa [Addr.add, h0] using this
  intro g' cap w' h2 h3 h4 h5
  refine h g' _ cap w' ?_ (by rw [List.length_append]) h3 h4
  unfold TxRow
  rw [List.length_append, List.map_append]
  exact h2
theorem step_wiAppend {w : World} {ops : Array Oper} {o : Oper} {a : Act} {K : Act → World → Prop} {Q : Exit → Act → World → Prop} {E : Prop} (hgd : o.guard = none) (s x : Operand)
    (ho : o.op = .call { callee := .builtin .append, args := #[s, x], argTypes := #[33, 33] }) (B : Nat) (v : Value) (vs : List Value) (ya : Option Addr) (yn yc : Nat) (g : Nat) (hs : a.eval s = v) (hx : a.eval x = .slice (some ⟨g, 0, none⟩) 1 1)
    (hv : WiRow B w v vs) (c0 : w.cell? ⟨g, 0, none⟩ = some (.slice ya yn yc)) (hl : vs.length ≤ 1000000) (hB : B ≤ w.heap.size)
    (h : ∀ g' n c w', WiRow B w' (.slice (some ⟨g', 0, none⟩) n c) (vs ++ [.slice ya yn yc]) → n = vs.length + 1 → w.grownBy w' v.ownBlock → K (a.put o.dst (.slice (some ⟨g', 0, none⟩) n c)) w') :
    if Region.wanted o (yielded ops a.tmps) = true then Oper.wp Tryz.prog o a w K Q else E := by
  obtain ⟨i0, hi, hz0, hz1, hz2⟩ := info_parts1 infoWi
  refine step_append_lies w hgd s x 33 ho B 60 i0 _ 1 24 Tryz.underlying33 hi hz0 hz1 hz2 rfl (by decide) v vs.length vs hs hv ⟨g, 0, none⟩ 1 1 [.slice ya yn yc] hx rfl (news_wi c0) (by intro u hu; simp at hu; rw [hu]; rfl) (by decide) (by unfold maxLen; omega) (by omega) hB w.heap.size rfl ?_
  intro g' cap w' h2 h3 h4 h5
  refine h g' _ cap w' ?_ rfl h3
  unfold WiRow
  rw [List.length_append]
  exact h2
theorem l14Items_all (ns : List ItemV) (v : Value) (w : World) (hl : ns.length ≤ 8) (hm : ∀ x ∈ ns, x.a1 ≠ [] ∧ x.a1.length ≤ 1000000) (h : ItemSRd w v ns) :
    Calls Tryz.prog 57 #[v] w fun e w' => ∃ u, e = .returned u ∧ Hid (ItGood w.heap.size w' u ns) ∧ Below w.heap.size w w' := by
  obtain ⟨a, c, rfl, h⟩ := h
  rcases h with rfl | ⟨b, off, rfl, hb, hc⟩
  · refine (l14Items_none w a c).mono ?_
    rintro e w' ⟨rfl, rfl⟩
    exact ⟨_, rfl, hide ⟨[], ItRow.nil _ _, rfl, fun i h => by simp at h⟩, Below.refl _ _⟩
  · refine (l14Items_row w b off c ns hl hm hb hc).mono ?_
    rintro e w' ⟨u, xs, rfl, h, b⟩
    exact ⟨u, rfl, hide ⟨xs, (unhide h).1, (unhide h).2⟩, b⟩
theorem ItGood.form {B : Nat} {w : World} {v : Value} {ns : List ItemV} (h : ItGood B w v ns) : ∃ a c, v = .slice a ns.length c := by
  obtain ⟨xs, h1, h2⟩ := h
  obtain ⟨a, c, e⟩ := h1.slice
  exact ⟨a, c, by rw [e, h2.1]⟩
/-- the copy while its windows are made: gd: its block, M: where the windows begin -/
structure CL (w : World) (A : List Value) (N M : Nat) (ins : List ByteArray) (shown : List MarkV) (gd : Nat) (u0 u1 u2 : Value) (vs : List Value) (ws : List (List ItemV)) (W : World) : Prop where
  arg : BoxF W w.heap.size A
  res : BoxF W (w.heap.size + 1) nil3
  bel : Below w.heap.size w W
  lo : w.heap.size + 2 ≤ N
  tx : TxRow N W u0 ins
  mr : MkRow N W u2 shown
  box : BoxF W gd [u0, u1, u2]
  ng : N ≤ gd
  gm : gd < M
  msz : M ≤ W.heap.size
  row : WiRow M W u1 vs
  len : vs.length = ws.length
  each : ∀ i (h : i < vs.length) (h' : i < ws.length), ItGood M W vs[i] ws[i]
  dt : u0.ownBlock ≠ some gd
  dm : u2.ownBlock ≠ some gd
theorem CS.done {w : World} {A : List Value} {N : Nat} {ins : List ByteArray} {shown : List MarkV} {d : Nat} {v0 v2 : Value} {W : World} (h : CS w A N ins shown none (some d) (some v0) (some v2) W) :
    let X := ((W.setCell ⟨d, 0, none⟩ v0).setCell ⟨d, 1, none⟩ (.slice none 0 0)).setCell ⟨d, 2, none⟩ v2
    CL w A N W.heap.size ins shown d v0 (.slice none 0 0) v2 [] [] X := by
  intro X
  have t : Turn [d] W X := (((Turn.refl _ _).setCell (by simp) _ _).setCell (by simp) _ _).setCell (by simp) _ _
  obtain ⟨hd, hb⟩ := h.box d rfl
  have hlo := h.lo
  have bx : BoxF X d [v0, .slice none 0 0, v2] := by
    have := ((hb.set 0 v0 (by simp [nil3])).set 1 (.slice none 0 0) (by simp [nil3])).set 2 v2 (by simp [nil3])
    simpa [nil3, List.set] using this
  exact ⟨h.arg.turn t (by simp; omega), h.res.turn t (by simp; omega), h.bel.trans (t.below h.bel.size (fun k hk => by simp at hk; omega)), hlo,
    (h.tx v0 rfl).keep (fun k hk => t.block k ((h.tx v0 rfl).lt k hk) (fun hm => by simp at hm; subst hm; exact h.dt k v0 rfl rfl hk)),
    (h.mr v2 rfl).keep (fun k hk => t.block k ((h.mr v2 rfl).lt k hk) (fun hm => by simp at hm; subst hm; exact h.dm k v2 rfl rfl hk)),
    bx, hd, hb.1.1, t.size, WiRow.nil _ _, rfl, fun i hi => by simp at hi, h.dt d v0 rfl rfl, h.dm d v2 rfl rfl⟩
theorem CL.drew {w : World} {A : List Value} {N M : Nat} {ins : List ByteArray} {shown : List MarkV} {gd : Nat} {u0 u1 u2 : Value} {vs : List Value} {ws : List (List ItemV)} {W W' : World} (h : CL w A N M ins shown gd u0 u1 u2 vs ws W) (b : Below W.heap.size W W') : CL w A N M ins shown gd u0 u1 u2 vs ws W' :=
  ⟨h.arg.up b, h.res.up b, h.bel.trans (b.mono h.bel.size), h.lo, h.tx.up b, h.mr.up b, h.box.up b, h.ng, h.gm, Nat.le_trans h.msz b.size, h.row.up b, h.len, fun i h1 h2 => (h.each i h1 h2).up b, h.dt, h.dm⟩
theorem CL.grow {w : World} {A : List Value} {N M : Nat} {ins : List ByteArray} {shown : List MarkV} {gd : Nat} {u0 u1 u2 y : Value} {vs : List Value} {ws : List (List ItemV)} {x : List ItemV} {W W3 : World} {g n c : Nat} (h : CL w A N M ins shown gd u0 u1 u2 vs ws W) (hy : ItGood M W y x) (hr : WiRow M W3 (.slice (some ⟨g, 0, none⟩) n c) (vs ++ [y])) (hg : W.grownBy W3 u1.ownBlock) :
    CL w A N M ins shown gd u0 (.slice (some ⟨g, 0, none⟩) n c) u2 (vs ++ [y]) (ws ++ [x]) (W3.setCell ⟨gd, 1, none⟩ (.slice (some ⟨g, 0, none⟩) n c)) ∧ BoxF W3 gd [u0, u1, u2] ∧ BoxF W3 w.heap.size A ∧ Below w.heap.size w W3 ∧ Below w.heap.size w (W3.setCell ⟨gd, 1, none⟩ (.slice (some ⟨g, 0, none⟩) n c)) := by
  have t1 : Turn u1.ownBlock.toList W W3 := Turn.of_grown hg (fun k hk => .inl (by simpa using hk))
  have t2 : Turn [gd] W3 (W3.setCell ⟨gd, 1, none⟩ (.slice (some ⟨g, 0, none⟩) n c)) := (Turn.refl _ _).setCell (by simp) _ _
  have hlo := h.lo
  have hng := h.ng
  have hgm := h.gm
  have hu1 : ∀ k ∈ u1.ownBlock.toList, M ≤ k := fun k hk => h.row.ge k (by simpa using hk)
  have hnot : ∀ q, q < M → q ∉ u1.ownBlock.toList := fun q hq hm => by have := hu1 q hm; omega
  have arg3 := h.arg.turn t1 (hnot _ (by omega))
  have res3 := h.res.turn t1 (hnot _ (by omega))
  have bel3 := h.bel.trans (t1.below h.bel.size (fun k hk => by have := hu1 k hk; omega))
  have tx3 : TxRow N W3 u0 ins := h.tx.keep (fun k hk => t1.block k (h.tx.lt k hk) (fun hm => h.row.apartTx h.tx k hk (by simpa using hm)))
  have mr3 : MkRow N W3 u2 shown := h.mr.keep (fun k hk => t1.block k (h.mr.lt k hk) (fun hm => h.row.apartMk h.mr k hk (by simpa using hm)))
  have box3 := h.box.turn t1 (hnot _ hgm)
  have each3 : ∀ i (h1 : i < (vs ++ [y]).length) (h2 : i < (ws ++ [x]).length), ItGood M W3 (vs ++ [y])[i] (ws ++ [x])[i] := fun i h1 h2 => by
    have hlen := h.len
    by_cases e : i < vs.length
    · rw [List.getElem_append_left e, List.getElem_append_left (by omega)]
      exact (h.each i e (by omega)).off h.row t1 (fun k hk => .inl (by simpa using hk))
    · rw [List.length_append] at h1
      simp only [List.length_cons, List.length_nil] at h1
      have e1 : i = vs.length := by omega
      subst e1
      rw [List.getElem_append_right (Nat.le_refl _), List.getElem_append_right (by omega)]
      simp only [Nat.sub_self, List.getElem_singleton]
      exact hy.off h.row t1 (fun k hk => .inl (by simpa using hk))
  have bel4 := bel3.trans (t2.below bel3.size (fun k hk => by simp at hk; omega))
  have b4 : BoxF (W3.setCell ⟨gd, 1, none⟩ (.slice (some ⟨g, 0, none⟩) n c)) gd [u0, .slice (some ⟨g, 0, none⟩) n c, u2] := by
    have := box3.set 1 (.slice (some ⟨g, 0, none⟩) n c) (by simp)
    simpa [List.set] using this
  exact ⟨⟨arg3.turn t2 (by simp; omega), res3.turn t2 (by simp; omega), bel4, hlo, tx3.keep (fun k hk => t2.block k (tx3.lt k hk) (fun hm => by simp at hm; subst hm; exact h.dt hk)), mr3.keep (fun k hk => t2.block k (mr3.lt k hk) (fun hm => by simp at hm; subst hm; exact h.dm hk)), b4, hng, hgm, Nat.le_trans (Nat.le_trans h.msz t1.size) t2.size,
    hr.keep (fun k hk => t2.block k (hr.lt k hk) (fun hm => by simp at hm; have := hr.ge k hk; omega)), by rw [List.length_append, List.length_append, h.len]; rfl, fun i h1 h2 => (each3 i h1 h2).off hr t2 (fun k hk => by simp at hk; exact .inr (by omega)), h.dt, h.dm⟩, box3, arg3, bel3, bel4⟩
/-- the parts of a copy, to be read -/
structure SParts (B : Nat) (w : World) (u0 u1 u2 : Value) (vs : List Value) (ins : List ByteArray) (wins : List (List ItemV)) (shown : List MarkV) : Prop where
  tx : TxRow B w u0 ins
  row : WiRow B w u1 vs
  len : vs.length = wins.length
  each : ∀ i (h : i < vs.length) (h' : i < wins.length), ItGood B w vs[i] wins[i]
  mr : MkRow B w u2 shown
def RetSP (g : GatherV) (w : World) (e : Ending) (w' : World) : Prop :=
  ∃ (ua : Option Addr) (un uc gb gn gc : Nat) (ma : Option Addr) (mn mc : Nat) (vs : List Value), e = .returned (.agg #[.slice ua un uc, .slice (some ⟨gb, 0, none⟩) gn gc, .slice ma mn mc]) ∧
    Hid (SParts w.heap.size w' (.slice ua un uc) (.slice (some ⟨gb, 0, none⟩) gn gc) (.slice ma mn mc) vs g.ins g.wins g.shown) ∧ Below w.heap.size w w'

set_option maxRecDepth 20000 in
set_option maxHeartbeats 12800000 in
theorem l16Copy_any (g : GatherV) (v : Value) (w : World) (hgb : gatherB g = true) (h : GatherRd w v g) : Calls Tryz.prog 24 #[v] w fun e w' => RetSP g w e w' := by
  obtain ⟨hib, hlw, hwb, hsb⟩ : insB g.ins = true ∧ g.wins.length = g.ins.length ∧ winsB g.wins = true ∧ mstampB g.shown = true := by
    unfold gatherB at hgb
    simp only [Bool.and_eq_true, decide_eq_true_eq] at hgb
    exact hgb
  obtain ⟨h1, h6⟩ := winsB_len hwb
  have hwi := fun x hx => win_item (winsB_each hwb x hx)
  obtain ⟨a0, n0, c0, a1, n1, c1, a2, n2, c2, rfl⟩ := h.form
  obtain ⟨hn0, hn1, hparts⟩ := gather_parts h
  have HM := hide (fun W (bW : Below w.heap.size w W) => l14Marks_all g.shown (.slice a2 n2 c2) W (by have := mstamp_len hsb; omega) (hparts W bW).2.2)
  obtain ⟨hI, hW, -⟩ := hparts w (Below.refl _ _)
  obtain ⟨ins, wins, shown⟩ := g
  simp only at *
  subst hn0 hn1
  obtain ⟨a', c', e, hI⟩ := hI
  simp only [Value.slice.injEq] at e
  obtain ⟨rfl, -, rfl⟩ := e
  rcases hI with h0 | ⟨bi, oi, rfl, hbi, hsa⟩
  · rw [h0] at hlw; simp at hlw; rw [hlw] at h1; simp at h1
  obtain ⟨a', c', e, hW⟩ := hW
  simp only [Value.slice.injEq] at e
  obtain ⟨rfl, -, rfl⟩ := e
  rcases hW with h0 | ⟨b, off, rfl, hb, hwa⟩
  · rw [h0] at h1; simp at h1
  have HT := hide (fun W (bW : Below w.heap.size w W) => hsa.below bW hbi)
  have HWA := hide (fun W (bW : Below w.heap.size w W) => hwa.up hb bW)
  have HWI := hide hwi
  have hil : 1 ≤ ins.length ∧ ins.length ≤ 6 := by omega
  have hwl : 1 ≤ wins.length ∧ wins.length ≤ 6 := ⟨h1, h6⟩
  clear hsa hwa hparts h hgb hib hlw hwb hsb hwi h1 h6
  have hF := boxesF2 w [.slice (some ⟨bi, oi, none⟩) ins.length c0, .slice (some ⟨b, off, none⟩) wins.length c1, .slice a2 n2 c2] [.slice none 0 0, .slice none 0 0, .slice none 0 0] 36 36
  obtain ⟨x0, x1, b0, hz⟩ := hF
  simp only [List.toArray] at x0 x1 b0 hz
  go_enter Tryz.func24, Tryz.ntmps24
  go_upto_region 1 with fail
  generalize (w.alloc (.cells #[.slice (some ⟨bi, oi, none⟩) ins.length c0, .slice (some ⟨b, off, none⟩) wins.length c1, .slice a2 n2 c2] 36)).alloc (.cells #[.slice none 0 0, .slice none 0 0, .slice none 0 0] 36) = W0 at *
  go_cut [3] (fun s3 wx => ∃ gd M u0 u2, s3 = .pointer (some ⟨gd, 0, none⟩) ∧ Hid (CL w [.slice (some ⟨bi, oi, none⟩) ins.length c0, .slice (some ⟨b, off, none⟩) wins.length c1, .slice a2 n2 c2] (w.heap.size + 2) M ins shown gd u0 (.slice none 0 0) u2 [] [] wx))
  case first =>
    have C0 := hide (show CS w [.slice (some ⟨bi, oi, none⟩) ins.length c0, .slice (some ⟨b, off, none⟩) wins.length c1, .slice a2 n2 c2] (w.heap.size + 2) ins shown none none none none W0.drew from
      ⟨x0.up ((Below.refl _ _).drew), x1.up ((Below.refl _ _).drew), b0.drew, by show _ ≤ W0.heap.size; omega, by omega, (fun l e => by cases e), (fun l e => by cases e), (fun l e => by cases e), (fun l e => by cases e), (fun l d e => by cases e), (fun l d e => by cases e), (fun l d e => by cases e), (fun l d e => by cases e)⟩)
    clear x0 x1 b0 hz
    have hS : W0.drew.cell? ⟨w.heap.size, 0, none⟩ = some (.slice (some ⟨bi, oi, none⟩) ins.length c0) ∧ W0.drew.cell? ⟨w.heap.size, 2, none⟩ = some (.slice a2 n2 c2) := ⟨(unhide C0).arg.three.1.1, (unhide C0).arg.three.1.2.2⟩
    refine wp_region_held_drew (S := fun X : World => X.cell? ⟨w.heap.size, 0, none⟩ = some (.slice (some ⟨bi, oi, none⟩) ins.length c0) ∧ X.cell? ⟨w.heap.size, 2, none⟩ = some (.slice a2 n2 c2)) (by kernel_rfl) hS ?_
    clear hS
    intro hS
    generalize W0.drew = WX at *
    refine wpAnyH_take (i := 1) (v := .pointer (some ⟨w.heap.size, 0, none⟩)) rfl (by kernel_rfl) (by kernel_rfl) (by kernel_rfl) (fun _ _ _ h => h) (Or.inl ⟨by rfl, ?_⟩) hS ?_
    · intro X hX
      obtain ⟨h1, h2⟩ := hX
      clear hS
      go_simp
      try with_reducible rfl
    try simp [Act.put]
    refine wpAnyH_take (i := 2) (v := .slice (some ⟨bi, oi, none⟩) ins.length c0) rfl (by kernel_rfl) (by kernel_rfl) (by kernel_rfl) (fun _ _ _ h => h) (Or.inl ⟨by rfl, ?_⟩) hS ?_
    · intro X hX
      obtain ⟨h1, h2⟩ := hX
      clear hS
      go_simp
      try with_reducible rfl
    try simp [Act.put]
    refine wpAnyH_take (i := 4) (v := .pointer (some ⟨w.heap.size, 2, none⟩)) rfl (by kernel_rfl) (by kernel_rfl) (by kernel_rfl) (fun _ _ _ h => h) (Or.inl ⟨by rfl, ?_⟩) hS ?_
    · intro X hX
      obtain ⟨h1, h2⟩ := hX
      clear hS
      go_simp
      try with_reducible rfl
    try simp [Act.put]
    refine wpAnyH_take (i := 5) (v := .slice a2 n2 c2) rfl (by kernel_rfl) (by kernel_rfl) (by kernel_rfl) (fun _ _ _ h => h) (Or.inl ⟨by rfl, ?_⟩) hS ?_
    · intro X hX
      obtain ⟨h1, h2⟩ := hX
      clear hS
      go_simp
      try with_reducible rfl
    try simp [Act.put]
    refine wpAnyH_ready (rs := [0, 8]) (by kernel_rfl) (by simp) ?_
    refine AllReadyH.cons rfl (fun K hK => ?_) (AllReadyH.cons rfl (fun K hK => ?_) (AllReadyH.nil))
    · skip
      have C1 := hide (unhide C0).newLit
      go_simp
      generalize WX.alloc (.cells #[] 9) = W2 at *
      generalize WX.heap.size = l3 at *
      have hS2 : W2.cell? ⟨w.heap.size, 0, none⟩ = some (.slice (some ⟨bi, oi, none⟩) ins.length c0) ∧ W2.cell? ⟨w.heap.size, 2, none⟩ = some (.slice a2 n2 c2) := ⟨(unhide C1).arg.three.1.1, (unhide C1).arg.three.1.2.2⟩
      refine hK.out _ _ hS2 ?_
      clear hK K hS hS2 C0
      intro hS
      try simp [Act.put]
      refine wpAnyH_ready (rs := [3, 8]) (by kernel_rfl) (by simp) ?_
      refine AllReadyH.cons rfl (fun K hK => ?_) (AllReadyH.cons rfl (fun K hK => ?_) (AllReadyH.nil))
      · skip
        refine step_txSpread (w := W2) (by rfl) (.tmp 5) (.tmp 7) (by rfl) (w.heap.size + 2) (.slice (some ⟨l3, 0, none⟩) 0 0) [] ins bi oi c0 (by rfl) (by rfl) ((unhide C1).lit l3 rfl) (unhide HT _ (unhide C1).bel) (by omega) (by simp; omega) (unhide C1).sz ?_
        intro g6 n7 cc8 W5 hr hn hg hl
        rw [List.nil_append] at hr
        have C4 := hide ((unhide C1).texted hr hg (hl.imp (fun e => by simpa [Value.ownBlock] using e) (fun e => Nat.le_of_eq e.symm)))
        clear hr hn hg hl
        have hS2 : W5.cell? ⟨w.heap.size, 0, none⟩ = some (.slice (some ⟨bi, oi, none⟩) ins.length c0) ∧ W5.cell? ⟨w.heap.size, 2, none⟩ = some (.slice a2 n2 c2) := ⟨(unhide C4).arg.three.1.1, (unhide C4).arg.three.1.2.2⟩
        refine hK.out _ _ hS2 ?_
        clear hK K hS hS2 C1
        intro hS
        try simp [Act.put]
        refine wpAnyH_ready (rs := [6, 8]) (by kernel_rfl) (by simp) ?_
        refine AllReadyH.cons rfl (fun K hK => ?_) (AllReadyH.cons rfl (fun K hK => ?_) (AllReadyH.nil))
        · skip
          go_simp
          refine (unhide HM _ (unhide C4).bel).mono ?_
          rintro e W10 ⟨u11, rfl, Ru11, bu11⟩
          obtain ⟨ma12, mc13, rfl⟩ := (unhide Ru11).slice
          have C9 := hide ((unhide C4).marked bu11 (unhide Ru11))
          have hS2 : W10.cell? ⟨w.heap.size, 0, none⟩ = some (.slice (some ⟨bi, oi, none⟩) ins.length c0) ∧ W10.cell? ⟨w.heap.size, 2, none⟩ = some (.slice a2 n2 c2) := ⟨(unhide C9).arg.three.1.1, (unhide C9).arg.three.1.2.2⟩
          refine hK.out _ _ hS2 ?_
          clear hK K hS hS2 C4 Ru11 bu11
          intro hS
          try simp [Act.put]
          refine wpAnyH_take (i := 7) (v := .agg #[(.slice (some ⟨g6, 0, none⟩) n7 cc8), .slice none 0 0, (.slice ma12 shown.length mc13)]) rfl (by kernel_rfl) (by kernel_rfl) (by kernel_rfl) (fun _ _ _ h => h) (Or.inl ⟨by rfl, ?_⟩) hS ?_
          · intro X hX
            obtain ⟨h1, h2⟩ := hX
            clear hS
            go_simp
            try with_reducible rfl
          try simp [Act.put]
          refine wpAnyH_ready (rs := [8]) (by kernel_rfl) (by simp) ?_
          refine AllReadyH.cons rfl (fun K hK => ?_) (AllReadyH.nil)
          have C14 := hide (unhide C9).newBox
          go_simp
          generalize W10.alloc (.cells #[.slice none 0 0, .slice none 0 0, .slice none 0 0] 36) = W15 at *
          generalize W10.heap.size = d16 at *
          have hS2 : W15.cell? ⟨w.heap.size, 0, none⟩ = some (.slice (some ⟨bi, oi, none⟩) ins.length c0) ∧ W15.cell? ⟨w.heap.size, 2, none⟩ = some (.slice a2 n2 c2) := ⟨(unhide C14).arg.three.1.1, (unhide C14).arg.three.1.2.2⟩
          refine hK.out _ _ hS2 ?_
          clear hK K hS hS2 C9
          intro hS
          try simp [Act.put]
          have CD := (unhide C14).done
          have ND := (unhide C14).box d16 rfl
          have hgl : w.heap.size < d16 := by have := (unhide C14).lo; have := ND.1; omega
          obtain ⟨⟨p0, p1, p2⟩, f0, f1, f2⟩ : (W15.cell? ⟨d16, 0, none⟩ = some (.slice none 0 0) ∧ W15.cell? ⟨d16, 1, none⟩ = some (.slice none 0 0) ∧ W15.cell? ⟨d16, 2, none⟩ = some (.slice none 0 0)) ∧ (W15.frozen? ⟨d16, 0, none⟩ = false ∧ W15.frozen? ⟨d16, 1, none⟩ = false ∧ W15.frozen? ⟨d16, 2, none⟩ = false) := BoxF.three ND.2
          have MD := hide CD
          have hS9 : (((W15.setCell ⟨d16, 0, none⟩ (.slice (some ⟨g6, 0, none⟩) n7 cc8)).setCell ⟨d16, 1, none⟩ (.slice none 0 0)).setCell ⟨d16, 2, none⟩ (.slice ma12 shown.length mc13)).cell? ⟨w.heap.size, 0, none⟩ = some (.slice (some ⟨bi, oi, none⟩) ins.length c0) ∧ (((W15.setCell ⟨d16, 0, none⟩ (.slice (some ⟨g6, 0, none⟩) n7 cc8)).setCell ⟨d16, 1, none⟩ (.slice none 0 0)).setCell ⟨d16, 2, none⟩ (.slice ma12 shown.length mc13)).cell? ⟨w.heap.size, 2, none⟩ = some (.slice a2 n2 c2) := ⟨CD.arg.three.1.1, CD.arg.three.1.2.2⟩
          clear CD ND
          refine wpAnyH_ready (rs := [9]) (by kernel_rfl) (by simp) ?_
          refine AllReadyH.cons rfl (fun K hK => ?_) AllReadyH.nil
          go_simp
          refine hK.out _ _ hS9 ?_
          clear hK K
          intro hS9
          refine wpAnyH_done (by kernel_rfl) ?_ _
          clear hS9 hS p0 p1 p2 f0 f1 f2
          go_wp2_with fail
          go_meet
          exact ⟨d16, _, (.slice (some ⟨g6, 0, none⟩) n7 cc8), (.slice ma12 shown.length mc13), rfl, MD⟩
        · skip
          have C17 := hide (unhide C4).newBox
          go_simp
          generalize W5.alloc (.cells #[.slice none 0 0, .slice none 0 0, .slice none 0 0] 36) = W18 at *
          generalize W5.heap.size = d19 at *
          have hS2 : W18.cell? ⟨w.heap.size, 0, none⟩ = some (.slice (some ⟨bi, oi, none⟩) ins.length c0) ∧ W18.cell? ⟨w.heap.size, 2, none⟩ = some (.slice a2 n2 c2) := ⟨(unhide C17).arg.three.1.1, (unhide C17).arg.three.1.2.2⟩
          refine hK.out _ _ hS2 ?_
          clear hK K hS hS2 C4
          intro hS
          try simp [Act.put]
          refine wpAnyH_ready (rs := [6]) (by kernel_rfl) (by simp) ?_
          refine AllReadyH.cons rfl (fun K hK => ?_) (AllReadyH.nil)
          go_simp
          refine (unhide HM _ (unhide C17).bel).mono ?_
          rintro e W21 ⟨u22, rfl, Ru22, bu22⟩
          obtain ⟨ma23, mc24, rfl⟩ := (unhide Ru22).slice
          have C20 := hide ((unhide C17).marked bu22 (unhide Ru22))
          have hS2 : W21.cell? ⟨w.heap.size, 0, none⟩ = some (.slice (some ⟨bi, oi, none⟩) ins.length c0) ∧ W21.cell? ⟨w.heap.size, 2, none⟩ = some (.slice a2 n2 c2) := ⟨(unhide C20).arg.three.1.1, (unhide C20).arg.three.1.2.2⟩
          refine hK.out _ _ hS2 ?_
          clear hK K hS hS2 C17 Ru22 bu22
          intro hS
          try simp [Act.put]
          refine wpAnyH_take (i := 7) (v := .agg #[(.slice (some ⟨g6, 0, none⟩) n7 cc8), .slice none 0 0, (.slice ma23 shown.length mc24)]) rfl (by kernel_rfl) (by kernel_rfl) (by kernel_rfl) (fun _ _ _ h => h) (Or.inl ⟨by rfl, ?_⟩) hS ?_
          · intro X hX
            obtain ⟨h1, h2⟩ := hX
            clear hS
            go_simp
            try with_reducible rfl
          try simp [Act.put]
          have CD := (unhide C20).done
          have ND := (unhide C20).box d19 rfl
          have hgl : w.heap.size < d19 := by have := (unhide C20).lo; have := ND.1; omega
          obtain ⟨⟨p0, p1, p2⟩, f0, f1, f2⟩ : (W21.cell? ⟨d19, 0, none⟩ = some (.slice none 0 0) ∧ W21.cell? ⟨d19, 1, none⟩ = some (.slice none 0 0) ∧ W21.cell? ⟨d19, 2, none⟩ = some (.slice none 0 0)) ∧ (W21.frozen? ⟨d19, 0, none⟩ = false ∧ W21.frozen? ⟨d19, 1, none⟩ = false ∧ W21.frozen? ⟨d19, 2, none⟩ = false) := BoxF.three ND.2
          have MD := hide CD
          have hS9 : (((W21.setCell ⟨d19, 0, none⟩ (.slice (some ⟨g6, 0, none⟩) n7 cc8)).setCell ⟨d19, 1, none⟩ (.slice none 0 0)).setCell ⟨d19, 2, none⟩ (.slice ma23 shown.length mc24)).cell? ⟨w.heap.size, 0, none⟩ = some (.slice (some ⟨bi, oi, none⟩) ins.length c0) ∧ (((W21.setCell ⟨d19, 0, none⟩ (.slice (some ⟨g6, 0, none⟩) n7 cc8)).setCell ⟨d19, 1, none⟩ (.slice none 0 0)).setCell ⟨d19, 2, none⟩ (.slice ma23 shown.length mc24)).cell? ⟨w.heap.size, 2, none⟩ = some (.slice a2 n2 c2) := ⟨CD.arg.three.1.1, CD.arg.three.1.2.2⟩
          clear CD ND
          refine wpAnyH_ready (rs := [9]) (by kernel_rfl) (by simp) ?_
          refine AllReadyH.cons rfl (fun K hK => ?_) AllReadyH.nil
          go_simp
          refine hK.out _ _ hS9 ?_
          clear hK K
          intro hS9
          refine wpAnyH_done (by kernel_rfl) ?_ _
          clear hS9 hS p0 p1 p2 f0 f1 f2
          go_wp2_with fail
          go_meet
          exact ⟨d19, _, (.slice (some ⟨g6, 0, none⟩) n7 cc8), (.slice ma23 shown.length mc24), rfl, MD⟩
      · skip
        have C25 := hide (unhide C1).newBox
        go_simp
        generalize W2.alloc (.cells #[.slice none 0 0, .slice none 0 0, .slice none 0 0] 36) = W26 at *
        generalize W2.heap.size = d27 at *
        have hS2 : W26.cell? ⟨w.heap.size, 0, none⟩ = some (.slice (some ⟨bi, oi, none⟩) ins.length c0) ∧ W26.cell? ⟨w.heap.size, 2, none⟩ = some (.slice a2 n2 c2) := ⟨(unhide C25).arg.three.1.1, (unhide C25).arg.three.1.2.2⟩
        refine hK.out _ _ hS2 ?_
        clear hK K hS hS2 C1
        intro hS
        try simp [Act.put]
        refine wpAnyH_ready (rs := [3]) (by kernel_rfl) (by simp) ?_
        refine AllReadyH.cons rfl (fun K hK => ?_) (AllReadyH.nil)
        refine step_txSpread (w := W26) (by rfl) (.tmp 5) (.tmp 7) (by rfl) (w.heap.size + 2) (.slice (some ⟨l3, 0, none⟩) 0 0) [] ins bi oi c0 (by rfl) (by rfl) ((unhide C25).lit l3 rfl) (unhide HT _ (unhide C25).bel) (by omega) (by simp; omega) (unhide C25).sz ?_
        intro g30 n31 cc32 W29 hr hn hg hl
        rw [List.nil_append] at hr
        have C28 := hide ((unhide C25).texted hr hg (hl.imp (fun e => by simpa [Value.ownBlock] using e) (fun e => Nat.le_of_eq e.symm)))
        clear hr hn hg hl
        have hS2 : W29.cell? ⟨w.heap.size, 0, none⟩ = some (.slice (some ⟨bi, oi, none⟩) ins.length c0) ∧ W29.cell? ⟨w.heap.size, 2, none⟩ = some (.slice a2 n2 c2) := ⟨(unhide C28).arg.three.1.1, (unhide C28).arg.three.1.2.2⟩
        refine hK.out _ _ hS2 ?_
        clear hK K hS hS2 C25
        intro hS
        try simp [Act.put]
        refine wpAnyH_ready (rs := [6]) (by kernel_rfl) (by simp) ?_
        refine AllReadyH.cons rfl (fun K hK => ?_) (AllReadyH.nil)
        go_simp
        refine (unhide HM _ (unhide C28).bel).mono ?_
        rintro e W34 ⟨u35, rfl, Ru35, bu35⟩
        obtain ⟨ma36, mc37, rfl⟩ := (unhide Ru35).slice
        have C33 := hide ((unhide C28).marked bu35 (unhide Ru35))
        have hS2 : W34.cell? ⟨w.heap.size, 0, none⟩ = some (.slice (some ⟨bi, oi, none⟩) ins.length c0) ∧ W34.cell? ⟨w.heap.size, 2, none⟩ = some (.slice a2 n2 c2) := ⟨(unhide C33).arg.three.1.1, (unhide C33).arg.three.1.2.2⟩
        refine hK.out _ _ hS2 ?_
        clear hK K hS hS2 C28 Ru35 bu35
        intro hS
        try simp [Act.put]
        refine wpAnyH_take (i := 7) (v := .agg #[(.slice (some ⟨g30, 0, none⟩) n31 cc32), .slice none 0 0, (.slice ma36 shown.length mc37)]) rfl (by kernel_rfl) (by kernel_rfl) (by kernel_rfl) (fun _ _ _ h => h) (Or.inl ⟨by rfl, ?_⟩) hS ?_
        · intro X hX
          obtain ⟨h1, h2⟩ := hX
          clear hS
          go_simp
          try with_reducible rfl
        try simp [Act.put]
        have CD := (unhide C33).done
        have ND := (unhide C33).box d27 rfl
        have hgl : w.heap.size < d27 := by have := (unhide C33).lo; have := ND.1; omega
        obtain ⟨⟨p0, p1, p2⟩, f0, f1, f2⟩ : (W34.cell? ⟨d27, 0, none⟩ = some (.slice none 0 0) ∧ W34.cell? ⟨d27, 1, none⟩ = some (.slice none 0 0) ∧ W34.cell? ⟨d27, 2, none⟩ = some (.slice none 0 0)) ∧ (W34.frozen? ⟨d27, 0, none⟩ = false ∧ W34.frozen? ⟨d27, 1, none⟩ = false ∧ W34.frozen? ⟨d27, 2, none⟩ = false) := BoxF.three ND.2
        have MD := hide CD
        have hS9 : (((W34.setCell ⟨d27, 0, none⟩ (.slice (some ⟨g30, 0, none⟩) n31 cc32)).setCell ⟨d27, 1, none⟩ (.slice none 0 0)).setCell ⟨d27, 2, none⟩ (.slice ma36 shown.length mc37)).cell? ⟨w.heap.size, 0, none⟩ = some (.slice (some ⟨bi, oi, none⟩) ins.length c0) ∧ (((W34.setCell ⟨d27, 0, none⟩ (.slice (some ⟨g30, 0, none⟩) n31 cc32)).setCell ⟨d27, 1, none⟩ (.slice none 0 0)).setCell ⟨d27, 2, none⟩ (.slice ma36 shown.length mc37)).cell? ⟨w.heap.size, 2, none⟩ = some (.slice a2 n2 c2) := ⟨CD.arg.three.1.1, CD.arg.three.1.2.2⟩
        clear CD ND
        refine wpAnyH_ready (rs := [9]) (by kernel_rfl) (by simp) ?_
        refine AllReadyH.cons rfl (fun K hK => ?_) AllReadyH.nil
        go_simp
        refine hK.out _ _ hS9 ?_
        clear hK K
        intro hS9
        refine wpAnyH_done (by kernel_rfl) ?_ _
        clear hS9 hS p0 p1 p2 f0 f1 f2
        go_wp2_with fail
        go_meet
        exact ⟨d27, _, (.slice (some ⟨g30, 0, none⟩) n31 cc32), (.slice ma36 shown.length mc37), rfl, MD⟩
    · skip
      have C38 := hide (unhide C0).newBox
      go_simp
      generalize WX.alloc (.cells #[.slice none 0 0, .slice none 0 0, .slice none 0 0] 36) = W39 at *
      generalize WX.heap.size = d40 at *
      have hS2 : W39.cell? ⟨w.heap.size, 0, none⟩ = some (.slice (some ⟨bi, oi, none⟩) ins.length c0) ∧ W39.cell? ⟨w.heap.size, 2, none⟩ = some (.slice a2 n2 c2) := ⟨(unhide C38).arg.three.1.1, (unhide C38).arg.three.1.2.2⟩
      refine hK.out _ _ hS2 ?_
      clear hK K hS hS2 C0
      intro hS
      try simp [Act.put]
      refine wpAnyH_ready (rs := [0]) (by kernel_rfl) (by simp) ?_
      refine AllReadyH.cons rfl (fun K hK => ?_) (AllReadyH.nil)
      have C41 := hide (unhide C38).newLit
      go_simp
      generalize W39.alloc (.cells #[] 9) = W42 at *
      generalize W39.heap.size = l43 at *
      have hS2 : W42.cell? ⟨w.heap.size, 0, none⟩ = some (.slice (some ⟨bi, oi, none⟩) ins.length c0) ∧ W42.cell? ⟨w.heap.size, 2, none⟩ = some (.slice a2 n2 c2) := ⟨(unhide C41).arg.three.1.1, (unhide C41).arg.three.1.2.2⟩
      refine hK.out _ _ hS2 ?_
      clear hK K hS hS2 C38
      intro hS
      try simp [Act.put]
      refine wpAnyH_ready (rs := [3]) (by kernel_rfl) (by simp) ?_
      refine AllReadyH.cons rfl (fun K hK => ?_) (AllReadyH.nil)
      refine step_txSpread (w := W42) (by rfl) (.tmp 5) (.tmp 7) (by rfl) (w.heap.size + 2) (.slice (some ⟨l43, 0, none⟩) 0 0) [] ins bi oi c0 (by rfl) (by rfl) ((unhide C41).lit l43 rfl) (unhide HT _ (unhide C41).bel) (by omega) (by simp; omega) (unhide C41).sz ?_
      intro g46 n47 cc48 W45 hr hn hg hl
      rw [List.nil_append] at hr
      have C44 := hide ((unhide C41).texted hr hg (hl.imp (fun e => by simpa [Value.ownBlock] using e) (fun e => Nat.le_of_eq e.symm)))
      clear hr hn hg hl
      have hS2 : W45.cell? ⟨w.heap.size, 0, none⟩ = some (.slice (some ⟨bi, oi, none⟩) ins.length c0) ∧ W45.cell? ⟨w.heap.size, 2, none⟩ = some (.slice a2 n2 c2) := ⟨(unhide C44).arg.three.1.1, (unhide C44).arg.three.1.2.2⟩
      refine hK.out _ _ hS2 ?_
      clear hK K hS hS2 C41
      intro hS
      try simp [Act.put]
      refine wpAnyH_ready (rs := [6]) (by kernel_rfl) (by simp) ?_
      refine AllReadyH.cons rfl (fun K hK => ?_) (AllReadyH.nil)
      go_simp
      refine (unhide HM _ (unhide C44).bel).mono ?_
      rintro e W50 ⟨u51, rfl, Ru51, bu51⟩
      obtain ⟨ma52, mc53, rfl⟩ := (unhide Ru51).slice
      have C49 := hide ((unhide C44).marked bu51 (unhide Ru51))
      have hS2 : W50.cell? ⟨w.heap.size, 0, none⟩ = some (.slice (some ⟨bi, oi, none⟩) ins.length c0) ∧ W50.cell? ⟨w.heap.size, 2, none⟩ = some (.slice a2 n2 c2) := ⟨(unhide C49).arg.three.1.1, (unhide C49).arg.three.1.2.2⟩
      refine hK.out _ _ hS2 ?_
      clear hK K hS hS2 C44 Ru51 bu51
      intro hS
      try simp [Act.put]
      refine wpAnyH_take (i := 7) (v := .agg #[(.slice (some ⟨g46, 0, none⟩) n47 cc48), .slice none 0 0, (.slice ma52 shown.length mc53)]) rfl (by kernel_rfl) (by kernel_rfl) (by kernel_rfl) (fun _ _ _ h => h) (Or.inl ⟨by rfl, ?_⟩) hS ?_
      · intro X hX
        obtain ⟨h1, h2⟩ := hX
        clear hS
        go_simp
        try with_reducible rfl
      try simp [Act.put]
      have CD := (unhide C49).done
      have ND := (unhide C49).box d40 rfl
      have hgl : w.heap.size < d40 := by have := (unhide C49).lo; have := ND.1; omega
      obtain ⟨⟨p0, p1, p2⟩, f0, f1, f2⟩ : (W50.cell? ⟨d40, 0, none⟩ = some (.slice none 0 0) ∧ W50.cell? ⟨d40, 1, none⟩ = some (.slice none 0 0) ∧ W50.cell? ⟨d40, 2, none⟩ = some (.slice none 0 0)) ∧ (W50.frozen? ⟨d40, 0, none⟩ = false ∧ W50.frozen? ⟨d40, 1, none⟩ = false ∧ W50.frozen? ⟨d40, 2, none⟩ = false) := BoxF.three ND.2
      have MD := hide CD
      have hS9 : (((W50.setCell ⟨d40, 0, none⟩ (.slice (some ⟨g46, 0, none⟩) n47 cc48)).setCell ⟨d40, 1, none⟩ (.slice none 0 0)).setCell ⟨d40, 2, none⟩ (.slice ma52 shown.length mc53)).cell? ⟨w.heap.size, 0, none⟩ = some (.slice (some ⟨bi, oi, none⟩) ins.length c0) ∧ (((W50.setCell ⟨d40, 0, none⟩ (.slice (some ⟨g46, 0, none⟩) n47 cc48)).setCell ⟨d40, 1, none⟩ (.slice none 0 0)).setCell ⟨d40, 2, none⟩ (.slice ma52 shown.length mc53)).cell? ⟨w.heap.size, 2, none⟩ = some (.slice a2 n2 c2) := ⟨CD.arg.three.1.1, CD.arg.three.1.2.2⟩
      clear CD ND
      refine wpAnyH_ready (rs := [9]) (by kernel_rfl) (by simp) ?_
      refine AllReadyH.cons rfl (fun K hK => ?_) AllReadyH.nil
      go_simp
      refine hK.out _ _ hS9 ?_
      clear hK K
      intro hS9
      refine wpAnyH_done (by kernel_rfl) ?_ _
      clear hS9 hS p0 p1 p2 f0 f1 f2
      go_wp2_with fail
      go_meet
      exact ⟨d40, _, (.slice (some ⟨g46, 0, none⟩) n47 cc48), (.slice ma52 shown.length mc53), rfl, MD⟩
  case rest =>
    obtain ⟨gd, M, u0, u2, rfl, M1⟩ := hcut
    clear x0 b0 x1 hz
    obtain ⟨ta, tc, rfl⟩ := (unhide M1).tx.slice
    obtain ⟨ma, mc, rfl⟩ := (unhide M1).mr.slice
    go_wp2_with fail
    go_loopw [4] (fun i wr => ∃ (k : Nat) (ra : Option Addr) (rn rc : Nat) (vs : List Value), k ≤ wins.length ∧ i = .int .i64 k ∧ Hid (CL w [.slice (some ⟨bi, oi, none⟩) ins.length c0, .slice (some ⟨b, off, none⟩) wins.length c1, .slice a2 n2 c2] (w.heap.size + 2) M ins shown gd (.slice ta ins.length tc) (.slice ra rn rc) (.slice ma shown.length mc) vs (wins.take k) wr)) (fun i _ => wins.length - (intOf i).toNat)
    case atStart => exact ⟨0, none, 0, 0, [], Nat.zero_le _, rfl, M1⟩
    case round =>
      clear M1
      obtain ⟨k, ra, rn, rc, vs, hk, rfl, HC⟩ := hrel
      have HL := (unhide HC).len
      have hvl : vs.length ≤ 1000000 := by rw [HL]; simp; omega
      clear HL
      obtain ⟨⟨e0, e1, e2⟩, -⟩ : (wr.cell? ⟨w.heap.size, 0, none⟩ = _ ∧ wr.cell? ⟨w.heap.size, 1, none⟩ = _ ∧ wr.cell? ⟨w.heap.size, 2, none⟩ = _) ∧ _ := BoxF.three (unhide HC).arg
      by_cases hlt : k < wins.length
      · obtain ⟨iv, d0, hiv⟩ := unhide HWA _ (unhide HC).bel k hlt
        have HIV := hide hiv
        obtain ⟨ia, im, ic, rfl⟩ := hiv.form
        have HLI := hide (fun X (bX : Below wr.heap.size wr X) => l14Items_all wins[k] (.slice ia im ic) X (by have := (unhide HWI _ (List.getElem_mem hlt)).1; omega) (fun x hx => by
          obtain ⟨j, hj, rfl⟩ := List.getElem_of_mem hx
          have := (unhide HWI _ (List.getElem_mem hlt)).2 j hj
          exact ⟨this.1, by omega⟩) ((unhide HIV).up bX))
        have HTK := hide (show wins.take (k + 1) = wins.take k ++ [wins[k]] from List.take_succ_eq_append_getElem hlt)
        clear hiv HIV
        generalize wins[k] = x at *
        generalize wins.take k = pre at *
        go_wp2_with fail
        have CW := hide ((unhide HC).drew ((Below.refl _ _).drew))
        have BW := hide ((Below.refl wr.heap.size wr).drew)
        have DW := hide (show b < w.heap.size ∧ w.cell? ⟨b, off + k, none⟩ = some (.slice ia im ic) from ⟨hb, by
          obtain ⟨v', d', -⟩ := unhide HWA w (Below.refl _ _) k hlt
          have := ((unhide HC).bel.cell (show b < w.heap.size from hb)).trans d'
          rw [d0] at this
          rw [d']
          exact this.symm⟩)
        have hS : wr.drew.cell? ⟨w.heap.size, 1, none⟩ = some (.slice (some ⟨b, off, none⟩) wins.length c1) ∧ wr.drew.cell? ⟨b, off + k, none⟩ = some (.slice ia im ic) := ⟨(BoxF.three (unhide CW).arg).1.2.1, ((unhide CW).bel.cell (show b < w.heap.size from (unhide DW).1)).trans (unhide DW).2⟩
        clear HC e0 e1 e2 d0
        refine wp_region_held_drew (S := fun X : World => X.cell? ⟨w.heap.size, 1, none⟩ = some (.slice (some ⟨b, off, none⟩) wins.length c1) ∧ X.cell? ⟨b, off + k, none⟩ = some (.slice ia im ic)) (by kernel_rfl) hS ?_
        clear hS
        intro hS
        generalize wr.drew = WX at *
        refine wpAnyH_take (i := 0) (v := .pointer (some ⟨gd, 1, none⟩)) rfl (by kernel_rfl) (by kernel_rfl) (by kernel_rfl) (fun _ _ _ h => h) (Or.inl ⟨by rfl, ?_⟩) hS ?_
        · intro X hX
          obtain ⟨h1, h2⟩ := hX
          clear hS
          go_simp
          try with_reducible rfl
        try simp [Act.put]
        refine wpAnyH_take (i := 2) (v := .pointer (some ⟨w.heap.size, 1, none⟩)) rfl (by kernel_rfl) (by kernel_rfl) (by kernel_rfl) (fun _ _ _ h => h) (Or.inl ⟨by rfl, ?_⟩) hS ?_
        · intro X hX
          obtain ⟨h1, h2⟩ := hX
          clear hS
          go_simp
          try with_reducible rfl
        try simp [Act.put]
        refine wpAnyH_take (i := 3) (v := .slice (some ⟨b, off, none⟩) wins.length c1) rfl (by kernel_rfl) (by kernel_rfl) (by kernel_rfl) (fun _ _ _ h => h) (Or.inl ⟨by rfl, ?_⟩) hS ?_
        · intro X hX
          obtain ⟨h1, h2⟩ := hX
          clear hS
          go_simp
          try with_reducible rfl
        try simp [Act.put]
        refine wpAnyH_take (i := 4) (v := .int .i64 (k : Int)) rfl (by kernel_rfl) (by kernel_rfl) (by kernel_rfl) (fun _ _ _ h => h) (Or.inl ⟨by rfl, ?_⟩) hS ?_
        · intro X hX
          obtain ⟨h1, h2⟩ := hX
          clear hS
          go_simp
          try with_reducible rfl
        try simp [Act.put]
        refine wpAnyH_take (i := 5) (v := .pointer (some ⟨b, off + k, none⟩)) rfl (by kernel_rfl) (by kernel_rfl) (by kernel_rfl) (fun _ _ _ h => h) (Or.inl ⟨by rfl, ?_⟩) hS ?_
        · intro X hX
          obtain ⟨h1, h2⟩ := hX
          clear hS
          go_simp
          try with_reducible rfl
        try simp [Act.put]
        refine wpAnyH_take (i := 6) (v := .slice ia im ic) rfl (by kernel_rfl) (by kernel_rfl) (by kernel_rfl) (fun _ _ _ h => h) (Or.inl ⟨by rfl, ?_⟩) hS ?_
        · intro X hX
          obtain ⟨h1, h2⟩ := hX
          clear hS
          go_simp
          try with_reducible rfl
        try simp [Act.put]
        refine wpAnyH_ready (rs := [1, 7]) (by kernel_rfl) (by simp) ?_
        refine AllReadyH.cons rfl (fun K hK => ?_) (AllReadyH.cons rfl (fun K hK => ?_) (AllReadyH.nil))
        · skip
          have x1 := (BoxF.three (unhide CW).box).1.2.1
          go_simp
          have hS2 := hS
          refine hK.out _ _ hS2 ?_
          clear hK K hS hS2 x1
          intro hS
          try simp [Act.put]
          refine wpAnyH_ready (rs := [7]) (by kernel_rfl) (by simp) ?_
          refine AllReadyH.cons rfl (fun K hK => ?_) (AllReadyH.nil)
          go_simp
          refine (unhide HLI _ (unhide BW)).mono ?_
          rintro e W56 ⟨yv, rfl, HY, b7⟩
          obtain ⟨ya, yc, rfl⟩ := (unhide HY).form
          have C57 := hide ((unhide CW).drew b7)
          have B58 := hide ((unhide BW).trans (b7.mono (unhide BW).size))
          have Y59 := hide ((unhide HY).mono (unhide CW).msz)
          have hS2 : W56.cell? ⟨w.heap.size, 1, none⟩ = some (.slice (some ⟨b, off, none⟩) wins.length c1) ∧ W56.cell? ⟨b, off + k, none⟩ = some (.slice ia im ic) := ⟨(BoxF.three (unhide C57).arg).1.2.1, ((unhide C57).bel.cell (show b < w.heap.size from (unhide DW).1)).trans (unhide DW).2⟩
          refine hK.out _ _ hS2 ?_
          clear hK K hS hS2 b7 HY CW
          intro hS
          try simp [Act.put]
          refine wpAnyH_ready (rs := [8]) (by kernel_rfl) (by simp) ?_
          refine AllReadyH.cons rfl (fun K hK => ?_) (AllReadyH.nil)
          have ba := (Below.refl W56.heap.size W56).alloc (Nat.le_refl _) (.cells #[.slice ya x.length yc] 60)
          have C61 := hide ((unhide C57).drew ba)
          have Y63 := hide ((unhide Y59).up ba)
          have L64 := hide (show (W56.alloc (.cells #[.slice ya x.length yc] 60)).cell? ⟨W56.heap.size, 0, none⟩ = some (.slice ya x.length yc) from World.cell?_alloc_at _ _ _ _ rfl)
          go_simp
          clear ba
          generalize W56.alloc (.cells #[.slice ya x.length yc] 60) = W60 at *
          generalize W56.heap.size = l62 at *
          have hS2 : W60.cell? ⟨w.heap.size, 1, none⟩ = some (.slice (some ⟨b, off, none⟩) wins.length c1) ∧ W60.cell? ⟨b, off + k, none⟩ = some (.slice ia im ic) := ⟨(BoxF.three (unhide C61).arg).1.2.1, ((unhide C61).bel.cell (show b < w.heap.size from (unhide DW).1)).trans (unhide DW).2⟩
          refine hK.out _ _ hS2 ?_
          clear hK K hS hS2 C57 Y59
          intro hS
          try simp [Act.put]
          refine wpAnyH_ready (rs := [9]) (by kernel_rfl) (by simp) ?_
          refine AllReadyH.cons rfl (fun K hK => ?_) (AllReadyH.nil)
          refine step_wiAppend (w := W60) (by rfl) (.tmp 21) (.tmp 28) (by rfl) M (.slice ra rn rc) vs ya x.length yc l62 (by rfl) (by rfl) (unhide C61).row (unhide L64) hvl (unhide C61).msz ?_
          intro g67 n9 cc68 W65 hr hn hg
          subst hn
          have GR := (unhide C61).grow (unhide Y63) hr hg
          have C66 := hide GR.1
          have BX9 := hide GR.2.1
          have NG9 := hide ((unhide C61).ng)
          have LO9 := hide ((unhide C61).lo)
          have hS2 : W65.cell? ⟨w.heap.size, 1, none⟩ = some (.slice (some ⟨b, off, none⟩) wins.length c1) ∧ W65.cell? ⟨b, off + k, none⟩ = some (.slice ia im ic) := ⟨(BoxF.three GR.2.2.1).1.2.1, (GR.2.2.2.1.cell (show b < w.heap.size from (unhide DW).1)).trans (unhide DW).2⟩
          refine hK.out _ _ hS2 ?_
          clear hK K hS hS2 GR hr hg C61 Y63 L64
          intro hS
          try simp [Act.put]
          refine wpAnyH_take (i := 10) (v := .pointer (some ⟨gd, 1, none⟩)) rfl (by kernel_rfl) (by kernel_rfl) (by kernel_rfl) (fun _ _ _ h => h) (Or.inl ⟨by rfl, ?_⟩) hS ?_
          · intro X hX
            obtain ⟨h1, h2⟩ := hX
            clear hS
            go_simp
            try with_reducible rfl
          try simp [Act.put]
          refine wpAnyH_ready (rs := [11]) (by kernel_rfl) (by simp) ?_
          refine AllReadyH.cons rfl (fun K hK => ?_) (AllReadyH.nil)
          obtain ⟨⟨p0, p1, p2⟩, f0, f1, f2⟩ := BoxF.three (unhide BX9)
          go_simp
          have hS2 : (W65.setCell _ _).cell? ⟨w.heap.size, 1, none⟩ = some (.slice (some ⟨b, off, none⟩) wins.length c1) ∧ (W65.setCell _ _).cell? ⟨b, off + k, none⟩ = some (.slice ia im ic) := ⟨(BoxF.three (unhide C66).arg).1.2.1, ((unhide C66).bel.cell (show b < w.heap.size from (unhide DW).1)).trans (unhide DW).2⟩
          refine hK.out _ _ hS2 ?_
          clear hK K hS hS2 p0 p1 p2 f0 f1 f2 BX9
          intro hS
          try simp [Act.put]
          refine wpAnyH_done (by kernel_rfl) ?_ _
          clear hS
          go_wp2_with fail
          go_roundw
          case rel => exact ⟨k + 1, _, _, _, _, by omega, by go_num, by rw [unhide HTK]; exact C66⟩
          case measure => simp [intOf]; omega
        · skip
          go_simp
          refine (unhide HLI _ (unhide BW)).mono ?_
          rintro e W71 ⟨yv, rfl, HY, b7⟩
          obtain ⟨ya, yc, rfl⟩ := (unhide HY).form
          have C72 := hide ((unhide CW).drew b7)
          have B73 := hide ((unhide BW).trans (b7.mono (unhide BW).size))
          have Y74 := hide ((unhide HY).mono (unhide CW).msz)
          have hS2 : W71.cell? ⟨w.heap.size, 1, none⟩ = some (.slice (some ⟨b, off, none⟩) wins.length c1) ∧ W71.cell? ⟨b, off + k, none⟩ = some (.slice ia im ic) := ⟨(BoxF.three (unhide C72).arg).1.2.1, ((unhide C72).bel.cell (show b < w.heap.size from (unhide DW).1)).trans (unhide DW).2⟩
          refine hK.out _ _ hS2 ?_
          clear hK K hS hS2 b7 HY CW
          intro hS
          try simp [Act.put]
          refine wpAnyH_ready (rs := [1, 8]) (by kernel_rfl) (by simp) ?_
          refine AllReadyH.cons rfl (fun K hK => ?_) (AllReadyH.cons rfl (fun K hK => ?_) (AllReadyH.nil))
          · skip
            have x1 := (BoxF.three (unhide C72).box).1.2.1
            go_simp
            have hS2 := hS
            refine hK.out _ _ hS2 ?_
            clear hK K hS hS2 x1
            intro hS
            try simp [Act.put]
            refine wpAnyH_ready (rs := [8]) (by kernel_rfl) (by simp) ?_
            refine AllReadyH.cons rfl (fun K hK => ?_) (AllReadyH.nil)
            have ba := (Below.refl W71.heap.size W71).alloc (Nat.le_refl _) (.cells #[.slice ya x.length yc] 60)
            have C78 := hide ((unhide C72).drew ba)
            have Y80 := hide ((unhide Y74).up ba)
            have L81 := hide (show (W71.alloc (.cells #[.slice ya x.length yc] 60)).cell? ⟨W71.heap.size, 0, none⟩ = some (.slice ya x.length yc) from World.cell?_alloc_at _ _ _ _ rfl)
            go_simp
            clear ba
            generalize W71.alloc (.cells #[.slice ya x.length yc] 60) = W77 at *
            generalize W71.heap.size = l79 at *
            have hS2 : W77.cell? ⟨w.heap.size, 1, none⟩ = some (.slice (some ⟨b, off, none⟩) wins.length c1) ∧ W77.cell? ⟨b, off + k, none⟩ = some (.slice ia im ic) := ⟨(BoxF.three (unhide C78).arg).1.2.1, ((unhide C78).bel.cell (show b < w.heap.size from (unhide DW).1)).trans (unhide DW).2⟩
            refine hK.out _ _ hS2 ?_
            clear hK K hS hS2 C72 Y74
            intro hS
            try simp [Act.put]
            refine wpAnyH_ready (rs := [9]) (by kernel_rfl) (by simp) ?_
            refine AllReadyH.cons rfl (fun K hK => ?_) (AllReadyH.nil)
            refine step_wiAppend (w := W77) (by rfl) (.tmp 21) (.tmp 28) (by rfl) M (.slice ra rn rc) vs ya x.length yc l79 (by rfl) (by rfl) (unhide C78).row (unhide L81) hvl (unhide C78).msz ?_
            intro g84 n9 cc85 W82 hr hn hg
            subst hn
            have GR := (unhide C78).grow (unhide Y80) hr hg
            have C83 := hide GR.1
            have BX9 := hide GR.2.1
            have NG9 := hide ((unhide C78).ng)
            have LO9 := hide ((unhide C78).lo)
            have hS2 : W82.cell? ⟨w.heap.size, 1, none⟩ = some (.slice (some ⟨b, off, none⟩) wins.length c1) ∧ W82.cell? ⟨b, off + k, none⟩ = some (.slice ia im ic) := ⟨(BoxF.three GR.2.2.1).1.2.1, (GR.2.2.2.1.cell (show b < w.heap.size from (unhide DW).1)).trans (unhide DW).2⟩
            refine hK.out _ _ hS2 ?_
            clear hK K hS hS2 GR hr hg C78 Y80 L81
            intro hS
            try simp [Act.put]
            refine wpAnyH_take (i := 10) (v := .pointer (some ⟨gd, 1, none⟩)) rfl (by kernel_rfl) (by kernel_rfl) (by kernel_rfl) (fun _ _ _ h => h) (Or.inl ⟨by rfl, ?_⟩) hS ?_
            · intro X hX
              obtain ⟨h1, h2⟩ := hX
              clear hS
              go_simp
              try with_reducible rfl
            try simp [Act.put]
            refine wpAnyH_ready (rs := [11]) (by kernel_rfl) (by simp) ?_
            refine AllReadyH.cons rfl (fun K hK => ?_) (AllReadyH.nil)
            obtain ⟨⟨p0, p1, p2⟩, f0, f1, f2⟩ := BoxF.three (unhide BX9)
            go_simp
            have hS2 : (W82.setCell _ _).cell? ⟨w.heap.size, 1, none⟩ = some (.slice (some ⟨b, off, none⟩) wins.length c1) ∧ (W82.setCell _ _).cell? ⟨b, off + k, none⟩ = some (.slice ia im ic) := ⟨(BoxF.three (unhide C83).arg).1.2.1, ((unhide C83).bel.cell (show b < w.heap.size from (unhide DW).1)).trans (unhide DW).2⟩
            refine hK.out _ _ hS2 ?_
            clear hK K hS hS2 p0 p1 p2 f0 f1 f2 BX9
            intro hS
            try simp [Act.put]
            refine wpAnyH_done (by kernel_rfl) ?_ _
            clear hS
            go_wp2_with fail
            go_roundw
            case rel => exact ⟨k + 1, _, _, _, _, by omega, by go_num, by rw [unhide HTK]; exact C83⟩
            case measure => simp [intOf]; omega
          · skip
            have ba := (Below.refl W71.heap.size W71).alloc (Nat.le_refl _) (.cells #[.slice ya x.length yc] 60)
            have C89 := hide ((unhide C72).drew ba)
            have Y91 := hide ((unhide Y74).up ba)
            have L92 := hide (show (W71.alloc (.cells #[.slice ya x.length yc] 60)).cell? ⟨W71.heap.size, 0, none⟩ = some (.slice ya x.length yc) from World.cell?_alloc_at _ _ _ _ rfl)
            go_simp
            clear ba
            generalize W71.alloc (.cells #[.slice ya x.length yc] 60) = W88 at *
            generalize W71.heap.size = l90 at *
            have hS2 : W88.cell? ⟨w.heap.size, 1, none⟩ = some (.slice (some ⟨b, off, none⟩) wins.length c1) ∧ W88.cell? ⟨b, off + k, none⟩ = some (.slice ia im ic) := ⟨(BoxF.three (unhide C89).arg).1.2.1, ((unhide C89).bel.cell (show b < w.heap.size from (unhide DW).1)).trans (unhide DW).2⟩
            refine hK.out _ _ hS2 ?_
            clear hK K hS hS2 C72 Y74
            intro hS
            try simp [Act.put]
            refine wpAnyH_ready (rs := [1]) (by kernel_rfl) (by simp) ?_
            refine AllReadyH.cons rfl (fun K hK => ?_) (AllReadyH.nil)
            have x1 := (BoxF.three (unhide C89).box).1.2.1
            go_simp
            have hS2 := hS
            refine hK.out _ _ hS2 ?_
            clear hK K hS hS2 x1
            intro hS
            try simp [Act.put]
            refine wpAnyH_ready (rs := [9]) (by kernel_rfl) (by simp) ?_
            refine AllReadyH.cons rfl (fun K hK => ?_) (AllReadyH.nil)
            refine step_wiAppend (w := W88) (by rfl) (.tmp 21) (.tmp 28) (by rfl) M (.slice ra rn rc) vs ya x.length yc l90 (by rfl) (by rfl) (unhide C89).row (unhide L92) hvl (unhide C89).msz ?_
            intro g97 n9 cc98 W95 hr hn hg
            subst hn
            have GR := (unhide C89).grow (unhide Y91) hr hg
            have C96 := hide GR.1
            have BX9 := hide GR.2.1
            have NG9 := hide ((unhide C89).ng)
            have LO9 := hide ((unhide C89).lo)
            have hS2 : W95.cell? ⟨w.heap.size, 1, none⟩ = some (.slice (some ⟨b, off, none⟩) wins.length c1) ∧ W95.cell? ⟨b, off + k, none⟩ = some (.slice ia im ic) := ⟨(BoxF.three GR.2.2.1).1.2.1, (GR.2.2.2.1.cell (show b < w.heap.size from (unhide DW).1)).trans (unhide DW).2⟩
            refine hK.out _ _ hS2 ?_
            clear hK K hS hS2 GR hr hg C89 Y91 L92
            intro hS
            try simp [Act.put]
            refine wpAnyH_take (i := 10) (v := .pointer (some ⟨gd, 1, none⟩)) rfl (by kernel_rfl) (by kernel_rfl) (by kernel_rfl) (fun _ _ _ h => h) (Or.inl ⟨by rfl, ?_⟩) hS ?_
            · intro X hX
              obtain ⟨h1, h2⟩ := hX
              clear hS
              go_simp
              try with_reducible rfl
            try simp [Act.put]
            refine wpAnyH_ready (rs := [11]) (by kernel_rfl) (by simp) ?_
            refine AllReadyH.cons rfl (fun K hK => ?_) (AllReadyH.nil)
            obtain ⟨⟨p0, p1, p2⟩, f0, f1, f2⟩ := BoxF.three (unhide BX9)
            go_simp
            have hS2 : (W95.setCell _ _).cell? ⟨w.heap.size, 1, none⟩ = some (.slice (some ⟨b, off, none⟩) wins.length c1) ∧ (W95.setCell _ _).cell? ⟨b, off + k, none⟩ = some (.slice ia im ic) := ⟨(BoxF.three (unhide C96).arg).1.2.1, ((unhide C96).bel.cell (show b < w.heap.size from (unhide DW).1)).trans (unhide DW).2⟩
            refine hK.out _ _ hS2 ?_
            clear hK K hS hS2 p0 p1 p2 f0 f1 f2 BX9
            intro hS
            try simp [Act.put]
            refine wpAnyH_done (by kernel_rfl) ?_ _
            clear hS
            go_wp2_with fail
            go_roundw
            case rel => exact ⟨k + 1, _, _, _, _, by omega, by go_num, by rw [unhide HTK]; exact C96⟩
            case measure => simp [intOf]; omega
      · obtain rfl : k = wins.length := by omega
        rw [List.take_length] at HC
        have RB := (unhide HC).box
        have RR := (unhide HC).res
        obtain ⟨⟨p0, p1, p2⟩, -⟩ := BoxF.three RB
        obtain ⟨⟨q0, q1, q2⟩, f0, f1, f2⟩ := BoxF.three RR
        have hlo := (unhide HC).lo
        have hng := (unhide HC).ng
        have BE := (unhide HC).bel
        have hM := (unhide HC).gm
        have TT : Turn [w.heap.size + 1] wr (((wr.setCell ⟨w.heap.size + 1, 0, none⟩ (.slice ta ins.length tc)).setCell ⟨w.heap.size + 1, 1, none⟩ (.slice ra rn rc)).setCell ⟨w.heap.size + 1, 2, none⟩ (.slice ma shown.length mc)) := (((Turn.refl _ _).setCell (by simp) _ _).setCell (by simp) _ _).setCell (by simp) _ _
        have XB := (((RR.set 0 (.slice ta ins.length tc) (by simp [nil3])).set 1 (.slice ra rn rc) (by simp [nil3])).set 2 (.slice ma shown.length mc) (by simp [nil3]))
        simp only [nil3, List.set] at XB
        have BF := hide (BE.trans (TT.below BE.size (fun q hq => by simp at hq; omega)))
        have hgb : ∃ gb, ra = some ⟨gb, 0, none⟩ := by
          rcases (unhide HC).row.slice with ⟨e, h0⟩ | ⟨g, c, e, -⟩
          · have := (unhide HC).len
            rw [h0] at this
            simp at this
            omega
          · simp only [Value.slice.injEq] at e
            exact ⟨g, e.1⟩
        obtain ⟨gb, rfl⟩ := hgb
        have hge : ∀ (v : Value) (q : Nat), v.ownBlock = some q → (w.heap.size + 2 ≤ q) → q ∉ [w.heap.size + 1] := fun v q _ h hm => by simp at hm; omega
        have SP := hide (show SParts w.heap.size (((wr.setCell ⟨w.heap.size + 1, 0, none⟩ (.slice ta ins.length tc)).setCell ⟨w.heap.size + 1, 1, none⟩ (.slice (some ⟨gb, 0, none⟩) rn rc)).setCell ⟨w.heap.size + 1, 2, none⟩ (.slice ma shown.length mc)) (.slice ta ins.length tc) (.slice (some ⟨gb, 0, none⟩) rn rc) (.slice ma shown.length mc) vs ins wins shown from
          ⟨((unhide HC).tx.keep (fun q hq => TT.block q ((unhide HC).tx.lt q hq) (hge _ q hq ((unhide HC).tx.ge q hq)))).mono (by omega),
           ((unhide HC).row.keep (fun q hq => TT.block q ((unhide HC).row.lt q hq) (hge _ q hq (by have := (unhide HC).row.ge q hq; omega)))).mono (by omega), (unhide HC).len,
           fun i h1 h2 => ((((unhide HC).each i h1 h2).off (unhide HC).row TT (fun q hq => by simp at hq; exact .inr (by omega))).mono (by omega)),
           ((unhide HC).mr.keep (fun q hq => TT.block q ((unhide HC).mr.lt q hq) (hge _ q hq ((unhide HC).mr.ge q hq)))).mono (by omega)⟩)
        clear RB RR TT BE HC
        go_wp2_with fail
        clear p0 p1 p2 q0 q1 q2 f0 f1 f2 e0 e1 e2
        generalize ((wr.setCell ⟨w.heap.size + 1, 0, none⟩ (.slice ta ins.length tc)).setCell ⟨w.heap.size + 1, 1, none⟩ (.slice (some ⟨gb, 0, none⟩) rn rc)).setCell ⟨w.heap.size + 1, 2, none⟩ (.slice ma shown.length mc) = WF at *
        obtain ⟨⟨s0, s1, s2⟩, -⟩ := BoxF.three XB
        refine bodyPost_ret (v := .agg #[.slice ta ins.length tc, .slice (some ⟨gb, 0, none⟩) rn rc, .slice ma shown.length mc]) ?_ rfl ?_
        · simp [results, Tryz.results24, go_sem, s0, s1, s2]
        exact ⟨ta, _, tc, gb, rn, rc, ma, _, mc, vs, rfl, SP, unhide BF⟩
end Go.Proofs.YtknkdbfgfcgkiaaGreatDoor
