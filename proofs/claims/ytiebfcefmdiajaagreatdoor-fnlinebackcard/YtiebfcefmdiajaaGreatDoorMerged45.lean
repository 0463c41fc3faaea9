/-
  SayLine of the program.
-/
/-
  The specification cuts a line at a byte.
-/
import Derived.Test.YtiebfcefmdiajaaGreatDoorLineI
import Derived.Test.YtiebfcefmdiajaaGreatDoorSayOkI
import Derived.Deep.RegionHeld3
import Derived.Test.YtiebfcefmdiajaaGreatDoorLineMath
import Derived.Test.YtiebfcefmdiajaaGreatDoorMerged43
import Derived.Test.YtiebfcefmdiajaaGreatDoorBoxes
set_option linter.unusedVariables false
namespace Go.Proofs.YtiebfcefmdiajaaGreatDoor
open Go.RowKit Go.Maps Go.Deep

set_option maxRecDepth 20000 in
set_option maxHeartbeats 6400000 in
theorem implSayLine_any (s : SayV) (v : Value) (w : World) (hs : SmallSay s) (h : SayRd w v s) (hp : PowIn w) :
    Calls Tryz.prog 12 #[v] w fun e w' => e = .returned (.string (lineOut s)) ∧ Below w.heap.size w w' := by
  have HO := hide (fun (W : World) (bW : Below w.heap.size w W) => implSayOk_any s v W hs (h.up bW))
  have hv : F64 s.val := hs.2.2.2.2.2
  obtain ⟨v5, rfl, a, c, rfl, hin⟩ := h
  have bx := boxF_new w [.int .i64 s.kind, .int .i64 s.src, .int .i64 s.dst, .string s.name, .int .i64 s.val, .slice a s.stamp.length c] 24
  have bb := (Below.refl w.heap.size w).alloc (Nat.le_refl _) (.cells #[.int .i64 s.kind, .int .i64 s.src, .int .i64 s.dst, .string s.name, .int .i64 s.val, .slice a s.stamp.length c] 24)
  simp only [List.toArray] at bx
  have HIN := hide hin
  have HP := hide hp
  clear hs hin hp
  obtain ⟨R, HR⟩ : ∃ R, Hid (R = lineOut s) := ⟨_, rfl⟩
  rw [← unhide HR]
  have c0 := bx.1.at 0 _ rfl
  have c1 := bx.1.at 1 _ rfl
  have c2 := bx.1.at 2 _ rfl
  have c3 := bx.1.at 3 _ rfl
  have c4 := bx.1.at 4 _ rfl
  have c5 := bx.1.at 5 _ rfl
  by_cases hok : sayOkB s = true
  rotate_left
  · have hno : sayOkB s = false := by simpa using hok
    have HE := hide (show R = ⟨#[]⟩ by rw [unhide HR]; unfold lineOut; rw [if_neg hok])
    rw [hno] at HO
    clear hok hno HR HIN HP bx
    generalize s.stamp.length = n at *
    generalize s.kind = kind at *
    generalize s.src = src at *
    generalize s.dst = dst at *
    generalize s.val = val at *
    generalize s.name = name at *
    go_enter Tryz.func12, Tryz.ntmps12
    go_wp2_with fail
    generalize w.alloc (.cells #[.int .i64 kind, .int .i64 src, .int .i64 dst, .string name, .int .i64 val, .slice a n c] 24) = W at *
    go_wp2_with fail
    refine (unhide HO W bb).mono ?_
    rintro e w1 ⟨rfl, b1⟩
    go_wp2_with fail
    go_ret
    exact ⟨by rw [unhide HE]; rfl, bb.trans (b1.mono bb.size)⟩
  have HE := hide (show R = lineT s by rw [unhide HR]; unfold lineOut; rw [if_pos hok])
  have HLN := hide (fun (w2 : World) (lb kb : Nat) (hb : Below w.heap.size w w2) (hl : w.heap.size ≤ lb) (hx : LexNew w2 lb kb) => implLine_any s a c w w2 lb kb hok hv ((unhide HIN).below hb) (fun h0 sb off e => by
    rcases unhide HIN with h1 | ⟨b, o, e2, hb2, -⟩
    · exact absurd h1 h0
    · rw [e] at e2
      simp only [Option.some.injEq, Addr.mk.injEq] at e2
      omega) hx ⟨unhide HP, hb, hl⟩)
  rw [hok] at HO
  have BX := hide bx
  clear hok HR HIN HP bx
  generalize s.stamp.length = n at *
  generalize s.kind = kind at *
  generalize s.src = src at *
  generalize s.dst = dst at *
  generalize s.val = val at *
  generalize s.name = name at *
  go_enter Tryz.func12, Tryz.ntmps12
  go_wp2_with fail
  generalize w.alloc (.cells #[.int .i64 kind, .int .i64 src, .int .i64 dst, .string name, .int .i64 val, .slice a n c] 24) = W at *
  go_wp2_with fail
  refine (unhide HO W bb).mono ?_
  rintro e w1 ⟨rfl, b1⟩
  have B1 := hide (bb.trans (b1.mono bb.size))
  have X1 := hide ((unhide BX).up b1)
  have KP := hide (show ∀ X : World, Below w1.heap.size w1 X → (fun X : World => (X.cell? ⟨w.heap.size, 0, none⟩ = some (.int .i64 kind) ∧ X.cell? ⟨w.heap.size, 1, none⟩ = some (.int .i64 src) ∧ X.cell? ⟨w.heap.size, 2, none⟩ = some (.int .i64 dst) ∧ X.cell? ⟨w.heap.size, 3, none⟩ = some (.string name) ∧ X.cell? ⟨w.heap.size, 4, none⟩ = some (.int .i64 val) ∧ X.cell? ⟨w.heap.size, 5, none⟩ = some (.slice a n c)) ∧ Hid (Below w1.heap.size w1 X)) X from fun X b => by
    have x := ((unhide X1).up b).1
    exact ⟨⟨x.at 0 _ rfl, x.at 1 _ rfl, x.at 2 _ rfl, x.at 3 _ rfl, x.at 4 _ rfl, x.at 5 _ rfl⟩, hide b⟩)
  have BD := hide ((Below.refl w1.heap.size w1).drew)
  have hS := unhide KP w1 (Below.refl _ _)
  obtain ⟨⟨x0, x1, x2, x3, x4, x5⟩, -⟩ := hS
  clear b1 bb c0 c1 c2 c3 c4 c5 HO
  go_wp2_with fail
  go_region_held3 (fun X : World => (X.cell? ⟨w.heap.size, 0, none⟩ = some (.int .i64 kind) ∧ X.cell? ⟨w.heap.size, 1, none⟩ = some (.int .i64 src) ∧ X.cell? ⟨w.heap.size, 2, none⟩ = some (.int .i64 dst) ∧ X.cell? ⟨w.heap.size, 3, none⟩ = some (.string name) ∧ X.cell? ⟨w.heap.size, 4, none⟩ = some (.int .i64 val) ∧ X.cell? ⟨w.heap.size, 5, none⟩ = some (.slice a n c)) ∧ Hid (Below w1.heap.size w1 X)) ((refine unhide KP _ ?_; exact unhide (by assumption)))
    (first
      | (go_at_call 24; refine (newLex_any _).mono ?_; rintro e w2 ⟨lb, kb, rfl, HL2, hl2, hk2, b2⟩; have BB2 := hide ((unhide BD).trans (b2.mono (unhide BD).size)); have hwl := Nat.le_trans (unhide B1).size (Nat.le_trans (unhide BD).size hl2); clear b2)
      | (go_at_call 27; refine (unhide HLN _ lb kb ((unhide B1).trans ((unhide BB2).mono (unhide B1).size)) hwl (unhide HL2)).mono ?_; rintro e w3 ⟨rfl, t3⟩; have BB3 := hide ((unhide BB2).trans (t3.below (unhide BB2).size (by simp; exact Nat.le_trans (unhide BD).size hl2))); clear t3)
      | fail)
  all_goals
    go_wp2_with fail
    go_ret
    exact ⟨by rw [unhide HE]; rfl, (unhide B1).trans ((unhide BB3).mono (unhide B1).size)⟩
end Go.Proofs.YtiebfcefmdiajaaGreatDoor

set_option linter.unusedVariables false
namespace Go.Proofs.YtiebfcefmdiajaaGreatDoor
open Go.RowKit Go.Maps Go.Deep

/-- one more text, of a longer list -/
theorem wpList_txAppendG {w : World} {ops : Array Oper} {rest : List Oper} {o : Oper} {a : Act} {Q : Exit → Act → World → Prop} (hgd : o.guard = none) (s x : Operand)
    (ho : o.op = .call { callee := .builtin .append, args := #[s, x], argTypes := #[41, 41] }) (B : Nat) (v : Value) (ts : List ByteArray) (y : ByteArray) (g : Nat) (hs : a.eval s = v) (hx : a.eval x = .slice (some ⟨g, 0, none⟩) 1 1)
    (hv : TxRow B w v ts) (c0 : w.cell? ⟨g, 0, none⟩ = some (.string y)) (hl : ts.length ≤ 4000000) (hB : B ≤ w.heap.size)
    (h : ∀ g' n c w', TxRow B w' (.slice (some ⟨g', 0, none⟩) n c) (ts ++ [y]) → w.grownBy w' v.ownBlock → wpList Tryz.prog ops Q rest (a.put o.dst (.slice (some ⟨g', 0, none⟩) n c)) w') : wpList Tryz.prog ops Q (o :: rest) a w := by
  obtain ⟨i0, hi, hz0, hz1, hz2⟩ := info_parts1 infoTx
  refine wpList_append_lies w hgd s x 41 ho B 9 i0 _ 1 16 Tryz.underlying41 hi hz0 hz1 hz2 rfl (by decide) v ts.length (ts.map .string) hs hv ⟨g, 0, none⟩ 1 1 [.string y] hx rfl (news_tx c0) (by intro u hu; simp at hu; rw [hu]; rfl) (by decide) (by unfold maxLen; omega) (by omega) hB w.heap.size rfl ?_
  intro g' cap w' h2 h3 h4 h5
  refine h g' _ cap w' ?_ h3
  unfold TxRow
  rw [List.length_append, List.map_append]
  exact h2
theorem ext_bytL (s : ByteArray) (a b : Nat) : s.extract a b = bytL ((s.data.toList.take b).drop a) := by
  apply ByteArray.ext
  apply Array.toList_inj.1
  simp [bytL, List.extract_eq_take_drop, List.drop_take]
/-- between the rounds: the parts so far, where the open one begins -/
structure CutMid10 (c : UInt8) (s : ByteArray) (w : World) (vo : Value) (k at' : Nat) (wr : World) : Prop where
  row : TxRow w.heap.size wr vo ((cutSt c (s.data.toList.take k)).1.map bytL)
  opn : (cutSt c (s.data.toList.take k)).2 = (s.data.toList.take k).drop at'
  le : at' ≤ k
  len : (cutSt c (s.data.toList.take k)).1.length ≤ k
  bel : Below w.heap.size w wr
set_option maxRecDepth 20000 in
set_option maxHeartbeats 3200000 in
theorem l10Split_any (s : ByteArray) (c : UInt8) (w : World) (hs : s.size ≤ 1048576) :
    Calls Tryz.prog 21 #[.string s, .int .u8 (c.toNat : Int)] w fun e w' => ∃ v, e = .returned v ∧ Hid (TxRow w.heap.size w' v ((cutB c s.data.toList).map bytL)) ∧ Below w.heap.size w w' := by
  go_enter Tryz.func21, Tryz.ntmps21
  go_wp2_with fail
  go_loopw [5, 6, 7] (fun ov av iv wr => ∃ (k at' : Nat) (oa : Option Addr) (on oc : Nat), k ≤ s.size ∧ iv = .int .i64 (k : Int) ∧ av = .int .i64 (at' : Int) ∧ ov = .slice oa on oc ∧ Hid (CutMid10 c s w (.slice oa on oc) k at' wr)) (fun _ _ iv _ => s.size - (intOf iv).toNat)
  case atStart => exact ⟨0, 0, none, 0, 0, Nat.zero_le _, rfl, rfl, rfl, hide ⟨TxRow.nil _ _, rfl, Nat.le_refl _, Nat.le_refl _, Below.refl _ _⟩⟩
  case round =>
    obtain ⟨k, at', oa, on, oc, hk, rfl, rfl, rfl, HM⟩ := hrel
    have hat := (unhide HM).le
    by_cases hlt : k < s.size
    · have hlt' : (k : Int) < (s.size : Int) := by omega
      by_cases hc : s[k] = c
      · have hcb : ((s[k].toNat : Int) == (c.toNat : Int)) = true := by rw [hc]; simp
        have hst : cutSt c (s.data.toList.take (k + 1)) = ((cutSt c (s.data.toList.take k)).1 ++ [(cutSt c (s.data.toList.take k)).2], []) := by
          rw [List.take_succ_eq_append_getElem (by simpa using hlt), cutSt_snoc, cutStep, if_pos (by simpa [ByteArray.getElem_eq_getElem_data] using hc)]
        have HPC := hide (show s.extract at' k = bytL (cutSt c (s.data.toList.take k)).2 by rw [ext_bytL, (unhide HM).opn])
        have A1 := hide ((Below.refl _ wr).alloc (Nat.le_refl _) (.cells #[.string (s.extract at' k)] 9))
        have R1 := hide ((unhide HM).row.up (unhide A1))
        have C1 := hide ((boxF_new wr [.string (s.extract at' k)] 9).1.at 0 _ rfl)
        have HL1 := hide (show (((cutSt c (s.data.toList.take k)).1).map bytL).length ≤ 4000000 by have := (unhide HM).len; simp; omega)
        have B1 := hide ((unhide HM).bel.trans ((unhide A1).mono (unhide HM).bel.size))
        have HST := hide hst
        have HLN := hide (unhide HM).len
        have hk1 : (k : Int) + 1 ≤ 1048577 := by omega
        clear hc hst HM
        generalize cutSt c (s.data.toList.take k) = st at *
        go_wp2_with (first
          | (at_builtin; refine wpList_txAppendG rfl _ _ rfl w.heap.size (.slice oa on oc) (st.1.map bytL) (s.extract at' k) wr.heap.size rfl rfl (unhide R1) (unhide C1) (unhide HL1) (unhide B1).size ?_; intro g3 n3 c3 w3 r3 gr3; have R3 := hide r3; have B3 := hide (Below.grown (unhide B1) gr3 (unhide B1).size (fun y hy => (unhide R1).ge y hy)); clear r3 gr3)
          | fail)
        go_roundw
        case rel => exact ⟨k + 1, k + 1, _, n3, c3, by omega, by go_num, by go_num, rfl, hide ⟨by rw [unhide HST]; have := unhide R3; rw [unhide HPC] at this; simpa using this, by rw [unhide HST, List.drop_of_length_le (by simp; omega)], Nat.le_refl _, by rw [unhide HST]; have := unhide HLN; simp; omega, unhide B3⟩⟩
        case measure => simp [intOf]; omega
      · have hcb : ((s[k].toNat : Int) == (c.toNat : Int)) = false := by
          rw [beq_eq_false_iff_ne]
          intro e
          exact hc (UInt8.toNat_inj.1 (Int.ofNat.inj e))
        have hst : cutSt c (s.data.toList.take (k + 1)) = ((cutSt c (s.data.toList.take k)).1, (cutSt c (s.data.toList.take k)).2 ++ [s[k]]) := by
          rw [List.take_succ_eq_append_getElem (by simpa using hlt), cutSt_snoc, cutStep, if_neg (by simpa [ByteArray.getElem_eq_getElem_data] using hc)]
          simp [ByteArray.getElem_eq_getElem_data]
        have M2 := hide (show CutMid10 c s w (.slice oa on oc) (k + 1) at' wr from ⟨by rw [hst]; exact (unhide HM).row, by
          rw [hst]
          simp only
          rw [(unhide HM).opn, List.take_succ_eq_append_getElem (by simpa using hlt), List.drop_append_of_le_length (by simp; omega)]
          simp [ByteArray.getElem_eq_getElem_data], by omega, by rw [hst]; have := (unhide HM).len; simp only; omega, (unhide HM).bel⟩)
        clear hc hst HM
        go_wp2_with fail
        go_roundw
        case rel => exact ⟨k + 1, at', oa, on, oc, by omega, by go_num, rfl, rfl, M2⟩
        case measure => simp [intOf]; omega
    · have e : k = s.size := by omega
      subst e
      have hl : s.data.toList.length = s.size := by simp
      have hlt' : ¬ ((s.size : Int) < (s.size : Int)) := by omega
      have hat2 : (at' : Int) ≤ (s.size : Int) := by omega
      have htk : s.data.toList.take s.size = s.data.toList := List.take_of_length_le (by simp)
      have HPC := hide (show s.extract at' s.size = bytL (cutSt c s.data.toList).2 by rw [ext_bytL]; have := (unhide HM).opn; rw [htk] at this ⊢; rw [this])
      have A1 := hide ((Below.refl _ wr).alloc (Nat.le_refl _) (.cells #[.string (s.extract at' s.size)] 9))
      have R1 := hide (show TxRow w.heap.size (wr.alloc (.cells #[.string (s.extract at' s.size)] 9)) (.slice oa on oc) ((cutSt c s.data.toList).1.map bytL) from by have := (unhide HM).row; rw [htk] at this; exact this.up (unhide A1))
      have C1 := hide ((boxF_new wr [.string (s.extract at' s.size)] 9).1.at 0 _ rfl)
      have HL1 := hide (show (((cutSt c s.data.toList).1).map bytL).length ≤ 4000000 by have := (unhide HM).len; rw [htk] at this; simp; omega)
      have B1 := hide ((unhide HM).bel.trans ((unhide A1).mono (unhide HM).bel.size))
      have HCB := hide (show (cutSt c s.data.toList).1.map bytL ++ [bytL (cutSt c s.data.toList).2] = (cutB c s.data.toList).map bytL by unfold cutB; simp)
      clear HM
      generalize cutSt c s.data.toList = st at *
      go_wp2_with (first
        | (at_builtin; refine wpList_txAppendG rfl _ _ rfl w.heap.size (.slice oa on oc) (st.1.map bytL) (s.extract at' s.size) wr.heap.size rfl rfl (unhide R1) (unhide C1) (unhide HL1) (unhide B1).size ?_; intro g3 n3 c3 w3 r3 gr3; have R3 := hide r3; have B3 := hide (Below.grown (unhide B1) gr3 (unhide B1).size (fun y hy => (unhide R1).ge y hy)); clear r3 gr3)
        | fail)
      go_ret
      exact ⟨_, rfl, hide (by have := unhide R3; rw [unhide HPC, unhide HCB] at this; exact this), unhide B3⟩
end Go.Proofs.YtiebfcefmdiajaaGreatDoor
