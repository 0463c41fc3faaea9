/-
  The program cuts a line at a rune.
-/
/-
  The program's loose number: what it takes a text for, whatever the text is.
-/
import Derived.Test.YtiebfcefmdiajaaGreatDoorMerged45
import Derived.Test.YtiebfcefmdiajaaGreatDoorShelfA
import Derived.Test.YtiebfcefmdiajaaGreatDoorMerged38
import Derived.Lib.OthersKept
import Derived.Laws.RangeAny
import Derived.Test.YtiebfcefmdiajaaGreatDoorStampRdM
import Derived.Test.YtiebfcefmdiajaaGreatDoorMerged43
import Derived.Test.YtiebfcefmdiajaaGreatDoorMerged6
set_option linter.unusedVariables false
namespace Go.Proofs.YtiebfcefmdiajaaGreatDoor
open Go.RowKit Go.Maps Go.Deep Go.Lib

theorem getB (s : ByteArray) (k : Nat) (h : k < s.size) : s.get! k = s[k] := get_at s k h
theorem decode_cont (s : ByteArray) (pos : Nat) : ∀ k, 1 ≤ k → k < (Utf8.decode s pos).2 → pos + k < s.size ∧ 128 ≤ (s.get! (pos + k)).toNat := by
  intro k h1 h2
  unfold Utf8.decode at h2
  simp only at h2
  split at h2
  · simp at h2; omega
  split at h2
  · rename_i hc
    simp only [Bool.and_eq_true, decide_eq_true_eq, beq_iff_eq] at hc
    split at h2
    · simp only at h2
      obtain rfl : k = 1 := by omega
      exact ⟨hc.2.1, by omega⟩
    · simp at h2; omega
  split at h2
  · rename_i hc
    simp only [Bool.and_eq_true, decide_eq_true_eq, beq_iff_eq] at hc
    split at h2
    · simp only at h2
      rcases (show k = 1 ∨ k = 2 by omega) with rfl | rfl
      · exact ⟨hc.1.2.1, by omega⟩
      · exact ⟨hc.2.1, by omega⟩
    · simp at h2; omega
  split at h2
  · rename_i hc
    simp only [Bool.and_eq_true, decide_eq_true_eq, beq_iff_eq] at hc
    split at h2
    · simp only at h2
      rcases (show k = 1 ∨ k = 2 ∨ k = 3 by omega) with rfl | rfl | rfl
      · exact ⟨hc.1.1.2.1, by omega⟩
      · exact ⟨hc.1.2.1, by omega⟩
      · exact ⟨hc.2.1, by omega⟩
    · simp at h2; omega
  · simp at h2; omega
/-- a rune is the edge just where the byte is; no byte within another rune is -/
theorem rune_edge (s : ByteArray) (pos : Nat) (hp : pos < s.size) (c : UInt8) (hc : c.toNat < 128) :
    ((Utf8.decode s pos).1 = c.toNat ↔ s[pos] = c) ∧ 1 ≤ (Utf8.decode s pos).2 ∧ pos + (Utf8.decode s pos).2 ≤ s.size ∧ (s[pos] = c → (Utf8.decode s pos).2 = 1) ∧ ∀ j (hj : j < s.size), pos < j → j < pos + (Utf8.decode s pos).2 → s[j] ≠ c := by
  have hcont := decode_cont s pos
  have hin : ∀ j (hj : j < s.size), pos < j → j < pos + (Utf8.decode s pos).2 → s[j] ≠ c := fun j hj h1 h2 e => by
    obtain ⟨h3, h4⟩ := hcont (j - pos) (by omega) (by omega)
    rw [show pos + (j - pos) = j by omega, getB s j hj, e] at h4
    omega
  have hle : 1 ≤ (Utf8.decode s pos).2 → pos + (Utf8.decode s pos).2 ≤ s.size := fun h1 => by
    by_cases h2 : (Utf8.decode s pos).2 = 1
    · omega
    · have := (hcont ((Utf8.decode s pos).2 - 1) (by omega) (by omega)).1
      omega
  by_cases hh : s[pos].toNat < 128
  · have e := decode_ascii s pos hp hh
    rw [e] at hin hle ⊢
    refine ⟨⟨fun h => UInt8.toNat_inj.1 h, fun h => by rw [h]⟩, Nat.le_refl _, hle (Nat.le_refl _), fun _ => rfl, hin⟩
  · obtain ⟨h1, h2⟩ := decode_high s pos hp (by omega)
    refine ⟨⟨fun h => by omega, fun h => by rw [h] at hh; omega⟩, h2, hle h2, fun h => by rw [h] at hh; omega, hin⟩
/-- the parts of what is behind a rune that is no edge -/
theorem cut_skip (c : UInt8) (s : ByteArray) (pos n : Nat) (h : pos + n ≤ s.size) (hn : ∀ j (hj : j < s.size), pos ≤ j → j < pos + n → s[j] ≠ c) :
    cutSt c (s.data.toList.take (pos + n)) = ((cutSt c (s.data.toList.take pos)).1, (cutSt c (s.data.toList.take pos)).2 ++ (s.data.toList.take (pos + n)).drop pos) := by
  induction n with
  | zero => simp
  | succ n ih =>
    have hlt : pos + n < s.data.toList.length := by simp; omega
    rw [← Nat.add_assoc, List.take_succ_eq_append_getElem hlt, cutSt_snoc, ih (by omega) (fun j hj h1 h2 => hn j hj h1 (by omega)), cutStep, if_neg]
    · simp only
      rw [List.drop_append_of_le_length (by simp; omega), List.append_assoc]
    · have := hn (pos + n) (by omega) (by omega) (by omega)
      simpa [ByteArray.getElem_eq_getElem_data] using this
structure CutMidI (c : UInt8) (s : ByteArray) (w : World) (vo : Value) (k at' : Nat) (it : Nat) (wr : World) : Prop where
  row : TxRow w.heap.size wr vo ((cutSt c (s.data.toList.take k)).1.map bytL)
  opn : (cutSt c (s.data.toList.take k)).2 = (s.data.toList.take k).drop at'
  le : at' ≤ k
  len : (cutSt c (s.data.toList.take k)).1.length ≤ k
  bel : Below w.heap.size w wr
  iter : wr.heap[it]? = some (.stringIter s k)
theorem clone_str (s : ByteArray) (w : World) (hs : s.size ≤ 1048576) : Calls Tryz.prog 68 #[.string s] w fun e w' => e = .returned (.string s) ∧ Below w.heap.size w w' := by
  have HC := hide (Tryz.stringslite_Clone s w (by omega))
  go_enter Tryz.func68, Tryz.ntmps68
  go_wp2_with fail
  refine (unhide HC).mono ?_
  rintro e w1 ⟨rfl, b1⟩
  go_wp2_with fail
  go_ret
  exact ⟨rfl, b1⟩
theorem TxRow.noIter {B : Nat} {w : World} {v : Value} {ts : List ByteArray} {it : Nat} {s : ByteArray} {k : Nat} (h : TxRow B w v ts) (hi : w.heap[it]? = some (.stringIter s k)) : v.ownBlock ≠ some it := by
  intro hg
  rcases h with ⟨_, ⟨rfl, h0⟩ | ⟨g, cap, cur, rfl, _, hh, _⟩⟩
  · simp [Value.ownBlock] at hg
  · simp [Value.ownBlock] at hg
    rw [hg, hi] at hh
    cases hh
theorem CutMidI.move {c : UInt8} {s : ByteArray} {w : World} {vo : Value} {k at' it : Nat} {wr : World} (h : CutMidI c s w vo k at' it wr) (hit : w.heap.size ≤ it) (n : Nat) (hn : k + n ≤ s.size) (hno : ∀ j (hj : j < s.size), k ≤ j → j < k + n → s[j] ≠ c) : CutMidI c s w vo (k + n) at' it (wr.iterAt it s (k + n)) := by
  have hcs := cut_skip c s k n hn hno
  refine ⟨?_, ?_, by have := h.le; omega, ?_, below_iterAt h.bel hit _ _, iterAt_heap _ _ _ _ _ h.iter⟩
  · rw [hcs]
    refine h.row.keep (fun g hg => iterAt_other _ _ _ _ _ ?_)
    intro e
    rw [e] at hg
    exact h.row.noIter h.iter hg
  · rw [hcs]
    simp only
    rw [h.opn, ← List.drop_append_of_le_length (by simp; have := h.le; omega)]
    congr 1
    have e : s.data.toList.take k = (s.data.toList.take (k + n)).take k := by rw [List.take_take]; congr 1; omega
    rw [e, List.take_append_drop]
  · rw [hcs]
    have := h.len
    simp only
    omega
set_option maxRecDepth 20000 in
set_option maxHeartbeats 6400000 in
theorem cutAt_any (s : ByteArray) (c : UInt8) (w : World) (hs : s.size ≤ 1000) (hc : c.toNat < 128) :
    Calls Tryz.prog 47 #[.string s, .int .i32 (c.toNat : Int)] w fun e w' => ∃ v, e = .returned v ∧ Hid (TxRow w.heap.size w' v ((cutB c s.data.toList).map bytL)) ∧ Below w.heap.size w w' := by
  have HE := hide (fun (k : Nat) (hk : k < s.size) => rune_edge s k hk c hc)
  have HC := hide (fun (t : ByteArray) (ht : t.size ≤ 1000) (W : World) => clone_str t W (by omega))
  clear hc
  go_enter Tryz.func47, Tryz.ntmps47
  go_wp2_with fail
  go_loopw [5, 6, 7, 8] (fun ov av _ _ wr => ∃ (k at' : Nat) (oa : Option Addr) (on oc : Nat), k ≤ s.size ∧ av = .int .i64 (at' : Int) ∧ ov = .slice oa on oc ∧ at' ≤ k ∧ Hid (CutMidI c s w (.slice oa on oc) k at' w.heap.size wr)) (fun _ _ _ _ wr => s.size - wr.iterPos w.heap.size)
  case atStart => exact ⟨0, 0, none, 0, 0, Nat.zero_le _, rfl, rfl, Nat.le_refl _, hide ⟨TxRow.nil _ _, rfl, Nat.le_refl _, Nat.le_refl _, (Below.refl _ _).alloc (Nat.le_refl _) _, World.iter_heap _ _ _⟩⟩
  case round =>
    obtain ⟨k, at', oa, on, oc, hk, rfl, rfl, hat, HM⟩ := hrel
    have hit := (unhide HM).iter
    have hpos : wr.iterPos w.heap.size = k := by simp [World.iterPos, hit]
    have HPOS := hide hpos
    clear hpos
    by_cases hp : k < s.size
    · have hnx : ∀ ty, (Instr.next (.pointer (some ⟨w.heap.size, 0, none⟩)) true ty).run Tryz.prog wr = _ := fun ty => run_next_any_at wr w.heap.size s k ty hit hp
      obtain ⟨e1, e2, e3, e4, e5⟩ := unhide HE k hp
      by_cases he : s[k] = c
      · have hw1 := e4 he
        have hr := e1.2 he
        rw [hw1, hr] at hnx
        have hcb : ((c.toNat : Int) == (c.toNat : Int)) = true := by simp
        have hst : cutSt c (s.data.toList.take (k + 1)) = ((cutSt c (s.data.toList.take k)).1 ++ [(cutSt c (s.data.toList.take k)).2], []) := by
          rw [List.take_succ_eq_append_getElem (by simpa using hp), cutSt_snoc, cutStep, if_pos (by simpa [ByteArray.getElem_eq_getElem_data] using he)]
        have HPC := hide (show s.extract at' k = bytL (cutSt c (s.data.toList.take k)).2 by rw [ext_bytL, (unhide HM).opn])
        have R1 := hide (show TxRow w.heap.size (wr.iterAt w.heap.size s (k + 1)) (.slice oa on oc) ((cutSt c (s.data.toList.take k)).1.map bytL) from (unhide HM).row.keep (fun g hg => iterAt_other _ _ _ _ _ (by
          intro e
          rw [e] at hg
          exact (unhide HM).row.noIter (unhide HM).iter hg)))
        have B1 := hide (below_iterAt (unhide HM).bel (Nat.le_refl w.heap.size) s (k + 1))
        have I1 := hide (iterAt_heap wr w.heap.size s k (k + 1) hit)
        have HST := hide hst
        have HLN := hide (unhide HM).len
        have hzx : (s.extract at' k).size ≤ 1000 := by simp; omega
        have hk1 : (k : Int) + 1 ≤ 1001 := by omega
        have hks : (k : Int) ≤ (s.size : Int) := by omega
        have hatk : (at' : Int) ≤ (k : Int) := by omega
        clear hst he e1 e4 e5 e2 e3 hw1 hr HM hit HE
        generalize hTK : cutSt c (s.data.toList.take k) = st at *
        clear hTK
        go_wp2_with fail
        generalize wr.iterAt w.heap.size s (k + 1) = W1 at *
        refine (unhide HC (s.extract at' k) hzx _).mono ?_
        rintro e w2 ⟨rfl, b2⟩
        have A3 := hide ((Below.refl _ w2).alloc (Nat.le_refl _) (.cells #[.string (s.extract at' k)] 9))
        have R3 := hide (((unhide R1).up b2).up (unhide A3))
        have C3 := hide ((boxF_new w2 [.string (s.extract at' k)] 9).1.at 0 _ rfl)
        have B2 := hide ((unhide B1).trans (b2.mono (unhide B1).size))
        have B3 := hide ((unhide B2).trans ((unhide A3).mono (unhide B2).size))
        have hit1 : w.heap.size < W1.heap.size := (Array.getElem?_eq_some_iff.1 (unhide I1)).1
        have I3 := hide (show (w2.alloc (.cells #[.string (s.extract at' k)] 9)).heap[w.heap.size]? = some (.stringIter s (k + 1)) from ((unhide A3).block _ (Nat.lt_of_lt_of_le hit1 b2.size)).trans ((b2.block _ hit1).trans (unhide I1)))
        have hit3 : w.heap.size < (w2.alloc (.cells #[.string (s.extract at' k)] 9)).heap.size := (Array.getElem?_eq_some_iff.1 (unhide I3)).1
        have HL1 := hide (show (st.1.map bytL).length ≤ 4000000 by have := unhide HLN; simp; omega)
        clear b2 R1 B1 I1 B2 A3
        go_wp2_with (first
          | (at_builtin; refine wpList_txAppendG rfl _ _ rfl w.heap.size (.slice oa on oc) (st.1.map bytL) (s.extract at' k) w2.heap.size rfl rfl (unhide R3) (unhide C3) (unhide HL1) (unhide B3).size ?_; intro g3 n3 c3 w3 r3 gr3; have R4 := hide r3; have B4 := hide (Below.grown (unhide B3) gr3 (unhide B3).size (fun y hy => (unhide R3).ge y hy)); have I4 := hide ((gr3.block w.heap.size hit3 (fun e => (unhide R3).noIter (unhide I3) e.symm)).trans (unhide I3)); clear r3 gr3)
          | fail)
        have HP4 := hide (show w3.iterPos w.heap.size = k + 1 from by simp [World.iterPos, unhide I4])
        go_roundw
        case rel => exact ⟨k + 1, k + 1, _, n3, c3, by omega, by go_num, rfl, Nat.le_refl _, hide ⟨by rw [unhide HST]; have := unhide R4; rw [unhide HPC] at this; simpa using this, by rw [unhide HST, List.drop_of_length_le (by simp; omega)], Nat.le_refl _, by rw [unhide HST]; have := unhide HLN; simp; omega, unhide B4, unhide I4⟩⟩
        case measure => rw [unhide HPOS, unhide HP4]; omega
      · have M2 := hide ((unhide HM).move (Nat.le_refl _) (Utf8.decode s k).2 e3 (fun j hj h1 h2 => by
          by_cases hjk : j = k
          · subst hjk; exact he
          · exact e5 j hj (by omega) h2))
        have hcb : (((Utf8.decode s k).1 : Int) == (c.toNat : Int)) = false := by
          rw [beq_eq_false_iff_ne]
          intro e
          exact he (e1.1 (by omega))
        have HP2 := hide (show ((wr.iterAt w.heap.size s (k + (Utf8.decode s k).2)).iterPos w.heap.size) = k + (Utf8.decode s k).2 from by simp [World.iterPos, (unhide M2).iter])
        clear he e1 e4 e5 HM
        generalize (Utf8.decode s k).1 = rn at *
        generalize (Utf8.decode s k).2 = wd at *
        go_wp2_with fail
        go_roundw
        case rel => exact ⟨k + wd, at', oa, on, oc, e3, rfl, rfl, by omega, M2⟩
        case measure => rw [unhide HPOS, unhide HP2]; omega
    · have e : k = s.size := by omega
      subst e
      have hnx : ∀ ty, (Instr.next (.pointer (some ⟨w.heap.size, 0, none⟩)) true ty).run Tryz.prog wr = _ := fun ty => run_next_end_at wr w.heap.size s s.size ty hit hp
      have hat2 : (at' : Int) ≤ (s.size : Int) := by omega
      have htk : s.data.toList.take s.size = s.data.toList := List.take_of_length_le (by simp)
      have HPC := hide (show s.extract at' s.size = bytL (cutSt c s.data.toList).2 by rw [ext_bytL]; have := (unhide HM).opn; rw [htk] at this ⊢; rw [this])
      have R1 := hide (show TxRow w.heap.size wr (.slice oa on oc) ((cutSt c s.data.toList).1.map bytL) from by have := (unhide HM).row; rw [htk] at this; exact this)
      have B1 := hide (unhide HM).bel
      have HLN := hide (show (cutSt c s.data.toList).1.length ≤ s.size from by have := (unhide HM).len; rw [htk] at this; exact this)
      have HCB := hide (show (cutSt c s.data.toList).1.map bytL ++ [bytL (cutSt c s.data.toList).2] = (cutB c s.data.toList).map bytL by unfold cutB; simp)
      have hzx : (s.extract at' s.size).size ≤ 1000 := by simp; omega
      clear HM hit HE htk
      generalize cutSt c s.data.toList = st at *
      go_wp2_with fail
      refine (unhide HC (s.extract at' s.size) hzx _).mono ?_
      rintro e w2 ⟨rfl, b2⟩
      have A3 := hide ((Below.refl _ w2).alloc (Nat.le_refl _) (.cells #[.string (s.extract at' s.size)] 9))
      have R3 := hide (((unhide R1).up b2).up (unhide A3))
      have C3 := hide ((boxF_new w2 [.string (s.extract at' s.size)] 9).1.at 0 _ rfl)
      have B2 := hide ((unhide B1).trans (b2.mono (unhide B1).size))
      have B3 := hide ((unhide B2).trans ((unhide A3).mono (unhide B2).size))
      have HL1 := hide (show (st.1.map bytL).length ≤ 4000000 by have := unhide HLN; simp; omega)
      clear b2 R1 B1 B2 A3
      go_wp2_with (first
        | (at_builtin; refine wpList_txAppendG rfl _ _ rfl w.heap.size (.slice oa on oc) (st.1.map bytL) (s.extract at' s.size) w2.heap.size rfl rfl (unhide R3) (unhide C3) (unhide HL1) (unhide B3).size ?_; intro g3 n3 c3 w3 r3 gr3; have R4 := hide r3; have B4 := hide (Below.grown (unhide B3) gr3 (unhide B3).size (fun y hy => (unhide R3).ge y hy)); clear r3 gr3)
        | fail)
      go_ret
      exact ⟨_, rfl, hide (by have := unhide R4; rw [unhide HPC, unhide HCB] at this; exact this), unhide B4⟩
end Go.Proofs.YtiebfcefmdiajaaGreatDoor

set_option linter.unusedVariables false
namespace Go.Proofs.YtiebfcefmdiajaaGreatDoor
open Go.RowKit Go.Maps Go.Deep

def ErrIn (w : World) : Prop := (∃ t p, w.cell? ⟨0, 0, none⟩ = some (.iface t p)) ∧ ∃ t p, w.cell? ⟨1, 0, none⟩ = some (.iface t p)
theorem ErrIn.below {w w' : World} {B : Nat} (h : ErrIn w) (hb : Below B w w') (hB : w.heap.size ≤ B) : ErrIn w' := by
  obtain ⟨⟨t, p, h1⟩, t2, p2, h2⟩ := h
  exact ⟨⟨t, p, (hb.cell (Nat.lt_of_lt_of_le (lt_of_cell0 h1) hB)).trans h1⟩, t2, p2, (hb.cell (Nat.lt_of_lt_of_le (lt_of_cell0 h2) hB)).trans h2⟩
theorem atoi_any (s : ByteArray) (w : World) (hs : s.size ≤ 1000000) (h : ErrIn w) :
    Calls Tryz.prog 69 #[.string s] w fun e w' => (∃ r, e = .returned (.tuple #[.int .i64 (looseV s.data.toList), r]) ∧ (r = .nilIface ∨ ∃ t p, r = .iface t p)) ∧ Below w.heap.size w w' := by
  obtain ⟨⟨t, p, h1⟩, t2, p2, h2⟩ := h
  unfold looseV
  cases hq : Lib.atoiAll s.data.toList with
  | ok v =>
    refine (Tryz.strconv_Atoi_ok s (by omega) v hq w).mono ?_
    rintro e w' ⟨rfl, hw⟩
    refine ⟨⟨_, rfl, .inl rfl⟩, ?_⟩
    rcases hw with rfl | ⟨t, rfl⟩
    · exact Below.refl _ _
    · exact conv_below _ _ _
  | «syntax» =>
    refine (Tryz.strconv_Atoi_syntax s (by omega) hq _ w h1 (.inr ⟨t, p, rfl⟩)).mono ?_
    rintro e w' ⟨N, rfl, -, -, hb⟩
    exact ⟨⟨_, rfl, .inr ⟨_, _, rfl⟩⟩, hb⟩
  | range =>
    refine (Tryz.strconv_Atoi_range s (by omega) hq _ w h2 (.inr ⟨t2, p2, rfl⟩)).mono ?_
    rintro e w' ⟨N, rfl, -, -, hb⟩
    exact ⟨⟨_, rfl, .inr ⟨_, _, rfl⟩⟩, hb⟩
theorem loose_any (s : ByteArray) (w : World) (hs : s.size ≤ 1000000) (h : ErrIn w) :
    Calls Tryz.prog 48 #[.string s] w fun e w' => e = .returned (.int .i64 (looseV s.data.toList)) ∧ Below w.heap.size w w' := by
  have HA := hide (atoi_any s w hs h)
  clear hs h
  generalize looseV s.data.toList = v at *
  go_enter Tryz.func48, Tryz.ntmps48
  go_wp2_with fail
  refine (unhide HA).mono ?_
  rintro e w1 ⟨⟨r, rfl, hr⟩, b1⟩
  have B1 := hide b1
  clear b1 HA
  rcases hr with rfl | ⟨t, p, rfl⟩
  · go_wp2_with fail
    go_ret
    exact ⟨rfl, unhide B1⟩
  · go_wp2_with fail
    go_ret
    exact ⟨rfl, unhide B1⟩
end Go.Proofs.YtiebfcefmdiajaaGreatDoor
