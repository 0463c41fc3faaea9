/-
  StampRead of the program.
-/
import Derived.Test.YteonbigmggeneaaDoorStRdT
import Derived.Test.YteonbigmggeneaaDoorTextI
import Derived.Deep.RegionWith
set_option linter.unusedVariables false
namespace Go.Proofs.YteonbigmggeneaaDoor
open Go.RowKit Go.Maps Go.Deep

def RetRd (t : ByteArray) (w : World) (e : Ending) (w' : World) : Prop := ∃ v, e = .returned (.tuple #[v, .bool (rdOkB t)]) ∧ Hid (MkRow w.heap.size w' v (rdOut t)) ∧ Below w.heap.size w w'
theorem readSt_take (l : List UInt8) (k : Nat) (h : k < l.length) : readSt (l.take (k + 1)) = takeSb (readSt (l.take k)) l[k] := by
  unfold readSt
  rw [List.take_succ_eq_append_getElem h, List.foldl_append]
  rfl
theorem readSt_len (l : List UInt8) : (readSt l).marks.length ≤ l.length ∧ (readSt l).word.length ≤ l.length := by
  induction l using snoc_ind with
  | h0 => simp [readSt]
  | h1 l b ih =>
    unfold readSt at ih ⊢
    rw [List.foldl_append, List.foldl_cons, List.foldl_nil, List.length_append, List.length_cons, List.length_nil]
    generalize l.foldl takeSb ⟨[], ⟨#[]⟩, []⟩ = s at *
    unfold takeSb
    split
    · exact ⟨by simp only; omega, by simp⟩
    · split
      · unfold endSt
        exact ⟨by simp; omega, by simp⟩
      · exact ⟨by simp only; omega, by simp; omega⟩
theorem rdAt_new {W : World} {b B : Nat} (hb : b < B) (hB : B ≤ W.heap.size) (h : BoxF W b [.slice none 0 0, .string ⟨#[]⟩, .int .i64 0, .slice none 0 0]) : RdAt b B W (readSt []) := ⟨none, 0, 0, none, 0, 0, ⟨hb, hB⟩, h, MkRow.nil _ _, ByRow.nil _ _⟩
theorem RdAt.up {b B : Nat} {w w' : World} {s : RdSt} (h : RdAt b B w s) (hb : Below w.heap.size w w') : RdAt b B w' s := by
  obtain ⟨ma, mn, mc, wa, wn, wc, h⟩ := h
  exact ⟨_, _, _, _, _, _, h.up hb⟩
theorem readM_small (l : List UInt8) (h : l.length ≤ 400) : SmallMarkS (readM l) := by
  have key : ∀ l : List UInt8, (∀ x ∈ (readSt l).marks, x.a0.size ≤ l.length ∧ IntFit x.a1) ∧ (readSt l).src.size ≤ l.length := by
    intro l
    induction l using snoc_ind with
    | h0 => exact ⟨by simp [readSt], Nat.zero_le _⟩
    | h1 l b ih =>
      have hw := (readSt_len l).2
      unfold readSt at ih hw ⊢
      rw [List.foldl_append, List.foldl_cons, List.foldl_nil, List.length_append, List.length_cons, List.length_nil]
      generalize l.foldl takeSb ⟨[], ⟨#[]⟩, []⟩ = s at *
      obtain ⟨i1, i2⟩ := ih
      unfold takeSb
      split
      · exact ⟨fun x hx => ⟨by have := (i1 x hx).1; omega, (i1 x hx).2⟩, by simp [ByteArray.size]; omega⟩
      · split
        · unfold endSt
          refine ⟨fun x hx => ?_, Nat.zero_le _⟩
          rcases List.mem_append.1 hx with q | q
          · exact ⟨by have := (i1 x q).1; omega, (i1 x q).2⟩
          · simp only [List.mem_cons, List.not_mem_nil, or_false] at q
            rw [q]
            exact ⟨by simp only; omega, loose_fit _⟩
        · exact ⟨fun x hx => ⟨by have := (i1 x hx).1; omega, (i1 x hx).2⟩, by simp only; omega⟩
  obtain ⟨k1, k2⟩ := key l
  have hl := readSt_len l
  have hall : ∀ x ∈ readM l, x.a0.size ≤ 400 ∧ IntFit x.a1 := by
    intro x hx
    unfold readM endSt at hx
    rcases List.mem_append.1 hx with q | q
    · exact ⟨by have := (k1 x q).1; omega, (k1 x q).2⟩
    · simp only [List.mem_cons, List.not_mem_nil, or_false] at q
      rw [q]
      exact ⟨by simp only; omega, loose_fit _⟩
  exact ⟨⟨by unfold readM endSt; simp; omega, fun x hx => by have := (hall x hx).1; omega⟩, fun x hx => ⟨by have := (hall x hx).1; unfold maxLen; omega, (hall x hx).2⟩⟩
theorem dash_same (t : ByteArray) : (t.toList == [45]) = decide (t = dashT) := by
  have h := str_same t dashT
  have e : dashT.toList = [45] := by rw [ByteArray.toList_eq]; rfl
  rw [e] at h
  exact h
set_option maxRecDepth 20000 in
set_option maxHeartbeats 6400000 in
theorem implStampRead_any (t : ByteArray) (w : World) (hs : t.size ≤ 1048576) (hE : ErrIn w) (hP : PowIn w) :
    Calls Tryd.prog 8 #[.string t] w fun e w' => RetRd t w e w' := by
  have NO := hide (fun (h1 : rdOkB t = false ∧ rdOut t = []) (w' : World) (hb : Below w.heap.size w w') => show RetRd t w (.returned (.tuple #[.slice none 0 0, .bool false])) w' from ⟨_, by rw [h1.1], by rw [h1.2]; exact hide (MkRow.nil _ _), hb⟩)
  by_cases h400 : t.size ≤ 400
  rotate_left
  · have HR := hide (unhide NO (rd_long h400) w (Below.refl _ _))
    have hz : ¬ (t.size : Int) ≤ 400 := by omega
    clear NO h400
    go_enter Tryd.func8, Tryd.ntmps8
    go_wp2_with fail
    go_ret2
    exact unhide HR
  by_cases hd : t = dashT
  · subst hd
    have HR := hide (show RetRd dashT w (.returned (.tuple #[.slice none 0 0, .bool true])) w from ⟨_, by rw [rd_dash.1], by rw [rd_dash.2]; exact hide (MkRow.nil _ _), Below.refl _ _⟩)
    have q : (dashT.toList == [45]) = true := by rw [dash_same]; simp
    clear NO
    go_enter Tryd.func8, Tryd.ntmps8
    go_wp2_with fail
    go_ret2
    exact unhide HR
  have hz : (t.size : Int) ≤ 400 := by omega
  have q : (t.toList == [45]) = false := by rw [dash_same]; simp [hd]
  have HD := hide hd
  have HE := hide hE
  have HP := hide hP
  have HS := hide h400
  have X0 := hide (boxF_new w [.slice none 0 0, .string ⟨#[]⟩, .int .i64 0, .slice none 0 0] 43)
  have A0 := hide ((Below.refl _ w).alloc (Nat.le_refl _) (.cells #[.slice none 0 0, .string ⟨#[]⟩, .int .i64 0, .slice none 0 0] 43))
  have hcv := Lib.run_convert_string_bytes (P := Tryd.prog) (w.alloc (.cells #[.slice none 0 0, .string ⟨#[]⟩, .int .i64 0, .slice none 0 0] 43)) 9 22 5 t Tryd.underlying9 Tryd.underlying22 Tryd.underlying5
  have HZ0 := hide (show (w.alloc (.cells #[.slice none 0 0, .string ⟨#[]⟩, .int .i64 0, .slice none 0 0] 43)).heap.size = w.heap.size + 1 by simp)
  clear hE hP hd
  go_enter Tryd.func8, Tryd.ntmps8
  go_wp2_with fail
  clear hcv q
  generalize w.alloc (.cells #[.slice none 0 0, .string ⟨#[]⟩, .int .i64 0, .slice none 0 0] 43) = W0 at *
  have B1 := hide (conv_below W0 5 t)
  have HCB := hide (fun j (hj : j < t.size) => (by have := conv_cell W0 5 t j hj; rw [unhide HZ0] at this; exact this : (Lib.bytesWorld W0 5 t).cell? ⟨w.heap.size + 1, j, none⟩ = some (.int .u8 (t[j].toNat : Int))))
  have HZ1 := hide (show (Lib.bytesWorld W0 5 t).heap.size = w.heap.size + 2 by rw [Lib.bytesWorld_size, unhide HZ0])
  generalize Lib.bytesWorld W0 5 t = W1 at *
  generalize grownCap W0 t.size 0 5 = cp at *
  have M0 := hide (show RdAt w.heap.size (w.heap.size + 2) W1 (readSt (t.data.toList.take 0)) from rdAt_new (by omega) (by rw [unhide HZ1]; exact Nat.le_refl _) ((unhide X0).up (unhide B1)))
  have BW1 := hide (show Below w.heap.size w W1 from (unhide A0).trans ((unhide B1).mono (unhide A0).size))
  clear X0 A0 B1 HZ0
  go_loopw [15] (fun iv wr => ∃ (k : Nat), k ≤ t.size ∧ iv = .int .i64 (k : Int) ∧ Hid (RdAt w.heap.size (w.heap.size + 2) wr (readSt (t.data.toList.take k))) ∧ Hid (Off w.heap.size (w.heap.size + 2) W1 wr)) (fun iv _ => t.size - (intOf iv).toNat)
  case atStart => exact ⟨0, Nat.zero_le _, rfl, M0, hide (Off.refl _ _ _)⟩
  case round =>
    obtain ⟨k, hk, rfl, HM, HO⟩ := hrel
    clear M0
    by_cases hlt : k < t.size
    · have hlt' : (k : Int) < (t.size : Int) := by omega
      have ck := ((unhide HO).cell (g := w.heap.size + 1) (i := k) (by omega) (by omega)).trans (unhide HCB k hlt)
      have hle : (readSt (t.data.toList.take k)).marks.length ≤ 400 ∧ (readSt (t.data.toList.take k)).word.length ≤ 400 := by
        have := readSt_len (t.data.toList.take k)
        have h2 := unhide HS
        simp only [List.length_take, Array.length_toList] at this
        omega
      have HEr := hide ((unhide HE).below ((unhide BW1).trans ((unhide HO).low (by omega))) (Nat.le_refl _))
      have HT := hide (takeB_any w.heap.size (w.heap.size + 2) _ t[k] wr ⟨by omega, by omega⟩ (unhide HEr) (unhide HM))
      have HSTEP := hide (show takeSb (readSt (t.data.toList.take k)) t[k] = readSt (t.data.toList.take (k + 1)) from (readSt_take t.data.toList k (by simpa using hlt)).symm)
      clear hle HEr
      generalize t[k] = c at *
      go_wp2_with fail
      refine (unhide HT).mono ?_
      rintro e w2 ⟨rfl, h1, h2⟩
      have M2 := hide (unhide HSTEP ▸ unhide h1)
      have O2 := hide ((unhide HO).trans (unhide h2))
      clear h1 h2 HT ck
      go_wp2_with fail
      go_roundw
      case rel => exact ⟨k + 1, by omega, by go_num, M2, O2⟩
      case measure => simp [intOf]; omega
    · have e : k = t.size := by omega
      subst e
      have hl : t.data.toList.length = t.size := by simp
      rw [← hl, List.take_length] at HM
      have hle : (readSt t.data.toList).marks.length ≤ 400 ∧ (readSt t.data.toList).word.length ≤ 400 := by
        have := readSt_len t.data.toList
        have h2 := unhide HS
        omega
      have HSM := hide (readM_small t.data.toList (by have := unhide HS; omega))
      have HEr := hide ((unhide HE).below ((unhide BW1).trans ((unhide HO).low (by omega))) (Nat.le_refl _))
      have HT := hide (endMark_any w.heap.size (w.heap.size + 2) _ wr ⟨by omega, by omega⟩ (unhide HEr) (unhide HM))
      have hlt' : ¬ ((t.size : Int) < (t.size : Int)) := by omega
      clear hle HEr HM
      go_wp2_with fail
      refine (unhide HT).mono ?_
      rintro e w2 ⟨rfl, h1, h2⟩
      have B2 := hide ((unhide BW1).trans (((unhide HO).trans (unhide h2)).low (by omega)))
      obtain ⟨ma, mn, mc, wa, wn, wc, hx⟩ := unhide h1
      have HX := hide hx
      have HMK := hide (show MkRow (w.heap.size + 2) w2 (.slice ma mn mc) (readM t.data.toList) from hx.mks)
      obtain ⟨⟨c0, -, -, -⟩, -⟩ := hx.box.four
      clear h1 h2 HT hx
      have HOK := hide (implStampOk_any (readM t.data.toList) (.slice ma mn mc) w2 (unhide HSM) (unhide HMK).rd)
      cases hm : mstampB (readM t.data.toList)
      · have HR := hide (unhide NO (rd_no (unhide HD) (.inl hm)))
        rw [hm] at HOK
        clear hm
        go_wp2_with fail
        refine (unhide HOK).mono ?_
        rintro e w3 ⟨rfl, b3⟩
        have B3 := hide ((unhide B2).trans (b3.mono (unhide B2).size))
        clear b3
        go_wp2_with fail
        go_ret2
        exact unhide HR _ (unhide B3)
      · rw [hm] at HOK
        have HTX := hide (fun (W : World) (bW : Below w2.heap.size w2 W) => by have := implText_any (readM t.data.toList) (.slice ma mn mc) W (unhide HSM) ((unhide HMK).rd.up bW) (((unhide HP).below (unhide B2) (Nat.le_refl _)).below bW (Nat.le_refl _)); rw [textOut, if_pos hm, if_neg (by have := readM_ne t.data.toList; intro e; exact this (List.eq_nil_of_length_eq_zero e))] at this; exact this)
        have HYN := hide (show (stampT (readM t.data.toList) = t → rdOkB t = true ∧ rdOut t = readM t.data.toList) ∧ (stampT (readM t.data.toList) ≠ t → rdOkB t = false ∧ rdOut t = []) from ⟨fun h => rd_yes (unhide HS) (unhide HD) hm h, fun h => rd_no (unhide HD) (.inr h)⟩)
        clear hm
        generalize stampT (readM t.data.toList) = t2 at *
        go_wp2_with fail
        refine (unhide HOK).mono ?_
        rintro e w3 ⟨rfl, b3⟩
        have B3 := hide ((unhide B2).trans (b3.mono (unhide B2).size))
        have HTX3 := hide (unhide HTX w3 b3)
        have HMK3 := hide ((unhide HMK).up b3)
        have d0 := ((unhide HX).up b3).box.1.at 0 _ rfl
        clear b3 c0 HTX HMK
        go_wp2_with fail
        refine (unhide HTX3).mono ?_
        rintro e w4 ⟨rfl, b4⟩
        have B4 := hide ((unhide B3).trans (b4.mono (unhide B3).size))
        have HMK4 := hide ((unhide HMK3).up b4)
        have e0 := (b4.cell (show w.heap.size < w3.heap.size from (lt_of_cell0 d0))).trans d0
        clear b4 d0 HMK3 HTX3
        by_cases h2 : t2 = t
        · have q2 : (t2.toList == t.toList) = true := by rw [str_same]; simp [h2]
          have HR := hide (show RetRd t w (.returned (.tuple #[.slice ma mn mc, .bool true])) w4 from by
            obtain ⟨k1, k2⟩ := (unhide HYN).1 h2
            exact ⟨_, by rw [k1], by rw [k2]; exact hide ((unhide HMK4).mono (by omega)), unhide B4⟩)
          clear HYN h2
          go_wp2_with fail
          go_ret2
          exact unhide HR
        · have q2 : (t2.toList == t.toList) = false := by rw [str_same]; simp [h2]
          have HR := hide (unhide NO ((unhide HYN).2 h2) w4 (unhide B4))
          clear HYN h2
          go_wp2_with fail
          go_ret2
          exact unhide HR
end Go.Proofs.YteonbigmggeneaaDoor
