/-
  The specification reads a number.
-/
import Derived.Test.YteonbigmggeneaaDoorStRdS
import Derived.Deep.DeepCutAuto
import Derived.Deep.CutBlock
set_option linter.unusedVariables false
namespace Go.Proofs.YteonbigmggeneaaDoor
open Go.RowKit Go.Maps Go.Deep

def numOut (l : List UInt8) : Int := if numB l then numV l else 0
theorem num_no {l : List UInt8} (h : numB l = false) : numOut l = 0 := by simp [numOut, h]
theorem zero_same (t : ByteArray) : (t.toList == [48]) = decide (t.data.toList = [48]) := by
  rw [ByteArray.toList_eq, Bool.eq_iff_iff]
  simp
def formB (s : List UInt8) : Bool := decide (1 ≤ (numD s).length) && decide ((numD s).length ≤ 18) && !(decide ((numD s).head? = some 48) && !decide (s = [48]))
theorem num_form (s : List UInt8) : numB s = (formB s && (numD s).all digN) := rfl
theorem head_no (s : ByteArray) (h : s.size = 0) : false = decide (s.data.toList.head? = some 45) := by
  have : s.data.toList = [] := List.eq_nil_of_length_eq_zero (by simpa using h)
  rw [this]; rfl
theorem head_is (s : ByteArray) (h : 0 < s.size) (c : UInt8) : decide (s.data.toList.head? = some c) = decide (s[0] = c) := by
  rw [List.head?_eq_getElem?, List.getElem?_eq_getElem (by simpa using h)]
  simp [ByteArray.getElem_eq_getElem_data]
theorem byte_is {b : UInt8} {c : UInt8} (h : b.toNat = c.toNat) : b = c := UInt8.toNat_inj.1 h
set_option maxRecDepth 20000 in
set_option maxHeartbeats 6400000 in
theorem l13Num_any (s : ByteArray) (w : World) (hs : s.size ≤ 1000) :
    Calls Tryd.prog 47 #[.string s] w fun e w' => e = .returned (.tuple #[.int .i64 (numOut s.data.toList), .bool (numB s.data.toList)]) ∧ w' = w := by
  have NO := hide (fun (h : numB s.data.toList = false) => show Ending.returned (.tuple #[.int .i64 0, .bool false]) = .returned (.tuple #[.int .i64 (numOut s.data.toList), .bool (numB s.data.toList)]) from by rw [h, num_no h])
  have hsz : s.data.toList.length = s.size := by simp
  have HSZ := hide hsz
  clear hsz
  go_enter Tryd.func47, Tryd.ntmps47
  go_upto_region 2 with fail
  go_cut [15] (fun bv wx => ∃ b : Bool, bv = .bool b ∧ (b = true → 0 < s.size) ∧ Hid (b = decide (s.data.toList.head? = some 45)) ∧ wx = w)
  case first =>
    by_cases hz : s.size = 0
    · have hb := hide (head_no s hz)
      have hz0 : ¬ (0 : Int) < (s.size : Int) := by omega
      clear hz
      go_wp2_with fail
      go_meet
      exact ⟨false, rfl, by simp, hb, rfl⟩
    · have hz1 : 0 < s.size := by omega
      have hb := hide (head_is s hz1 45)
      have hz0 : (0 : Int) < (s.size : Int) := by omega
      by_cases h45 : s[0] = 45
      · have q45 : ((s[0].toNat : Int) == 45) = true := by rw [h45]; rfl
        have hb2 := hide (show true = decide (s.data.toList.head? = some 45) by rw [unhide hb]; simp [h45])
        clear h45 hb hz
        go_wp2_with fail
        go_meet
        exact ⟨true, rfl, fun _ => hz1, hb2, rfl⟩
      · have q45 : ((s[0].toNat : Int) == 45) = false := by rw [beq_eq_false_iff_ne]; intro e; exact h45 (byte_is (c := 45) (show s[0].toNat = 45 by omega))
        have hb2 := hide (show false = decide (s.data.toList.head? = some 45) by rw [unhide hb]; simp [h45])
        clear h45 hb hz
        go_wp2_with fail
        go_meet
        exact ⟨false, rfl, by simp, hb2, rfl⟩
  case rest =>
  obtain ⟨b, rfl, hb1, HB, rfl⟩ := hcut
  go_upto_if 15 with fail
  go_cut [4] (fun dv wx => ∃ (d : ByteArray), dv = .string d ∧ d.size ≤ s.size ∧ Hid (d.data.toList = numD s.data.toList) ∧ wx = wc)
  case first =>
    cases b
    · have hd := hide (show s.data.toList = numD s.data.toList by have := unhide HB; unfold numD; rw [if_neg (by simpa using this.symm)])
      clear HB hb1
      go_wp2_with fail
      go_meet
      exact ⟨s, rfl, Nat.le_refl _, hd, rfl⟩
    · have h1 := hb1 rfl
      have hd := hide (show (s.extract 1 s.size).data.toList = numD s.data.toList by have := unhide HB; unfold numD; rw [if_pos (by simpa using this.symm), ext_ofL, List.take_of_length_le (by simp)]; simp [ofL])
      have h1' : (1 : Int) ≤ (s.size : Int) := by omega
      clear HB hb1
      go_wp2_with fail
      go_meet
      exact ⟨_, rfl, by simp, hd, rfl⟩
  case rest =>
  obtain ⟨d, rfl, hds, HD, rfl⟩ := hcut
  clear HB hb1
  have HDZ := hide (show d.data.toList.length = d.size by simp)
  go_upto_region 4 with fail
  go_cut [34] (fun bv wx => ∃ b2 : Bool, bv = .bool b2 ∧ Hid (b2 = !formB s.data.toList) ∧ (b2 = false → d.size ≤ 18) ∧ wx = wc)
  case first =>
    by_cases hz : d.size = 0
    · have hb := hide (show true = !formB s.data.toList by unfold formB; rw [← unhide HD, unhide HDZ, hz]; rfl)
      have hz0 : (d.size : Int) < 1 := by omega
      clear hz HD HDZ
      go_wp2_with fail
      go_meet
      exact ⟨true, rfl, hb, by simp, rfl⟩
    have hz1 : 0 < d.size := by omega
    have hz0 : ¬ (d.size : Int) < 1 := by omega
    by_cases h18 : 18 < d.size
    · have hb := hide (show true = !formB s.data.toList by unfold formB; rw [← unhide HD, unhide HDZ, show decide (d.size ≤ 18) = false by simp; omega]; simp)
      have h18' : (18 : Int) < (d.size : Int) := by omega
      clear hz HD HDZ h18
      go_wp2_with fail
      go_meet
      exact ⟨true, rfl, hb, by simp, rfl⟩
    have h18' : ¬ (18 : Int) < (d.size : Int) := by omega
    have h18n : d.size ≤ 18 := by omega
    have hh := hide (head_is d hz1 48)
    have hq := zero_same s
    have hform := hide (show formB s.data.toList = !(decide (d[0] = 48) && !decide (s.data.toList = [48])) by
      unfold formB
      rw [← unhide HD, unhide HDZ, unhide hh, show decide (1 ≤ d.size) = true by simp; omega, show decide (d.size ≤ 18) = true by simp; omega]
      simp)
    by_cases h48 : d[0] = 48
    · have q48 : ((d[0].toNat : Int) == 48) = true := by rw [h48]; rfl
      by_cases hs0 : s.data.toList = [48]
      · have hb := hide (show false = !formB s.data.toList by rw [unhide hform]; simp [hs0])
        rw [decide_eq_true hs0] at hq
        clear hz h18 hh hform h48 hs0 HD HDZ
        go_wp2_with fail
        go_meet
        exact ⟨false, rfl, hb, fun _ => h18n, rfl⟩
      · have hb := hide (show true = !formB s.data.toList by rw [unhide hform]; simp [hs0, h48])
        rw [decide_eq_false hs0] at hq
        clear hz h18 hh hform h48 hs0 HD HDZ
        go_wp2_with fail
        go_meet
        exact ⟨true, rfl, hb, by simp, rfl⟩
    · have q48 : ((d[0].toNat : Int) == 48) = false := by rw [beq_eq_false_iff_ne]; intro e; exact h48 (byte_is (c := 48) (show d[0].toNat = 48 by omega))
      have hb := hide (show false = !formB s.data.toList by rw [unhide hform]; simp [h48])
      clear hz h18 hh hform h48 HD HDZ hq
      go_wp2_with fail
      go_meet
      exact ⟨false, rfl, hb, fun _ => h18n, rfl⟩
  case rest =>
  obtain ⟨b2, rfl, HF, h18, rfl⟩ := hcut
  cases b2
  rotate_left
  · have HR := hide (unhide NO (by rw [num_form]; have := unhide HF; simp at this; simp [this]))
    clear HF h18 HD HDZ
    go_wp2_with fail
    go_ret2
    exact ⟨unhide HR, rfl⟩
  have hd18 := h18 rfl
  have HF2 := hide (show numB s.data.toList = d.data.toList.all digN by rw [num_form]; have := unhide HF; simp at this; rw [this, unhide HD]; simp)
  have HNV := hide (show numV s.data.toList = if d.size < s.size then -(decV d.data.toList : Int) else (decV d.data.toList : Int) by unfold numV; rw [← unhide HD, unhide HDZ, unhide HSZ])
  clear HF h18 HD
  go_wp2_with fail
  go_loopw [5, 6] (fun nv iv wr => ∃ (k : Nat), k ≤ d.size ∧ iv = .int .i64 (k : Int) ∧ nv = .int .i64 (decV (d.data.toList.take k) : Int) ∧ Hid ((d.data.toList.take k).all digN = true) ∧ wr = wc) (fun _ iv _ => d.size - (intOf iv).toNat)
  case atStart => exact ⟨0, Nat.zero_le _, rfl, rfl, hide rfl, rfl⟩
  case round =>
    obtain ⟨k, hk, rfl, rfl, HAD, rfl⟩ := hrel
    by_cases hlt : k < d.size
    · have hlt' : (k : Int) < (d.size : Int) := by omega
      have htk : d.data.toList.take (k + 1) = d.data.toList.take k ++ [d[k]] := by
        rw [List.take_succ_eq_append_getElem (by simpa using hlt)]
        simp [ByteArray.getElem_eq_getElem_data]
      have hv := decV_take d.data.toList k (by simpa using hlt)
      have hvb := decV_lt (d.data.toList.take k) (unhide HAD)
      have hpw : 10 ^ (d.data.toList.take k).length ≤ 10 ^ 17 := Nat.pow_le_pow_right (by omega) (by simp; omega)
      have hmem : d[k] ∈ d.data.toList := by rw [show d[k] = d.data.toList[k]'(by simpa using hlt) by simp [ByteArray.getElem_eq_getElem_data]]; exact List.getElem_mem _
      have hdk : d.data.toList[k]'(by simpa using hlt) = d[k] := by simp [ByteArray.getElem_eq_getElem_data]
      rw [hdk] at hv
      have HVN := hide (show ((decV (d.data.toList.take (k + 1)) : Nat) : Int) = 10 * (decV (d.data.toList.take k) : Int) + ((d[k].toNat - 48 : Nat) : Int) by rw [hv]; push_cast; rfl)
      have hbt := d[k].toNat_lt
      by_cases hdg : digN d[k] = true
      · have hdg2 : 48 ≤ d[k].toNat ∧ d[k].toNat ≤ 57 := by simpa [digN] using hdg
        have HAD2 := hide (show (d.data.toList.take (k + 1)).all digN = true by rw [htk, List.all_append, unhide HAD]; simp [hdg])
        have hvb2 : decV (d.data.toList.take k) < 100000000000000000 := by omega
        generalize hde : d[k].toNat - 48 = e at *
        have hdt : d[k].toNat = 48 + e := by omega
        have he : e ≤ 9 := by omega
        have hN := unhide HVN
        clear hv hvb hpw hmem hdk hdg hdg2 htk hbt HVN hde
        generalize decV (d.data.toList.take k) = N at *
        have q1 : ¬ ((d[k].toNat : Int) < 48) := by omega
        have q2 : ¬ (57 < (d[k].toNat : Int)) := by omega
        have HN := hide hN
        clear hN
        go_wp2_with fail
        go_roundw
        case rel => exact ⟨k + 1, by omega, by go_num, by rw [unhide HN]; congr 1; omega, HAD2, by first | trivial | rfl⟩
        case measure => simp [intOf]; omega
      · have HR := hide (unhide NO (by
          rw [unhide HF2, List.all_eq_false]
          exact ⟨_, hmem, by simpa using hdg⟩))
        have hdg2 : d[k].toNat < 48 ∨ (48 ≤ d[k].toNat ∧ 57 < d[k].toNat) := by
          have : ¬ (48 ≤ d[k].toNat ∧ d[k].toNat ≤ 57) := fun h => hdg (by simp [digN, h])
          omega
        clear hv hvb hpw hmem hdk hdg htk hbt HVN HAD
        rcases hdg2 with h | ⟨h, h'⟩
        · have q1 : ((d[k].toNat : Int) < 48) := by omega
          clear h
          go_wp2_with fail
          go_ret2
          exact ⟨unhide HR, rfl⟩
        · have q1 : ¬ ((d[k].toNat : Int) < 48) := by omega
          have q2 : (57 < (d[k].toNat : Int)) := by omega
          clear h h'
          go_wp2_with fail
          go_ret2
          exact ⟨unhide HR, rfl⟩
    · have e : k = d.size := by omega
      subst e
      have htk : d.data.toList.take d.size = d.data.toList := List.take_of_length_le (by simp)
      rw [htk] at HAD ⊢
      have hlt' : ¬ ((d.size : Int) < (d.size : Int)) := by omega
      have hv := decV_lt _ (unhide HAD)
      have hpw : 10 ^ d.data.toList.length ≤ 10 ^ 18 := Nat.pow_le_pow_right (by omega) (by simp; omega)
      have hvb : decV d.data.toList < 1000000000000000000 := by omega
      have hY : numB s.data.toList = true := by rw [unhide HF2]; exact unhide HAD
      have HR := hide (show Ending.returned (.tuple #[.int .i64 (if d.size < s.size then -(decV d.data.toList : Int) else (decV d.data.toList : Int)), .bool true]) = .returned (.tuple #[.int .i64 (numOut s.data.toList), .bool (numB s.data.toList)]) from by rw [hY, numOut, if_pos hY, unhide HNV])
      clear hv hpw htk HAD hY HF2 HNV
      generalize decV d.data.toList = N at *
      by_cases hn : d.size < s.size
      · have hn' : (d.size : Int) < (s.size : Int) := by omega
        rw [if_pos hn] at HR
        clear hn
        go_wp2_with fail
        go_ret2
        exact ⟨unhide HR, rfl⟩
      · have hn' : ¬ (d.size : Int) < (s.size : Int) := by omega
        rw [if_neg hn] at HR
        clear hn
        go_wp2_with fail
        go_ret2
        exact ⟨unhide HR, rfl⟩
end Go.Proofs.YteonbigmggeneaaDoor
