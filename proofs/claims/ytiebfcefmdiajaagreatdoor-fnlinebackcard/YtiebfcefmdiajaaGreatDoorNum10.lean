/-
  The specification reads a number of a line.
-/
import Derived.Test.YtiebfcefmdiajaaGreatDoorMerged45
import Derived.Test.YtiebfcefmdiajaaGreatDoorMerged38
import Derived.IntWalk
import Derived.Deep.DeepCutAuto
import Derived.Deep.CutBlock
set_option linter.unusedVariables false
namespace Go.Proofs.YtiebfcefmdiajaaGreatDoor
open Go.RowKit Go.Maps Go.Deep

def numSt (neg : Bool) (a : Int) (b : UInt8) : Int := wrap64 (if neg then wrap64 (10 * a) - ((b.toNat : Int) - 48) else wrap64 (10 * a) + ((b.toNat : Int) - 48))
def numTo (neg : Bool) (l : List UInt8) : Int := l.foldl (numSt neg) 0
theorem numTo_snoc (neg : Bool) (l : List UInt8) (b : UInt8) : numTo neg (l ++ [b]) = numSt neg (numTo neg l) b := by simp [numTo]
theorem wrap64_fit (n : Int) : -9223372036854775808 ≤ wrap64 n ∧ wrap64 n ≤ 9223372036854775807 := by unfold wrap64; omega
theorem numTo_fit (neg : Bool) (l : List UInt8) : -9223372036854775808 ≤ numTo neg l ∧ numTo neg l ≤ 9223372036854775807 := by
  induction l using snoc_ind with
  | h0 => simp [numTo]
  | h1 l b ih => rw [numTo_snoc]; exact wrap64_fit _
theorem numTo_is (neg : Bool) (l : List UInt8) (hd : l.all digN = true) (hv : (decV l : Int) ≤ if neg then 9223372036854775808 else 9223372036854775807) : numTo neg l = if neg then -(decV l : Int) else (decV l : Int) := by
  induction l using snoc_ind with
  | h0 => cases neg <;> simp [numTo, decV]
  | h1 l b ih =>
    simp only [List.all_append, List.all_cons, List.all_nil, Bool.and_true, Bool.and_eq_true] at hd
    have h2 := hd.2
    unfold digN at h2
    simp at h2
    rw [decV_snoc] at hv ⊢
    have e := ih hd.1 (by cases neg <;> simp only [Bool.false_eq_true, if_false, if_true] at hv ⊢ <;> omega)
    rw [numTo_snoc, e]
    unfold numSt
    cases neg <;> simp only [Bool.false_eq_true, if_false, if_true] at hv ⊢
    · rw [IntWalk.wrap64_in (10 * (decV l : Int)) (by omega), IntWalk.wrap64_in _ (by omega)]; omega
    · rw [IntWalk.wrap64_in (10 * -(decV l : Int)) (by omega), IntWalk.wrap64_in _ (by omega)]; omega
theorem dec_no45 (u : Nat) : (Lib.decDigits u).head? ≠ some 45 := by
  obtain ⟨b, r, e⟩ := List.exists_cons_of_ne_nil (dec_ne u)
  have hd := dec_dig u
  have hb : digN b = true := by rw [e] at hd; simp at hd; exact hd.1
  rw [e, List.head?_cons]
  simp
  exact (dig45 b hb).1
/-- what the digits of a number's own text are -/
theorem numX_digits {s : List UInt8} (h : numXB s = true) : ∃ u : Nat, numD s = Lib.decDigits u ∧ (u : Int) ≤ 9223372036854775808 ∧ ((numD s).length < s.length ↔ looseV s < 0) ∧ looseV s = (if looseV s < 0 then -(u : Int) else (u : Int)) := by
  unfold numXB at h
  have e : Lib.itoa (looseV s) = s := by simpa using h
  have hf := loose_fit s
  generalize looseV s = m at *
  unfold Lib.itoa at e
  by_cases hm : m < 0
  · rw [if_pos hm] at e
    refine ⟨m.natAbs, ?_, by omega, ?_, ?_⟩
    · rw [← e]; simp [numD]
    · rw [← e]; simp [numD, hm]
    · rw [if_pos hm]; omega
  · rw [if_neg hm] at e
    have hn : numD s = s := by rw [← e]; unfold numD; rw [if_neg (dec_no45 _)]
    refine ⟨m.toNat, by rw [hn, e], by omega, by rw [hn]; simp; omega, by rw [if_neg hm]; omega⟩
theorem numX_shape {s : List UInt8} (h : numXB s = true) : 1 ≤ (numD s).length ∧ (numD s).length ≤ 19 ∧ (numD s).all digN = true := by
  obtain ⟨u, e, hu, -, -⟩ := numX_digits h
  rw [e]
  have hl := dec_len u 18 (by omega)
  exact ⟨List.length_pos_iff.2 (dec_ne u), by omega, dec_dig u⟩
def numN (s : List UInt8) : Int := numTo (decide ((numD s).length < s.length)) (numD s)
theorem numX_yes {s : List UInt8} (h : Lib.itoa (numN s) = s) : numXB s = true ∧ looseV s = numN s := by
  have hf := numTo_fit (decide ((numD s).length < s.length)) (numD s)
  have e := loose_all (numN s) hf.1 hf.2
  rw [h] at e
  exact ⟨by unfold numXB; rw [e, h]; simp, e⟩
theorem numX_no {s : List UInt8} (h : Lib.itoa (numN s) ≠ s) : numXB s = false := by
  cases hx : numXB s
  · rfl
  exfalso
  obtain ⟨u, e, hu, hn, hv⟩ := numX_digits hx
  have hf := loose_fit s
  have e1 : Lib.itoa (looseV s) = s := by unfold numXB at hx; simpa using hx
  refine h ?_
  rw [show numN s = looseV s from ?_, e1]
  unfold numN
  have hdv : decV (numD s) = u := by rw [e, dec_val]
  rw [numTo_is _ _ (by rw [e]; exact dec_dig u) ?_, hdv]
  · by_cases hm : looseV s < 0
    · rw [if_pos hm] at hv
      rw [decide_eq_true (hn.2 hm), if_pos rfl, hv]
    · rw [if_neg hm] at hv
      rw [decide_eq_false (fun q => hm (hn.1 q)), hv]
      simp
  · rw [hdv]
    by_cases hm : looseV s < 0
    · rw [decide_eq_true (hn.2 hm), if_pos rfl]; exact hu
    · rw [if_neg hm] at hv
      rw [decide_eq_false (fun q => hm (hn.1 q))]
      simp only [Bool.false_eq_true, if_false]
      omega
def numX (s : List UInt8) : Int := if numXB s then looseV s else 0
theorem str_same10 (a b : ByteArray) : (a.toList == b.toList) = decide (a = b) := by
  rw [ByteArray.toList_eq, ByteArray.toList_eq, Bool.eq_iff_iff]
  simp
  constructor
  · intro h; cases a; cases b; simp_all
  · rintro rfl; rfl
theorem head_no10 (s : ByteArray) (h : s.size = 0) : false = decide (s.data.toList.head? = some 45) := by
  have : s.data.toList = [] := List.eq_nil_of_length_eq_zero (by simpa using h)
  rw [this]; rfl
theorem head_is10 (s : ByteArray) (h : 0 < s.size) (c : UInt8) : decide (s.data.toList.head? = some c) = decide (s[0] = c) := by
  rw [List.head?_eq_getElem?, List.getElem?_eq_getElem (by simpa using h)]
  simp [ByteArray.getElem_eq_getElem_data]
theorem byte_is10 {b : UInt8} {c : UInt8} (h : b.toNat = c.toNat) : b = c := UInt8.toNat_inj.1 h
set_option maxRecDepth 20000 in
set_option maxHeartbeats 6400000 in
theorem l10Num_any (s : ByteArray) (w : World) (hs : s.size ≤ 1048576) :
    Calls Tryz.prog 22 #[.string s] w fun e w' => e = .returned (.tuple #[.int .i64 (numX s.data.toList), .bool (numXB s.data.toList)]) ∧ Below w.heap.size w w' := by
  have NO := hide (fun (h : numXB s.data.toList = false) => show Ending.returned (.tuple #[.int .i64 0, .bool false]) = .returned (.tuple #[.int .i64 (numX s.data.toList), .bool (numXB s.data.toList)]) from by rw [h]; simp [numX, h])
  have hsz : s.data.toList.length = s.size := by simp
  have HSZ := hide hsz
  clear hsz
  go_enter Tryz.func22, Tryz.ntmps22
  go_upto_region 2 with fail
  go_cut [15] (fun bv wx => ∃ b : Bool, bv = .bool b ∧ (b = true → 0 < s.size) ∧ Hid (b = decide (s.data.toList.head? = some 45)) ∧ wx = w)
  case first =>
    by_cases hz : s.size = 0
    · have hb := hide (head_no10 s hz)
      have hz0 : ¬ (0 : Int) < (s.size : Int) := by omega
      clear hz
      go_wp2_with fail
      go_meet
      exact ⟨false, rfl, by simp, hb, rfl⟩
    · have hz1 : 0 < s.size := by omega
      have hb := hide (head_is10 s hz1 45)
      have hz0 : (0 : Int) < (s.size : Int) := by omega
      by_cases h45 : s[0] = 45
      · have q45 : ((s[0].toNat : Int) == 45) = true := by rw [h45]; rfl
        have hb2 := hide (show true = decide (s.data.toList.head? = some 45) by rw [unhide hb]; simp [h45])
        clear h45 hb hz
        go_wp2_with fail
        go_meet
        exact ⟨true, rfl, fun _ => hz1, hb2, rfl⟩
      · have q45 : ((s[0].toNat : Int) == 45) = false := by rw [beq_eq_false_iff_ne]; intro e; exact h45 (byte_is10 (c := 45) (show s[0].toNat = 45 by omega))
        have hb2 := hide (show false = decide (s.data.toList.head? = some 45) by rw [unhide hb]; simp [h45])
        clear h45 hb hz
        go_wp2_with fail
        go_meet
        exact ⟨false, rfl, by simp, hb2, rfl⟩
  case rest =>
  obtain ⟨b, rfl, hb1, HB, rfl⟩ := hcut
  go_upto_if 15 with fail
  go_cut [4] (fun dv wx => ∃ (d : ByteArray), dv = .string d ∧ d.size ≤ s.size ∧ Hid (d.data.toList = numD s.data.toList) ∧ wx = wc)
  case first =>
    cases b
    · have hd := hide (show s.data.toList = numD s.data.toList by have := unhide HB; unfold numD; rw [if_neg (by simpa using this.symm)])
      clear HB hb1
      go_wp2_with fail
      go_meet
      exact ⟨s, rfl, Nat.le_refl _, hd, rfl⟩
    · have h1 := hb1 rfl
      have hd := hide (show (s.extract 1 s.size).data.toList = numD s.data.toList by have := unhide HB; unfold numD; rw [if_pos (by simpa using this.symm), ext_bytL, List.take_of_length_le (by simp)]; simp [bytL])
      have h1' : (1 : Int) ≤ (s.size : Int) := by omega
      clear HB hb1
      go_wp2_with fail
      go_meet
      exact ⟨_, rfl, by simp, hd, rfl⟩
  case rest =>
  obtain ⟨d, rfl, hds, HD, rfl⟩ := hcut
  clear HB hb1
  have HDZ := hide (show d.data.toList.length = d.size by simp)
  have HSH := hide (fun (h : numXB s.data.toList = true) => show 1 ≤ d.size ∧ d.size ≤ 19 ∧ d.data.toList.all digN = true from by have := numX_shape h; rw [← unhide HD, unhide HDZ] at this; exact this)
  have HNN := hide (show numN s.data.toList = numTo (decide (d.size < s.size)) d.data.toList from by unfold numN; rw [← unhide HD, unhide HDZ, unhide HSZ])
  go_upto_region 4 with fail
  go_cut [25] (fun bv wx => ∃ b2 : Bool, bv = .bool b2 ∧ Hid (b2 = true → numXB s.data.toList = false) ∧ (b2 = false → d.size ≤ 19) ∧ wx = wc)
  case first =>
    by_cases hz : d.size = 0
    · have hb := hide (show true = true → numXB s.data.toList = false from fun _ => by
        cases hx : numXB s.data.toList
        · rfl
        · have := (unhide HSH hx).1; omega)
      have hz0 : (d.size : Int) < 1 := by omega
      clear hz HD HDZ HSH HNN
      go_wp2_with fail
      go_meet
      exact ⟨true, rfl, hide (fun _ => unhide hb trivial), by simp, rfl⟩
    have hz1 : 0 < d.size := by omega
    have hz0 : ¬ (d.size : Int) < 1 := by omega
    by_cases h18 : 19 < d.size
    · have hb := hide (show true = true → numXB s.data.toList = false from fun _ => by
        cases hx : numXB s.data.toList
        · rfl
        · have := (unhide HSH hx).2.1; omega)
      have h18' : (19 : Int) < (d.size : Int) := by omega
      clear hz HD HDZ h18 HSH HNN
      go_wp2_with fail
      go_meet
      exact ⟨true, rfl, hide (fun _ => unhide hb trivial), by simp, rfl⟩
    have h18' : ¬ (19 : Int) < (d.size : Int) := by omega
    have h18n : d.size ≤ 19 := by omega
    clear hz h18 HD HDZ HSH HNN
    go_wp2_with fail
    go_meet
    exact ⟨false, rfl, hide (fun h => by cases h), fun _ => h18n, rfl⟩
  case rest =>
  obtain ⟨b2, rfl, HF, h18, rfl⟩ := hcut
  cases b2
  rotate_left
  · have HR := hide (unhide NO (unhide HF rfl))
    clear HF h18 HD HDZ HSH HNN
    go_wp2_with fail
    go_ret2
    exact ⟨unhide HR, Below.refl _ _⟩
  have hd18 := h18 rfl
  clear HF h18
  obtain ⟨ng, hng⟩ : ∃ ng : Bool, Hid (ng = decide (d.size < s.size)) := ⟨_, hide rfl⟩
  rw [← unhide hng] at HNN
  go_wp2_with fail
  go_loopw [5, 6] (fun nv iv wr => ∃ (k : Nat) (z : Int), k ≤ d.size ∧ iv = .int .i64 (k : Int) ∧ nv = .int .i64 z ∧ Hid (z = numTo ng (d.data.toList.take k)) ∧ wr = wc) (fun _ iv _ => d.size - (intOf iv).toNat)
  case atStart => exact ⟨0, 0, Nat.zero_le _, rfl, rfl, hide rfl, rfl⟩
  case round =>
    obtain ⟨k, z, hk, rfl, rfl, HZ, rfl⟩ := hrel
    by_cases hlt : k < d.size
    · have hlt' : (k : Int) < (d.size : Int) := by omega
      have htk : d.data.toList.take (k + 1) = d.data.toList.take k ++ [d[k]] := by
        rw [List.take_succ_eq_append_getElem (by simpa using hlt)]
        simp [ByteArray.getElem_eq_getElem_data]
      have hmem : d[k] ∈ d.data.toList := by rw [show d[k] = d.data.toList[k]'(by simpa using hlt) by simp [ByteArray.getElem_eq_getElem_data]]; exact List.getElem_mem _
      have hbt := d[k].toNat_lt
      have HST := hide (show numTo ng (d.data.toList.take (k + 1)) = numSt ng z d[k] from by rw [htk, numTo_snoc, ← unhide HZ])
      by_cases hdg : digN d[k] = true
      · have hdg2 : 48 ≤ d[k].toNat ∧ d[k].toNat ≤ 57 := by simpa [digN] using hdg
        clear hmem hdg htk HZ
        have q1 : ¬ ((d[k].toNat : Int) < 48) := by omega
        have q2 : ¬ (57 < (d[k].toNat : Int)) := by omega
        by_cases hn : d.size < s.size
        · have hn' : (d.size : Int) < (s.size : Int) := by omega
          have HE := hide (show wrap64 (wrap64 (10 * z) - ((d[k].toNat : Int) - 48)) = numTo ng (d.data.toList.take (k + 1)) from by rw [unhide HST, unhide hng, decide_eq_true hn]; rfl)
          clear hn hdg2
          go_wp2_with fail
          go_roundw
          case rel => exact ⟨k + 1, _, by omega, by go_num, rfl, HE, by first | trivial | rfl⟩
          case measure => simp [intOf]; omega
        · have hn' : ¬ (d.size : Int) < (s.size : Int) := by omega
          have HE := hide (show wrap64 (wrap64 (10 * z) + ((d[k].toNat : Int) - 48)) = numTo ng (d.data.toList.take (k + 1)) from by rw [unhide HST, unhide hng, decide_eq_false hn]; rfl)
          clear hn hdg2
          go_wp2_with fail
          go_roundw
          case rel => exact ⟨k + 1, _, by omega, by go_num, rfl, HE, by first | trivial | rfl⟩
          case measure => simp [intOf]; omega
      · have HR := hide (unhide NO (by
          cases hx : numXB s.data.toList
          · rfl
          · exact absurd (List.all_eq_true.1 (unhide HSH hx).2.2 _ hmem) hdg))
        have hdg2 : d[k].toNat < 48 ∨ (48 ≤ d[k].toNat ∧ 57 < d[k].toNat) := by
          have : ¬ (48 ≤ d[k].toNat ∧ d[k].toNat ≤ 57) := fun h => hdg (by simp [digN, h])
          omega
        clear hmem hdg htk HZ HST
        rcases hdg2 with h | ⟨h, h'⟩
        · have q1 : ((d[k].toNat : Int) < 48) := by omega
          clear h
          go_wp2_with fail
          go_ret2
          exact ⟨unhide HR, Below.refl _ _⟩
        · have q1 : ¬ ((d[k].toNat : Int) < 48) := by omega
          have q2 : (57 < (d[k].toNat : Int)) := by omega
          clear h h'
          go_wp2_with fail
          go_ret2
          exact ⟨unhide HR, Below.refl _ _⟩
    · have e : k = d.size := by omega
      subst e
      have htk : d.data.toList.take d.size = d.data.toList := List.take_of_length_le (by simp)
      rw [htk] at HZ
      have hlt' : ¬ ((d.size : Int) < (d.size : Int)) := by omega
      have HZN := hide (show z = numN s.data.toList from by rw [unhide HNN]; exact unhide HZ)
      have fz := numTo_fit (decide ((numD s.data.toList).length < s.data.toList.length)) (numD s.data.toList)
      have hzn := unhide HZN
      have HDC := hide (fun (W : World) => l10Dec_all z (by rw [hzn]; exact fz.1) (by rw [hzn]; exact fz.2) W)
      have HSM := hide (fun t => str_same10 t s)
      clear fz hzn HZ htk HNN HSH HD HDZ
      go_wp2_with fail
      refine (unhide HDC _).mono ?_
      rintro e w2 ⟨rfl, b2⟩
      have hsm := unhide HSM (itoaB z)
      have B2 := hide b2
      clear b2 HDC HSM
      by_cases hq : itoaB z = s
      · have HY := hide (numX_yes (s := s.data.toList) (by rw [← unhide HZN, ← hq]; simp [itoaB]))
        rw [decide_eq_true hq] at hsm
        have HR := hide (show Ending.returned (.tuple #[.int .i64 z, .bool true]) = .returned (.tuple #[.int .i64 (numX s.data.toList), .bool (numXB s.data.toList)]) from by
          unfold numX; rw [(unhide HY).1, if_pos rfl, (unhide HY).2, ← unhide HZN])
        clear hq HY HZN NO
        generalize itoaB z = T at *
        go_wp2_with fail
        go_ret2
        exact ⟨unhide HR, unhide B2⟩
      · have HR := hide (unhide NO (numX_no (s := s.data.toList) (by
          rw [← unhide HZN]
          intro e
          refine hq ?_
          apply ByteArray.ext
          apply Array.toList_inj.1
          rw [← e]; simp [itoaB])))
        rw [decide_eq_false hq] at hsm
        clear hq HZN NO
        generalize itoaB z = T at *
        go_wp2_with fail
        go_ret2
        exact ⟨unhide HR, unhide B2⟩
end Go.Proofs.YtiebfcefmdiajaaGreatDoor
