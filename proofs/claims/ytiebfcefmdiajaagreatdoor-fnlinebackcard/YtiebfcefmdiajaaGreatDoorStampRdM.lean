/-
  The text of a stamp, read: how the program takes it byte by byte, how the specification cuts it, and that both come to the same.
-/
import Derived.Test.YtiebfcefmdiajaaGreatDoorMerged34
import Derived.Test.YtiebfcefmdiajaaGreatDoorMerged35
import Derived.Lib.AtoiAllCases
set_option linter.unusedVariables false
namespace Go.Proofs.YtiebfcefmdiajaaGreatDoor
open Go.RowKit Go.Maps

/-- the specification's number: has it the form, and what it is then -/
def numD (s : List UInt8) : List UInt8 := if s.head? = some 45 then s.drop 1 else s
def numB (s : List UInt8) : Bool := decide (1 ≤ (numD s).length) && decide ((numD s).length ≤ 18) && !(decide ((numD s).head? = some 48) && !decide (s = [48])) && (numD s).all digN
def numV (s : List UInt8) : Int := if (numD s).length < s.length then -(decV (numD s) : Int) else (decV (numD s) : Int)
theorem num_fit {s : List UInt8} (h : numB s = true) : decV (numD s) < 1000000000000000000 := by
  unfold numB at h
  simp only [Bool.and_eq_true, decide_eq_true_eq] at h
  have := decV_lt _ h.2
  have h2 : 10 ^ (numD s).length ≤ 10 ^ 18 := Nat.pow_le_pow_right (by omega) h.1.1.2
  omega
/-- a number from 1 on that has the form is written so -/
theorem num_canon {s : List UInt8} (h : numB s = true) (h1 : 1 ≤ numV s) : s = Lib.itoa (numV s) := by
  have hd : numD s = s ∨ (numD s).length < s.length := by
    unfold numD
    cases s with
    | nil => simp
    | cons b r => simp only [List.head?_cons, Option.some.injEq]; split <;> simp
  unfold numV at h1 ⊢
  rcases hd with hd | hd
  · rw [hd] at h1 ⊢
    rw [if_neg (by omega)] at h1 ⊢
    unfold numB at h
    rw [hd] at h
    simp only [Bool.and_eq_true, decide_eq_true_eq, Bool.not_eq_true', Bool.and_eq_false_iff, decide_eq_false_iff_not, Bool.not_eq_false'] at h
    obtain ⟨⟨⟨hl, h18⟩, hz⟩, hdg⟩ := h
    have h0 : s ≠ [] := by rintro rfl; simp at hl
    unfold Lib.itoa
    rw [if_neg (by omega), Int.toNat_natCast]
    refine (dec_canon s hdg h0 ?_).symm
    rcases hz with hz | hz
    · left
      intro e
      exact hz (by rw [List.head?_eq_some_head h0, e])
    · right; rw [hz]; rfl
  · rw [if_pos hd] at h1
    omega
theorem dig45 (b : UInt8) (h : digN b = true) : b ≠ 45 ∧ b ≠ 58 ∧ b ≠ 32 := by
  unfold digN at h
  simp at h
  refine ⟨?_, ?_, ?_⟩ <;> rintro rfl <;> simp at h
theorem itoa_pos (n : Int) (h0 : 1 ≤ n) : Lib.itoa n = Lib.decDigits n.toNat := by unfold Lib.itoa; rw [if_neg (by omega)]
theorem num_back (n : Int) (h0 : 1 ≤ n) (h1 : n ≤ 1099511627776) : numB (Lib.itoa n) = true ∧ numV (Lib.itoa n) = n := by
  rw [itoa_pos n h0]
  obtain ⟨b, r, e⟩ := List.exists_cons_of_ne_nil (dec_ne n.toNat)
  have hd := dec_dig n.toNat
  have hb : digN b = true := by rw [e] at hd; simp at hd; exact hd.1
  have hnd : numD (Lib.decDigits n.toNat) = Lib.decDigits n.toNat := by
    unfold numD
    rw [e, List.head?_cons, if_neg (by simp; exact (dig45 b hb).1)]
  have hl := dec_len n.toNat 17 (by omega)
  constructor
  · unfold numB
    rw [hnd]
    have h48 : ¬ (Lib.decDigits n.toNat).head? = some 48 := by
      rw [e]; simp; exact dec_head n.toNat (by omega) b r e
    have h1 : 1 ≤ (Lib.decDigits n.toNat).length := by rw [e]; simp
    simp only [h48, hd, h1, decide_true, decide_false, Bool.false_and, Bool.not_false, Bool.and_true, Bool.true_and, decide_eq_true_eq]
    omega
  · unfold numV
    rw [hnd, if_neg (by omega), dec_val]
    omega
theorem parse_dec (l : List UInt8) : ∀ (k : Nat), k ≤ l.length → l.all digN = true → decV l < 1844674407370955162 → Lib.parseUint10 (decV (l.take k)) (l.drop k) = .ok (decV l) := by
  intro k
  generalize hm : l.length - k = m
  induction m generalizing k with
  | zero =>
    intro hk hd hv
    have : k = l.length := by omega
    subst this
    rw [List.drop_length, List.take_length, Lib.parseUint10]
  | succ m ih =>
    intro hk hd hv
    have hlt : k < l.length := by omega
    rw [List.drop_eq_getElem_cons hlt, Lib.parseUint10]
    have hb : digN l[k] = true := (List.all_eq_true.1 hd) _ (List.getElem_mem hlt)
    unfold digN at hb
    simp at hb
    have hle : decV (l.take (k + 1)) ≤ decV l := decV_mono l (k + 1)
    have ht := decV_take l k hlt
    rw [if_pos hb, if_neg (by omega), if_neg (by omega)]
    have e : decV (l.take k) * 10 + (l[k].toNat - 48) = decV (l.take (k + 1)) := by rw [ht]; omega
    rw [e]
    exact ih (k + 1) (by omega) (by omega) hd hv
/-- what the program takes a text of a number for -/
def looseV (l : List UInt8) : Int := match Lib.atoiAll l with | .ok v => v | .syntax => 0 | .range => Lib.atoiSat l
theorem loose_back (n : Int) (h0 : 1 ≤ n) (h1 : n ≤ 1099511627776) : looseV (Lib.itoa n) = n := by
  have hp := parse_dec (Lib.decDigits n.toNat) 0 (Nat.zero_le _) (dec_dig _) (by rw [dec_val]; omega)
  rw [dec_val] at hp
  have z : decV ((Lib.decDigits n.toNat).take 0) = 0 := rfl
  rw [z, List.drop_zero] at hp
  rw [itoa_pos n h0]
  obtain ⟨b, r, e⟩ := List.exists_cons_of_ne_nil (dec_ne n.toNat)
  have hb : digN b = true := by have := dec_dig n.toNat; rw [e] at this; simp at this; exact this.1
  have q : b.toNat ≠ 43 ∧ b.toNat ≠ 45 := by unfold digN at hb; simp at hb; omega
  unfold looseV Lib.atoiAll
  rw [e] at hp ⊢
  simp only [q.1, q.2, or_self, if_false, not_false_eq_true, true_and, false_and]
  unfold Lib.parseMag
  rw [if_neg (by simp), hp]
  simp only
  rw [if_neg (by omega)]
  simp only
  omega
theorem loose_fit (l : List UInt8) : -9223372036854775808 ≤ looseV l ∧ looseV l ≤ 9223372036854775807 := by
  unfold looseV
  cases h : Lib.atoiAll l with
  | ok v => exact Lib.atoiAll_bounds h
  | «syntax» => simp
  | range => simp only [Lib.atoiSat]; split <;> simp

/-- the program's reader: the marks that it has, the source of the open one, the open word -/
structure RdSt where
  marks : List MarkV
  src : ByteArray
  word : List UInt8
def endSt (s : RdSt) : RdSt := ⟨s.marks ++ [⟨s.src, looseV s.word⟩], ⟨#[]⟩, []⟩
def takeSb (s : RdSt) (c : UInt8) : RdSt := if c = 58 then ⟨s.marks, ⟨s.word.toArray⟩, []⟩ else if c = 32 then endSt s else ⟨s.marks, s.src, s.word ++ [c]⟩
def readSt (l : List UInt8) : RdSt := l.foldl takeSb ⟨[], ⟨#[]⟩, []⟩
def readM (l : List UInt8) : List MarkV := (endSt (readSt l)).marks
theorem readM_ne (l : List UInt8) : readM l ≠ [] := by simp [readM, endSt]
theorem fold_word (w : List UInt8) (h : 58 ∉ w) (h2 : 32 ∉ w) (s : RdSt) : w.foldl takeSb s = ⟨s.marks, s.src, s.word ++ w⟩ := by
  induction w generalizing s with
  | nil => simp
  | cons b r ih =>
    simp at h h2
    rw [List.foldl_cons, takeSb, if_neg (fun e => h.1 e.symm), if_neg (fun e => h2.1 e.symm), ih h.2 h2.2]
    simp
theorem plain_not (s : ByteArray) (h : plainB s = true) : 58 ∉ s.data.toList ∧ 32 ∉ s.data.toList := by
  unfold plainB at h
  simp only [Bool.and_eq_true, List.all_eq_true] at h
  constructor
  · intro hm
    have := h.2 _ hm
    revert this
    decide
  · intro hm
    have := h.2 _ hm
    revert this
    decide
theorem itoa_not (n : Int) (h : 1 ≤ n) : 58 ∉ Lib.itoa n ∧ 32 ∉ Lib.itoa n := by
  rw [itoa_pos n h]
  have hd := dec_dig n.toNat
  rw [List.all_eq_true] at hd
  exact ⟨fun hm => (dig45 _ (hd _ hm)).2.1 rfl, fun hm => (dig45 _ (hd _ hm)).2.2 rfl⟩
theorem markT_list (x : MarkV) : (markT x).data.toList = x.a0.data.toList ++ [58] ++ Lib.itoa x.a1 := by simp [markT, itoaB]
theorem good_mark {x : MarkV} (h : markB x = true) : plainB x.a0 = true ∧ 1 ≤ x.a1 ∧ x.a1 ≤ 1099511627776 := by
  unfold markB at h
  simp only [Bool.and_eq_true, decide_eq_true_eq] at h
  exact ⟨h.1.1, h.1.2, h.2⟩
theorem good_marks {ns : List MarkV} (h : mstampB ns = true) : ∀ x ∈ ns, plainB x.a0 = true ∧ 1 ≤ x.a1 ∧ x.a1 ≤ 1099511627776 := by
  unfold mstampB at h
  simp only [Bool.and_eq_true, decide_eq_true_eq] at h
  intro x hx
  obtain ⟨i, hi, rfl⟩ := List.getElem_of_mem hx
  exact good_mark (h.2 i hi hi).1
theorem fold_mark (x : MarkV) (h : plainB x.a0 = true ∧ 1 ≤ x.a1 ∧ x.a1 ≤ 1099511627776) (m : List MarkV) : (markT x).data.toList.foldl takeSb ⟨m, ⟨#[]⟩, []⟩ = ⟨m, x.a0, Lib.itoa x.a1⟩ := by
  obtain ⟨n1, n2⟩ := plain_not _ h.1
  obtain ⟨d1, d2⟩ := itoa_not _ h.2.1
  rw [markT_list, List.foldl_append, List.foldl_append, fold_word _ n1 n2, List.foldl_cons, List.foldl_nil, takeSb, if_pos rfl, fold_word _ d1 d2]
  simp
theorem fold_marks (r : List MarkV) (h : ∀ x ∈ r, plainB x.a0 = true ∧ 1 ≤ x.a1 ∧ x.a1 ≤ 1099511627776) (m : List MarkV) (s : ByteArray) (w : List UInt8) :
    (endSt ((Lib.joinTail [32] (r.map fun x => (markT x).data.toList)).foldl takeSb ⟨m, s, w⟩)).marks = m ++ [⟨s, looseV w⟩] ++ r := by
  induction r generalizing m s w with
  | nil => simp [Lib.joinTail, endSt]
  | cons x r ih =>
    have e : Lib.joinTail [32] ((x :: r).map fun x => (markT x).data.toList) = 32 :: ((markT x).data.toList ++ Lib.joinTail [32] (r.map fun x => (markT x).data.toList)) := by simp [Lib.joinTail]
    have hx := h x (by simp)
    rw [e, List.foldl_cons, takeSb, if_neg (by decide), if_pos rfl, List.foldl_append]
    rw [show endSt ⟨m, s, w⟩ = ⟨m ++ [⟨s, looseV w⟩], ⟨#[]⟩, []⟩ from rfl, fold_mark x hx, ih (fun y hy => h y (by simp [hy])), loose_back _ hx.2.1 hx.2.2]
    simp
theorem stampT_list (ns : List MarkV) : (stampT ns).data.toList = Lib.join (ns.map fun x => (markT x).data.toList) [32] := by
  simp [stampT, joinB, List.map_map, Function.comp_def]
/-- a stamp that is written is read back by the program's reader -/
theorem read_back {ns : List MarkV} (h : mstampB ns = true) (h0 : ns ≠ []) : readM (stampT ns).data.toList = ns := by
  cases ns with
  | nil => exact absurd rfl h0
  | cons x r =>
    have hg := good_marks h
    have hx := hg x (by simp)
    rw [stampT_list, List.map_cons, Lib.join_cons]
    unfold readM readSt
    rw [List.foldl_append, fold_mark x hx, fold_marks r (fun y hy => hg y (by simp [hy])), loose_back _ hx.2.1 hx.2.2]
    simp
/-- the specification's mark of a word -/
def mkB (w : List UInt8) : Bool := decide ((cutB 58 w).length = 2) && numB ((cutB 58 w).getD 1 [])
def mkV (w : List UInt8) : MarkV := ⟨⟨((cutB 58 w).getD 0 []).toArray⟩, numV ((cutB 58 w).getD 1 [])⟩
def specMs (l : List UInt8) : List MarkV := (cutB 32 l).map mkV
def specRdB (l : List UInt8) : Bool := (cutB 32 l).all mkB && mstampB (specMs l)
theorem cutB_ne (c : UInt8) (l : List UInt8) : cutB c l ≠ [] := by simp [cutB]
theorem mk_word {w : List UInt8} (h : mkB w = true) (h1 : 1 ≤ (mkV w).a1) : (markT (mkV w)).data.toList = w := by
  unfold mkB at h
  simp only [Bool.and_eq_true, decide_eq_true_eq] at h
  obtain ⟨h2, hn⟩ := h
  have hj := cut_join 58 w
  unfold mkV at h1 ⊢
  match hc : cutB 58 w, h2 with
  | [a, b], _ =>
    rw [hc] at hj hn h1
    simp only [List.getD_cons_zero, List.getD_cons_succ] at hn h1 ⊢
    rw [markT_list]
    simp only
    rw [← num_canon hn h1, ← hj]
    simp [Lib.join, List.intercalate]
theorem word_mk {x : MarkV} (h : plainB x.a0 = true ∧ 1 ≤ x.a1 ∧ x.a1 ≤ 1099511627776) : mkB (markT x).data.toList = true ∧ mkV (markT x).data.toList = x := by
  obtain ⟨n1, n2⟩ := plain_not _ h.1
  obtain ⟨d1, d2⟩ := itoa_not _ h.2.1
  have hc : cutB 58 (markT x).data.toList = [x.a0.data.toList, Lib.itoa x.a1] := by
    have := cut_back 58 [x.a0.data.toList, Lib.itoa x.a1] (by simp) (by intro p hp; simp at hp; rcases hp with rfl | rfl <;> assumption)
    rw [← this, markT_list]
    simp [Lib.join, List.intercalate]
  obtain ⟨b1, b2⟩ := num_back _ h.2.1 h.2.2
  unfold mkB mkV
  rw [hc]
  simp only [List.getD_cons_zero, List.getD_cons_succ, b1, b2]
  exact ⟨by simp, by simp⟩
/-- what the specification reads is what the program reads, and it is written so -/
theorem spec_read {t : ByteArray} (h : specRdB t.data.toList = true) : mstampB (readM t.data.toList) = true ∧ stampT (readM t.data.toList) = t ∧ specMs t.data.toList = readM t.data.toList := by
  unfold specRdB at h
  simp only [Bool.and_eq_true, List.all_eq_true] at h
  obtain ⟨hw, hm⟩ := h
  have hg := good_marks hm
  have hl : (specMs t.data.toList).map (fun x => (markT x).data.toList) = cutB 32 t.data.toList := by
    unfold specMs
    rw [List.map_map]
    conv => rhs; rw [← List.map_id (cutB 32 t.data.toList)]
    refine List.map_congr_left fun w hw' => ?_
    exact mk_word (hw w hw') (hg (mkV w) (List.mem_map.2 ⟨w, hw', rfl⟩)).2.1
  have ht : stampT (specMs t.data.toList) = t := by
    have e : (stampT (specMs t.data.toList)).data.toList = t.data.toList := by rw [stampT_list, hl, cut_join]
    apply ByteArray.ext
    exact Array.toList_inj.1 e
  have hr := read_back hm (by unfold specMs; simp [cutB_ne])
  rw [ht] at hr
  rw [hr]
  exact ⟨hm, ht, rfl⟩
theorem read_spec {t : ByteArray} (hm : mstampB (readM t.data.toList) = true) (ht : stampT (readM t.data.toList) = t) : specRdB t.data.toList = true := by
  have hg := good_marks hm
  have hc : cutB 32 t.data.toList = (readM t.data.toList).map (fun x => (markT x).data.toList) := by
    have := cut_back 32 ((readM t.data.toList).map (fun x => (markT x).data.toList)) (by simp [readM_ne]) (by
      intro p hp
      obtain ⟨x, hx, rfl⟩ := List.mem_map.1 hp
      rw [markT_list]
      have h1 := (plain_not _ (hg x hx).1).2
      have h2 := (itoa_not _ (hg x hx).2.1).2
      simp only [List.mem_append, List.mem_cons, List.not_mem_nil, or_false, not_or]
      exact ⟨⟨h1, by decide⟩, h2⟩)
    rw [← stampT_list, ht] at this
    exact this
  unfold specRdB specMs
  rw [hc, List.map_map]
  have e : (readM t.data.toList).map (mkV ∘ fun x => (markT x).data.toList) = readM t.data.toList := by
    conv => rhs; rw [← List.map_id (readM t.data.toList)]
    refine List.map_congr_left fun x hx => ?_
    exact (word_mk (hg x hx)).2
  rw [e, hm, Bool.and_true, List.all_eq_true]
  intro p hp
  obtain ⟨x, hx, rfl⟩ := List.mem_map.1 hp
  exact (word_mk (hg x hx)).1
/-- what both sides answer -/
def dashT : ByteArray := ⟨#[45]⟩
def rdOkB (t : ByteArray) : Bool := decide (t.size ≤ 400) && (decide (t = dashT) || (mstampB (readM t.data.toList) && decide (stampT (readM t.data.toList) = t)))
def rdOut (t : ByteArray) : List MarkV := if rdOkB t = true ∧ t ≠ dashT then readM t.data.toList else []
theorem rd_long {t : ByteArray} (h : ¬ t.size ≤ 400) : rdOkB t = false ∧ rdOut t = [] := by simp [rdOkB, rdOut, h]
theorem rd_dash : rdOkB dashT = true ∧ rdOut dashT = [] := by
  have : rdOkB dashT = true := by
    unfold rdOkB
    rw [show decide (dashT.size ≤ 400) = true by decide]
    simp
  exact ⟨this, by simp [rdOut]⟩
theorem rd_no {t : ByteArray} (h : t ≠ dashT) (hn : mstampB (readM t.data.toList) = false ∨ stampT (readM t.data.toList) ≠ t) : rdOkB t = false ∧ rdOut t = [] := by
  have : rdOkB t = false := by
    unfold rdOkB
    rcases hn with hn | hn <;> simp [h, hn]
  exact ⟨this, by simp [rdOut, this]⟩
theorem rd_yes {t : ByteArray} (hs : t.size ≤ 400) (h : t ≠ dashT) (hm : mstampB (readM t.data.toList) = true) (ht : stampT (readM t.data.toList) = t) : rdOkB t = true ∧ rdOut t = readM t.data.toList := by
  have : rdOkB t = true := by
    unfold rdOkB
    simp [hs, h, hm, ht]
  exact ⟨this, by simp [rdOut, this, h]⟩
theorem rd_spec_no {t : ByteArray} (h : t ≠ dashT) (hn : specRdB t.data.toList = false) : rdOkB t = false ∧ rdOut t = [] := by
  refine rd_no h ?_
  by_cases hm : mstampB (readM t.data.toList) = true
  · right
    intro ht
    rw [read_spec hm ht] at hn
    cases hn
  · left; simpa using hm
theorem rd_spec_yes {t : ByteArray} (hs : t.size ≤ 400) (h : t ≠ dashT) (hy : specRdB t.data.toList = true) : rdOkB t = true ∧ rdOut t = specMs t.data.toList := by
  obtain ⟨h1, h2, h3⟩ := spec_read hy
  rw [h3]
  exact rd_yes hs h h1 h2
theorem cut_dash (t : ByteArray) : cutB 32 t.data.toList = [[45]] ↔ t = dashT := by
  constructor
  · intro e
    have := cut_join 32 t.data.toList
    rw [e, Lib.join_one] at this
    apply ByteArray.ext
    exact Array.toList_inj.1 this.symm
  · rintro rfl
    rfl
end Go.Proofs.YtiebfcefmdiajaaGreatDoor
