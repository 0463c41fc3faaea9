/-
  The specification reads a mark, marks, a stamp.
-/
import Derived.Test.YteonbigmggeneaaDoorStRdN
import Derived.Test.YteonbigmggeneaaDoorStRdP
set_option linter.unusedVariables false
namespace Go.Proofs.YteonbigmggeneaaDoor
open Go.RowKit Go.Maps Go.Deep

theorem pairR {w : World} {g : Nat} {a b : Value} (h : BoxF w g [a, b]) : (w.cell? ⟨g, 0, none⟩ = some a ∧ w.cell? ⟨g, 1, none⟩ = some b) ∧ (w.frozen? ⟨g, 0, none⟩ = false ∧ w.frozen? ⟨g, 1, none⟩ = false) := ⟨⟨h.1.at 0 _ rfl, h.1.at 1 _ rfl⟩, h.2 0 (by simp), h.2 1 (by simp)⟩
theorem TxRow.at {B : Nat} {w : World} {a : Option Addr} {n c : Nat} {ts : List ByteArray} (h : TxRow B w (.slice a n c) ts) (h0 : 0 < ts.length) : n = ts.length ∧ ∃ g, a = some ⟨g, 0, none⟩ ∧ g < w.heap.size ∧ ∀ i (hi : i < ts.length), w.cell? ⟨g, i, none⟩ = some (.string ts[i]) := by
  have hh : w.ownsRow B 9 1 (.slice a n c) ts.length (ts.map .string) := h
  rcases h with ⟨_, ⟨e, h00⟩ | ⟨g, cap, cur, e, hB, hg, hnc, _⟩⟩
  · omega
  · simp only [Value.slice.injEq] at e
    obtain ⟨rfl, rfl, rfl⟩ := e
    exact ⟨rfl, g, rfl, (Array.getElem?_eq_some_iff.1 hg).1, fun i hi => by rw [hh.cellAt _ (by omega)]; simp [hi]⟩
theorem cut_len (c : UInt8) (l : List UInt8) : (cutB c l).length ≤ l.length + 1 ∧ ∀ p ∈ cutB c l, p.length ≤ l.length := by
  unfold cutB
  induction l using snoc_ind with
  | h0 => simp [cutSt]
  | h1 l b ih =>
    rw [cutSt_snoc]
    unfold cutStep
    obtain ⟨i1, i2⟩ := ih
    simp only [List.length_append, List.length_cons, List.length_nil] at i1 ⊢
    split
    · refine ⟨by simp; omega, fun p hp => ?_⟩
      simp only [List.mem_append, List.mem_cons, List.not_mem_nil, or_false] at hp
      rcases hp with (hp | hp) | hp
      · have := i2 p (by simp [hp]); omega
      · have := i2 p (by simp [hp]); omega
      · rw [hp]; simp
    · refine ⟨by simp; omega, fun p hp => ?_⟩
      simp only [List.mem_append, List.mem_cons, List.not_mem_nil, or_false] at hp
      rcases hp with hp | hp
      · have := i2 p (by simp [hp]); omega
      · have := i2 (cutSt c l).2 (by simp); rw [hp]; simp; omega
def RetMk (l : List UInt8) (w : World) (e : Ending) (w' : World) : Prop := ∃ m0 m1, e = .returned (.tuple #[.agg #[.string m0, .int .i64 m1], .bool (mkB l)]) ∧ Hid (mkB l = true → m0 = (mkV l).a0 ∧ m1 = (mkV l).a1) ∧ Below w.heap.size w w'
set_option maxRecDepth 20000 in
set_option maxHeartbeats 3200000 in
theorem l13Mark_any (s : ByteArray) (w : World) (hs : s.size ≤ 400) :
    Calls Tryd.prog 40 #[.string s] w fun e w' => RetMk s.data.toList w e w' := by
  have HSP := hide (fun (W : World) => show Calls Tryd.prog 28 #[.string s, .int .u8 58] W _ from l13Split_any s 58 W hs)
  have X0 := hide (boxF_new w [.string ⟨#[]⟩, .int .i64 0] 39)
  have A0 := hide ((Below.refl _ w).alloc (Nat.le_refl _) (.cells #[.string ⟨#[]⟩, .int .i64 0] 39))
  have HCL := hide (cut_len 58 s.data.toList)
  have hsl : s.data.toList.length ≤ 400 := by simpa using hs
  by_cases h2 : (cutB 58 s.data.toList).length = 2
  rotate_left
  · have HR := hide (show mkB s.data.toList = false by unfold mkB; simp [h2])
    go_enter Tryd.func40, Tryd.ntmps40
    go_wp2_with fail
    refine (unhide HSP _).mono ?_
    rintro e w1 ⟨v, rfl, T1, b1⟩
    have B1 := hide ((unhide A0).trans (b1.mono (unhide A0).size))
    have X1 := hide ((unhide X0).up b1)
    obtain ⟨⟨x0, x1⟩, f0, f1⟩ := pairR (unhide X1)
    obtain ⟨va, vc, rfl⟩ := (unhide T1).slice
    rw [List.length_map] at T1 ⊢
    have hne : (((cutB 58 s.data.toList).length : Int) == 2) = false := by rw [beq_eq_false_iff_ne]; omega
    clear b1 T1 HSP h2 HCL
    generalize (cutB 58 s.data.toList).length = n at *
    go_wp2_with fail
    refine bodyPost_ret (v := .tuple #[.agg #[.string ⟨#[]⟩, .int .i64 0], .bool false]) (by simp [results, Tryd.results40, go_sem, x0, x1]) rfl ?_
    exact ⟨⟨#[]⟩, 0, by rw [unhide HR], hide (fun h => by rw [unhide HR] at h; cases h), ((unhide B1).setCell (p := ⟨w.heap.size, 0, none⟩) (Nat.le_refl _) _).setCell (p := ⟨w.heap.size, 1, none⟩) (Nat.le_refl _) _⟩
  · match hc : cutB 58 s.data.toList, h2 with
    | [a, b], _ =>
      rw [hc] at HSP HCL
      have hbl : b.length ≤ 400 := by have := (unhide HCL).2 b (by simp); omega
      have HNU := hide (fun (W : World) => l13Num_any (ofL b) W (by simp [ofL, ByteArray.size]; omega))
      have HR := hide (show mkB s.data.toList = numB b ∧ (mkB s.data.toList = true → ofL a = (mkV s.data.toList).a0 ∧ numOut b = (mkV s.data.toList).a1) by
        unfold mkB mkV
        rw [hc]
        simp only [List.getD_cons_zero, List.getD_cons_succ, List.length_cons, List.length_nil, decide_true, Bool.true_and]
        exact ⟨by first | trivial | rfl, fun h => ⟨rfl, by simp [numOut, h]⟩⟩)
      clear HCL hc h2
      go_enter Tryd.func40, Tryd.ntmps40
      go_wp2_with fail
      refine (unhide HSP _).mono ?_
      rintro e w1 ⟨v, rfl, T1, b1⟩
      have B1 := hide ((unhide A0).trans (b1.mono (unhide A0).size))
      have X1 := hide ((unhide X0).up b1)
      obtain ⟨⟨x0, x1⟩, f0, f1⟩ := pairR (unhide X1)
      obtain ⟨va, vc, rfl⟩ := (unhide T1).slice
      obtain ⟨-, g, rfl, hg, hcell⟩ := (unhide T1).at (by simp)
      have c0 := hcell 0 (by simp)
      have c1 := hcell 1 (by simp)
      simp only [List.map_cons, List.map_nil, List.getElem_cons_zero, List.getElem_cons_succ, List.length_cons, List.length_nil] at c0 c1 ⊢
      clear b1 T1 HSP hcell
      go_wp2_with fail
      refine (unhide HNU w1).mono ?_
      rintro e w2 ⟨rfl, rfl⟩
      have e1 : (ofL b).data.toList = b := by simp [ofL]
      rw [e1]
      clear HNU
      generalize numOut b = nv at *
      generalize numB b = nb at *
      go_wp2_with fail
      refine bodyPost_ret (v := .tuple #[.agg #[.string (ofL a), .int .i64 nv], .bool nb]) (by simp [results, Tryd.results40, go_sem, x0, x1]) rfl ?_
      exact ⟨ofL a, nv, by rw [(unhide HR).1], hide (unhide HR).2, ((unhide B1).setCell (p := ⟨w.heap.size, 0, none⟩) (Nat.le_refl _) _).setCell (p := ⟨w.heap.size, 1, none⟩) (Nat.le_refl _) _⟩
theorem specMs_small {l : List UInt8} (h : l.length ≤ 400) (k : Nat) (hb : ∀ p ∈ (cutB 32 l).take k, mkB p = true) : SmallMarkS (((cutB 32 l).take k).map mkV) := by
  obtain ⟨h1, h2⟩ := cut_len 32 l
  have hx : ∀ x ∈ ((cutB 32 l).take k).map mkV, x.a0.size ≤ 400 ∧ IntFit x.a1 := by
    intro x hx
    obtain ⟨p, hp, rfl⟩ := List.mem_map.1 hx
    have hpl := h2 p (List.mem_of_mem_take hp)
    have hm := hb p hp
    obtain ⟨_, h3⟩ := cut_len 58 p
    unfold mkB at hm
    simp only [Bool.and_eq_true, decide_eq_true_eq] at hm
    constructor
    · unfold mkV
      match hc : cutB 58 p, hm.1 with
      | [a, b], _ =>
        rw [hc] at h3
        have := h3 a (by simp)
        simp [ByteArray.size]; omega
    · have := num_fit hm.2
      unfold mkV numV IntFit
      simp only
      split <;> omega
  exact ⟨⟨by simp; omega, fun x hq => by have := (hx x hq).1; omega⟩, fun x hq => ⟨by have := (hx x hq).1; unfold maxLen; omega, (hx x hq).2⟩⟩
theorem word_dash (p : List UInt8) : ((ofL p).toList == [45]) = decide (p = [45]) := by
  rw [ByteArray.toList_eq, Bool.eq_iff_iff]
  simp [ofL]
set_option maxRecDepth 20000 in
set_option maxHeartbeats 6400000 in
theorem l13Marks_any (t : ByteArray) (g cc : Nat) (w : World) (h400 : t.size ≤ 400) (hg : g < w.heap.size) (hc : ∀ i (hi : i < (cutB 32 t.data.toList).length), w.cell? ⟨g, i, none⟩ = some (.string (ofL (cutB 32 t.data.toList)[i]))) :
    Calls Tryd.prog 27 #[.slice (some ⟨g, 0, none⟩) (cutB 32 t.data.toList).length cc] w fun e w' => RetRd t w e w' := by
  have hd := cut_dash t
  have HCL := hide (cut_len 32 t.data.toList)
  have htl : t.data.toList.length ≤ 400 := by simpa using h400
  have hne := cutB_ne 32 t.data.toList
  have hpos : 0 < (cutB 32 t.data.toList).length := List.length_pos_iff.2 hne
  have hns := (unhide HCL).1
  have NO := hide (fun (h1 : rdOkB t = false ∧ rdOut t = []) (w' : World) (hb : Below w.heap.size w w') => show RetRd t w (.returned (.tuple #[.slice none 0 0, .bool false])) w' from ⟨_, by rw [h1.1], by rw [h1.2]; exact hide (MkRow.nil _ _), hb⟩)
  have hc0 := hc 0 hpos
  have hw0 := word_dash (cutB 32 t.data.toList)[0]
  by_cases hdash : t = dashT
  · have hcd := hd.2 hdash
    have HR := hide (show RetRd t w (.returned (.tuple #[.slice none 0 0, .bool true])) w from by subst hdash; exact ⟨_, by rw [rd_dash.1], by rw [rd_dash.2]; exact hide (MkRow.nil _ _), Below.refl _ _⟩)
    simp only [hcd, List.getElem_cons_zero, List.length_cons, List.length_nil] at hc0 hw0 ⊢
    clear hc HCL hne hpos hns NO hd hcd hdash
    simp only [decide_true] at hw0
    go_enter Tryd.func27, Tryd.ntmps27
    go_wp2_with fail
    go_ret2
    exact unhide HR
  · have HND := hide hdash
    have HC := hide hc
    have q0 : ((cutB 32 t.data.toList).length : Int) ≠ 1 ∨ ((((cutB 32 t.data.toList).length : Int) == 1) = true ∧ ((ofL (cutB 32 t.data.toList)[0]).toList == [45]) = false) := by
      by_cases h1 : (cutB 32 t.data.toList).length = 1
      · refine .inr ⟨by rw [h1]; rfl, ?_⟩
        rw [hw0]
        simp only [decide_eq_false_iff_not]
        intro e
        apply hdash
        apply hd.1
        match hcc : cutB 32 t.data.toList, h1 with
        | [p], _ => simp only [hcc, List.getElem_cons_zero] at e; rw [e]
      · exact .inl (by omega)
    have HQ := hide q0
    have HSY := hide (fun (h : specRdB t.data.toList = true) => rd_spec_yes h400 hdash h)
    have HSN := hide (fun (h : specRdB t.data.toList = false) => rd_spec_no hdash h)
    have HSM := hide (fun k hb => specMs_small (l := t.data.toList) htl k hb)
    clear hc hd hne hdash q0 hw0
    go_enter Tryd.func27, Tryd.ntmps27
    go_upto_region 2 with fail
    go_cut [16] (fun bv wx => bv = .bool false ∧ wx = w)
    case first =>
      have HC0 := hide hc0
      clear hc0
      generalize hw0e : ofL (cutB 32 t.data.toList)[0] = w0 at *
      clear hw0e
      rcases unhide HQ with h1 | ⟨h1, h2⟩
      · have q1 : (((cutB 32 t.data.toList).length : Int) == 1) = false := by rw [beq_eq_false_iff_ne]; exact h1
        clear h1 HC HC0 HCL HSM HQ
        go_wp2_with fail
        go_meet
        exact ⟨rfl, rfl⟩
      · have c0 := unhide HC0
        have hpi : (0 : Int) < ((cutB 32 t.data.toList).length : Int) := by omega
        clear HC HC0 HCL HSM HQ
        go_wp2_with fail
        go_meet
        exact ⟨rfl, rfl⟩
    case rest =>
    obtain ⟨rfl, rfl⟩ := hcut
    clear HQ hc0
    have HSP := hide (show specRdB t.data.toList = ((cutB 32 t.data.toList).all mkB && mstampB ((cutB 32 t.data.toList).map mkV)) from rfl)
    have HSM' := hide (show specMs t.data.toList = (cutB 32 t.data.toList).map mkV from rfl)
    have HLN := hide (show ∀ p ∈ cutB 32 t.data.toList, p.length ≤ 400 from fun p hp => by have := (unhide HCL).2 p hp; omega)
    clear HCL
    generalize cutB 32 t.data.toList = ps at *
    go_wp2_with fail
    go_loopw [4, 5] (fun ov iv wr => ∃ (k : Nat) (oa : Option Addr) (oc : Nat), k ≤ ps.length ∧ iv = .int .i64 (k : Int) ∧ ov = .slice oa k oc ∧ Hid (MkRow wc.heap.size wr (.slice oa k oc) ((ps.take k).map mkV)) ∧ Hid (∀ p ∈ ps.take k, mkB p = true) ∧ Hid (Below wc.heap.size wc wr)) (fun _ iv _ => ps.length - (intOf iv).toNat)
    case atStart => exact ⟨0, none, 0, Nat.zero_le _, rfl, rfl, hide (MkRow.nil _ _), hide (by simp), hide (Below.refl _ _)⟩
    case round =>
      obtain ⟨k, oa, oc, hk, rfl, rfl, HR, HB, HBr⟩ := hrel
      by_cases hlt : k < ps.length
      · have hlt' : (k : Int) < (ps.length : Int) := by omega
        have ck := ((unhide HBr).cell (by exact hg)).trans (unhide HC k hlt)
        have HMK := hide (l13Mark_any (ofL ps[k]) wr (by have := unhide HLN _ (List.getElem_mem hlt); simp [ofL, ByteArray.size]; omega))
        have e1 : (ofL ps[k]).data.toList = ps[k] := by simp [ofL]
        rw [e1] at HMK
        have htk : ps.take (k + 1) = ps.take k ++ [ps[k]] := List.take_succ_eq_append_getElem hlt
        have hmem : ps[k] ∈ ps := List.getElem_mem hlt
        cases hmk : mkB ps[k]
        · have HE := hide (unhide NO (unhide HSN (by rw [unhide HSP, show ps.all mkB = false by rw [List.all_eq_false]; exact ⟨_, hmem, by simp [hmk]⟩]; simp)))
          unfold RetMk at HMK
          rw [hmk] at HMK
          clear htk hmem hmk e1
          generalize ofL ps[k] = tk at *
          go_wp2_with fail
          refine (unhide HMK).mono ?_
          rintro e w1 ⟨m0, m1, rfl, -, b1⟩
          have B1 := hide ((unhide HBr).trans (b1.mono (unhide HBr).size))
          clear b1 HMK
          go_wp2_with fail
          go_ret2
          refine unhide HE _ ?_
          first | exact unhide B1 | exact (unhide B1).alloc (unhide B1).size _
        · have HB2 := hide (show ∀ p ∈ ps.take (k + 1), mkB p = true from fun p hp => by
            rw [htk] at hp
            rcases List.mem_append.1 hp with q | q
            · exact unhide HB p q
            · simp only [List.mem_cons, List.not_mem_nil, or_false] at q; rw [q]; exact hmk)
          have HR2 := hide (show ((ps.take k).map mkV) ++ [⟨(mkV ps[k]).a0, (mkV ps[k]).a1⟩] = (ps.take (k + 1)).map mkV by rw [htk, List.map_append]; rfl)
          unfold RetMk at HMK
          rw [hmk] at HMK
          clear htk hmem hmk e1
          generalize mkV ps[k] = mv at *
          generalize ofL ps[k] = tk at *
          go_wp2_with fail
          refine (unhide HMK).mono ?_
          rintro e w1 ⟨m0, m1, rfl, hmm, b1⟩
          obtain ⟨rfl, rfl⟩ := unhide hmm (by first | trivial | rfl)
          have B1 := hide ((unhide HBr).trans (b1.mono (unhide HBr).size))
          have R1 := hide ((unhide HR).up b1)
          clear b1 HMK hmm ck
          have A2 := hide ((Below.refl _ w1).alloc (Nat.le_refl _) (.cells #[.string mv.a0, .int .i64 mv.a1] 39))
          have A3 := hide ((unhide A2).alloc (by simp) (.cells #[.string mv.a0, .int .i64 mv.a1] 39))
          have R3 := hide ((unhide R1).up (unhide A3))
          have C3 := hide (show ((w1.alloc (.cells #[.string mv.a0, .int .i64 mv.a1] 39)).alloc (.cells #[.string mv.a0, .int .i64 mv.a1] 39)).cell? ⟨w1.heap.size + 1, 0, none⟩ = some (.string mv.a0) ∧ ((w1.alloc (.cells #[.string mv.a0, .int .i64 mv.a1] 39)).alloc (.cells #[.string mv.a0, .int .i64 mv.a1] 39)).cell? ⟨w1.heap.size + 1, 1, none⟩ = some (.int .i64 mv.a1) from by
            have h := (boxF_new (w1.alloc (.cells #[.string mv.a0, .int .i64 mv.a1] 39)) [.string mv.a0, .int .i64 mv.a1] 39).1
            rw [World.size_alloc] at h
            exact ⟨h.at 0 _ rfl, h.at 1 _ rfl⟩)
          have HLP := hide (show ((ps.take k).map mkV).length ≤ 1000000 by simp; omega)
          have B3 := hide ((unhide B1).trans ((unhide A3).mono (unhide B1).size))
          go_wp2_with (first
            | (at_builtin; refine wpList_markAppend rfl _ _ rfl wc.heap.size (.slice oa k oc) ((ps.take k).map mkV) ⟨mv.a0, mv.a1⟩ (w1.heap.size + 1) rfl rfl (unhide R3) (unhide C3).1 (unhide C3).2 (unhide HLP) (unhide B3).size ?_; intro g5 n5 c5 w5 r5 gr5 hg5; have R5 := hide (show n5 = k + 1 ∧ MkRow wc.heap.size w5 (.slice (some ⟨g5, 0, none⟩) n5 c5) ((ps.take (k + 1)).map mkV) from by rw [unhide HR2] at r5; obtain ⟨_, _, e5⟩ := r5.slice; simp only [Value.slice.injEq] at e5; exact ⟨by rw [e5.2.1]; simp; omega, r5⟩); have B5 := hide (Below.grown (unhide B3) gr5 (unhide B3).size (fun y hy => (unhide R3).ge y hy)); clear r5 gr5 hg5)
            | fail)
          obtain ⟨hn5, R5'⟩ := unhide R5
          subst hn5
          have R6 := hide R5'
          clear R5 R5'
          go_roundw
          case rel => exact ⟨k + 1, _, c5, by omega, by go_num, rfl, R6, HB2, B5⟩
          case measure => simp [intOf]; omega
      · have e : k = ps.length := by omega
        subst e
        rw [List.take_length] at HR HB
        have hall : ps.all mkB = true := List.all_eq_true.2 (unhide HB)
        have HSMM := hide (show SmallMarkS (ps.map mkV) from by have := unhide HSM ps.length (by rw [List.take_length]; exact unhide HB); rw [List.take_length] at this; exact this)
        have hlt' : ¬ ((ps.length : Int) < (ps.length : Int)) := by omega
        have HOK := hide (specStampOk_any (ps.map mkV) (.slice oa ps.length oc) wr (unhide HSMM) (unhide HR).rd)
        have q0 : ((ps.length : Int) == 0) = false := by rw [beq_eq_false_iff_ne]; omega
        cases hm : mstampB (ps.map mkV)
        · have HE := hide (unhide NO (unhide HSN (by rw [unhide HSP, hm]; simp)))
          rw [hm] at HOK
          clear hm hall HB HSM
          go_wp2_with fail
          refine (unhide HOK).mono ?_
          rintro e w1 ⟨rfl, b1⟩
          have B1 := hide ((unhide HBr).trans (b1.mono (unhide HBr).size))
          clear b1
          go_wp2_with fail
          go_ret2
          exact unhide HE _ (unhide B1)
        · have HE := hide (unhide HSY (by rw [unhide HSP, hm, hall]; rfl))
          rw [hm] at HOK
          clear hm hall HB HSM
          go_wp2_with fail
          refine (unhide HOK).mono ?_
          rintro e w1 ⟨rfl, b1⟩
          have B1 := hide ((unhide HBr).trans (b1.mono (unhide HBr).size))
          have R1 := hide ((unhide HR).up b1)
          have HEND := hide (show RetRd t wc (.returned (.tuple #[.slice oa ps.length oc, .bool true])) w1 from ⟨_, by rw [(unhide HE).1], by rw [(unhide HE).2, unhide HSM']; exact R1, unhide B1⟩)
          clear b1 HE R1
          go_wp2_with fail
          go_ret2
          exact unhide HEND
set_option maxRecDepth 20000 in
set_option maxHeartbeats 3200000 in
theorem specStampRead_any (t : ByteArray) (w : World) (hs : t.size ≤ 1048576) :
    Calls Tryd.prog 12 #[.string t] w fun e w' => RetRd t w e w' := by
  by_cases h400 : t.size ≤ 400
  · have HSP := hide (show Calls Tryd.prog 28 #[.string t, .int .u8 32] w _ from l13Split_any t 32 w h400)
    have HMS := hide (fun g cc W (hg : g < W.heap.size) hc => l13Marks_any t g cc W h400 hg hc)
    have hz : ¬ (400 : Int) < (t.size : Int) := by omega
    have hpos : 0 < (cutB 32 t.data.toList).length := List.length_pos_iff.2 (cutB_ne 32 t.data.toList)
    go_enter Tryd.func12, Tryd.ntmps12
    go_wp2_with fail
    refine (unhide HSP).mono ?_
    rintro e w1 ⟨v, rfl, T1, b1⟩
    have B1 := hide b1
    obtain ⟨va, vc, rfl⟩ := (unhide T1).slice
    obtain ⟨-, g, rfl, hg, hcell⟩ := (unhide T1).at (by simpa using hpos)
    have HM1 := hide (unhide HMS g vc w1 hg (fun i hi => by rw [hcell i (by simpa using hi)]; simp))
    rw [List.length_map]
    clear b1 T1 HSP hcell HMS
    go_wp2_with fail
    refine (unhide HM1).mono ?_
    rintro e w2 ⟨v2, rfl, R2, b2⟩
    have B2 := hide ((unhide B1).trans (b2.mono (unhide B1).size))
    have R2' := hide ((unhide R2).mono (unhide B1).size)
    obtain ⟨va2, vc2, rfl⟩ := (unhide R2).slice
    clear b2 R2
    go_wp2_with fail
    go_ret2
    exact ⟨_, rfl, R2', unhide B2⟩
  · obtain ⟨h1, h2⟩ := rd_long h400
    have hz : (400 : Int) < (t.size : Int) := by omega
    have HEND := hide (show RetRd t w (.returned (.tuple #[.slice none 0 0, .bool false])) w from ⟨_, by rw [h1], by rw [h2]; exact hide (MkRow.nil _ _), Below.refl _ _⟩)
    clear h400 h1 h2
    go_enter Tryd.func12, Tryd.ntmps12
    go_wp2_with fail
    go_ret2
    exact unhide HEND
end Go.Proofs.YteonbigmggeneaaDoor
