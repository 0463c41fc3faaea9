/-
  The specification reads the versions of a line.
-/
/-
  The program reads a version of a line, loosely.
-/
/-
  A struct of six cells in memory.
-/
import Derived.Test.YtiebfcefmdiajaaGreatDoorNum10
import Derived.Test.YtiebfcefmdiajaaGreatDoorMerged14
import Derived.Test.YtiebfcefmdiajaaGreatDoorMerged7
import Derived.Test.YtiebfcefmdiajaaGreatDoorMerged46
import Derived.Deep.RegionHeld3
import Derived.Test.YtiebfcefmdiajaaGreatDoorBoxes
set_option linter.unusedVariables false
namespace Go.Proofs.YtiebfcefmdiajaaGreatDoor
open Go.RowKit Go.Maps Go.Deep

def verXs (ts : List ByteArray) : Bool := ts.all fun t => verXB t.data.toList
def verVs (ts : List ByteArray) : List VerV := ts.map fun t => looseVr t.data.toList
theorem cut_lenL (c : UInt8) (l : List UInt8) : (cutB c l).length ≤ l.length + 1 ∧ ∀ p ∈ cutB c l, p.length ≤ l.length := by
  unfold cutB
  induction l using snoc_ind with
  | h0 => simp [cutSt]
  | h1 l b ih =>
    rw [cutSt_snoc]
    unfold cutStep
    obtain ⟨i1, i2⟩ := ih
    simp only [List.length_append, List.length_cons, List.length_nil] at i1 ⊢
    split
    · refine ⟨by simp; omega, fun p hp => ?_⟩
      simp only [List.mem_append, List.mem_cons, List.not_mem_nil, or_false] at hp
      rcases hp with (hp | hp) | hp
      · have := i2 p (by simp [hp]); omega
      · have := i2 p (by simp [hp]); omega
      · rw [hp]; simp
    · refine ⟨by simp; omega, fun p hp => ?_⟩
      simp only [List.mem_append, List.mem_cons, List.not_mem_nil, or_false] at hp
      rcases hp with hp | hp
      · have := i2 p (by simp [hp]); omega
      · have := i2 (cutSt c l).2 (by simp); rw [hp]; simp; omega
def RetVs (ts : List ByteArray) (w : World) (e : Ending) (w' : World) : Prop := ∃ oa on oc, e = .returned (.tuple #[.slice oa on oc, .bool (verXs ts)]) ∧ Hid (verXs ts = true → VrRow w.heap.size w' (.slice oa on oc) (verVs ts)) ∧ Below w.heap.size w w'
theorem verXs_bad {ts : List ByteArray} {t : ByteArray} (ht : t ∈ ts) (h : verXB t.data.toList = false) : verXs ts = false := by
  unfold verXs
  rw [List.all_eq_false]
  exact ⟨t, ht, by simp [h]⟩
set_option maxRecDepth 20000 in
set_option maxHeartbeats 6400000 in
theorem l10Vers_any (ts : List ByteArray) (a : Option Addr) (n c : Nat) (w : World) (hn : n = ts.length) (hl : ts.length ≤ 1000) (ht : ∀ t ∈ ts, t.size ≤ 1000) (h : StrsIn w a ts) :
    Calls Tryz.prog 23 #[.slice a n c] w fun e w' => RetVs ts w e w' := by
  have NO := hide (fun (t : ByteArray) (hm : t ∈ ts) (hx : verXB t.data.toList = false) (W : World) (bW : Below w.heap.size w W) => show RetVs ts w (.returned (.tuple #[.slice none 0 0, .bool false])) W from
    ⟨none, 0, 0, by rw [verXs_bad hm hx], hide (fun q => by rw [verXs_bad hm hx] at q; cases q), bW⟩)
  have HIN := hide h
  subst hn
  clear h
  go_enter Tryz.func23, Tryz.ntmps23
  go_wp2_with fail
  go_loopw [4, 5] (fun ov iv wr => ∃ (k : Nat) (oa : Option Addr) (on oc : Nat), k ≤ ts.length ∧ iv = .int .i64 (k : Int) ∧ ov = .slice oa on oc ∧ Hid (VrRow w.heap.size wr (.slice oa on oc) (verVs (ts.take k)) ∧ verXs (ts.take k) = true) ∧ Hid (Below w.heap.size w wr)) (fun _ iv _ => ts.length - (intOf iv).toNat)
  case atStart => exact ⟨0, none, 0, 0, Nat.zero_le _, rfl, rfl, hide ⟨VrRow.nil _ _, rfl⟩, Below.refl _ _⟩
  case round =>
    obtain ⟨k, oa, on, oc, hk, rfl, rfl, HM, HBr⟩ := hrel
    by_cases hlt : k < ts.length
    · have hlt' : (k : Int) < (ts.length : Int) := by omega
      obtain ⟨sb, soff, rfl, hsb, hcell⟩ : ∃ sb soff, a = some ⟨sb, soff, none⟩ ∧ sb < w.heap.size ∧ w.cell? ⟨sb, soff + k, none⟩ = some (.string ts[k]) := by
        rcases unhide HIN with h0 | ⟨b, off, e, hb, hc⟩
        · rw [h0] at hlt; simp at hlt
        · exact ⟨b, off, e, hb, hc k hlt⟩
      have g0 := ((unhide HBr).cell hsb).trans hcell
      have htm := List.getElem_mem hlt
      have hts := ht _ htm
      have HSP := hide (fun (W : World) => show Calls Tryz.prog 21 #[.string ts[k], .int .u8 58] W _ from l10Split_any ts[k] 58 W (by omega))
      have HNO := hide (unhide NO ts[k] htm)
      have HTK := hide (show ts.take (k + 1) = ts.take k ++ [ts[k]] from by rw [List.take_succ_eq_append_getElem hlt])
      have HCL := hide (cut_lenL 58 ts[k].data.toList)
      have hsl : ts[k].data.toList.length ≤ 1000 := by simpa using hts
      clear hcell htm
      generalize ts[k] = t at *
      by_cases h2 : (cutB 58 t.data.toList).length = 2
      rotate_left
      · have HX := hide (unhide HNO (show verXB t.data.toList = false by unfold verXB; simp [h2]))
        go_wp2_with fail
        refine (unhide HSP _).mono ?_
        rintro e w1 ⟨v, rfl, T1, b1⟩
        have B1 := hide ((unhide HBr).trans (b1.mono (unhide HBr).size))
        obtain ⟨va, vc, rfl⟩ := (unhide T1).slice
        rw [List.length_map] at T1 ⊢
        have hne : (((cutB 58 t.data.toList).length : Int) == 2) = false := by rw [beq_eq_false_iff_ne]; omega
        clear b1 T1 HSP h2 HCL g0 HNO
        generalize (cutB 58 t.data.toList).length = n at *
        go_wp2_with fail
        go_ret2
        exact unhide HX _ (unhide B1)
      · match hc : cutB 58 t.data.toList, h2 with
        | [p, q], _ =>
          rw [hc] at HSP HCL
          have hql : q.length ≤ 1000 := by have := (unhide HCL).2 q (by simp); omega
          have HNU := hide (fun (W : World) => l10Num_any (bytL q) W (by simp [bytL, ByteArray.size]; omega))
          have HVX := hide (show verXB t.data.toList = numXB q from by unfold verXB; rw [hc]; simp)
          have HVV := hide (show looseVr t.data.toList = ⟨bytL p, looseV q⟩ from by unfold looseVr; rw [hc]; simp)
          clear HCL hc h2
          go_wp2_with fail
          refine (unhide HSP _).mono ?_
          rintro e w1 ⟨v, rfl, T1, b1⟩
          have B1 := hide ((unhide HBr).trans (b1.mono (unhide HBr).size))
          have R1 := hide ((unhide HM).1.up b1)
          obtain ⟨va, vc, rfl⟩ := (unhide T1).slice
          obtain ⟨-, g, rfl, hg, hcell⟩ := (unhide T1).at (by simp)
          have c0 := hcell 0 (by simp)
          have c1 := hcell 1 (by simp)
          simp only [List.map_cons, List.map_nil, List.getElem_cons_zero, List.getElem_cons_succ, List.length_cons, List.length_nil] at c0 c1 ⊢
          clear b1 T1 HSP hcell g0
          go_wp2_with fail
          refine (unhide HNU w1).mono ?_
          rintro e w2 ⟨rfl, b2⟩
          have e1 : (bytL q).data.toList = q := bytL_list q
          rw [e1]
          have B2 := hide ((unhide B1).trans (b2.mono (unhide B1).size))
          have R2 := hide ((unhide R1).up b2)
          have d0 := (b2.cell hg).trans c0
          clear HNU b2 c0 c1
          cases hx : numXB q
          · have HX := hide (unhide HNO (by rw [unhide HVX, hx]))
            generalize numX q = z at *
            clear hx HNO
            go_wp2_with fail
            go_ret2
            exact unhide HX _ (unhide B2)
          · have HZ := hide (show numX q = looseV q from by unfold numX; rw [hx]; rfl)
            have hx' := hide hx
            clear hx
            generalize numX q = z at *
            have A3 := hide ((Below.refl _ w2).alloc (Nat.le_refl _) (.cells #[.string (bytL p), .int .i64 z] 57))
            have X3 := hide (boxF_new w2 [.string (bytL p), .int .i64 z] 57)
            have R3 := hide ((unhide R2).up (unhide A3))
            have B3 := hide ((unhide B2).trans ((unhide A3).mono (unhide B2).size))
            have HL3 := hide (show (verVs (ts.take k)).length ≤ 1000000 from by unfold verVs; simp; omega)
            have M1 := hide (unhide HM).2
            clear HM R1 R2 HNO
            go_wp2_with (first
              | (at_builtin; refine wpList_vrAppend rfl _ _ rfl w.heap.size (.slice oa on oc) (verVs (ts.take k)) ⟨bytL p, z⟩ w2.heap.size rfl rfl (unhide R3) ((unhide X3).1.at 0 _ rfl) ((unhide X3).1.at 1 _ rfl) (unhide HL3) (unhide B3).size ?_; intro g3 n3 c3 w3 r3 gr3 o3; have R4 := hide r3; have B4 := hide (Below.grown (unhide B3) gr3 (unhide B3).size (fun y hy => (unhide R3).ge y hy)); clear r3 gr3 o3)
              | fail)
            go_roundw
            case rel => exact ⟨k + 1, _, n3, c3, by omega, by go_num, rfl, hide ⟨by
              rw [unhide HTK]
              unfold verVs
              rw [List.map_append, List.map_cons, List.map_nil, unhide HVV, ← unhide HZ]
              exact unhide R4, by
              rw [unhide HTK]
              unfold verXs
              rw [List.all_append, List.all_cons, List.all_nil, unhide HVX, unhide hx']
              have := unhide M1
              unfold verXs at this
              rw [this]
              rfl⟩, B4⟩
            case measure => simp [intOf]; omega
    · have e : k = ts.length := by omega
      subst e
      have hlt' : ¬ ((ts.length : Int) < (ts.length : Int)) := by omega
      have HR := hide (unhide HM)
      rw [List.take_length] at HR
      have HX := hide (unhide HR).2
      have HEND := hide (fun W (bW : Below wr.heap.size wr W) => show RetVs ts w (.returned (.tuple #[.slice oa on oc, .bool true])) W from ⟨oa, on, oc, by rw [unhide HX], hide (fun _ => (unhide HR).1.up bW), (unhide HBr).trans (bW.mono (unhide HBr).size)⟩)
      clear HM HR
      go_wp2_with fail
      go_ret2
      exact unhide HEND _ (Below.refl _ _)
end Go.Proofs.YtiebfcefmdiajaaGreatDoor

set_option linter.unusedVariables false
namespace Go.Proofs.YtiebfcefmdiajaaGreatDoor
open Go.RowKit Go.Maps Go.Deep

theorem pairV {w : World} {g : Nat} {a b : Value} (h : BoxF w g [a, b]) : (w.cell? ⟨g, 0, none⟩ = some a ∧ w.cell? ⟨g, 1, none⟩ = some b) ∧ (w.frozen? ⟨g, 0, none⟩ = false ∧ w.frozen? ⟨g, 1, none⟩ = false) := ⟨⟨h.1.at 0 _ rfl, h.1.at 1 _ rfl⟩, h.2 0 (by simp), h.2 1 (by simp)⟩
set_option maxRecDepth 20000 in
set_option maxHeartbeats 6400000 in
theorem looseVer_any (s : ByteArray) (w : World) (hs : s.size ≤ 1000) (hE : ErrIn w) :
    Calls Tryz.prog 49 #[.string s] w fun e w' => e = .returned (.agg #[.string (looseVr s.data.toList).a0, .int .i64 (looseVr s.data.toList).a1]) ∧ Below w.heap.size w w' := by
  have HC := hide (fun (W : World) => show Calls Tryz.prog 47 #[.string s, .int .i32 58] W _ from cutAt_any s 58 W hs (by decide))
  have X0 := hide (boxF_new w [.string ⟨#[]⟩, .int .i64 0] 57)
  have A0 := hide ((Below.refl _ w).alloc (Nat.le_refl _) (.cells #[.string ⟨#[]⟩, .int .i64 0] 57))
  have HCL := hide (cut_lenL 58 s.data.toList)
  have hsl : s.data.toList.length ≤ 1000 := by simpa using hs
  have HER := hide hE
  clear hE
  obtain ⟨v0, v1, HV⟩ : ∃ v0 v1, Hid (v0 = (looseVr s.data.toList).a0 ∧ v1 = (looseVr s.data.toList).a1) := ⟨_, _, hide ⟨rfl, rfl⟩⟩
  rw [← (unhide HV).1, ← (unhide HV).2]
  by_cases h2 : (cutB 58 s.data.toList).length = 2
  rotate_left
  · have HX := hide (show v0 = ⟨#[]⟩ ∧ v1 = 0 from by rw [(unhide HV).1, (unhide HV).2]; unfold looseVr; rw [if_neg h2]; exact ⟨rfl, rfl⟩)
    go_enter Tryz.func49, Tryz.ntmps49
    go_wp2_with fail
    refine (unhide HC _).mono ?_
    rintro e w1 ⟨v, rfl, T1, b1⟩
    have B1 := hide ((unhide A0).trans (b1.mono (unhide A0).size))
    have X1 := hide ((unhide X0).up b1)
    obtain ⟨⟨x0, x1⟩, f0, f1⟩ := pairV (unhide X1)
    obtain ⟨va, vc, rfl⟩ := (unhide T1).slice
    rw [List.length_map] at T1 ⊢
    have hne : (((cutB 58 s.data.toList).length : Int) == 2) = false := by rw [beq_eq_false_iff_ne]; omega
    clear b1 T1 HC h2 HCL
    generalize (cutB 58 s.data.toList).length = n at *
    go_wp2_with fail
    refine bodyPost_ret (v := .agg #[.string ⟨#[]⟩, .int .i64 0]) (by simp [results, Tryz.results49, go_sem, x0, x1]) rfl ?_
    exact ⟨by rw [(unhide HX).1, (unhide HX).2], ((unhide B1).setCell (p := ⟨w.heap.size, 0, none⟩) (Nat.le_refl _) _).setCell (p := ⟨w.heap.size, 1, none⟩) (Nat.le_refl _) _⟩
  · match hc : cutB 58 s.data.toList, h2 with
    | [p, q], _ =>
      rw [hc] at HC HCL
      have hql : q.length ≤ 1000 := by have := (unhide HCL).2 q (by simp); omega
      have HX := hide (show v0 = bytL p ∧ v1 = looseV q from by rw [(unhide HV).1, (unhide HV).2]; unfold looseVr; rw [hc]; simp)
      have HN := hide (fun (W : World) (hW : ErrIn W) => loose_any (bytL q) W (by simp [bytL, ByteArray.size]; omega) hW)
      rw [bytL_list] at HN
      clear HCL hc h2
      go_enter Tryz.func49, Tryz.ntmps49
      go_wp2_with fail
      refine (unhide HC _).mono ?_
      rintro e w1 ⟨v, rfl, T1, b1⟩
      have B1 := hide ((unhide A0).trans (b1.mono (unhide A0).size))
      have X1 := hide ((unhide X0).up b1)
      obtain ⟨va, vc, rfl⟩ := (unhide T1).slice
      obtain ⟨-, g, rfl, hg, hcell⟩ := (unhide T1).at (by simp)
      have c0 := hcell 0 (by simp)
      have c1 := hcell 1 (by simp)
      simp only [List.map_cons, List.map_nil, List.getElem_cons_zero, List.getElem_cons_succ, List.length_cons, List.length_nil] at c0 c1 ⊢
      have hgw : g ≠ w.heap.size := by
        have := (unhide T1).ge g rfl
        have := (unhide X0).1.1
        omega
      have E1 := hide ((unhide HER).below (unhide B1) (Nat.le_refl _))
      have KP := hide (show ∀ X, Turn [w.heap.size] w1 X → (fun X : World => X.cell? ⟨g, 0, none⟩ = some (.string (bytL p)) ∧ X.cell? ⟨g, 1, none⟩ = some (.string (bytL q))) X from fun X t => ⟨(t.cell hg (by simpa using hgw)).trans c0, (t.cell hg (by simpa using hgw)).trans c1⟩)
      have BD := hide ((Below.refl w1.heap.size w1).drew)
      clear b1 T1 HC hcell
      generalize looseV q = z at *
      go_wp2_with fail
      go_region_held3 (fun X : World => X.cell? ⟨g, 0, none⟩ = some (.string (bytL p)) ∧ X.cell? ⟨g, 1, none⟩ = some (.string (bytL q))) ((refine unhide KP _ ?_; first | exact Turn.of_below (unhide (by assumption)) | exact ((Turn.of_below (unhide (by assumption))).setCell (by simp) _ _).setCell (by simp) _ _))
        (first
          | (go_at_call 48; refine (unhide HN _ ((unhide E1).below (unhide BD) (Nat.le_refl _))).mono ?_; rintro e w2 ⟨rfl, b2⟩; have BB := hide ((unhide BD).trans (b2.mono (unhide BD).size)); have X2 := hide ((unhide X1).up (unhide BB)); obtain ⟨⟨x0, x1⟩, f0, f1⟩ := pairV (unhide X2); clear b2)
          | fail)
      all_goals
        go_wp2_with fail
        refine bodyPost_ret (v := .agg #[.string (bytL p), .int .i64 z]) (by simp [results, Tryz.results49, go_sem, x0, x1]) rfl ?_
        exact ⟨by rw [(unhide HX).1, (unhide HX).2], (((unhide B1).trans ((unhide BB).mono (unhide B1).size)).setCell (p := ⟨w.heap.size, 0, none⟩) (Nat.le_refl _) _).setCell (p := ⟨w.heap.size, 1, none⟩) (Nat.le_refl _) _⟩
end Go.Proofs.YtiebfcefmdiajaaGreatDoor

set_option linter.unusedVariables false
namespace Go.Proofs.YtiebfcefmdiajaaGreatDoor
open Go.RowKit Go.Maps

theorem BoxF.six6 {w : World} {g : Nat} {a b c d e f : Value} (h : BoxF w g [a, b, c, d, e, f]) : (w.cell? ⟨g, 0, none⟩ = some a ∧ w.cell? ⟨g, 1, none⟩ = some b ∧ w.cell? ⟨g, 2, none⟩ = some c ∧ w.cell? ⟨g, 3, none⟩ = some d ∧ w.cell? ⟨g, 4, none⟩ = some e ∧ w.cell? ⟨g, 5, none⟩ = some f) ∧ (w.frozen? ⟨g, 0, none⟩ = false ∧ w.frozen? ⟨g, 1, none⟩ = false ∧ w.frozen? ⟨g, 2, none⟩ = false ∧ w.frozen? ⟨g, 3, none⟩ = false ∧ w.frozen? ⟨g, 4, none⟩ = false ∧ w.frozen? ⟨g, 5, none⟩ = false) :=
  ⟨⟨h.1.at 0 _ rfl, h.1.at 1 _ rfl, h.1.at 2 _ rfl, h.1.at 3 _ rfl, h.1.at 4 _ rfl, h.1.at 5 _ rfl⟩, h.2 0 (by simp), h.2 1 (by simp), h.2 2 (by simp), h.2 3 (by simp), h.2 4 (by simp), h.2 5 (by simp)⟩
end Go.Proofs.YtiebfcefmdiajaaGreatDoor
