/-
  The specification reads the versions of a line.
-/
import Derived.Test.YtiebfcefmdiajaaGreatDoorNum10
import Derived.Test.YtiebfcefmdiajaaGreatDoorVerApp
import Derived.Test.YtiebfcefmdiajaaGreatDoorSayMath
set_option linter.unusedVariables false
namespace Go.Proofs.YtiebfcefmdiajaaGreatDoor
open Go.RowKit Go.Maps Go.Deep

def verXs (ts : List ByteArray) : Bool := ts.all fun t => verXB t.data.toList
def verVs (ts : List ByteArray) : List VerV := ts.map fun t => looseVr t.data.toList
theorem cut_lenL (c : UInt8) (l : List UInt8) : (cutB c l).length ≤ l.length + 1 ∧ ∀ p ∈ cutB c l, p.length ≤ l.length := by
  unfold cutB
  induction l using snoc_ind with
  | h0 => simp [cutSt]
  | h1 l b ih =>
    rw [cutSt_snoc]
    unfold cutStep
    obtain ⟨i1, i2⟩ := ih
    simp only [List.length_append, List.length_cons, List.length_nil] at i1 ⊢
    split
    · refine ⟨by simp; omega, fun p hp => ?_⟩
      simp only [List.mem_append, List.mem_cons, List.not_mem_nil, or_false] at hp
      rcases hp with (hp | hp) | hp
      · have := i2 p (by simp [hp]); omega
      · have := i2 p (by simp [hp]); omega
      · rw [hp]; simp
    · refine ⟨by simp; omega, fun p hp => ?_⟩
      simp only [List.mem_append, List.mem_cons, List.not_mem_nil, or_false] at hp
      rcases hp with hp | hp
      · have := i2 p (by simp [hp]); omega
      · have := i2 (cutSt c l).2 (by simp); rw [hp]; simp; omega
def RetVs (ts : List ByteArray) (w : World) (e : Ending) (w' : World) : Prop := ∃ oa on oc, e = .returned (.tuple #[.slice oa on oc, .bool (verXs ts)]) ∧ Hid (verXs ts = true → VrRow w.heap.size w' (.slice oa on oc) (verVs ts)) ∧ Below w.heap.size w w'
theorem verXs_bad {ts : List ByteArray} {t : ByteArray} (ht : t ∈ ts) (h : verXB t.data.toList = false) : verXs ts = false := by
  unfold verXs
  rw [List.all_eq_false]
  exact ⟨t, ht, by simp [h]⟩
set_option maxRecDepth 20000 in
set_option maxHeartbeats 6400000 in
theorem l10Vers_any (ts : List ByteArray) (a : Option Addr) (n c : Nat) (w : World) (hn : n = ts.length) (hl : ts.length ≤ 1000) (ht : ∀ t ∈ ts, t.size ≤ 1000) (h : StrsIn w a ts) :
    Calls Tryz.prog 23 #[.slice a n c] w fun e w' => RetVs ts w e w' := by
  have NO := hide (fun (t : ByteArray) (hm : t ∈ ts) (hx : verXB t.data.toList = false) (W : World) (bW : Below w.heap.size w W) => show RetVs ts w (.returned (.tuple #[.slice none 0 0, .bool false])) W from
    ⟨none, 0, 0, by rw [verXs_bad hm hx], hide (fun q => by rw [verXs_bad hm hx] at q; cases q), bW⟩)
  have HIN := hide h
  subst hn
  clear h
  go_enter Tryz.func23, Tryz.ntmps23
  go_wp2_with fail
  go_loopw [4, 5] (fun ov iv wr => ∃ (k : Nat) (oa : Option Addr) (on oc : Nat), k ≤ ts.length ∧ iv = .int .i64 (k : Int) ∧ ov = .slice oa on oc ∧ Hid (VrRow w.heap.size wr (.slice oa on oc) (verVs (ts.take k)) ∧ verXs (ts.take k) = true) ∧ Hid (Below w.heap.size w wr)) (fun _ iv _ => ts.length - (intOf iv).toNat)
  case atStart => exact ⟨0, none, 0, 0, Nat.zero_le _, rfl, rfl, hide ⟨VrRow.nil _ _, rfl⟩, Below.refl _ _⟩
  case round =>
    obtain ⟨k, oa, on, oc, hk, rfl, rfl, HM, HBr⟩ := hrel
    by_cases hlt : k < ts.length
    · have hlt' : (k : Int) < (ts.length : Int) := by omega
      obtain ⟨sb, soff, rfl, hsb, hcell⟩ : ∃ sb soff, a = some ⟨sb, soff, none⟩ ∧ sb < w.heap.size ∧ w.cell? ⟨sb, soff + k, none⟩ = some (.string ts[k]) := by
        rcases unhide HIN with h0 | ⟨b, off, e, hb, hc⟩
        · rw [h0] at hlt; simp at hlt
        · exact ⟨b, off, e, hb, hc k hlt⟩
      have g0 := ((unhide HBr).cell hsb).trans hcell
      have htm := List.getElem_mem hlt
      have hts := ht _ htm
      have HSP := hide (fun (W : World) => show Calls Tryz.prog 21 #[.string ts[k], .int .u8 58] W _ from l10Split_any ts[k] 58 W (by omega))
      have HNO := hide (unhide NO ts[k] htm)
      have HTK := hide (show ts.take (k + 1) = ts.take k ++ [ts[k]] from by rw [List.take_succ_eq_append_getElem hlt])
      have HCL := hide (cut_lenL 58 ts[k].data.toList)
      have hsl : ts[k].data.toList.length ≤ 1000 := by simpa using hts
      clear hcell htm
      generalize ts[k] = t at *
      by_cases h2 : (cutB 58 t.data.toList).length = 2
      rotate_left
      · have HX := hide (unhide HNO (show verXB t.data.toList = false by unfold verXB; simp [h2]))
        go_wp2_with fail
        refine (unhide HSP _).mono ?_
        rintro e w1 ⟨v, rfl, T1, b1⟩
        have B1 := hide ((unhide HBr).trans (b1.mono (unhide HBr).size))
        obtain ⟨va, vc, rfl⟩ := (unhide T1).slice
        rw [List.length_map] at T1 ⊢
        have hne : (((cutB 58 t.data.toList).length : Int) == 2) = false := by rw [beq_eq_false_iff_ne]; omega
        clear b1 T1 HSP h2 HCL g0 HNO
        generalize (cutB 58 t.data.toList).length = n at *
        go_wp2_with fail
        go_ret2
        exact unhide HX _ (unhide B1)
      · match hc : cutB 58 t.data.toList, h2 with
        | [p, q], _ =>
          rw [hc] at HSP HCL
          have hql : q.length ≤ 1000 := by have := (unhide HCL).2 q (by simp); omega
          have HNU := hide (fun (W : World) => l10Num_any (bytL q) W (by simp [bytL, ByteArray.size]; omega))
          have HVX := hide (show verXB t.data.toList = numXB q from by unfold verXB; rw [hc]; simp)
          have HVV := hide (show looseVr t.data.toList = ⟨bytL p, looseV q⟩ from by unfold looseVr; rw [hc]; simp)
          clear HCL hc h2
          go_wp2_with fail
          refine (unhide HSP _).mono ?_
          rintro e w1 ⟨v, rfl, T1, b1⟩
          have B1 := hide ((unhide HBr).trans (b1.mono (unhide HBr).size))
          have R1 := hide ((unhide HM).1.up b1)
          obtain ⟨va, vc, rfl⟩ := (unhide T1).slice
          obtain ⟨-, g, rfl, hg, hcell⟩ := (unhide T1).at (by simp)
          have c0 := hcell 0 (by simp)
          have c1 := hcell 1 (by simp)
          simp only [List.map_cons, List.map_nil, List.getElem_cons_zero, List.getElem_cons_succ, List.length_cons, List.length_nil] at c0 c1 ⊢
          clear b1 T1 HSP hcell g0
          go_wp2_with fail
          refine (unhide HNU w1).mono ?_
          rintro e w2 ⟨rfl, b2⟩
          have e1 : (bytL q).data.toList = q := bytL_list q
          rw [e1]
          have B2 := hide ((unhide B1).trans (b2.mono (unhide B1).size))
          have R2 := hide ((unhide R1).up b2)
          have d0 := (b2.cell hg).trans c0
          clear HNU b2 c0 c1
          cases hx : numXB q
          · have HX := hide (unhide HNO (by rw [unhide HVX, hx]))
            generalize numX q = z at *
            clear hx HNO
            go_wp2_with fail
            go_ret2
            exact unhide HX _ (unhide B2)
          · have HZ := hide (show numX q = looseV q from by unfold numX; rw [hx]; rfl)
            have hx' := hide hx
            clear hx
            generalize numX q = z at *
            have A3 := hide ((Below.refl _ w2).alloc (Nat.le_refl _) (.cells #[.string (bytL p), .int .i64 z] 57))
            have X3 := hide (boxF_new w2 [.string (bytL p), .int .i64 z] 57)
            have R3 := hide ((unhide R2).up (unhide A3))
            have B3 := hide ((unhide B2).trans ((unhide A3).mono (unhide B2).size))
            have HL3 := hide (show (verVs (ts.take k)).length ≤ 1000000 from by unfold verVs; simp; omega)
            have M1 := hide (unhide HM).2
            clear HM R1 R2 HNO
            go_wp2_with (first
              | (at_builtin; refine wpList_vrAppend rfl _ _ rfl w.heap.size (.slice oa on oc) (verVs (ts.take k)) ⟨bytL p, z⟩ w2.heap.size rfl rfl (unhide R3) ((unhide X3).1.at 0 _ rfl) ((unhide X3).1.at 1 _ rfl) (unhide HL3) (unhide B3).size ?_; intro g3 n3 c3 w3 r3 gr3 o3; have R4 := hide r3; have B4 := hide (Below.grown (unhide B3) gr3 (unhide B3).size (fun y hy => (unhide R3).ge y hy)); clear r3 gr3 o3)
              | fail)
            go_roundw
            case rel => exact ⟨k + 1, _, n3, c3, by omega, by go_num, rfl, hide ⟨by
              rw [unhide HTK]
              unfold verVs
              rw [List.map_append, List.map_cons, List.map_nil, unhide HVV, ← unhide HZ]
              exact unhide R4, by
              rw [unhide HTK]
              unfold verXs
              rw [List.all_append, List.all_cons, List.all_nil, unhide HVX, unhide hx']
              have := unhide M1
              unfold verXs at this
              rw [this]
              rfl⟩, B4⟩
            case measure => simp [intOf]; omega
    · have e : k = ts.length := by omega
      subst e
      have hlt' : ¬ ((ts.length : Int) < (ts.length : Int)) := by omega
      have HR := hide (unhide HM)
      rw [List.take_length] at HR
      have HX := hide (unhide HR).2
      have HEND := hide (fun W (bW : Below wr.heap.size wr W) => show RetVs ts w (.returned (.tuple #[.slice oa on oc, .bool true])) W from ⟨oa, on, oc, by rw [unhide HX], hide (fun _ => (unhide HR).1.up bW), (unhide HBr).trans (bW.mono (unhide HBr).size)⟩)
      clear HM HR
      go_wp2_with fail
      go_ret2
      exact unhide HEND _ (Below.refl _ _)
end Go.Proofs.YtiebfcefmdiajaaGreatDoor
