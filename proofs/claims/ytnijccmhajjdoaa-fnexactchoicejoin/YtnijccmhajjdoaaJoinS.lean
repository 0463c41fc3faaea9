/-
  StampJoin of the specification.
-/
import Derived.Test.YtnijccmhajjdoaaJoinMath
import Derived.Test.YtnijccmhajjdoaaStampI
set_option linter.unusedVariables false
namespace Go.Proofs.Ytnijccmhajjdoaa
open Go.RowKit Go.Maps Go.Deep

def joinOkB (xa xb : List MarkV) : Bool := mstampB xa && mstampB xb && decide ((joinL xa xb).length ≤ 12)
def joinV (xa xb : List MarkV) : List MarkV := if joinOkB xa xb then joinL xa xb else []
def RetJoin (xa xb : List MarkV) (w : World) (e : Ending) (w' : World) : Prop := ∃ v, e = .returned (.tuple #[v, .bool (joinOkB xa xb)]) ∧ Hid (MkRow w.heap.size w' v (joinV xa xb)) ∧ Below w.heap.size w w'
theorem stamp_len12 {ns : List MarkV} (h : mstampB ns = true) : ns.length ≤ 12 := by
  simp [mstampB] at h
  exact h.1
theorem set_take {xa : List MarkV} (h : AscM xa) (k : Nat) (hk : k < xa.length) : setF (xa.take k) xa[k] = xa.take (k + 1) := by
  have h1 := joinA_take h k (by omega)
  have h2 := joinA_take h (k + 1) (by omega)
  rw [List.take_succ_eq_append_getElem hk, joinA_snoc, h1] at h2
  rw [List.take_succ_eq_append_getElem hk]
  exact h2
theorem joinG_take (xa xb : List MarkV) (k : Nat) (hk : k < xb.length) : joinG xa (xb.take (k + 1)) = joinStep (joinG xa (xb.take k)) xb[k] := by
  unfold joinG
  rw [List.take_succ_eq_append_getElem hk, List.foldl_append]
  rfl
theorem joinG_len {xa xb : List MarkV} (ha : mstampB xa = true) (hb : mstampB xb = true) (k : Nat) : (joinG xa (xb.take k)).length ≤ 24 := by
  have h1 := stamp_len12 ha
  have h2 := stamp_len12 hb
  obtain ⟨_, _, h⟩ := join_inv (out := xa) (ys := xb.take k) (fun z hz => pos_of_stamp hb z (List.mem_of_mem_take hz)) (asc_of_stamp ha) (pos_of_stamp ha)
  have : (xb.take k).length ≤ xb.length := by simp; omega
  omega
theorem l13Get_rd (ns : List MarkV) (v : Value) (s : ByteArray) (w : World) (hl : (ns.length : Int) ≤ 1048576) (h : MarkSRd w v ns) : Calls Try.prog 42 #[v, .string s] w fun e w' => e = .returned (.int .i64 (getV ns s)) ∧ Below w.heap.size w w' := by
  obtain ⟨a, c, rfl, h⟩ := h
  rcases h with rfl | ⟨b, off, rfl, hb, hc⟩
  · refine (l13Get_none w a c s).mono ?_
    rintro e w' ⟨rfl, rfl⟩
    exact ⟨rfl, Below.refl _ _⟩
  · refine (l13Get_row w b off c ns s hl hc).mono ?_
    rintro e w' ⟨rfl, rfl⟩
    exact ⟨rfl, Below.refl _ _⟩
set_option maxRecDepth 20000 in
set_option maxHeartbeats 6400000 in
theorem specJoin_yes (a b : Option Addr) (ca cb : Nat) (xa xb : List MarkV) (w : World) (hsa : SmallMarkS xa) (hsb : SmallMarkS xb) (oa : mstampB xa = true) (ob : mstampB xb = true) (hA : MarkIn w a xa) (hB : MarkIn w b xb) :
    Calls Try.prog 27 #[.slice a xa.length ca, .slice b xb.length cb] w fun e w' => RetJoin xa xb w e w' := by
  have HO1 := hide (fun W (bb : Below w.heap.size w W) => specStampOk_any xa (.slice a xa.length ca) W hsa ⟨a, ca, rfl, hA.below bb⟩)
  have HO2 := hide (fun W (bb : Below w.heap.size w W) => specStampOk_any xb (.slice b xb.length cb) W hsb ⟨b, cb, rfl, hB.below bb⟩)
  have OA := hide oa
  have OB := hide ob
  have HA := hide hA
  have HB := hide hB
  have hla := stamp_len12 oa
  have hlb := stamp_len12 ob
  rw [oa] at HO1
  rw [ob] at HO2
  clear hA hB hsa hsb oa ob
  go_enter Try.func27, Try.ntmps27
  go_wp2_with fail
  refine (unhide HO1 _ (Below.refl _ _)).mono ?_
  rintro e w1 ⟨rfl, b1⟩
  have B1 := hide b1
  clear b1
  go_wp2_with fail
  refine (unhide HO2 _ (unhide B1)).mono ?_
  rintro e w2 ⟨rfl, b2⟩
  have B2 := hide ((unhide B1).trans (b2.mono (unhide B1).size))
  clear b2
  go_wp2_with fail
  go_loopw [6, 7] (fun v i wr => ∃ k : Nat, k ≤ xa.length ∧ i = .int .i64 k ∧ Hid (MkRow w.heap.size wr v (xa.take k)) ∧ Hid (Below w.heap.size w wr)) (fun _ i _ => xa.length - (intOf i).toNat)
  case atStart => exact ⟨0, Nat.zero_le _, rfl, by simp; exact MkRow.nil _ _, B2⟩
  case round =>
    obtain ⟨k, hk, rfl, HR, HBr⟩ := hrel
    by_cases hlt : k < xa.length
    · have HAr := hide ((unhide HA).below (unhide HBr))
      rcases unhide HA with rfl | ⟨ba, oa, rfl, hba, hca⟩
      · simp at hlt
      obtain ⟨c0, c1⟩ := hca.below (unhide HBr) hba k hlt
      have HS := hide (l13Set_any (xa.take k) _ xa[k] wr (by simp; omega) (unhide HR).rd)
      rw [set_take (asc_of_stamp (unhide OA)) k hlt] at HS
      obtain ⟨av, cv, rfl⟩ := (unhide HR).slice
      clear hca HAr HR
      generalize xa[k].a0 = x0 at *
      generalize xa[k].a1 = x1 at *
      generalize (xa.take k).length = nl at *
      go_wp2_with fail
      refine (unhide HS).mono ?_
      rintro e w3 ⟨v3, rfl, R3, b3⟩
      have B3 := hide ((unhide HBr).trans (b3.mono (unhide HBr).size))
      have R3' := hide ((unhide R3).mono (unhide HBr).size)
      clear b3 R3 c0 c1
      go_wp2_with fail
      go_roundw
      case rel => exact ⟨k + 1, by omega, by go_num, R3', B3⟩
      case measure => simp [intOf]; omega
    · obtain rfl : k = xa.length := by omega
      rw [List.take_length] at HR
      clear hlt hk HO1 HO2
      go_wp2_with fail
      go_loopw [6, 8] (fun v i wr => ∃ (k : Nat) (out : List MarkV), k ≤ xb.length ∧ i = .int .i64 k ∧ Hid (out = joinG xa (xb.take k)) ∧ Hid (MkRow w.heap.size wr v out) ∧ Hid (Below w.heap.size w wr)) (fun _ i _ => xb.length - (intOf i).toNat)
      case atStart => exact ⟨0, xa, Nat.zero_le _, rfl, hide (by simp [joinG]), HR, HBr⟩
      case round =>
        obtain ⟨k, out, hk, rfl, HOU, HR2, HBr2⟩ := hrel
        have hlo : (out.length : Int) ≤ 24 := by have := joinG_len (unhide OA) (unhide OB) k; rw [← unhide HOU] at this; omega
        obtain ⟨av, cv, hv⟩ := (unhide HR2).slice
        subst hv
        by_cases hlt : k < xb.length
        · rcases unhide HB with rfl | ⟨bb, ob, rfl, hbb, hcb⟩
          · simp at hlt
          obtain ⟨c0, c1⟩ := hcb.below (unhide HBr2) hbb k hlt
          have HS := hide (fun (W : World) (bW : Below wr.heap.size wr W) => l13Set_any out (.slice av out.length cv) xb[k] W (by omega) ((unhide HR2).up bW).rd)
          have HG := hide (fun (x : LaterW wr) => l13Get_rd out (.slice av out.length cv) xb[k].a0 x.to (by omega) ((unhide HR2).up x.bel).rd)
          have HT := hide (joinG_take xa xb k hlt)
          rw [← unhide HOU] at HT
          unfold joinStep at HT
          obtain ⟨g, HGE⟩ : ∃ g, Hid (getV out xb[k].a0 = g) := ⟨_, hide rfl⟩
          rw [unhide HGE] at HG HT
          have HCB := hide hcb
          clear hcb HOU HGE
          generalize hm : xb[k] = m at *
          obtain ⟨x0, x1⟩ := m
          clear hm
          have r0 : ∀ x : LaterW wr, x.to.cell? ⟨bb, ob + k * 2, none⟩ = some (.string x0) := fun x => x.cell c0
          have r1 : ∀ x : LaterW wr, x.to.cell? ⟨bb, ob + k * 2 + 1, none⟩ = some (.int .i64 x1) := fun x => x.cell c1
          by_cases h1 : g < x1
          · rw [if_pos h1] at HT
            go_wp2_with fail
            refine wp_region_later (by kernel_rfl) (by kernel_rfl) ?_
            repeat (go_big_quiet_step ((go_at_call 42; exact quiet_ret (unhide HG _))))
            refine wpQuiet_nil ?_
            rintro _ ⟨x, rfl⟩
            have d0 := r0 x
            have d1 := r1 x
            have HS2 := hide (unhide HS x.to x.bel)
            have B5 := hide ((unhide HBr2).trans (x.bel.mono (unhide HBr2).size))
            clear r0 r1 HG HS c0 c1
            obtain ⟨W5, bel5⟩ := x
            dsimp only at d0 d1 HS2 B5 ⊢
            clear bel5
            go_wp2_with fail
            refine (unhide HS2).mono ?_
            rintro e w6 ⟨v6, rfl, R6, b6⟩
            have B6 := hide ((unhide B5).trans (b6.mono (unhide B5).size))
            have R6' := hide ((unhide R6).mono (unhide B5).size)
            clear b6 R6 d0 d1
            go_wp2_with fail
            go_roundw
            case rel => exact ⟨k + 1, _, by omega, by go_num, hide (unhide HT).symm, R6', B6⟩
            case measure => simp [intOf]; omega
          · rw [if_neg h1] at HT
            go_wp2_with fail
            refine wp_region_later (by kernel_rfl) (by kernel_rfl) ?_
            repeat (go_big_quiet_step ((go_at_call 42; exact quiet_ret (unhide HG _))))
            refine wpQuiet_nil ?_
            rintro _ ⟨x, rfl⟩
            have B5 := hide ((unhide HBr2).trans (x.bel.mono (unhide HBr2).size))
            have R5 := hide ((unhide HR2).up x.bel)
            clear r0 r1 HG HS c0 c1
            go_wp2_with fail
            go_roundw
            case rel => exact ⟨k + 1, _, by omega, by go_num, hide (unhide HT).symm, R5, B5⟩
            case measure => simp [intOf]; omega
        · obtain rfl : k = xb.length := by omega
          rw [List.take_length] at HOU
          have HOL := hide ((unhide HOU).trans (join_same (unhide OA) (unhide OB)))
          by_cases h12 : (out.length : Int) ≤ 12
          · have HE := hide (show joinOkB xa xb = true by unfold joinOkB; rw [unhide OA, unhide OB, ← unhide HOL]; simp; omega)
            have g12 : ¬ 12 < (out.length : Int) := by omega
            go_wp2_with fail
            refine bodyPost_ret (v := .tuple #[.slice av out.length cv, .bool true]) (by simp [results, Try.results27, go_sem]) rfl ?_
            exact ⟨_, by rw [unhide HE], hide (by unfold joinV; rw [unhide HE, if_pos rfl, ← unhide HOL]; exact unhide HR2), unhide HBr2⟩
          · have HE := hide (show joinOkB xa xb = false by unfold joinOkB; rw [← unhide HOL]; simp; omega)
            have g12 : 12 < (out.length : Int) := by omega
            go_wp2_with fail
            refine bodyPost_ret (v := .tuple #[.slice none 0 0, .bool false]) (by simp [results, Try.results27, go_sem]) rfl ?_
            exact ⟨_, by rw [unhide HE], hide (by unfold joinV; rw [unhide HE, if_neg (by simp)]; exact MkRow.nil _ _), unhide HBr2⟩
end Go.Proofs.Ytnijccmhajjdoaa
