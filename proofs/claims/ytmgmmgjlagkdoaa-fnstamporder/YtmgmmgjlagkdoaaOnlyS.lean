/-
  StampOnly of the specification.
-/
import Derived.Test.YtmgmmgjlagkdoaaStampI
import Derived.Test.YtmgmmgjlagkdoaaMarkApp
import Derived.Test.YtmgmmgjlagkdoaaStrRows
import Derived.Test.YtmgmmgjlagkdoaaLater
import Derived.OwnWalk
set_option linter.unusedVariables false
namespace Go.Proofs.Ytmgmmgjlagkdoaa
open Go.RowKit Go.Maps Go.Deep

def hasB (names : List ByteArray) (s : ByteArray) : Bool := names.any fun t => decide (t = s)
theorem hasB_take (names : List ByteArray) (s : ByteArray) (k : Nat) (h : k < names.length) : hasB (names.take (k + 1)) s = (hasB (names.take k) s || decide (names[k] = s)) := by
  unfold hasB
  rw [List.take_succ_eq_append_getElem h, List.any_append]
  simp
def onlyL (names : List ByteArray) (ns : List MarkV) : List MarkV := ns.filter fun x => hasB names x.a0
def onlyV (ns : List MarkV) (names : List ByteArray) : List MarkV := if mstampB ns then onlyL names ns else []
theorem onlyL_take (names : List ByteArray) (ns : List MarkV) (k : Nat) (h : k < ns.length) : onlyL names (ns.take (k + 1)) = if hasB names ns[k].a0 then onlyL names (ns.take k) ++ [ns[k]] else onlyL names (ns.take k) := by
  unfold onlyL
  rw [List.take_succ_eq_append_getElem h, List.filter_append]
  cases hh : hasB names ns[k].a0 <;> simp [hh]
theorem onlyL_len (names : List ByteArray) (ns : List MarkV) : (onlyL names ns).length ≤ ns.length := List.length_filter_le _ _
def RetOnly (ns : List MarkV) (names : List ByteArray) (w : World) (e : Ending) (w' : World) : Prop := ∃ v, e = .returned v ∧ Hid (MkRow w.heap.size w' v (onlyV ns names)) ∧ Below w.heap.size w w'
theorem onlyLen12 {ns : List MarkV} (h : mstampB ns = true) : ns.length ≤ 12 := by
  simp [mstampB] at h
  exact h.1
set_option maxRecDepth 20000 in
set_option maxHeartbeats 6400000 in
theorem specOnly_yes (a b : Option Addr) (ca cb : Nat) (ns : List MarkV) (names : List ByteArray) (w : World) (hsa : SmallMarkS ns) (hsb : SmallStringS names) (oa : mstampB ns = true) (hA : MarkIn w a ns) (hB : StrsIn w b names) :
    Calls Try.prog 9 #[.slice a ns.length ca, .slice b names.length cb] w fun e w' => RetOnly ns names w e w' := by
  have HO1 := hide (fun W (bb : Below w.heap.size w W) => specStampOk_any ns (.slice a ns.length ca) W hsa ⟨a, ca, rfl, hA.below bb⟩)
  have HE := hide (show onlyV ns names = onlyL names ns by unfold onlyV; rw [oa]; rfl)
  have HA := hide hA
  have HB := hide hB
  have hla := onlyLen12 oa
  have hlb : (names.length : Int) ≤ 1048576 := by have := hsb.1; omega
  rw [oa] at HO1
  clear hA hB hsa hsb oa
  go_enter Try.func9, Try.ntmps9
  go_wp2_with fail
  refine (unhide HO1 _ (Below.refl _ _)).mono ?_
  rintro e w1 ⟨rfl, b1⟩
  have B1 := hide b1
  clear b1 HO1
  go_wp2_with fail
  go_loopw [5, 6] (fun v i wr => ∃ (k : Nat) (out : List MarkV), k ≤ ns.length ∧ i = .int .i64 k ∧ Hid (out = onlyL names (ns.take k)) ∧ Hid (MkRow w.heap.size wr v out) ∧ Hid (Below w.heap.size w wr)) (fun _ i _ => ns.length - (intOf i).toNat)
  case atStart => exact ⟨0, [], Nat.zero_le _, rfl, hide (by simp [onlyL]), MkRow.nil _ _, B1⟩
  case round =>
    obtain ⟨k, out, hk, rfl, HOU, HR, HBr⟩ := hrel
    have hlo : out.length ≤ 12 := by have h1 := onlyL_len names (ns.take k); rw [← unhide HOU] at h1; simp at h1; omega
    obtain ⟨av, cv, hv⟩ := (unhide HR).slice
    subst hv
    by_cases hlt : k < ns.length
    · rcases unhide HA with rfl | ⟨ba, oa, rfl, hba, hca⟩
      · simp at hlt
      have HCA := hide hca
      have HT := hide (onlyL_take names ns k hlt)
      rw [← unhide HOU] at HT
      have HX := hide (fun X (bX : Below w.heap.size w X) => hca.below bX hba k hlt)
      obtain ⟨m, hm⟩ : ∃ m, ns[k] = m := ⟨_, rfl⟩
      simp only [hm] at HX HT
      clear hca HOU hm
      obtain ⟨m0, m1⟩ := m
      simp only at HX HT
      go_wp2_with fail
      go_loopw [7, 8] (fun u i wr => ∃ (j : Nat) (has : Bool), j ≤ names.length ∧ i = .int .i64 j ∧ u = .bool has ∧ Hid (has = hasB (names.take j) m0) ∧ Hid (MkRow w.heap.size wr (.slice av out.length cv) out) ∧ Hid (Below w.heap.size w wr)) (fun _ i _ => names.length - (intOf i).toNat)
      case atStart => exact ⟨0, false, Nat.zero_le _, rfl, rfl, hide (by simp [hasB]), HR, HBr⟩
      case round =>
        obtain ⟨j, has, hj, rfl, rfl, HH, HR2, HBr2⟩ := hrel
        by_cases hjt : j < names.length
        · rcases unhide HB with rfl | ⟨bb, ob, rfl, hbb, hcb⟩
          · simp at hjt
          have n0 := (hcb.below (unhide HBr2) hbb) j hjt
          have HH2 := hide (hasB_take names m0 j hjt)
          rw [← unhide HH] at HH2
          have HCB := hide hcb
          obtain ⟨c0, c1⟩ := unhide HX wr (unhide HBr2)
          have HSM := hide (str_same names[j] m0)
          clear hcb HH
          generalize names[j] = t at *
          have hj2 : (j : Int) < (names.length : Int) := by omega
          have hk2 : (k : Int) < (ns.length : Int) := by omega
          cases has
          · obtain ⟨q, HQ⟩ : ∃ q, Hid (decide (t = m0) = q) := ⟨_, hide rfl⟩
            rw [unhide HQ] at HSM
            have qs := unhide HSM
            simp only [unhide HQ, Bool.false_or] at HH2
            go_wp2_with fail
            go_quiet (fail)
            have B5 := hide ((unhide HBr2).trans ((belowN wr nq).mono (unhide HBr2).size))
            have R5 := hide ((unhide HR2).up (belowN wr nq))
            clear c0 c1 n0 qs
            go_wp2_with fail
            go_roundw
            case rel => exact ⟨j + 1, q, by omega, by go_num, rfl, hide (unhide HH2).symm, R5, B5⟩
            case measure => simp [intOf]; omega
          · simp only [Bool.true_or] at HH2
            go_wp2_with fail
            go_quiet (fail)
            have B5 := hide ((unhide HBr2).trans ((belowN wr nq).mono (unhide HBr2).size))
            have R5 := hide ((unhide HR2).up (belowN wr nq))
            clear c0 c1 n0
            go_wp2_with fail
            go_roundw
            case rel => exact ⟨j + 1, true, by omega, by go_num, rfl, hide (unhide HH2).symm, R5, B5⟩
            case measure => simp [intOf]; omega
        · obtain rfl : j = names.length := by omega
          rw [List.take_length] at HH
          rw [← unhide HH] at HT
          clear HH hjt hj
          obtain ⟨c0, c1⟩ := unhide HX wr (unhide HBr2)
          have hk2 : (k : Int) < (ns.length : Int) := by omega
          cases has
          · simp only [Bool.false_eq_true, if_false] at HT
            go_wp2_with fail
            go_roundw
            case rel => exact ⟨k + 1, out, by omega, by go_num, hide (unhide HT).symm, HR2, HBr2⟩
            case measure => simp [intOf]; omega
          · simp only [if_true] at HT
            have hz1 : w.heap.size ≤ (wr.alloc (.cells #[.string m0, .int .i64 m1] 45)).heap.size := by have := (unhide HBr2).size; simp; omega
            have RA1 := hide ((unhide HR2).up ((Below.refl _ _).alloc (Nat.le_refl _) (.cells #[.string m0, .int .i64 m1] 45)))
            have BA1 := hide ((unhide HBr2).alloc (unhide HBr2).size (.cells #[.string m0, .int .i64 m1] 45))
            have ca1 : (wr.alloc (.cells #[.string m0, .int .i64 m1] 45)).cell? ⟨wr.heap.size, 0, none⟩ = some (.string m0) := World.cell?_alloc_at _ _ _ _ rfl
            have cb1 : (wr.alloc (.cells #[.string m0, .int .i64 m1] 45)).cell? ⟨wr.heap.size, 1, none⟩ = some (.int .i64 m1) := World.cell?_alloc_at _ _ _ _ rfl
            go_wp2_with (first
              | (at_builtin; have _g := RA1; refine wpList_markAppend rfl _ _ rfl w.heap.size (.slice av out.length cv) out ⟨m0, m1⟩ wr.heap.size rfl rfl (unhide RA1) ca1 cb1 (by omega) hz1 ?_; intro g1 n1 cp1 X1 hr1 hg1 hlie1; have RX1 := hide hr1; have BX1 := hide ((unhide BA1).grown hg1 (unhide BA1).size (fun q hq => (unhide RA1).ge q hq)); clear hr1 hg1 hlie1 RA1 BA1)
              | fail)
            clear c0 c1 ca1 cb1 hz1
            go_roundw
            case rel => exact ⟨k + 1, _, by omega, by go_num, hide (unhide HT).symm, RX1, BX1⟩
            case measure => simp [intOf]; omega
    · obtain rfl : k = ns.length := by omega
      rw [List.take_length] at HOU
      go_wp2_with fail
      go_ret
      exact ⟨_, rfl, hide (by rw [unhide HE, ← unhide HOU]; exact unhide HR), unhide HBr⟩
end Go.Proofs.Ytmgmmgjlagkdoaa
