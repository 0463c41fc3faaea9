/-
  The program's own copies: texts, and windows where nothing is in them.
-/
import Derived.Test.YtcjomdbklgjojaaRowWi
import Derived.Test.YtcjomdbklgjojaaMarkOwn
set_option linter.unusedVariables false
namespace Go.Proofs.Ytcjomdbklgjojaa
open Go.RowKit Go.Maps Go.Deep

set_option maxHeartbeats 3200000 in
theorem ownTexts_any (ts : List ByteArray) (v : Value) (w : World) (hs : SmallStringS ts) (hl : ts.length ≤ 1000000) (h : StringSRd w v ts) :
    Calls Try.prog 27 #[v] w fun e w' => ∃ u, e = .returned u ∧ Hid (TxRow w.heap.size w' u ts) ∧ Below w.heap.size w w' := by
  obtain ⟨a, cap, rfl, h⟩ := h
  have HA := hide h
  have HSZ := hide hs.2
  clear h hs
  go_enter Try.func27, Try.ntmps27
  go_wp2_with fail
  go_loopw [3, 8] (fun v i wr => ∃ (k : Nat), k ≤ ts.length ∧ i = .int .i64 k ∧ Hid (TxRow w.heap.size wr v (ts.take k)) ∧ Hid (Below w.heap.size w wr)) (fun _ i _ => ts.length - (intOf i).toNat)
  case atStart => exact ⟨0, Nat.zero_le _, rfl, TxRow.nil _ _, Below.refl _ _⟩
  case round =>
    obtain ⟨k, hk, rfl, HR, HBr⟩ := hrel
    have hlo : (ts.take k).length ≤ 1000000 := by simp; omega
    obtain ⟨av, cv, hv⟩ := (unhide HR).slice
    subst hv
    by_cases hlt : k < ts.length
    · rcases unhide HA with rfl | ⟨ba, oa, rfl, hba, hca⟩
      · simp at hlt
      have HT := hide (show ts.take (k + 1) = ts.take k ++ [ts[k]] from List.take_succ_eq_append_getElem hlt)
      have c0 := hca.below (unhide HBr) hba k hlt
      have hms := unhide HSZ _ (List.getElem_mem hlt)
      have HCL := hide (fun X => clone_any' ts[k] X hms)
      clear hca hms
      generalize ts[k] = t at *
      generalize ts.take k = out at *
      go_wp2_with fail
      refine (unhide HCL _).mono ?_
      rintro e w3 ⟨rfl, b3⟩
      have B3 := hide ((unhide HBr).trans (b3.mono (unhide HBr).size))
      have R3 := hide ((unhide HR).up b3)
      clear b3 c0
      have hz1 : w.heap.size ≤ (w3.alloc (.cells #[.string t] 9)).heap.size := by have := (unhide B3).size; simp; omega
      have RA1 := hide ((unhide R3).up ((Below.refl _ _).alloc (Nat.le_refl _) (.cells #[.string t] 9)))
      have BA1 := hide ((unhide B3).alloc (unhide B3).size (.cells #[.string t] 9))
      have ca1 : (w3.alloc (.cells #[.string t] 9)).cell? ⟨w3.heap.size, 0, none⟩ = some (.string t) := World.cell?_alloc_at _ _ _ _ rfl
      go_wp2_with (first
        | (at_builtin; have _g := RA1; refine wpList_txAppend rfl _ _ rfl w.heap.size (.slice av out.length cv) out t w3.heap.size rfl rfl (unhide RA1) ca1 (by omega) hz1 ?_; intro g1 n1 cp1 X1 hr1 hg1; have RX1 := hide hr1; have BX1 := hide ((unhide BA1).grown hg1 (unhide BA1).size (fun q hq => (unhide RA1).ge q hq)); clear hr1 hg1 RA1 BA1)
        | fail)
      go_roundw
      case rel => exact ⟨k + 1, by omega, by go_num, by rw [unhide HT]; exact RX1, BX1⟩
      case measure => simp [intOf]; omega
    · obtain rfl : k = ts.length := by omega
      have HR2 := hide (show TxRow w.heap.size wr (.slice av (ts.take ts.length).length cv) ts by have := unhide HR; rwa [List.take_length] at this ⊢)
      go_wp2_with fail
      go_ret
      exact ⟨_, rfl, HR2, unhide HBr⟩
set_option maxHeartbeats 3200000 in
theorem ownWindows_bare (n : Nat) (b cap : Nat) (w : World) (hn : n ≤ 6) (hb : b < w.heap.size) (hc : ∀ i, i < n → w.cell? ⟨b, i, none⟩ = some (.slice none 0 0)) :
    Calls Try.prog 28 #[.slice (some ⟨b, 0, none⟩) n cap] w fun e w' => ∃ u, e = .returned u ∧ Hid (WiRow w.heap.size w' u (List.replicate n (.slice none 0 0))) ∧ Below w.heap.size w w' := by
  have HC := hide hc
  clear hc
  go_enter Try.func28, Try.ntmps28
  go_wp2_with fail
  go_loopw [3, 11] (fun v i wr => ∃ (k : Nat), k ≤ n ∧ i = .int .i64 k ∧ Hid (WiRow w.heap.size wr v (List.replicate k (.slice none 0 0))) ∧ Hid (Below w.heap.size w wr)) (fun _ i _ => n - (intOf i).toNat)
  case atStart => exact ⟨0, Nat.zero_le _, rfl, WiRow.nil _ _, Below.refl _ _⟩
  case round =>
    obtain ⟨k, hk, rfl, HR, HBr⟩ := hrel
    have hlo : (List.replicate k (Value.slice none 0 0)).length ≤ 1000000 := by simp; omega
    obtain ⟨av, nv, cv, hv⟩ := (unhide HR).form
    subst hv
    by_cases hlt : k < n
    · have c0 := ((unhide HBr).cell (show b < w.heap.size from hb)).trans (unhide HC k hlt)
      have HT := hide (show List.replicate (k + 1) (Value.slice none 0 0) = List.replicate k (Value.slice none 0 0) ++ [.slice none 0 0] from List.replicate_succ')
      generalize List.replicate k (Value.slice none 0 0) = out at *
      go_wp2_with fail
      refine wp_loop_rounds 1 ?_
      rw [rounds_succ]
      have hz1 : w.heap.size ≤ (wr.alloc (.cells #[.slice none 0 0] 46)).heap.size := by have := (unhide HBr).size; simp; omega
      have RA1 := hide ((unhide HR).up ((Below.refl _ _).alloc (Nat.le_refl _) (.cells #[.slice none 0 0] 46)))
      have BA1 := hide ((unhide HBr).alloc (unhide HBr).size (.cells #[.slice none 0 0] 46))
      have ca1 : (wr.alloc (.cells #[.slice none 0 0] 46)).cell? ⟨wr.heap.size, 0, none⟩ = some (.slice none 0 0) := World.cell?_alloc_at _ _ _ _ rfl
      clear c0
      go_wp2_with (first
        | (at_builtin; have _g := RA1; refine wpList_wiAppend rfl _ _ rfl w.heap.size (.slice av nv cv) out none 0 0 wr.heap.size rfl rfl (unhide RA1) ca1 (by omega) hz1 ?_; intro g1 n1 cp1 X1 hr1 hn1 hg1; subst hn1; have RX1 := hide hr1; have BX1 := hide ((unhide BA1).grown hg1 (unhide BA1).size (fun q hq => (unhide RA1).ge q hq)); clear hr1 hg1 RA1 BA1)
        | fail)
      go_roundw
      case rel => exact ⟨k + 1, by omega, by go_num, by rw [unhide HT]; exact RX1, BX1⟩
      case measure => simp [intOf]; omega
    · obtain rfl : k = n := by omega
      go_wp2_with fail
      go_ret
      exact ⟨_, rfl, HR, unhide HBr⟩
end Go.Proofs.Ytcjomdbklgjojaa
