/-
  LogBytes of both sides.
-/
import Derived.Test.YtcpjcdbhcllbiaaLogMath
import Derived.Test.YtcpjcdbhcllbiaaRecRowsOwn
set_option linter.unusedVariables false
namespace Go.Proofs.Ytcpjcdbhcllbiaa
open Go.RowKit Go.Maps Go.Deep

theorem row_len {B : Nat} {w : World} {a : Option Addr} {n c : Nat} {bs : List UInt8} (h : ByRow B w (.slice a n c) bs) : n = bs.length := by
  obtain ⟨a', c', e⟩ := h.slice
  simp only [Value.slice.injEq] at e
  exact e.2.1
set_option maxHeartbeats 6400000 in
theorem specLog_row (w : World) (b off cap : Nat) (rs : List RecV) (hl : rs.length ≤ 200) (hb : b < w.heap.size) (hc : RecAt w b off rs) (hs : RecOk rs) :
    Calls Try.prog 6 #[.slice (some ⟨b, off, none⟩) rs.length cap] w fun e w' => RetLog rs w e w' := by
  have HC := hide (show ∀ X, Below w.heap.size w X → RecAt X b off rs from fun X bx => hc.below bx hb)
  have HS := hide hs
  have hl2 : ¬ 200 < (rs.length : Int) := by omega
  have HL := hide (show logAll rs = logL rs by simp [logAll, hl])
  clear hc hs
  go_enter Try.func6, Try.ntmps6
  go_wp2_with fail
  go_loopw [4, 5] (fun v i wr => ∃ (k : Nat) (a : Option Addr) (n c : Nat) (acc : List UInt8), k ≤ rs.length ∧ i = .int .i64 k ∧ v = .slice a n c ∧ Hid (ByRow w.heap.size wr (.slice a n c) acc) ∧ Hid (logL (rs.take k) = some acc) ∧ Hid (Below w.heap.size w wr)) (fun _ i _ => rs.length - (intOf i).toNat)
  case atStart => exact ⟨0, none, 0, 0, [], Nat.zero_le _, rfl, rfl, ByRow.nil _ _, hide rfl, Below.refl _ _⟩
  case round =>
    obtain ⟨k, ar, nr, cr, acc, hk, rfl, rfl, HR, HA, HBr⟩ := hrel
    by_cases hlt : k < rs.length
    · obtain ⟨c0, c1, c2, c3⟩ := unhide HC wr (unhide HBr) k hlt
      have HRB := hide (fun W => specRecBytes_any rs[k] W (unhide HS _ (List.getElem_mem hlt)))
      unfold recVal at HRB
      have HBAD := hide (fun h => log_bad hlt (unhide HA) h)
      have HGOOD := hide (fun h => log_good hlt (unhide HA) h)
      have hnr := row_len (unhide HR)
      have hal := log_len _ _ (unhide HA)
      have hrl := recBytesL_len rs[k]
      generalize rs[k] = r at *
      go_wp2_with fail
      refine (unhide HRB _).mono ?_
      rintro e w1 ⟨a1, n1, c1', rfl, r1, b1⟩
      have hn1 := row_len r1
      have R1 := hide r1
      have B1 := hide ((unhide HBr).trans (b1.mono (unhide HBr).size))
      have HR1 := hide ((unhide HR).up b1)
      clear r1 b1 c0 c1 c2 c3
      cases hok : recOkB r
      · have HE := hide (ret_log_no ((unhide HL).trans (unhide HBAD (by rw [hok]; simp))))
        clear hn1 hnr
        go_wp2_with fail
        go_ret2
        exact ⟨none, 0, 0, by rw [(unhide HE).1]; rfl, by rw [(unhide HE).2]; exact ByRow.nil _ _, unhide B1⟩
      · by_cases hsz : acc.length + (recBytesL r).length ≤ 8000
        · have HG2 := hide (unhide HGOOD ⟨hok, hsz⟩)
          have d1 : ¬ 8000 - (nr : Int) < (n1 : Int) := by omega
          have hll := hide (show acc.length + (recBytesL r).length ≤ 140737488355328 by omega)
          have hnl : (nr : Int) ≤ 8000 := by omega
          have hnl1 : (n1 : Int) ≤ 8000 := by omega
          clear hn1 hnr hsz hal
          go_wp2_with (first
            | (at_builtin; refine wpList_byAppend rfl _ _ rfl w.heap.size _ _ acc (recBytesL r) rfl rfl (unhide HR1) (unhide R1).rd (unhide hll) (unhide B1).size ?_; intro a2 c2 w2 r2 g2 _; generalize acc.length + (recBytesL r).length = n2 at *; have R2 := hide r2; have B2 := hide ((unhide B1).grown g2 (unhide B1).size (fun y hy => (unhide HR1).ge y hy)); clear r2 g2)
            | fail)
          go_roundw
          case rel => exact ⟨k + 1, a2, n2, c2, _, by omega, by go_num, rfl, R2, HG2, B2⟩
          case measure => simp [intOf]; omega
        · have HE := hide (ret_log_no ((unhide HL).trans (unhide HBAD (fun h => hsz h.2))))
          have d1 : 8000 - (nr : Int) < (n1 : Int) := by omega
          have hnl : (nr : Int) ≤ 8000 := by omega
          clear hn1 hnr hsz hal
          go_wp2_with fail
          go_ret2
          exact ⟨none, 0, 0, by rw [(unhide HE).1]; rfl, by rw [(unhide HE).2]; exact ByRow.nil _ _, unhide B1⟩
    · have e : k = rs.length := by omega
      have HE := hide (ret_log_yes ((unhide HL).trans (by have := unhide HA; rwa [e, List.take_of_length_le (Nat.le_refl _)] at this)))
      clear e
      go_wp2_with fail
      go_ret2
      exact ⟨ar, nr, cr, by rw [(unhide HE).1]; rfl, by rw [(unhide HE).2]; exact unhide HR, unhide HBr⟩
end Go.Proofs.Ytcpjcdbhcllbiaa
