/-
  The bytes of a log: its records one behind the other.
-/
/-
  LogBytes of both sides.
-/
import Derived.Test.YtddmomcanakoiaaRecBytes
import Derived.Test.YtddmomcanakoiaaMerged26
set_option linter.unusedVariables false
namespace Go.Proofs.Ytddmomcanakoiaa
open Go.RowKit Go.Maps Go.Deep

def logStep (o : Option (List UInt8)) (r : RecV) : Option (List UInt8) := match o with
  | none => none
  | some acc => if recOkB r = true ∧ acc.length + (recBytesL r).length ≤ 8000 then some (acc ++ recBytesL r) else none
def logL (rs : List RecV) : Option (List UInt8) := rs.foldl logStep (some [])
def logAll (rs : List RecV) : Option (List UInt8) := if rs.length ≤ 200 then logL rs else none
def logOut (rs : List RecV) : List UInt8 := (logAll rs).getD []
def logOkB (rs : List RecV) : Bool := (logAll rs).isSome
theorem log_take (rs : List RecV) (k : Nat) (h : k < rs.length) : logL (rs.take (k + 1)) = logStep (logL (rs.take k)) rs[k] := by
  rw [List.take_succ_eq_append_getElem h]
  unfold logL
  rw [List.foldl_append]
  rfl
theorem log_fold_none (rs : List RecV) : rs.foldl logStep none = none := by
  induction rs with
  | nil => rfl
  | cons r rs ih => exact ih
theorem log_none {rs : List RecV} {k : Nat} (h : logL (rs.take k) = none) : logL rs = none := by
  conv => lhs; rw [← List.take_append_drop k rs]
  unfold logL at h ⊢
  rw [List.foldl_append, h]
  exact log_fold_none _
theorem log_bad {rs : List RecV} {k : Nat} {acc : List UInt8} (hk : k < rs.length) (ha : logL (rs.take k) = some acc) (h : ¬ (recOkB rs[k] = true ∧ acc.length + (recBytesL rs[k]).length ≤ 8000)) : logL rs = none := by
  refine log_none (k := k + 1) ?_
  rw [log_take rs k hk, ha]
  simp only [logStep, if_neg h]
theorem log_good {rs : List RecV} {k : Nat} {acc : List UInt8} (hk : k < rs.length) (ha : logL (rs.take k) = some acc) (h : recOkB rs[k] = true ∧ acc.length + (recBytesL rs[k]).length ≤ 8000) : logL (rs.take (k + 1)) = some (acc ++ recBytesL rs[k]) := by
  rw [log_take rs k hk, ha]
  simp only [logStep, if_pos h]
theorem log_len (rs : List RecV) : ∀ acc, logL rs = some acc → acc.length ≤ 8000 := by
  have : ∀ (n : Nat) (rs : List RecV), rs.length = n → ∀ acc, logL rs = some acc → acc.length ≤ 8000 := by
    intro n
    induction n with
    | zero =>
      intro rs h acc e
      rw [List.eq_nil_of_length_eq_zero h] at e
      simp [logL] at e
      rw [e]
      simp
    | succ n ih =>
      intro rs h acc e
      have hn : n < rs.length := by omega
      have ht := log_take rs n hn
      rw [List.take_of_length_le (by omega), e] at ht
      cases hp : logL (rs.take n) with
      | none => rw [hp] at ht; cases ht
      | some a =>
        rw [hp] at ht
        simp only [logStep] at ht
        split at ht
        · rename_i hh
          simp only [Option.some.injEq] at ht
          rw [ht, List.length_append]
          exact hh.2
        · cases ht
  exact this _ rs rfl
theorem logOut_len (rs : List RecV) : (logOut rs).length ≤ 8000 := by
  unfold logOut logAll
  split
  · cases h : logL rs with
    | none => simp
    | some acc => exact log_len rs acc h
  · simp
theorem recBytesL_len (r : RecV) : (recBytesL r).length ≤ 222 := by
  unfold recBytesL
  split
  · rename_i h
    exact rec_len h
  · simp
def RetLog (rs : List RecV) (w : World) (e : Ending) (w' : World) : Prop := ∃ a n c, e = .returned (.tuple #[.slice a n c, .bool (logOkB rs)]) ∧ ByRow w.heap.size w' (.slice a n c) (logOut rs) ∧ Below w.heap.size w w'
theorem ret_log_no {rs : List RecV} (h : logAll rs = none) : logOkB rs = false ∧ logOut rs = [] := by simp [logOkB, logOut, h]
theorem ret_log_yes {rs : List RecV} {acc : List UInt8} (h : logAll rs = some acc) : logOkB rs = true ∧ logOut rs = acc := by simp [logOkB, logOut, h]
end Go.Proofs.Ytddmomcanakoiaa

set_option linter.unusedVariables false
namespace Go.Proofs.Ytddmomcanakoiaa
open Go.RowKit Go.Maps Go.Deep

theorem row_len {B : Nat} {w : World} {a : Option Addr} {n c : Nat} {bs : List UInt8} (h : ByRow B w (.slice a n c) bs) : n = bs.length := by
  obtain ⟨a', c', e⟩ := h.slice
  simp only [Value.slice.injEq] at e
  exact e.2.1
set_option maxHeartbeats 6400000 in
theorem specLog_row (w : World) (b off cap : Nat) (rs : List RecV) (hl : rs.length ≤ 200) (hb : b < w.heap.size) (hc : RecAt w b off rs) (hs : RecOk rs) :
    Calls Try.prog 7 #[.slice (some ⟨b, off, none⟩) rs.length cap] w fun e w' => RetLog rs w e w' := by
  have HC := hide (show ∀ X, Below w.heap.size w X → RecAt X b off rs from fun X bx => hc.below bx hb)
  have HS := hide hs
  have hl2 : ¬ 200 < (rs.length : Int) := by omega
  have HL := hide (show logAll rs = logL rs by simp [logAll, hl])
  clear hc hs
  go_enter Try.func7, Try.ntmps7
  go_wp2_with fail
  go_loopw [4, 5] (fun v i wr => ∃ (k : Nat) (a : Option Addr) (n c : Nat) (acc : List UInt8), k ≤ rs.length ∧ i = .int .i64 k ∧ v = .slice a n c ∧ Hid (ByRow w.heap.size wr (.slice a n c) acc) ∧ Hid (logL (rs.take k) = some acc) ∧ Hid (Below w.heap.size w wr)) (fun _ i _ => rs.length - (intOf i).toNat)
  case atStart => exact ⟨0, none, 0, 0, [], Nat.zero_le _, rfl, rfl, ByRow.nil _ _, hide rfl, Below.refl _ _⟩
  case round =>
    obtain ⟨k, ar, nr, cr, acc, hk, rfl, rfl, HR, HA, HBr⟩ := hrel
    by_cases hlt : k < rs.length
    · obtain ⟨c0, c1, c2, c3⟩ := unhide HC wr (unhide HBr) k hlt
      have HRB := hide (fun W => specRecBytes_any rs[k] W (unhide HS _ (List.getElem_mem hlt)))
      unfold recVal at HRB
      have HBAD := hide (fun h => log_bad hlt (unhide HA) h)
      have HGOOD := hide (fun h => log_good hlt (unhide HA) h)
      have hnr := row_len (unhide HR)
      have hal := log_len _ _ (unhide HA)
      have hrl := recBytesL_len rs[k]
      generalize rs[k] = r at *
      go_wp2_with fail
      refine (unhide HRB _).mono ?_
      rintro e w1 ⟨a1, n1, c1', rfl, r1, b1⟩
      have hn1 := row_len r1
      have R1 := hide r1
      have B1 := hide ((unhide HBr).trans (b1.mono (unhide HBr).size))
      have HR1 := hide ((unhide HR).up b1)
      clear r1 b1 c0 c1 c2 c3
      cases hok : recOkB r
      · have HE := hide (ret_log_no ((unhide HL).trans (unhide HBAD (by rw [hok]; simp))))
        clear hn1 hnr
        go_wp2_with fail
        go_ret2
        exact ⟨none, 0, 0, by rw [(unhide HE).1]; rfl, by rw [(unhide HE).2]; exact ByRow.nil _ _, unhide B1⟩
      · by_cases hsz : acc.length + (recBytesL r).length ≤ 8000
        · have HG2 := hide (unhide HGOOD ⟨hok, hsz⟩)
          have d1 : ¬ 8000 - (nr : Int) < (n1 : Int) := by omega
          have hll := hide (show acc.length + (recBytesL r).length ≤ 140737488355328 by omega)
          have hnl : (nr : Int) ≤ 8000 := by omega
          have hnl1 : (n1 : Int) ≤ 8000 := by omega
          clear hn1 hnr hsz hal
          go_wp2_with (first
            | (at_builtin; refine wpList_byAppend rfl _ _ rfl w.heap.size _ _ acc (recBytesL r) rfl rfl (unhide HR1) (unhide R1).rd (unhide hll) (unhide B1).size ?_; intro a2 c2 w2 r2 g2 _; generalize acc.length + (recBytesL r).length = n2 at *; have R2 := hide r2; have B2 := hide ((unhide B1).grown g2 (unhide B1).size (fun y hy => (unhide HR1).ge y hy)); clear r2 g2)
            | fail)
          go_roundw
          case rel => exact ⟨k + 1, a2, n2, c2, _, by omega, by go_num, rfl, R2, HG2, B2⟩
          case measure => simp [intOf]; omega
        · have HE := hide (ret_log_no ((unhide HL).trans (unhide HBAD (fun h => hsz h.2))))
          have d1 : 8000 - (nr : Int) < (n1 : Int) := by omega
          have hnl : (nr : Int) ≤ 8000 := by omega
          clear hn1 hnr hsz hal
          go_wp2_with fail
          go_ret2
          exact ⟨none, 0, 0, by rw [(unhide HE).1]; rfl, by rw [(unhide HE).2]; exact ByRow.nil _ _, unhide B1⟩
    · have e : k = rs.length := by omega
      have HE := hide (ret_log_yes ((unhide HL).trans (by have := unhide HA; rwa [e, List.take_of_length_le (Nat.le_refl _)] at this)))
      clear e
      go_wp2_with fail
      go_ret2
      exact ⟨ar, nr, cr, by rw [(unhide HE).1]; rfl, by rw [(unhide HE).2]; exact unhide HR, unhide HBr⟩
end Go.Proofs.Ytddmomcanakoiaa
