/-
  The walk of the law on stamps that agree.
-/
import Derived.Test.YtmgmmgjlagkdoaaDrawOnly
import Derived.Test.YtmgmmgjlagkdoaaBsMarks
import Derived.Test.YtmgmmgjlagkdoaaAgreeMath
import Derived.Test.YtmgmmgjlagkdoaaOnlyFace
import Derived.Test.YtmgmmgjlagkdoaaJoinFace
import Derived.Test.YtmgmmgjlagkdoaaAgreeS
set_option linter.unusedVariables false
namespace Go.Proofs.Ytmgmmgjlagkdoaa
open Go.RowKit Go.Maps Go.Deep

/-- two lists of marks are drawn -/
def RetTwo (w : World) (e : Ending) (w' : World) : Prop := ∃ v xs u ys, e = .returned (.tuple #[v, u]) ∧ Hid (MarkSRd w' v xs) ∧ Hid (Sm 40 xs) ∧ Hid (MarkSRd w' u ys) ∧ Hid (Sm 40 ys) ∧ Below w.heap.size w w'
set_option maxHeartbeats 3200000 in
theorem drawAgree_any (w : World) (a : Option Addr) (cap : Nat) (bs : List UInt8) (hl : bs.length ≤ maxLen) (hc : bs.length ≤ cap) (hb : ByIn w a bs) :
    Calls Try.prog 13 #[.slice a bs.length cap] w fun e w' => RetTwo w e w' := by
  have HO := hide (l1Open_any w a bs.length cap hl hc (bytesIn_of hb))
  clear hb hl hc
  go_enter Try.func13, Try.ntmps13
  go_wp2_with fail
  refine (unhide HO).mono ?_
  rintro e w1 ⟨g, rfl, hr1, ht1⟩
  have R1 := hide hr1
  have B1 := hide (show Below w.heap.size w w1 from ht1.below (Nat.le_refl _) (by simp))
  have hgl := hr1.lt
  have hga := hr1.above
  clear hr1 ht1 HO
  go_wp2_with fail
  refine (l34Marks_any w.heap.size g 0 w1 (by omega) (unhide R1)).mono ?_
  rintro e w2 ⟨v, xs, rfl, HV, HS, HR, HT⟩
  obtain ⟨va, vn, vc, rfl⟩ := (unhide HV).rd.form
  obtain ⟨q2, hq2, hr2⟩ := unhide HR
  have R2 := hide hr2
  have B2 := hide (show Below w.heap.size w w2 from (unhide B1).trans ((unhide HT).below (unhide B1).size (by simpa using hga)))
  clear R1 HR hr2 HT B1
  go_wp2_with fail
  refine (l34Marks_any w.heap.size g q2 w2 (by omega) (unhide R2)).mono ?_
  rintro e w3 ⟨u, ys, rfl, HU, HY, _, HT⟩
  obtain ⟨ua, un, uc, rfl⟩ := (unhide HU).rd.form
  have HE := hide (show RetTwo w (.returned (.tuple #[.slice va vn vc, .slice ua un uc])) w3 from ⟨_, xs, _, ys, rfl, hide ((unhide HV).turn (unhide HT) hgl).rd, HS, hide (unhide HU).rd, HY, (unhide B2).trans ((unhide HT).below (unhide B2).size (by simpa using hga))⟩)
  clear R2 HT B2 HV HU
  go_wp2_with fail
  go_ret2
  exact unhide HE

set_option maxHeartbeats 3200000 in
theorem bsNames_row (w : World) (b off cap : Nat) (ns : List MarkV) (hl : ns.length ≤ 1000) (hc : MarkAt w b off ns) (hb : b < w.heap.size) :
    Calls Try.prog 17 #[.slice (some ⟨b, off, none⟩) ns.length cap] w fun e w' => ∃ u, e = .returned u ∧ Hid (TxRow w.heap.size w' u (namesM ns)) ∧ Below w.heap.size w w' := by
  have HC := hide hc
  clear hc
  go_enter Try.func17, Try.ntmps17
  go_wp2_with fail
  go_loopw [3, 4] (fun o i wr => ∃ k : Nat, k ≤ ns.length ∧ i = .int .i64 k ∧ Hid (TxRow w.heap.size wr o ((namesM ns).take k)) ∧ Hid (Below w.heap.size w wr)) (fun _ i _ => ns.length - (intOf i).toNat)
  case atStart => exact ⟨0, Nat.zero_le _, rfl, TxRow.nil _ _, Below.refl _ _⟩
  case round =>
    obtain ⟨k, hk, rfl, HR, HBr⟩ := hrel
    obtain ⟨oa, oc, rfl⟩ := (unhide HR).slice
    generalize hol : ((namesM ns).take k).length = ol at *
    have HOL := hide hol
    clear hol
    by_cases hlt : k < ns.length
    · obtain ⟨c0, c1⟩ := (unhide HC).below (unhide HBr) hb k hlt
      have HNX := hide (show (namesM ns).take (k + 1) = (namesM ns).take k ++ [ns[k].a0] from by
        have hk' : k < (namesM ns).length := by simpa [namesM] using hlt
        rw [List.take_succ_eq_append_getElem hk']
        simp [namesM])
      have d2 : (k : Int) < (ns.length : Int) := by omega
      generalize ns[k].a0 = s at *
      have bz := (Below.refl wr.heap.size wr).alloc (Nat.le_refl _) (.cells #[.string s] 9)
      have cs : (wr.alloc (.cells #[.string s] 9)).cell? ⟨wr.heap.size, 0, none⟩ = some (.string s) := by rw [World.cell?_alloc_at _ _ _ _ rfl]; rfl
      have TR := hide ((unhide HR).up bz)
      have B2 := hide ((unhide HBr).trans (bz.mono (unhide HBr).size))
      have hle : w.heap.size ≤ (wr.alloc (.cells #[.string s] 9)).heap.size := (unhide B2).size
      have hkl := unhide HOL
      simp at hkl
      clear bz
      go_wp2_with (first
        | (at_builtin; refine wpList_txAppend rfl _ _ rfl w.heap.size _ ((namesM ns).take k) s wr.heap.size rfl rfl (unhide TR) cs (by simp; omega) hle ?_; intro g6 n6 c6 w6 r6 gr6; rw [← unhide HNX] at r6; have R6 := hide r6; have B6 := hide ((unhide B2).grown gr6 (unhide B2).size (fun y hy => (unhide TR).ge y hy)); clear r6 gr6)
        | fail)
      go_roundw
      case rel => exact ⟨k + 1, by omega, by go_num, R6, B6⟩
      case measure => simp [intOf]; omega
    · have HF := hide (show TxRow w.heap.size wr (.slice oa ol oc) (namesM ns) from by
        have := unhide HR
        rw [List.take_of_length_le (by simp [namesM]; omega)] at this
        exact this)
      go_wp2_with fail
      go_ret
      exact ⟨_, rfl, HF, unhide HBr⟩
theorem bsNames_none (w : World) (a : Option Addr) (cap : Nat) :
    Calls Try.prog 17 #[.slice a 0 cap] w fun e w' => ∃ u, e = .returned u ∧ Hid (TxRow w.heap.size w' u (namesM [])) ∧ Below w.heap.size w w' := by
  go_enter Try.func17, Try.ntmps17
  go_wp2_with fail
  refine wp_loop_rounds 1 ?_
  rw [rounds_succ]
  go_wp2_with fail
  go_ret
  exact ⟨_, rfl, TxRow.nil _ _, Below.refl _ _⟩
theorem bsNames_any (ns : List MarkV) (v : Value) (w : World) (hl : ns.length ≤ 1000) (h : MarkSRd w v ns) :
    Calls Try.prog 17 #[v] w fun e w' => ∃ u, e = .returned u ∧ Hid (TxRow w.heap.size w' u (namesM ns)) ∧ Below w.heap.size w w' := by
  obtain ⟨a, c, rfl, h⟩ := h
  rcases h with rfl | ⟨b, off, rfl, hb, hc⟩
  · exact bsNames_none w a c
  · exact bsNames_row w b off c ns hl hc hb
theorem small_names {n : Nat} {ns : List MarkV} (h : Sm n ns) (hn : n ≤ 1000) : SmallStringS (namesM ns) :=
  ⟨by have := h.1; simp [namesM]; omega, fun t ht => by
    obtain ⟨x, hx, rfl⟩ := List.mem_map.1 ht
    have := (h.2 x hx).1
    omega⟩

set_option maxRecDepth 20000 in
set_option maxHeartbeats 6400000 in
theorem agree_walk (a : Option Addr) (cap : Nat) (bs : List UInt8) (w : World) (hl : bs.length ≤ maxLen) (hc : bs.length ≤ cap) (hb : ByIn w a bs) :
    Calls Try.prog 4 #[.slice a bs.length cap] w fun e w' => e = .returned (.bool true) ∧ Below w.heap.size w w' := by
  have HD := hide (drawAgree_any w a cap bs hl hc hb)
  have hn : (bs.length : Int) ≤ 9223372036854775807 := by unfold maxLen at hl; omega
  clear hl hc hb
  by_cases h1 : (1048576 : Int) < (bs.length : Int)
  · clear HD
    generalize bs.length = n at *
    go_enter Try.func4, Try.ntmps4
    go_wp2_with fail
    go_ret
    exact ⟨rfl, Below.refl _ _⟩
  generalize bs.length = n at *
  go_enter Try.func4, Try.ntmps4
  go_wp2_with fail
  refine (unhide HD).mono ?_
  rintro e w1 ⟨v, xs, u, ys, rfl, HV, HS, HU, HT, b1⟩
  have B1 := hide b1
  have SX := hide ((unhide HS).small (by omega))
  have SY := hide ((unhide HT).small (by omega))
  have HI1 := hide (implAgree_any xs v ys u w1 (unhide SX) (unhide SY) (unhide HV) (unhide HU))
  have HI2 := hide (fun W (b : Below w1.heap.size w1 W) => specAgree_any xs v ys u W (unhide SX) (unhide SY) ((unhide HV).up b) ((unhide HU).up b))
  have HI3 := hide (fun W (b : Below w1.heap.size w1 W) => implAgree_any ys u xs v W (unhide SY) (unhide SX) ((unhide HU).up b) ((unhide HV).up b))
  have HI4 := hide (fun W (b : Below w1.heap.size w1 W) => implJoin_any xs v ys u W (unhide SX) (unhide SY) ((unhide HV).up b) ((unhide HU).up b))
  have HN1 := hide (fun W (b : Below w1.heap.size w1 W) => bsNames_any xs v W (by have := (unhide HS).1; omega) ((unhide HV).up b))
  have HN2 := hide (fun W (b : Below w1.heap.size w1 W) => bsNames_any ys u W (by have := (unhide HT).1; omega) ((unhide HU).up b))
  have SJ := hide (small_join (unhide SX) (unhide SY))
  have SN1 := hide (small_names (unhide HS) (by omega))
  have SN2 := hide (small_names (unhide HT) (by omega))
  rw [agree_comm ys xs] at HI3
  have HAG := hide (show joinOkB xs ys = true → agreeOut xs ys = (eqMk (onlyV (joinV xs ys) (namesM xs)) xs && eqMk (onlyV (joinV xs ys) (namesM ys)) ys) from fun h => by
    rw [show joinV xs ys = joinL xs ys by simp [joinV, h]]
    exact agree_only h)
  obtain ⟨va, vn, vc, rfl⟩ := (unhide HV).form
  obtain ⟨ua, un, uc, rfl⟩ := (unhide HU).form
  obtain ⟨ag, HAGV⟩ : ∃ ag, Hid (agreeOut xs ys = ag) := ⟨_, rfl⟩
  rw [unhide HAGV] at HI1 HI2 HI3 HAG
  obtain ⟨jn, HJN⟩ : ∃ jn, Hid (joinV xs ys = jn) := ⟨_, rfl⟩
  rw [unhide HJN] at HAG SJ
  clear b1 HD HS HT
  go_wp2_with fail
  refine (unhide HI1).mono ?_
  rintro e w2 ⟨rfl, b2⟩
  have B2 := hide ((unhide B1).trans (b2.mono (unhide B1).size))
  have C2 := hide b2
  clear b2 HI1 B1
  go_wp2_with fail
  refine (unhide HI2 w2 (unhide C2)).mono ?_
  rintro e w3 ⟨rfl, b3⟩
  have B3 := hide ((unhide B2).trans (b3.mono (unhide B2).size))
  have C3 := hide ((unhide C2).trans (b3.mono (unhide C2).size))
  clear b3 HI2 B2 C2
  have ebb : (ag != ag) = false := by simp
  go_wp2_with fail
  refine (unhide HI3 w3 (unhide C3)).mono ?_
  rintro e w4 ⟨rfl, b4⟩
  have B4 := hide ((unhide B3).trans (b4.mono (unhide B3).size))
  have C4 := hide ((unhide C3).trans (b4.mono (unhide C3).size))
  clear b4 HI3 B3 C3
  go_wp2_with fail
  refine (unhide HI4 w4 (unhide C4)).mono ?_
  rintro e w5 ⟨j, rfl, RJ, b5⟩
  have B5 := hide ((unhide B4).trans (b5.mono (unhide B4).size))
  have C5 := hide ((unhide C4).trans (b5.mono (unhide C4).size))
  rw [unhide HJN] at RJ
  have RJ5 := hide (unhide RJ).rd
  obtain ⟨ja, jl, jc, rfl⟩ := (unhide RJ5).form
  clear b5 HI4 B4 C4 RJ
  cases hok : joinOkB xs ys
  · clear hok HAG
    go_wp2_with fail
    go_ret
    exact ⟨by simp, unhide B5⟩
  have HAG2 := hide (unhide HAG hok)
  clear hok HAG
  go_wp2_with fail
  refine (unhide HN1 w5 (unhide C5)).mono ?_
  rintro e w6 ⟨n1, rfl, T6, b6⟩
  have B6 := hide ((unhide B5).trans (b6.mono (unhide B5).size))
  have C6 := hide ((unhide C5).trans (b6.mono (unhide C5).size))
  have J6 := hide ((unhide RJ5).up b6)
  have HO1 := hide (implOnly_any jn _ (namesM xs) n1 w6 (unhide SJ) (unhide SN1) (unhide J6) (unhide T6).rd)
  obtain ⟨na, nc, rfl⟩ := (unhide T6).slice
  generalize (namesM xs).length = nl at *
  clear b6 HN1 B5 C5 RJ5 T6
  go_wp2_with fail
  refine (unhide HO1).mono ?_
  rintro e w7 ⟨o1, rfl, R7, b7⟩
  have B7 := hide ((unhide B6).trans (b7.mono (unhide B6).size))
  have C7 := hide ((unhide C6).trans (b7.mono (unhide C6).size))
  have J7 := hide ((unhide J6).up b7)
  have HB1 := hide (bsMarks_any _ o1 xs _ w7 (small_only (unhide SJ) (namesM xs)) (unhide SX) (unhide R7).rd ((unhide HV).up (unhide C7)))
  obtain ⟨oa, oc, rfl⟩ := (unhide R7).slice
  generalize eqMk (onlyV jn (namesM xs)) xs = e1 at *
  generalize (onlyV jn (namesM xs)).length = ol at *
  clear b7 HO1 B6 C6 J6 R7
  go_wp2_with fail
  refine (unhide HB1).mono ?_
  rintro e w8 ⟨rfl, b8⟩
  have B8 := hide ((unhide B7).trans (b8.mono (unhide B7).size))
  have C8 := hide ((unhide C7).trans (b8.mono (unhide C7).size))
  have J8 := hide ((unhide J7).up b8)
  clear b8 HB1 B7 C7 J7
  cases e1
  · have HF := hide (show ag = false from by rw [unhide HAG2]; rfl)
    clear HAG2
    go_wp2_with fail
    go_ret
    exact ⟨by rw [unhide HF]; rfl, unhide B8⟩
  go_wp2_with fail
  refine (unhide HN2 w8 (unhide C8)).mono ?_
  rintro e w9 ⟨n2, rfl, T9, b9⟩
  have B9 := hide ((unhide B8).trans (b9.mono (unhide B8).size))
  have C9 := hide ((unhide C8).trans (b9.mono (unhide C8).size))
  have J9 := hide ((unhide J8).up b9)
  have HO2 := hide (implOnly_any jn _ (namesM ys) n2 w9 (unhide SJ) (unhide SN2) (unhide J9) (unhide T9).rd)
  obtain ⟨ma, mc, rfl⟩ := (unhide T9).slice
  generalize (namesM ys).length = ml at *
  clear b9 HN2 B8 C8 J8 T9
  go_wp2_with fail
  refine (unhide HO2).mono ?_
  rintro e w10 ⟨o2, rfl, R10, b10⟩
  have B10 := hide ((unhide B9).trans (b10.mono (unhide B9).size))
  have C10 := hide ((unhide C9).trans (b10.mono (unhide C9).size))
  have HB2 := hide (bsMarks_any _ o2 ys _ w10 (small_only (unhide SJ) (namesM ys)) (unhide SY) (unhide R10).rd ((unhide HU).up (unhide C10)))
  obtain ⟨pa, pc, rfl⟩ := (unhide R10).slice
  generalize eqMk (onlyV jn (namesM ys)) ys = e2 at *
  generalize (onlyV jn (namesM ys)).length = pl at *
  clear b10 HO2 B9 C9 J9 R10
  go_wp2_with fail
  refine (unhide HB2).mono ?_
  rintro e w11 ⟨rfl, b11⟩
  have B11 := hide ((unhide B10).trans (b11.mono (unhide B10).size))
  have HF := hide (show ag = e2 from by rw [unhide HAG2]; rfl)
  clear b11 HB2 B10 C10 HAG2
  go_wp2_with fail
  go_ret
  exact ⟨by rw [unhide HF]; simp, unhide B11⟩
end Go.Proofs.Ytmgmmgjlagkdoaa
