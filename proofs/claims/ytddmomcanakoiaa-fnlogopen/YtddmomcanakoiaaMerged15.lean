/-
  LogRead of the specification.
-/
/-
  Three boxes of a call: two arguments and an answer.
-/
import Derived.Test.YtddmomcanakoiaaMerged16
import Derived.Test.YtddmomcanakoiaaMerged26
import Derived.Test.YtddmomcanakoiaaSpecRead
import Derived.Test.YtddmomcanakoiaaBoxes
set_option linter.unusedVariables false
namespace Go.Proofs.Ytddmomcanakoiaa
open Go.RowKit Go.Maps Go.Deep

/-- a row of records, and where they end, are handed back -/
def RetLogR (bs : List UInt8) (w : World) (e : Ending) (w' : World) : Prop := ∃ v, e = .returned (.tuple #[v, .int .i64 (logE bs : Int)]) ∧ Hid (RcRow w.heap.size w' v (logRs bs)) ∧ Below w.heap.size w w'
theorem addr_add (b off k : Nat) : (⟨b, off, none⟩ : Addr).add k = ⟨b, off + k, none⟩ := by
  by_cases e : k = 0
  · subst e; simp [Addr.add]
  · simp [Addr.add, e]
theorem by_drop {w : World} {a : Option Addr} {c : Nat} {bs : List UInt8} (h : ByIn w a bs) (hc : bs.length ≤ c) (k : Nat) (hk : k ≤ bs.length) : ByRd w (.slice (a.map (fun x => x.add k)) (bs.length - k) (c - k)) (bs.drop k) := by
  refine ⟨_, c - k, by rw [List.length_drop], ?_, by rw [List.length_drop]; omega⟩
  rcases h with rfl | ⟨b, off, rfl, hb, hx⟩
  · exact .inl (by simp)
  · refine .inr ⟨b, off + k, by simp [addr_add], hb, fun i hi => ?_⟩
    rw [List.getElem_drop, Nat.add_assoc]
    exact hx (k + i) (by simp at hi; omega)
theorem specRead_all (v : Value) (bs : List UInt8) (w : World) (hl : bs.length ≤ 1048576) (h : ByRd w v bs) : Calls Try.prog 57 #[v] w fun e w' => e = .returned (readVal (readI bs)) ∧ Below w.heap.size w w' := by
  have key : Calls Try.prog 57 #[v] w fun e w' => RetRead bs w e w' := by
    by_cases ho : sizeS bs < 0 ∨ (bs.length : Int) < sizeS bs
    · exact specRead_out v bs w hl h ho
    · obtain ⟨n, hn⟩ : ∃ n : Nat, sizeS bs = (n : Int) := ⟨(sizeS bs).toNat, by omega⟩
      exact specRead_in v bs w hl h n hn (by omega)
  refine key.mono ?_
  rintro e w' ⟨o, rfl, ho, hb⟩
  rw [isRead_same (unhide ho) (readI_is bs)]
  exact ⟨rfl, hb⟩
set_option maxRecDepth 100000 in
set_option maxHeartbeats 6400000 in
theorem specLogRead_any (bs : List UInt8) (v : Value) (w : World) (hl : bs.length ≤ 1048576) (h : ByRd w v bs) : Calls Try.prog 35 #[v] w fun e w' => RetLogR bs w e w' := by
  obtain ⟨a, c, rfl, hin, hc⟩ := h
  have HIN := hide (fun W (bW : Below w.heap.size w W) => hin.up bW)
  clear hin
  go_enter Try.func35, Try.ntmps35
  go_wp2_with fail
  go_loopw [4, 5] (fun v i wr => ∃ (k p : Nat) (rs : List RecV), k ≤ 200 ∧ p ≤ bs.length ∧ i = .int .i64 (p : Int) ∧ Hid (rs.length = k) ∧ (∃ a' c', v = .slice a' k c') ∧ Hid (RcRow w.heap.size wr v rs) ∧ Hid (LgTo bs k rs p) ∧ Hid (Below w.heap.size w wr)) (fun v _ _ => 200 - (match v with | .slice _ n _ => n | _ => 0))
  case atStart => exact ⟨0, 0, [], by omega, by omega, rfl, hide rfl, ⟨none, 0, rfl⟩, hide (RcRow.nil _ _), hide (lg_zero bs), Below.refl _ _⟩
  case round =>
    obtain ⟨k, p, rs, hk, hp, rfl, HKL, ⟨a', c', rfl⟩, HR, HLT, HB⟩ := hrel
    by_cases hk2 : k < 200
    · have hki : (k : Int) < 200 := by omega
      have HRD1 := hide (fun W (bW : Below w.heap.size w W) => specRead_all (.slice (a.map (fun x => x.add p)) (bs.length - p) (c - p)) (bs.drop p) W (by rw [List.length_drop]; omega) (by_drop (unhide HIN W bW) hc p hp))
      have HRD0 := hide (fun W (bW : Below w.heap.size w W) (e : c = p) => specRead_all (.slice a (bs.length - p) 0) (bs.drop p) W (by rw [List.length_drop]; omega) (by
        rw [show bs.length - p = 0 by omega, show bs.drop p = [] from List.drop_of_length_le (by omega)]
        exact ByRd.nil _ _ _))
      have hpi : (p : Int) ≤ (bs.length : Int) := by omega
      cases hr : readI (bs.drop p) with
      | none =>
        have HE := hide (lg_none (unhide HLT) hk2 hr)
        rw [hr] at HRD1 HRD0
        simp only [readVal] at HRD1 HRD0
        clear hr HLT
        go_wp2_with fail
        · refine (unhide HRD0 _ (unhide HB) (by omega)).mono ?_
          rintro e w1 ⟨rfl, b1⟩
          have B1 := hide ((unhide HB).trans (b1.mono (unhide HB).size))
          have R1 := hide ((unhide HR).up b1)
          have BA1 := hide ((unhide B1).alloc (unhide B1).size (.cells #[.int .i64 0, .string ⟨#[]⟩, .int .i64 0, .string ⟨#[]⟩] 32))
          have RA1 := hide ((unhide R1).up ((Below.refl _ _).alloc (Nat.le_refl _) (.cells #[.int .i64 0, .string ⟨#[]⟩, .int .i64 0, .string ⟨#[]⟩] 32)))
          clear b1 HRD1 HRD0
          go_wp2_with fail
          refine bodyPost_ret (v := .tuple #[.slice a' k c', .int .i64 (p : Int)]) (by simp [results, Try.results35, go_sem]) rfl ?_
          exact ⟨_, by rw [(unhide HE).2], by rw [(unhide HE).1]; exact RA1, unhide BA1⟩
        · refine (unhide HRD1 _ (unhide HB)).mono ?_
          rintro e w1 ⟨rfl, b1⟩
          have B1 := hide ((unhide HB).trans (b1.mono (unhide HB).size))
          have R1 := hide ((unhide HR).up b1)
          have BA1 := hide ((unhide B1).alloc (unhide B1).size (.cells #[.int .i64 0, .string ⟨#[]⟩, .int .i64 0, .string ⟨#[]⟩] 32))
          have RA1 := hide ((unhide R1).up ((Below.refl _ _).alloc (Nat.le_refl _) (.cells #[.int .i64 0, .string ⟨#[]⟩, .int .i64 0, .string ⟨#[]⟩] 32)))
          clear b1 HRD1 HRD0
          go_wp2_with fail
          refine bodyPost_ret (v := .tuple #[.slice a' k c', .int .i64 (p : Int)]) (by simp [results, Try.results35, go_sem]) rfl ?_
          exact ⟨_, by rw [(unhide HE).2], by rw [(unhide HE).1]; exact RA1, unhide BA1⟩
      | some q =>
        obtain ⟨r, n⟩ := q
        have HG := hide (lg_step (unhide HLT) hk2 hr)
        obtain ⟨_, _, hn1, hn2⟩ := read_facts hr
        rw [List.length_drop] at hn1
        rw [hr] at HRD1 HRD0
        simp only [readVal] at HRD1 HRD0
        have hlen := hide (show rs.length ≤ 1000000 by rw [unhide HKL]; omega)
        have HKL2 := hide (show (rs ++ [r]).length = k + 1 by rw [List.length_append, unhide HKL]; rfl)
        clear hr HLT
        go_wp2_with fail
        refine (unhide HRD1 _ (unhide HB)).mono ?_
        rintro e w1 ⟨rfl, b1⟩
        have B1 := hide ((unhide HB).trans (b1.mono (unhide HB).size))
        have R1 := hide ((unhide HR).up b1)
        clear b1 HRD1 HRD0
        have bA : Below w1.heap.size w1 (w1.alloc (.cells #[.int .i64 r.kind, .string r.name, .int .i64 r.num, .string r.text] 32)) := (Below.refl _ _).alloc (Nat.le_refl _) _
        have RA1 := hide ((unhide R1).up bA)
        have BA1 := hide ((unhide B1).trans (bA.mono (unhide B1).size))
        obtain ⟨d0, d1, d2, d3⟩ := (boxF_new w1 [.int .i64 r.kind, .string r.name, .int .i64 r.num, .string r.text] 32).1.four
        clear bA
        have bB : Below (w1.alloc (.cells #[.int .i64 r.kind, .string r.name, .int .i64 r.num, .string r.text] 32)).heap.size (w1.alloc (.cells #[.int .i64 r.kind, .string r.name, .int .i64 r.num, .string r.text] 32)) ((w1.alloc (.cells #[.int .i64 r.kind, .string r.name, .int .i64 r.num, .string r.text] 32)).alloc (.cells #[.int .i64 r.kind, .string r.name, .int .i64 r.num, .string r.text] 32)) := (Below.refl _ _).alloc (Nat.le_refl _) _
        have R2 := hide ((unhide RA1).up bB)
        have B2 := hide ((unhide BA1).trans (bB.mono (unhide BA1).size))
        obtain ⟨c0, c1, c2, c3⟩ := (boxF_new (w1.alloc (.cells #[.int .i64 r.kind, .string r.name, .int .i64 r.num, .string r.text] 32)) [.int .i64 r.kind, .string r.name, .int .i64 r.num, .string r.text] 32).1.four
        rw [World.size_alloc] at c0 c1 c2 c3
        clear bB
        go_wp2_with (first
          | (at_builtin; have _g := R2; refine wpList_recAppend rfl _ _ rfl w.heap.size (.slice a' k c') rs r (w1.heap.size + 1) rfl rfl (unhide R2) c0 c1 c2 c3 (unhide hlen) (unhide B2).size ?_; intro g2 n2 c2' w3 hr3 hg3 _; have R3 := hide hr3; have B3 := hide ((unhide B2).grown hg3 (unhide B2).size (fun y hy => (unhide R2).ge y hy)); clear hr3 hg3 R2)
          | fail)
        have hn2' : n2 = k + 1 := by
          obtain ⟨ga, gc, hge⟩ := (unhide R3).slice
          rw [unhide HKL2] at hge
          injection hge
        subst hn2'
        refine ⟨⟨k + 1, p + n, rs ++ [r], by omega, by omega, by rw [Int.natCast_add], HKL2, ⟨_, _, rfl⟩, R3, HG, B3⟩, ?_⟩
        show 200 - (k + 1) < 200 - k
        omega
    · obtain rfl : k = 200 := by omega
      have HE := hide (lg_full (unhide HLT))
      have hki : ¬ ((200 : Nat) : Int) < 200 := by omega
      go_wp2_with fail
      refine bodyPost_ret (v := .tuple #[.slice a' 200 c', .int .i64 (p : Int)]) (by simp [results, Try.results35, go_sem]) rfl ?_
      exact ⟨_, by rw [(unhide HE).2], by rw [(unhide HE).1]; exact HR, unhide HB⟩
end Go.Proofs.Ytddmomcanakoiaa

set_option linter.unusedVariables false
namespace Go.Proofs.Ytddmomcanakoiaa
open Go.RowKit Go.Maps

theorem boxes3 (w : World) (A B C : List Value) (TA TB TC : TypeId) :
    BoxF (((w.alloc (.cells A.toArray TA)).alloc (.cells B.toArray TB)).alloc (.cells C.toArray TC)) w.heap.size A ∧ BoxF (((w.alloc (.cells A.toArray TA)).alloc (.cells B.toArray TB)).alloc (.cells C.toArray TC)) (w.heap.size + 1) B ∧ BoxF (((w.alloc (.cells A.toArray TA)).alloc (.cells B.toArray TB)).alloc (.cells C.toArray TC)) (w.heap.size + 2) C ∧ Below w.heap.size w (((w.alloc (.cells A.toArray TA)).alloc (.cells B.toArray TB)).alloc (.cells C.toArray TC)) ∧ (((w.alloc (.cells A.toArray TA)).alloc (.cells B.toArray TB)).alloc (.cells C.toArray TC)).heap.size = w.heap.size + 3 := by
  have a1 := boxF_new w A TA
  have b1 := (Below.refl w.heap.size w).alloc (Nat.le_refl _) (.cells A.toArray TA)
  have z1 : (w.alloc (.cells A.toArray TA)).heap.size = w.heap.size + 1 := by simp
  generalize w.alloc (.cells A.toArray TA) = w1 at *
  have a2 := boxF_new w1 B TB
  have u2 := (Below.refl w1.heap.size w1).alloc (Nat.le_refl _) (.cells B.toArray TB)
  have z2 : (w1.alloc (.cells B.toArray TB)).heap.size = w1.heap.size + 1 := by simp
  generalize w1.alloc (.cells B.toArray TB) = w2 at *
  have a3 := boxF_new w2 C TC
  have u3 := (Below.refl w2.heap.size w2).alloc (Nat.le_refl _) (.cells C.toArray TC)
  have z3 : (w2.alloc (.cells C.toArray TC)).heap.size = w2.heap.size + 1 := by simp
  generalize w2.alloc (.cells C.toArray TC) = w3 at *
  refine ⟨(a1.up u2).up u3, ?_, ?_, (b1.trans (u2.mono (by omega))).trans (u3.mono (by omega)), by omega⟩
  · rw [← z1]; exact a2.up u3
  · rw [show w.heap.size + 2 = w2.heap.size by omega]; exact a3
end Go.Proofs.Ytddmomcanakoiaa
