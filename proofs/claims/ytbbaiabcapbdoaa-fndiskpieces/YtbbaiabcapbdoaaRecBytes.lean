/-
  RecBytes of both sides: what a record's bytes are.
-/
import Derived.Test.YtbbaiabcapbdoaaRecs
import Derived.Test.YtbbaiabcapbdoaaRecSum
import Derived.Test.YtbbaiabcapbdoaaNumBytes
import Derived.Test.YtbbaiabcapbdoaaBoxes
import Derived.Deep.RegionLaw
set_option linter.unusedVariables false
namespace Go.Proofs.Ytbbaiabcapbdoaa
open Go.RowKit Go.Maps Go.Deep

/-- what stands behind the name, by the kind -/
def recTail (r : RecV) : List UInt8 := if r.kind = 1 then beB r.text.size 0 :: r.text.data.toList else if r.kind = 3 ∨ r.kind = 4 then beL r.num 8 else []
def recBody (r : RecV) : List UInt8 := [beB r.kind 0, beB r.name.size 0] ++ r.name.data.toList ++ recTail r
def recAll (r : RecV) : List UInt8 := recBody r ++ beL (recSum (recBody r)) 2
def recBytesL (r : RecV) : List UInt8 := if recOkB r then recAll r else []
theorem bytes_len (s : ByteArray) : s.data.toList.length = s.size := by simp
theorem ok_sizes {r : RecV} (h : recOkB r = true) : r.name.size ≤ 8 ∧ r.text.size ≤ 200 ∧ (r.kind = 1 ∨ r.kind = 2 ∨ r.kind = 3 ∨ r.kind = 4) := by
  simp only [recOkB, Bool.and_eq_true] at h
  obtain ⟨hp, hf⟩ := h
  have h8 : r.name.size ≤ 8 := by
    simp only [plainB, Bool.and_eq_true, decide_eq_true_eq] at hp
    exact hp.1.2
  refine ⟨h8, ?_⟩
  unfold fitsB at hf
  by_cases k1 : r.kind = 1
  · rw [if_pos k1] at hf
    simp at hf
    exact ⟨by omega, .inl k1⟩
  · rw [if_neg k1] at hf
    by_cases k2 : r.kind = 2
    · rw [if_pos k2] at hf
      simp [emptyB] at hf
      exact ⟨by rw [hf.2]; simp, .inr (.inl k2)⟩
    · rw [if_neg k2] at hf
      by_cases k3 : r.kind = 3
      · rw [if_pos k3] at hf
        simp [emptyB] at hf
        exact ⟨by rw [hf]; simp, .inr (.inr (.inl k3))⟩
      · rw [if_neg k3] at hf
        by_cases k4 : r.kind = 4
        · rw [if_pos k4] at hf
          simp [emptyB] at hf
          exact ⟨by rw [hf.1.1]; simp, .inr (.inr (.inr k4))⟩
        · rw [if_neg k4] at hf
          cases hf
theorem tail_len (r : RecV) (h : r.text.size ≤ 200) : (recTail r).length ≤ 208 := by
  unfold recTail
  split
  · simp; omega
  · split
    · rw [beL_length]; omega
    · simp
theorem body_len {r : RecV} (h8 : r.name.size ≤ 8) (h : r.text.size ≤ 200) : (recBody r).length ≤ 220 := by
  have := tail_len r h
  unfold recBody
  simp
  omega
theorem rec_len {r : RecV} (h : recOkB r = true) : (recAll r).length ≤ 222 := by
  obtain ⟨h8, ht, _⟩ := ok_sizes h
  have := body_len h8 ht
  unfold recAll
  rw [List.length_append, beL_length]
  omega
def RetRec (r : RecV) (w : World) (e : Ending) (w' : World) : Prop := ∃ a n c, e = .returned (.tuple #[.slice a n c, .bool (recOkB r)]) ∧ ByRow w.heap.size w' (.slice a n c) (recBytesL r) ∧ Below w.heap.size w w'
theorem u8_wrap (x : Int) : IntKind.u8.wrap x = ((beB x 0).toNat : Int) := by rw [beB_val]; simp
theorem beB_small (x : Int) (h0 : 0 ≤ x) (h1 : x < 256) : ((beB x 0).toNat : Int) = x := by
  rw [← u8_wrap]
  show x % 256 = x
  omega
theorem byLit2 (w : World) (x y : Int) (B : Nat) (hB : B ≤ w.heap.size) (hx0 : 0 ≤ x) (hx1 : x < 256) (hy0 : 0 ≤ y) (hy1 : y < 256) : ByRow B (w.alloc (.cells #[.int .u8 x, .int .u8 y] 5)) (.slice (some ⟨w.heap.size, 0, none⟩) 2 2) [beB x 0, beB y 0] := by
  have := World.ownsRow_lit (size := 1) (base := B) (e := 5) w #[.int .u8 x, .int .u8 y] 2 hB (by unfold maxLen; omega) rfl
  unfold ByRow
  simp only [List.map, byV, beB_small x hx0 hx1, beB_small y hy0 hy1]
  exact this
theorem byLit1 (w : World) (x : Int) (hx0 : 0 ≤ x) (hx1 : x < 256) : ByRd (w.alloc (.cells #[.int .u8 x] 5)) (.slice (some ⟨w.heap.size, 0, none⟩) 1 1) [beB x 0] := by
  have := byCell1 w (beB x 0)
  rwa [beB_small x hx0 hx1] at this
/-- the sum's two bytes -/
theorem sum_bytes (s : Int) (h0 : 0 ≤ s) (h1 : s < 65521) : beL s 2 = [beB (s / 256) 0, beB (s % 256) 0] := by
  have e1 : beB s 1 = beB (s / 256) 0 := by unfold beB; congr 2; simp
  have e0 : beB s 0 = beB (s % 256) 0 := by unfold beB; congr 2; simp
  simp [beL, e1, e0]

set_option maxHeartbeats 1600000 in
theorem specRecBytes_no (r : RecV) (w : World) (hf : RecFit r) (hb : recOkB r = false) : Calls Try.prog 41 #[recVal r] w fun e w' => RetRec r w e w' := by
  have HK := hide (fun W => specRecOk_any r W hf)
  rw [hb] at HK
  have HV := hide (show recBytesL r = [] by simp [recBytesL, hb])
  have HB := hide hb
  unfold recVal at HK ⊢
  clear hb hf
  go_enter Try.func41, Try.ntmps41
  go_wp2_with fail
  refine (unhide HK _).mono ?_
  rintro e w1 ⟨rfl, b1⟩
  have B1 := hide (show Below w.heap.size w w1 from Below.trans (by go_grown) (b1.mono (by simp)))
  clear b1
  go_wp2_with fail
  go_ret2
  exact ⟨none, 0, 0, by rw [unhide HB]; rfl, by rw [unhide HV]; exact ByRow.nil _ _, unhide B1⟩
set_option maxHeartbeats 6400000 in
theorem specRecBytes_1 (r : RecV) (w : World) (hf : RecFit r) (hb : recOkB r = true) (hk : r.kind = 1) : Calls Try.prog 41 #[recVal r] w fun e w' => RetRec r w e w' := by
  have HK := hide (fun W => specRecOk_any r W hf)
  rw [hb] at HK
  obtain ⟨h8, ht, _⟩ := ok_sizes hb
  have HBD := hide (show recBody r = [beB r.kind 0, beB r.name.size 0] ++ r.name.data.toList ++ (beB r.text.size 0 :: r.text.data.toList) by simp [recBody, recTail, hk])
  have HLEN := hide (body_len h8 ht)
  have HV := hide (show recBytesL r = recBody r ++ [beB (recSum (recBody r) / 256) 0, beB (recSum (recBody r) % 256) 0] by
    obtain ⟨s0, s1⟩ := recSum_range (recBody r)
    simp only [recBytesL, hb, if_true, recAll, sum_bytes _ s0 s1])
  have HB := hide hb
  obtain ⟨s0, s1⟩ := recSum_range (recBody r)
  unfold recVal at HK ⊢
  have BX0 := hide (boxMade4 w (.int .i64 r.kind) (.string r.name) (.int .i64 r.num) (.string r.text) 71)
  have kb0 : 0 ≤ r.kind := by omega
  have kb1 : r.kind < 256 := by omega
  have q1 : (r.kind == 1) = true := by rw [hk]; rfl
  have q3 : (r.kind == 3) = false := by rw [hk]; rfl
  have q4 : (r.kind == 4) = false := by rw [hk]; rfl
  clear hb hf hk
  go_enter Try.func41, Try.ntmps41
  go_wp2_with fail
  refine (unhide HK _).mono ?_
  rintro e w1 ⟨rfl, b1⟩
  have BX1 := hide ((unhide BX0).up b1)
  have B1 := hide (show Below w.heap.size w w1 from Below.trans (by go_grown) (b1.mono (by simp)))
  have hz1 : w.heap.size < w1.heap.size := (unhide BX1).1
  have RA := hide (byLit2 w1 r.kind r.name.size w1.heap.size (Nat.le_refl _) (by omega) (by omega) (by omega) (by omega))
  clear b1
  obtain ⟨x0, x1, x2, x3⟩ := (unhide BX1).four
  go_wp2_with (first
    | (at_builtin; have _t := RD; refine wpList_byAppend rfl _ _ rfl w1.heap.size _ _ (recBody r) [beB (recSum (recBody r) / 256) 0, beB (recSum (recBody r) % 256) 0] rfl rfl ((unhide RD).up' _) (byLit2 _ _ _ 0 (Nat.zero_le _) (by omega) (by omega) (by omega) (by omega)).rd (by have := unhide HLEN; simp; omega) (by have := (unhide BB4).size; simp; omega) ?_; intro a6 c6 w6 r6 g6 _; generalize ((recBody r).length + [beB (recSum (recBody r) / 256) 0, beB (recSum (recBody r) % 256) 0].length) = n6 at *; have R6 := hide r6; have BB6 := hide (((unhide BB4).alloc (unhide BB4).size _).grown g6 (by have := (unhide BB4).size; simp; omega) (fun y hy => (unhide RD).ge y hy)); clear r6 g6 RD)
    | (go_at_call 49; refine (specSum_any _ _ (recBody r) (by have := unhide HLEN; unfold maxLen; omega) (unhide RD).rd).mono ?_; rintro e w5 ⟨rfl, hw5⟩; rw [hw5]; clear hw5 w5)
    | (at_builtin; have _t := RC; refine wpList_byAppendStr rfl _ _ rfl w1.heap.size _ r.text _ rfl rfl (unhide RC) (by simp; omega) (unhide BB3).size ?_; intro a4 n4 c4 w4 r4 g4; have RD := hide (show ByRow w1.heap.size w4 (.slice a4 n4 c4) (recBody r) from by rw [unhide HBD]; simpa using r4); have BB4 := hide ((unhide BB3).grown g4 (unhide BB3).size (fun y hy => (unhide RC).ge y hy)); have hs4 := (unhide BB4).size; clear r4 g4 RC x0 x1 x2 x3)
    | (at_builtin; have _t := RB; refine wpList_byAppend rfl _ _ rfl w1.heap.size _ _ _ [beB r.text.size 0] rfl rfl ((unhide RB).up' _) (byLit1 _ _ (by omega) (by omega)) (by simp; omega) (by simp; omega) ?_; intro a3 c3 w3 r3 g3 _; generalize (([beB r.kind 0, beB r.name.size 0] ++ r.name.data.toList).length + [beB r.text.size 0].length) = n3 at *; have RC := hide r3; have BB3 := hide (((unhide BB2).alloc (unhide BB2).size _).grown g3 (by simp; omega) (fun y hy => (unhide RB).ge y hy)); have hs3 := (unhide BB3).size; clear r3 g3 RB x0 x1 x2 x3; obtain ⟨x0, x1, x2, x3⟩ := ((unhide BX1).up (unhide BB3)).four; have hz3 : w.heap.size < w3.heap.size := by omega)
    | (at_builtin; have _t := RA; refine wpList_byAppendStr rfl _ _ rfl w1.heap.size _ r.name _ rfl rfl (unhide RA) (by simp; omega) (by simp) ?_; intro a2 n2 c2 w2 r2 g2; have RB := hide r2; have BB2 := hide (((Below.refl w1.heap.size w1).alloc (Nat.le_refl _) _).grown g2 (by simp) (fun y hy => (unhide RA).ge y hy)); have hs2 := (unhide BB2).size; clear r2 g2 RA x0 x1 x2 x3; obtain ⟨x0, x1, x2, x3⟩ := ((unhide BX1).up (unhide BB2)).four; have hz2 : w.heap.size < w2.heap.size := by omega)
    | fail)
  go_ret2
  exact ⟨a6, n6, c6, by rw [unhide HB]; rfl, by rw [unhide HV]; exact (unhide R6).mono (by omega), (unhide B1).trans ((unhide BB6).mono (unhide B1).size)⟩
set_option maxHeartbeats 6400000 in
theorem specRecBytes_2 (r : RecV) (w : World) (hf : RecFit r) (hb : recOkB r = true) (hk : r.kind = 2) : Calls Try.prog 41 #[recVal r] w fun e w' => RetRec r w e w' := by
  have HK := hide (fun W => specRecOk_any r W hf)
  rw [hb] at HK
  obtain ⟨h8, ht, _⟩ := ok_sizes hb
  have HBD := hide (show recBody r = [beB r.kind 0, beB r.name.size 0] ++ r.name.data.toList ++ ([]) by simp [recBody, recTail, hk])
  have HLEN := hide (body_len h8 ht)
  have HV := hide (show recBytesL r = recBody r ++ [beB (recSum (recBody r) / 256) 0, beB (recSum (recBody r) % 256) 0] by
    obtain ⟨s0, s1⟩ := recSum_range (recBody r)
    simp only [recBytesL, hb, if_true, recAll, sum_bytes _ s0 s1])
  have HB := hide hb
  obtain ⟨s0, s1⟩ := recSum_range (recBody r)
  unfold recVal at HK ⊢
  have BX0 := hide (boxMade4 w (.int .i64 r.kind) (.string r.name) (.int .i64 r.num) (.string r.text) 71)
  have kb0 : 0 ≤ r.kind := by omega
  have kb1 : r.kind < 256 := by omega
  have q1 : (r.kind == 1) = false := by rw [hk]; rfl
  have q3 : (r.kind == 3) = false := by rw [hk]; rfl
  have q4 : (r.kind == 4) = false := by rw [hk]; rfl
  clear hb hf hk
  go_enter Try.func41, Try.ntmps41
  go_wp2_with fail
  refine (unhide HK _).mono ?_
  rintro e w1 ⟨rfl, b1⟩
  have BX1 := hide ((unhide BX0).up b1)
  have B1 := hide (show Below w.heap.size w w1 from Below.trans (by go_grown) (b1.mono (by simp)))
  have hz1 : w.heap.size < w1.heap.size := (unhide BX1).1
  have RA := hide (byLit2 w1 r.kind r.name.size w1.heap.size (Nat.le_refl _) (by omega) (by omega) (by omega) (by omega))
  clear b1
  obtain ⟨x0, x1, x2, x3⟩ := (unhide BX1).four
  go_wp2_with (first
    | (at_builtin; have _t := RD; refine wpList_byAppend rfl _ _ rfl w1.heap.size _ _ (recBody r) [beB (recSum (recBody r) / 256) 0, beB (recSum (recBody r) % 256) 0] rfl rfl ((unhide RD).up' _) (byLit2 _ _ _ 0 (Nat.zero_le _) (by omega) (by omega) (by omega) (by omega)).rd (by have := unhide HLEN; simp; omega) (by have := (unhide BB2).size; simp; omega) ?_; intro a6 c6 w6 r6 g6 _; generalize ((recBody r).length + [beB (recSum (recBody r) / 256) 0, beB (recSum (recBody r) % 256) 0].length) = n6 at *; have R6 := hide r6; have BB6 := hide (((unhide BB2).alloc (unhide BB2).size _).grown g6 (by have := (unhide BB2).size; simp; omega) (fun y hy => (unhide RD).ge y hy)); clear r6 g6 RD)
    | (go_at_call 49; refine (specSum_any _ _ (recBody r) (by have := unhide HLEN; unfold maxLen; omega) (unhide RD).rd).mono ?_; rintro e w5 ⟨rfl, hw5⟩; rw [hw5]; clear hw5 w5)
    | (at_builtin; have _t := RA; refine wpList_byAppendStr rfl _ _ rfl w1.heap.size _ r.name _ rfl rfl (unhide RA) (by simp; omega) (by simp) ?_; intro a2 n2 c2 w2 r2 g2; have RD := hide (show ByRow w1.heap.size w2 (.slice a2 n2 c2) (recBody r) from by rw [unhide HBD]; simpa using r2); have BB2 := hide (((Below.refl w1.heap.size w1).alloc (Nat.le_refl _) _).grown g2 (by simp) (fun y hy => (unhide RA).ge y hy)); have hs2 := (unhide BB2).size; clear r2 g2 RA x0 x1 x2 x3; obtain ⟨x0, x1, x2, x3⟩ := ((unhide BX1).up (unhide BB2)).four; have hz2 : w.heap.size < w2.heap.size := by omega)
    | fail)
  go_ret2
  exact ⟨a6, n6, c6, by rw [unhide HB]; rfl, by rw [unhide HV]; exact (unhide R6).mono (by omega), (unhide B1).trans ((unhide BB6).mono (unhide B1).size)⟩
set_option maxHeartbeats 6400000 in
theorem specRecBytes_3 (r : RecV) (w : World) (hf : RecFit r) (hb : recOkB r = true) (hk : r.kind = 3) : Calls Try.prog 41 #[recVal r] w fun e w' => RetRec r w e w' := by
  have HK := hide (fun W => specRecOk_any r W hf)
  rw [hb] at HK
  obtain ⟨h8, ht, _⟩ := ok_sizes hb
  have HBD := hide (show recBody r = [beB r.kind 0, beB r.name.size 0] ++ r.name.data.toList ++ (beL r.num 8) by simp [recBody, recTail, hk])
  have HLEN := hide (body_len h8 ht)
  have HV := hide (show recBytesL r = recBody r ++ [beB (recSum (recBody r) / 256) 0, beB (recSum (recBody r) % 256) 0] by
    obtain ⟨s0, s1⟩ := recSum_range (recBody r)
    simp only [recBytesL, hb, if_true, recAll, sum_bytes _ s0 s1])
  have HB := hide hb
  obtain ⟨s0, s1⟩ := recSum_range (recBody r)
  unfold recVal at HK ⊢
  have BX0 := hide (boxMade4 w (.int .i64 r.kind) (.string r.name) (.int .i64 r.num) (.string r.text) 71)
  have kb0 : 0 ≤ r.kind := by omega
  have kb1 : r.kind < 256 := by omega
  have q1 : (r.kind == 1) = false := by rw [hk]; rfl
  have q3 : (r.kind == 3) = true := by rw [hk]; rfl
  have q4 : (r.kind == 4) = false := by rw [hk]; rfl
  clear hb hf hk
  go_enter Try.func41, Try.ntmps41
  go_wp2_with fail
  refine (unhide HK _).mono ?_
  rintro e w1 ⟨rfl, b1⟩
  have BX1 := hide ((unhide BX0).up b1)
  have B1 := hide (show Below w.heap.size w w1 from Below.trans (by go_grown) (b1.mono (by simp)))
  have hz1 : w.heap.size < w1.heap.size := (unhide BX1).1
  have RA := hide (byLit2 w1 r.kind r.name.size w1.heap.size (Nat.le_refl _) (by omega) (by omega) (by omega) (by omega))
  clear b1
  obtain ⟨x0, x1, x2, x3⟩ := (unhide BX1).four
  go_wp2_with (first
    | (at_builtin; have _t := RD; refine wpList_byAppend rfl _ _ rfl w1.heap.size _ _ (recBody r) [beB (recSum (recBody r) / 256) 0, beB (recSum (recBody r) % 256) 0] rfl rfl ((unhide RD).up' _) (byLit2 _ _ _ 0 (Nat.zero_le _) (by omega) (by omega) (by omega) (by omega)).rd (by have := unhide HLEN; simp; omega) (by have := (unhide BB4).size; simp; omega) ?_; intro a6 c6 w6 r6 g6 _; generalize ((recBody r).length + [beB (recSum (recBody r) / 256) 0, beB (recSum (recBody r) % 256) 0].length) = n6 at *; have R6 := hide r6; have BB6 := hide (((unhide BB4).alloc (unhide BB4).size _).grown g6 (by have := (unhide BB4).size; simp; omega) (fun y hy => (unhide RD).ge y hy)); clear r6 g6 RD)
    | (go_at_call 49; refine (specSum_any _ _ (recBody r) (by have := unhide HLEN; unfold maxLen; omega) (unhide RD).rd).mono ?_; rintro e w5 ⟨rfl, hw5⟩; rw [hw5]; clear hw5 w5)
    | (at_builtin; have _t := RB3; refine wpList_byAppend rfl _ _ rfl w1.heap.size _ _ _ (beL r.num 8) rfl rfl (unhide RB3) (unhide U3) (by simp [beL_length]; omega) (unhide BB3).size ?_; intro a4 c4 w4 r4 g4 _; generalize (([beB r.kind 0, beB r.name.size 0] ++ r.name.data.toList).length + (beL r.num 8).length) = n4 at *; have RD := hide (show ByRow w1.heap.size w4 (.slice a4 n4 c4) (recBody r) from by rw [unhide HBD]; simpa using r4); have BB4 := hide ((unhide BB3).grown g4 (unhide BB3).size (fun y hy => (unhide RB3).ge y hy)); have hs4 := (unhide BB4).size; clear r4 g4 RB3)
    | (go_at_call 48; refine (l7Eight_any _ _).mono ?_; rintro e w3 ⟨a3, n3, c3, rfl, hn3, r3, b3⟩; have U3 := hide r3.rd; have RB3 := hide ((unhide RB).up b3); have BB3 := hide ((unhide BB2).trans (b3.mono (unhide BB2).size)); have hs3 := (unhide BB3).size; clear r3 b3 RB x0 x1 x2 x3)
    | (at_builtin; have _t := RA; refine wpList_byAppendStr rfl _ _ rfl w1.heap.size _ r.name _ rfl rfl (unhide RA) (by simp; omega) (by simp) ?_; intro a2 n2 c2 w2 r2 g2; have RB := hide r2; have BB2 := hide (((Below.refl w1.heap.size w1).alloc (Nat.le_refl _) _).grown g2 (by simp) (fun y hy => (unhide RA).ge y hy)); have hs2 := (unhide BB2).size; clear r2 g2 RA x0 x1 x2 x3; obtain ⟨x0, x1, x2, x3⟩ := ((unhide BX1).up (unhide BB2)).four; have hz2 : w.heap.size < w2.heap.size := by omega)
    | fail)
  go_ret2
  exact ⟨a6, n6, c6, by rw [unhide HB]; rfl, by rw [unhide HV]; exact (unhide R6).mono (by omega), (unhide B1).trans ((unhide BB6).mono (unhide B1).size)⟩
set_option maxHeartbeats 6400000 in
theorem specRecBytes_4 (r : RecV) (w : World) (hf : RecFit r) (hb : recOkB r = true) (hk : r.kind = 4) : Calls Try.prog 41 #[recVal r] w fun e w' => RetRec r w e w' := by
  have HK := hide (fun W => specRecOk_any r W hf)
  rw [hb] at HK
  obtain ⟨h8, ht, _⟩ := ok_sizes hb
  have HBD := hide (show recBody r = [beB r.kind 0, beB r.name.size 0] ++ r.name.data.toList ++ (beL r.num 8) by simp [recBody, recTail, hk])
  have HLEN := hide (body_len h8 ht)
  have HV := hide (show recBytesL r = recBody r ++ [beB (recSum (recBody r) / 256) 0, beB (recSum (recBody r) % 256) 0] by
    obtain ⟨s0, s1⟩ := recSum_range (recBody r)
    simp only [recBytesL, hb, if_true, recAll, sum_bytes _ s0 s1])
  have HB := hide hb
  obtain ⟨s0, s1⟩ := recSum_range (recBody r)
  unfold recVal at HK ⊢
  have BX0 := hide (boxMade4 w (.int .i64 r.kind) (.string r.name) (.int .i64 r.num) (.string r.text) 71)
  have kb0 : 0 ≤ r.kind := by omega
  have kb1 : r.kind < 256 := by omega
  have q1 : (r.kind == 1) = false := by rw [hk]; rfl
  have q3 : (r.kind == 3) = false := by rw [hk]; rfl
  have q4 : (r.kind == 4) = true := by rw [hk]; rfl
  clear hb hf hk
  go_enter Try.func41, Try.ntmps41
  go_wp2_with fail
  refine (unhide HK _).mono ?_
  rintro e w1 ⟨rfl, b1⟩
  have BX1 := hide ((unhide BX0).up b1)
  have B1 := hide (show Below w.heap.size w w1 from Below.trans (by go_grown) (b1.mono (by simp)))
  have hz1 : w.heap.size < w1.heap.size := (unhide BX1).1
  have RA := hide (byLit2 w1 r.kind r.name.size w1.heap.size (Nat.le_refl _) (by omega) (by omega) (by omega) (by omega))
  clear b1
  obtain ⟨x0, x1, x2, x3⟩ := (unhide BX1).four
  go_wp2_with (first
    | (at_builtin; have _t := RD; refine wpList_byAppend rfl _ _ rfl w1.heap.size _ _ (recBody r) [beB (recSum (recBody r) / 256) 0, beB (recSum (recBody r) % 256) 0] rfl rfl ((unhide RD).up' _) (byLit2 _ _ _ 0 (Nat.zero_le _) (by omega) (by omega) (by omega) (by omega)).rd (by have := unhide HLEN; simp; omega) (by have := (unhide BB4).size; simp; omega) ?_; intro a6 c6 w6 r6 g6 _; generalize ((recBody r).length + [beB (recSum (recBody r) / 256) 0, beB (recSum (recBody r) % 256) 0].length) = n6 at *; have R6 := hide r6; have BB6 := hide (((unhide BB4).alloc (unhide BB4).size _).grown g6 (by have := (unhide BB4).size; simp; omega) (fun y hy => (unhide RD).ge y hy)); clear r6 g6 RD)
    | (go_at_call 49; refine (specSum_any _ _ (recBody r) (by have := unhide HLEN; unfold maxLen; omega) (unhide RD).rd).mono ?_; rintro e w5 ⟨rfl, hw5⟩; rw [hw5]; clear hw5 w5)
    | (at_builtin; have _t := RB3; refine wpList_byAppend rfl _ _ rfl w1.heap.size _ _ _ (beL r.num 8) rfl rfl (unhide RB3) (unhide U3) (by simp [beL_length]; omega) (unhide BB3).size ?_; intro a4 c4 w4 r4 g4 _; generalize (([beB r.kind 0, beB r.name.size 0] ++ r.name.data.toList).length + (beL r.num 8).length) = n4 at *; have RD := hide (show ByRow w1.heap.size w4 (.slice a4 n4 c4) (recBody r) from by rw [unhide HBD]; simpa using r4); have BB4 := hide ((unhide BB3).grown g4 (unhide BB3).size (fun y hy => (unhide RB3).ge y hy)); have hs4 := (unhide BB4).size; clear r4 g4 RB3)
    | (go_at_call 48; refine (l7Eight_any _ _).mono ?_; rintro e w3 ⟨a3, n3, c3, rfl, hn3, r3, b3⟩; have U3 := hide r3.rd; have RB3 := hide ((unhide RB).up b3); have BB3 := hide ((unhide BB2).trans (b3.mono (unhide BB2).size)); have hs3 := (unhide BB3).size; clear r3 b3 RB x0 x1 x2 x3)
    | (at_builtin; have _t := RA; refine wpList_byAppendStr rfl _ _ rfl w1.heap.size _ r.name _ rfl rfl (unhide RA) (by simp; omega) (by simp) ?_; intro a2 n2 c2 w2 r2 g2; have RB := hide r2; have BB2 := hide (((Below.refl w1.heap.size w1).alloc (Nat.le_refl _) _).grown g2 (by simp) (fun y hy => (unhide RA).ge y hy)); have hs2 := (unhide BB2).size; clear r2 g2 RA x0 x1 x2 x3; obtain ⟨x0, x1, x2, x3⟩ := ((unhide BX1).up (unhide BB2)).four; have hz2 : w.heap.size < w2.heap.size := by omega)
    | fail)
  go_ret2
  exact ⟨a6, n6, c6, by rw [unhide HB]; rfl, by rw [unhide HV]; exact (unhide R6).mono (by omega), (unhide B1).trans ((unhide BB6).mono (unhide B1).size)⟩
theorem specRecBytes_any (r : RecV) (w : World) (hf : RecFit r) : Calls Try.prog 41 #[recVal r] w fun e w' => RetRec r w e w' := by
  cases hb : recOkB r
  · exact specRecBytes_no r w hf hb
  · obtain ⟨_, _, h | h | h | h⟩ := ok_sizes hb
    · exact specRecBytes_1 r w hf hb h
    · exact specRecBytes_2 r w hf hb h
    · exact specRecBytes_3 r w hf hb h
    · exact specRecBytes_4 r w hf hb h
end Go.Proofs.Ytbbaiabcapbdoaa
