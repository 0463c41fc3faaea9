/-
  RecBytes of both sides: what a record's bytes are.
-/
import Derived.Test.YtcpjcdbhcllbiaaRecs
import Derived.Test.YtcpjcdbhcllbiaaRecSum
import Derived.Test.YtcpjcdbhcllbiaaNumBytes
import Derived.Test.YtcpjcdbhcllbiaaBoxes
import Derived.Deep.RegionLaw
set_option linter.unusedVariables false
namespace Go.Proofs.Ytcpjcdbhcllbiaa
open Go.RowKit Go.Maps Go.Deep

/-- what stands behind the name, by the kind -/
def recTail (r : RecV) : List UInt8 := if r.kind = 1 then beB r.text.size 0 :: r.text.data.toList else if r.kind = 3 ∨ r.kind = 4 then beL r.num 8 else []
def recBody (r : RecV) : List UInt8 := [beB r.kind 0, beB r.name.size 0] ++ r.name.data.toList ++ recTail r
def recAll (r : RecV) : List UInt8 := recBody r ++ beL (recSum (recBody r)) 2
def recBytesL (r : RecV) : List UInt8 := if recOkB r then recAll r else []
theorem bytes_len (s : ByteArray) : s.data.toList.length = s.size := by simp
theorem ok_sizes {r : RecV} (h : recOkB r = true) : r.name.size ≤ 8 ∧ r.text.size ≤ 200 ∧ (r.kind = 1 ∨ r.kind = 2 ∨ r.kind = 3 ∨ r.kind = 4) := by
  simp only [recOkB, Bool.and_eq_true] at h
  obtain ⟨hp, hf⟩ := h
  have h8 : r.name.size ≤ 8 := by
    simp only [plainB, Bool.and_eq_true, decide_eq_true_eq] at hp
    exact hp.1.2
  refine ⟨h8, ?_⟩
  unfold fitsB at hf
  by_cases k1 : r.kind = 1
  · rw [if_pos k1] at hf
    simp at hf
    exact ⟨by omega, .inl k1⟩
  · rw [if_neg k1] at hf
    by_cases k2 : r.kind = 2
    · rw [if_pos k2] at hf
      simp [emptyB] at hf
      exact ⟨by rw [hf.2]; simp, .inr (.inl k2)⟩
    · rw [if_neg k2] at hf
      by_cases k3 : r.kind = 3
      · rw [if_pos k3] at hf
        simp [emptyB] at hf
        exact ⟨by rw [hf]; simp, .inr (.inr (.inl k3))⟩
      · rw [if_neg k3] at hf
        by_cases k4 : r.kind = 4
        · rw [if_pos k4] at hf
          simp [emptyB] at hf
          exact ⟨by rw [hf.1.1]; simp, .inr (.inr (.inr k4))⟩
        · rw [if_neg k4] at hf
          cases hf
theorem tail_len (r : RecV) (h : r.text.size ≤ 200) : (recTail r).length ≤ 208 := by
  unfold recTail
  split
  · simp; omega
  · split
    · rw [beL_length]; omega
    · simp
theorem body_len {r : RecV} (h8 : r.name.size ≤ 8) (h : r.text.size ≤ 200) : (recBody r).length ≤ 220 := by
  have := tail_len r h
  unfold recBody
  simp
  omega
theorem rec_len {r : RecV} (h : recOkB r = true) : (recAll r).length ≤ 222 := by
  obtain ⟨h8, ht, _⟩ := ok_sizes h
  have := body_len h8 ht
  unfold recAll
  rw [List.length_append, beL_length]
  omega
def RetRec (r : RecV) (w : World) (e : Ending) (w' : World) : Prop := ∃ a n c, e = .returned (.tuple #[.slice a n c, .bool (recOkB r)]) ∧ ByRow w.heap.size w' (.slice a n c) (recBytesL r) ∧ Below w.heap.size w w'
theorem u8_wrap (x : Int) : IntKind.u8.wrap x = ((beB x 0).toNat : Int) := by rw [beB_val]; simp
theorem beB_small (x : Int) (h0 : 0 ≤ x) (h1 : x < 256) : ((beB x 0).toNat : Int) = x := by
  rw [← u8_wrap]
  show x % 256 = x
  omega
theorem byLit2 (w : World) (x y : Int) (B : Nat) (hB : B ≤ w.heap.size) (hx0 : 0 ≤ x) (hx1 : x < 256) (hy0 : 0 ≤ y) (hy1 : y < 256) : ByRow B (w.alloc (.cells #[.int .u8 x, .int .u8 y] 5)) (.slice (some ⟨w.heap.size, 0, none⟩) 2 2) [beB x 0, beB y 0] := by
  have := World.ownsRow_lit (size := 1) (base := B) (e := 5) w #[.int .u8 x, .int .u8 y] 2 hB (by unfold maxLen; omega) rfl
  unfold ByRow
  simp only [List.map, byV, beB_small x hx0 hx1, beB_small y hy0 hy1]
  exact this
theorem byLit1 (w : World) (x : Int) (hx0 : 0 ≤ x) (hx1 : x < 256) : ByRd (w.alloc (.cells #[.int .u8 x] 5)) (.slice (some ⟨w.heap.size, 0, none⟩) 1 1) [beB x 0] := by
  have := byCell1 w (beB x 0)
  rwa [beB_small x hx0 hx1] at this
/-- the sum's two bytes -/
theorem sum_bytes (s : Int) (h0 : 0 ≤ s) (h1 : s < 65521) : beL s 2 = [beB (s / 256) 0, beB (s % 256) 0] := by
  have e1 : beB s 1 = beB (s / 256) 0 := by unfold beB; congr 2; simp
  have e0 : beB s 0 = beB (s % 256) 0 := by unfold beB; congr 2; simp
  simp [beL, e1, e0]

set_option maxHeartbeats 1600000 in
theorem specRecBytes_no (r : RecV) (w : World) (hf : RecFit r) (hb : recOkB r = false) : Calls Try.prog 17 #[recVal r] w fun e w' => RetRec r w e w' := by
  have HK := hide (fun W => specRecOk_any r W hf)
  rw [hb] at HK
  have HV := hide (show recBytesL r = [] by simp [recBytesL, hb])
  have HB := hide hb
  unfold recVal at HK ⊢
  clear hb hf
  go_enter Try.func17, Try.ntmps17
  go_wp2_with fail
  refine (unhide HK _).mono ?_
  rintro e w1 ⟨rfl, b1⟩
  have B1 := hide (show Below w.heap.size w w1 from Below.trans (by go_grown) (b1.mono (by simp)))
  clear b1
  go_wp2_with fail
  go_ret2
  exact ⟨none, 0, 0, by rw [unhide HB]; rfl, by rw [unhide HV]; exact ByRow.nil _ _, unhide B1⟩
set_option maxHeartbeats 6400000 in
theorem specRecBytes_1 (r : RecV) (w : World) (hf : RecFit r) (hb : recOkB r = true) (hk : r.kind = 1) : Calls Try.prog 17 #[recVal r] w fun e w' => RetRec r w e w' := by
  have HK := hide (fun W => specRecOk_any r W hf)
  rw [hb] at HK
  obtain ⟨h8, ht, _⟩ := ok_sizes hb
  have HBD := hide (show recBody r = [beB r.kind 0, beB r.name.size 0] ++ r.name.data.toList ++ (beB r.text.size 0 :: r.text.data.toList) by simp [recBody, recTail, hk])
  have HLEN := hide (body_len h8 ht)
  have HV := hide (show recBytesL r = recBody r ++ [beB (recSum (recBody r) / 256) 0, beB (recSum (recBody r) % 256) 0] by
    obtain ⟨s0, s1⟩ := recSum_range (recBody r)
    simp only [recBytesL, hb, if_true, recAll, sum_bytes _ s0 s1])
  have HB := hide hb
  obtain ⟨s0, s1⟩ := recSum_range (recBody r)
  unfold recVal at HK ⊢
  have BX0 := hide (boxMade4 w (.int .i64 r.kind) (.string r.name) (.int .i64 r.num) (.string r.text) 32)
  have kb0 : 0 ≤ r.kind := by omega
  have kb1 : r.kind < 256 := by omega
  have q1 : (r.kind == 1) = true := by rw [hk]; rfl
  have q3 : (r.kind == 3) = false := by rw [hk]; rfl
  have q4 : (r.kind == 4) = false := by rw [hk]; rfl
  clear hb hf hk
  go_enter Try.func17, Try.ntmps17
  go_wp2_with fail
  refine (unhide HK _).mono ?_
  rintro e w1 ⟨rfl, b1⟩
  have BX1 := hide ((unhide BX0).up b1)
  have B1 := hide (show Below w.heap.size w w1 from Below.trans (by go_grown) (b1.mono (by simp)))
  have hz1 : w.heap.size < w1.heap.size := (unhide BX1).1
  have RA := hide (byLit2 w1 r.kind r.name.size w1.heap.size (Nat.le_refl _) (by omega) (by omega) (by omega) (by omega))
  clear b1
  obtain ⟨x0, x1, x2, x3⟩ := (unhide BX1).four
  go_wp2_with (first
    | (at_builtin; have _t := RD; refine wpList_byAppend rfl _ _ rfl w1.heap.size _ _ (recBody r) [beB (recSum (recBody r) / 256) 0, beB (recSum (recBody r) % 256) 0] rfl rfl ((unhide RD).up' _) (byLit2 _ _ _ 0 (Nat.zero_le _) (by omega) (by omega) (by omega) (by omega)).rd (by have := unhide HLEN; simp; omega) (by have := (unhide BB4).size; simp; omega) ?_; intro a6 c6 w6 r6 g6 _; generalize ((recBody r).length + [beB (recSum (recBody r) / 256) 0, beB (recSum (recBody r) % 256) 0].length) = n6 at *; have R6 := hide r6; have BB6 := hide (((unhide BB4).alloc (unhide BB4).size _).grown g6 (by have := (unhide BB4).size; simp; omega) (fun y hy => (unhide RD).ge y hy)); clear r6 g6 RD)
    | (go_at_call 26; refine (specSum_any _ _ (recBody r) (by have := unhide HLEN; unfold maxLen; omega) (unhide RD).rd).mono ?_; rintro e w5 ⟨rfl, hw5⟩; rw [hw5]; clear hw5 w5)
    | (at_builtin; have _t := RC; refine wpList_byAppendStr rfl _ _ rfl w1.heap.size _ r.text _ rfl rfl (unhide RC) (by simp; omega) (unhide BB3).size ?_; intro a4 n4 c4 w4 r4 g4; have RD := hide (show ByRow w1.heap.size w4 (.slice a4 n4 c4) (recBody r) from by rw [unhide HBD]; simpa using r4); have BB4 := hide ((unhide BB3).grown g4 (unhide BB3).size (fun y hy => (unhide RC).ge y hy)); have hs4 := (unhide BB4).size; clear r4 g4 RC x0 x1 x2 x3)
    | (at_builtin; have _t := RB; refine wpList_byAppend rfl _ _ rfl w1.heap.size _ _ _ [beB r.text.size 0] rfl rfl ((unhide RB).up' _) (byLit1 _ _ (by omega) (by omega)) (by simp; omega) (by simp; omega) ?_; intro a3 c3 w3 r3 g3 _; generalize (([beB r.kind 0, beB r.name.size 0] ++ r.name.data.toList).length + [beB r.text.size 0].length) = n3 at *; have RC := hide r3; have BB3 := hide (((unhide BB2).alloc (unhide BB2).size _).grown g3 (by simp; omega) (fun y hy => (unhide RB).ge y hy)); have hs3 := (unhide BB3).size; clear r3 g3 RB x0 x1 x2 x3; obtain ⟨x0, x1, x2, x3⟩ := ((unhide BX1).up (unhide BB3)).four; have hz3 : w.heap.size < w3.heap.size := by omega)
    | (at_builtin; have _t := RA; refine wpList_byAppendStr rfl _ _ rfl w1.heap.size _ r.name _ rfl rfl (unhide RA) (by simp; omega) (by simp) ?_; intro a2 n2 c2 w2 r2 g2; have RB := hide r2; have BB2 := hide (((Below.refl w1.heap.size w1).alloc (Nat.le_refl _) _).grown g2 (by simp) (fun y hy => (unhide RA).ge y hy)); have hs2 := (unhide BB2).size; clear r2 g2 RA x0 x1 x2 x3; obtain ⟨x0, x1, x2, x3⟩ := ((unhide BX1).up (unhide BB2)).four; have hz2 : w.heap.size < w2.heap.size := by omega)
    | fail)
  go_ret2
  exact ⟨a6, n6, c6, by rw [unhide HB]; rfl, by rw [unhide HV]; exact (unhide R6).mono (by omega), (unhide B1).trans ((unhide BB6).mono (unhide B1).size)⟩
set_option maxHeartbeats 6400000 in
theorem specRecBytes_2 (r : RecV) (w : World) (hf : RecFit r) (hb : recOkB r = true) (hk : r.kind = 2) : Calls Try.prog 17 #[recVal r] w fun e w' => RetRec r w e w' := by
  have HK := hide (fun W => specRecOk_any r W hf)
  rw [hb] at HK
  obtain ⟨h8, ht, _⟩ := ok_sizes hb
  have HBD := hide (show recBody r = [beB r.kind 0, beB r.name.size 0] ++ r.name.data.toList ++ ([]) by simp [recBody, recTail, hk])
  have HLEN := hide (body_len h8 ht)
  have HV := hide (show recBytesL r = recBody r ++ [beB (recSum (recBody r) / 256) 0, beB (recSum (recBody r) % 256) 0] by
    obtain ⟨s0, s1⟩ := recSum_range (recBody r)
    simp only [recBytesL, hb, if_true, recAll, sum_bytes _ s0 s1])
  have HB := hide hb
  obtain ⟨s0, s1⟩ := recSum_range (recBody r)
  unfold recVal at HK ⊢
  have BX0 := hide (boxMade4 w (.int .i64 r.kind) (.string r.name) (.int .i64 r.num) (.string r.text) 32)
  have kb0 : 0 ≤ r.kind := by omega
  have kb1 : r.kind < 256 := by omega
  have q1 : (r.kind == 1) = false := by rw [hk]; rfl
  have q3 : (r.kind == 3) = false := by rw [hk]; rfl
  have q4 : (r.kind == 4) = false := by rw [hk]; rfl
  clear hb hf hk
  go_enter Try.func17, Try.ntmps17
  go_wp2_with fail
  refine (unhide HK _).mono ?_
  rintro e w1 ⟨rfl, b1⟩
  have BX1 := hide ((unhide BX0).up b1)
  have B1 := hide (show Below w.heap.size w w1 from Below.trans (by go_grown) (b1.mono (by simp)))
  have hz1 : w.heap.size < w1.heap.size := (unhide BX1).1
  have RA := hide (byLit2 w1 r.kind r.name.size w1.heap.size (Nat.le_refl _) (by omega) (by omega) (by omega) (by omega))
  clear b1
  obtain ⟨x0, x1, x2, x3⟩ := (unhide BX1).four
  go_wp2_with (first
    | (at_builtin; have _t := RD; refine wpList_byAppend rfl _ _ rfl w1.heap.size _ _ (recBody r) [beB (recSum (recBody r) / 256) 0, beB (recSum (recBody r) % 256) 0] rfl rfl ((unhide RD).up' _) (byLit2 _ _ _ 0 (Nat.zero_le _) (by omega) (by omega) (by omega) (by omega)).rd (by have := unhide HLEN; simp; omega) (by have := (unhide BB2).size; simp; omega) ?_; intro a6 c6 w6 r6 g6 _; generalize ((recBody r).length + [beB (recSum (recBody r) / 256) 0, beB (recSum (recBody r) % 256) 0].length) = n6 at *; have R6 := hide r6; have BB6 := hide (((unhide BB2).alloc (unhide BB2).size _).grown g6 (by have := (unhide BB2).size; simp; omega) (fun y hy => (unhide RD).ge y hy)); clear r6 g6 RD)
    | (go_at_call 26; refine (specSum_any _ _ (recBody r) (by have := unhide HLEN; unfold maxLen; omega) (unhide RD).rd).mono ?_; rintro e w5 ⟨rfl, hw5⟩; rw [hw5]; clear hw5 w5)
    | (at_builtin; have _t := RA; refine wpList_byAppendStr rfl _ _ rfl w1.heap.size _ r.name _ rfl rfl (unhide RA) (by simp; omega) (by simp) ?_; intro a2 n2 c2 w2 r2 g2; have RD := hide (show ByRow w1.heap.size w2 (.slice a2 n2 c2) (recBody r) from by rw [unhide HBD]; simpa using r2); have BB2 := hide (((Below.refl w1.heap.size w1).alloc (Nat.le_refl _) _).grown g2 (by simp) (fun y hy => (unhide RA).ge y hy)); have hs2 := (unhide BB2).size; clear r2 g2 RA x0 x1 x2 x3; obtain ⟨x0, x1, x2, x3⟩ := ((unhide BX1).up (unhide BB2)).four; have hz2 : w.heap.size < w2.heap.size := by omega)
    | fail)
  go_ret2
  exact ⟨a6, n6, c6, by rw [unhide HB]; rfl, by rw [unhide HV]; exact (unhide R6).mono (by omega), (unhide B1).trans ((unhide BB6).mono (unhide B1).size)⟩
set_option maxHeartbeats 6400000 in
theorem specRecBytes_3 (r : RecV) (w : World) (hf : RecFit r) (hb : recOkB r = true) (hk : r.kind = 3) : Calls Try.prog 17 #[recVal r] w fun e w' => RetRec r w e w' := by
  have HK := hide (fun W => specRecOk_any r W hf)
  rw [hb] at HK
  obtain ⟨h8, ht, _⟩ := ok_sizes hb
  have HBD := hide (show recBody r = [beB r.kind 0, beB r.name.size 0] ++ r.name.data.toList ++ (beL r.num 8) by simp [recBody, recTail, hk])
  have HLEN := hide (body_len h8 ht)
  have HV := hide (show recBytesL r = recBody r ++ [beB (recSum (recBody r) / 256) 0, beB (recSum (recBody r) % 256) 0] by
    obtain ⟨s0, s1⟩ := recSum_range (recBody r)
    simp only [recBytesL, hb, if_true, recAll, sum_bytes _ s0 s1])
  have HB := hide hb
  obtain ⟨s0, s1⟩ := recSum_range (recBody r)
  unfold recVal at HK ⊢
  have BX0 := hide (boxMade4 w (.int .i64 r.kind) (.string r.name) (.int .i64 r.num) (.string r.text) 32)
  have kb0 : 0 ≤ r.kind := by omega
  have kb1 : r.kind < 256 := by omega
  have q1 : (r.kind == 1) = false := by rw [hk]; rfl
  have q3 : (r.kind == 3) = true := by rw [hk]; rfl
  have q4 : (r.kind == 4) = false := by rw [hk]; rfl
  clear hb hf hk
  go_enter Try.func17, Try.ntmps17
  go_wp2_with fail
  refine (unhide HK _).mono ?_
  rintro e w1 ⟨rfl, b1⟩
  have BX1 := hide ((unhide BX0).up b1)
  have B1 := hide (show Below w.heap.size w w1 from Below.trans (by go_grown) (b1.mono (by simp)))
  have hz1 : w.heap.size < w1.heap.size := (unhide BX1).1
  have RA := hide (byLit2 w1 r.kind r.name.size w1.heap.size (Nat.le_refl _) (by omega) (by omega) (by omega) (by omega))
  clear b1
  obtain ⟨x0, x1, x2, x3⟩ := (unhide BX1).four
  go_wp2_with (first
    | (at_builtin; have _t := RD; refine wpList_byAppend rfl _ _ rfl w1.heap.size _ _ (recBody r) [beB (recSum (recBody r) / 256) 0, beB (recSum (recBody r) % 256) 0] rfl rfl ((unhide RD).up' _) (byLit2 _ _ _ 0 (Nat.zero_le _) (by omega) (by omega) (by omega) (by omega)).rd (by have := unhide HLEN; simp; omega) (by have := (unhide BB4).size; simp; omega) ?_; intro a6 c6 w6 r6 g6 _; generalize ((recBody r).length + [beB (recSum (recBody r) / 256) 0, beB (recSum (recBody r) % 256) 0].length) = n6 at *; have R6 := hide r6; have BB6 := hide (((unhide BB4).alloc (unhide BB4).size _).grown g6 (by have := (unhide BB4).size; simp; omega) (fun y hy => (unhide RD).ge y hy)); clear r6 g6 RD)
    | (go_at_call 26; refine (specSum_any _ _ (recBody r) (by have := unhide HLEN; unfold maxLen; omega) (unhide RD).rd).mono ?_; rintro e w5 ⟨rfl, hw5⟩; rw [hw5]; clear hw5 w5)
    | (at_builtin; have _t := RB3; refine wpList_byAppend rfl _ _ rfl w1.heap.size _ _ _ (beL r.num 8) rfl rfl (unhide RB3) (unhide U3) (by simp [beL_length]; omega) (unhide BB3).size ?_; intro a4 c4 w4 r4 g4 _; generalize (([beB r.kind 0, beB r.name.size 0] ++ r.name.data.toList).length + (beL r.num 8).length) = n4 at *; have RD := hide (show ByRow w1.heap.size w4 (.slice a4 n4 c4) (recBody r) from by rw [unhide HBD]; simpa using r4); have BB4 := hide ((unhide BB3).grown g4 (unhide BB3).size (fun y hy => (unhide RB3).ge y hy)); have hs4 := (unhide BB4).size; clear r4 g4 RB3)
    | (go_at_call 25; refine (l7Eight_any _ _).mono ?_; rintro e w3 ⟨a3, n3, c3, rfl, hn3, r3, b3⟩; have U3 := hide r3.rd; have RB3 := hide ((unhide RB).up b3); have BB3 := hide ((unhide BB2).trans (b3.mono (unhide BB2).size)); have hs3 := (unhide BB3).size; clear r3 b3 RB x0 x1 x2 x3)
    | (at_builtin; have _t := RA; refine wpList_byAppendStr rfl _ _ rfl w1.heap.size _ r.name _ rfl rfl (unhide RA) (by simp; omega) (by simp) ?_; intro a2 n2 c2 w2 r2 g2; have RB := hide r2; have BB2 := hide (((Below.refl w1.heap.size w1).alloc (Nat.le_refl _) _).grown g2 (by simp) (fun y hy => (unhide RA).ge y hy)); have hs2 := (unhide BB2).size; clear r2 g2 RA x0 x1 x2 x3; obtain ⟨x0, x1, x2, x3⟩ := ((unhide BX1).up (unhide BB2)).four; have hz2 : w.heap.size < w2.heap.size := by omega)
    | fail)
  go_ret2
  exact ⟨a6, n6, c6, by rw [unhide HB]; rfl, by rw [unhide HV]; exact (unhide R6).mono (by omega), (unhide B1).trans ((unhide BB6).mono (unhide B1).size)⟩
set_option maxHeartbeats 6400000 in
theorem specRecBytes_4 (r : RecV) (w : World) (hf : RecFit r) (hb : recOkB r = true) (hk : r.kind = 4) : Calls Try.prog 17 #[recVal r] w fun e w' => RetRec r w e w' := by
  have HK := hide (fun W => specRecOk_any r W hf)
  rw [hb] at HK
  obtain ⟨h8, ht, _⟩ := ok_sizes hb
  have HBD := hide (show recBody r = [beB r.kind 0, beB r.name.size 0] ++ r.name.data.toList ++ (beL r.num 8) by simp [recBody, recTail, hk])
  have HLEN := hide (body_len h8 ht)
  have HV := hide (show recBytesL r = recBody r ++ [beB (recSum (recBody r) / 256) 0, beB (recSum (recBody r) % 256) 0] by
    obtain ⟨s0, s1⟩ := recSum_range (recBody r)
    simp only [recBytesL, hb, if_true, recAll, sum_bytes _ s0 s1])
  have HB := hide hb
  obtain ⟨s0, s1⟩ := recSum_range (recBody r)
  unfold recVal at HK ⊢
  have BX0 := hide (boxMade4 w (.int .i64 r.kind) (.string r.name) (.int .i64 r.num) (.string r.text) 32)
  have kb0 : 0 ≤ r.kind := by omega
  have kb1 : r.kind < 256 := by omega
  have q1 : (r.kind == 1) = false := by rw [hk]; rfl
  have q3 : (r.kind == 3) = false := by rw [hk]; rfl
  have q4 : (r.kind == 4) = true := by rw [hk]; rfl
  clear hb hf hk
  go_enter Try.func17, Try.ntmps17
  go_wp2_with fail
  refine (unhide HK _).mono ?_
  rintro e w1 ⟨rfl, b1⟩
  have BX1 := hide ((unhide BX0).up b1)
  have B1 := hide (show Below w.heap.size w w1 from Below.trans (by go_grown) (b1.mono (by simp)))
  have hz1 : w.heap.size < w1.heap.size := (unhide BX1).1
  have RA := hide (byLit2 w1 r.kind r.name.size w1.heap.size (Nat.le_refl _) (by omega) (by omega) (by omega) (by omega))
  clear b1
  obtain ⟨x0, x1, x2, x3⟩ := (unhide BX1).four
  go_wp2_with (first
    | (at_builtin; have _t := RD; refine wpList_byAppend rfl _ _ rfl w1.heap.size _ _ (recBody r) [beB (recSum (recBody r) / 256) 0, beB (recSum (recBody r) % 256) 0] rfl rfl ((unhide RD).up' _) (byLit2 _ _ _ 0 (Nat.zero_le _) (by omega) (by omega) (by omega) (by omega)).rd (by have := unhide HLEN; simp; omega) (by have := (unhide BB4).size; simp; omega) ?_; intro a6 c6 w6 r6 g6 _; generalize ((recBody r).length + [beB (recSum (recBody r) / 256) 0, beB (recSum (recBody r) % 256) 0].length) = n6 at *; have R6 := hide r6; have BB6 := hide (((unhide BB4).alloc (unhide BB4).size _).grown g6 (by have := (unhide BB4).size; simp; omega) (fun y hy => (unhide RD).ge y hy)); clear r6 g6 RD)
    | (go_at_call 26; refine (specSum_any _ _ (recBody r) (by have := unhide HLEN; unfold maxLen; omega) (unhide RD).rd).mono ?_; rintro e w5 ⟨rfl, hw5⟩; rw [hw5]; clear hw5 w5)
    | (at_builtin; have _t := RB3; refine wpList_byAppend rfl _ _ rfl w1.heap.size _ _ _ (beL r.num 8) rfl rfl (unhide RB3) (unhide U3) (by simp [beL_length]; omega) (unhide BB3).size ?_; intro a4 c4 w4 r4 g4 _; generalize (([beB r.kind 0, beB r.name.size 0] ++ r.name.data.toList).length + (beL r.num 8).length) = n4 at *; have RD := hide (show ByRow w1.heap.size w4 (.slice a4 n4 c4) (recBody r) from by rw [unhide HBD]; simpa using r4); have BB4 := hide ((unhide BB3).grown g4 (unhide BB3).size (fun y hy => (unhide RB3).ge y hy)); have hs4 := (unhide BB4).size; clear r4 g4 RB3)
    | (go_at_call 25; refine (l7Eight_any _ _).mono ?_; rintro e w3 ⟨a3, n3, c3, rfl, hn3, r3, b3⟩; have U3 := hide r3.rd; have RB3 := hide ((unhide RB).up b3); have BB3 := hide ((unhide BB2).trans (b3.mono (unhide BB2).size)); have hs3 := (unhide BB3).size; clear r3 b3 RB x0 x1 x2 x3)
    | (at_builtin; have _t := RA; refine wpList_byAppendStr rfl _ _ rfl w1.heap.size _ r.name _ rfl rfl (unhide RA) (by simp; omega) (by simp) ?_; intro a2 n2 c2 w2 r2 g2; have RB := hide r2; have BB2 := hide (((Below.refl w1.heap.size w1).alloc (Nat.le_refl _) _).grown g2 (by simp) (fun y hy => (unhide RA).ge y hy)); have hs2 := (unhide BB2).size; clear r2 g2 RA x0 x1 x2 x3; obtain ⟨x0, x1, x2, x3⟩ := ((unhide BX1).up (unhide BB2)).four; have hz2 : w.heap.size < w2.heap.size := by omega)
    | fail)
  go_ret2
  exact ⟨a6, n6, c6, by rw [unhide HB]; rfl, by rw [unhide HV]; exact (unhide R6).mono (by omega), (unhide B1).trans ((unhide BB6).mono (unhide B1).size)⟩
set_option maxHeartbeats 1600000 in
theorem implRecBytes_no (r : RecV) (w : World) (hf : RecFit r) (hb : recOkB r = false) : Calls Try.prog 16 #[recVal r] w fun e w' => RetRec r w e w' := by
  have HK := hide (fun W => implRecOk_any r W hf)
  rw [hb] at HK
  have HV := hide (show recBytesL r = [] by simp [recBytesL, hb])
  have HB := hide hb
  unfold recVal at HK ⊢
  clear hb hf
  go_enter Try.func16, Try.ntmps16
  go_wp2_with fail
  refine (unhide HK _).mono ?_
  rintro e w1 ⟨rfl, b1⟩
  have B1 := hide (show Below w.heap.size w w1 from Below.trans (by go_grown) (b1.mono (by simp)))
  clear b1
  go_wp2_with fail
  go_ret2
  exact ⟨none, 0, 0, by rw [unhide HB]; rfl, by rw [unhide HV]; exact ByRow.nil _ _, unhide B1⟩

theorem nums_new (w : World) (A C : Obj) (x : Int) (T : TypeId) : NumsAt (((w.alloc A).alloc C).alloc (.cells #[.int .i64 x] T)) (w.heap.size + 1 + 1) [x] := by
  have h := nums1 (numsOne ((w.alloc A).alloc C) x T)
  have e : ((w.alloc A).alloc C).heap.size = w.heap.size + 1 + 1 := by simp
  rwa [e] at h
def RetPutB (bs : List UInt8) (B : Nat) (w : World) (e : Ending) (w' : World) : Prop := ∃ a n c, e = .returned (.slice a n c) ∧ Hid (ByRow B w' (.slice a n c) bs ∧ Below B w w')
/-- a kind puts what it has behind a row -/
def PutSaid (f : FuncId) (tail : List UInt8) (r : RecV) : Prop := ∀ (B : Nat) (w : World) (a : Option Addr) (n c : Nat) (xs : List UInt8), xs.length ≤ 1000 → B ≤ w.heap.size → ByRow B w (.slice a n c) xs →
  Calls Try.prog f #[.agg #[], .slice a n c, .agg #[.int .i64 r.kind, .string r.name, .int .i64 r.num, .string r.text]] w fun e w' => RetPutB (xs ++ tail) B w e w'
set_option maxHeartbeats 1600000 in
theorem put_remove (r : RecV) : PutSaid 54 [] r := by
  intro B w a n c xs hl hB hr
  have HR := hide (hr.up' (.cells #[] 63))
  go_enter Try.func54, Try.ntmps54
  go_wp2_with fail
  go_ret
  exact ⟨a, n, c, rfl, hide ⟨by rw [List.append_nil]; exact (unhide HR).up' _, ((Below.refl B w).alloc hB _).alloc (by simp; omega) _⟩⟩
set_option maxHeartbeats 1600000 in
theorem put_value (r : RecV) : PutSaid 57 (beL r.num 8) r := by
  intro B w a n c xs hl hB hr
  have W1 := hide (nums_new w (.cells #[] 64) (.cells #[.int .i64 r.kind, .string r.name, .int .i64 r.num, .string r.text] 32) r.num 3)
  have HR := hide (((hr.up' (.cells #[] 64)).up' (.cells #[.int .i64 r.kind, .string r.name, .int .i64 r.num, .string r.text] 32)).up' (.cells #[.int .i64 r.num] 3))
  have HNB := hide (show (Value.slice a n c).ownBlock ≠ some (w.heap.size + 1 + 1) from fun e => by have := hr.lt _ e; omega)
  have HGE := hide (ownL_ge hr)
  clear hr
  go_enter Try.func57, Try.ntmps57
  go_wp2_with fail
  refine (putNums_any B _ a n c xs 8 (w.heap.size + 1 + 1) 1 [r.num] (by omega) (by simp) (by omega) (by simp; omega) (unhide HNB) (unhide HR) (unhide W1)).mono ?_
  rintro e w1 ⟨a1, n1, c1, rfl, P1⟩
  go_wp2_with fail
  go_ret
  exact ⟨a1, n1, c1, rfl, hide ⟨by have := (unhide P1).1; simpa [putL] using this, ((((Turn.refl _ w).alloc _).alloc _).alloc _ |>.trans (unhide P1).2.1).below hB (unhide HGE)⟩⟩
set_option maxHeartbeats 3200000 in
theorem put_define (r : RecV) (ht : r.text.size ≤ 200) : PutSaid 51 (beB r.text.size 0 :: r.text.data.toList) r := by
  intro B w a n c xs hl hB hr
  have W1 := hide (nums_new w (.cells #[] 62) (.cells #[.int .i64 r.kind, .string r.name, .int .i64 r.num, .string r.text] 32) r.text.size 3)
  have HR := hide (((hr.up' (.cells #[] 62)).up' (.cells #[.int .i64 r.kind, .string r.name, .int .i64 r.num, .string r.text] 32)).up' (.cells #[.int .i64 r.text.size] 3))
  have TW := hide ((((Turn.refl (ownL (.slice a n c)) w).alloc (.cells #[] 62)).alloc (.cells #[.int .i64 r.kind, .string r.name, .int .i64 r.num, .string r.text] 32)).alloc (.cells #[.int .i64 r.text.size] 3))
  have BX := hide (show (((w.alloc (.cells #[] 62)).alloc (.cells #[.int .i64 r.kind, .string r.name, .int .i64 r.num, .string r.text] 32)).alloc (.cells #[.int .i64 r.text.size] 3)).cell? ⟨w.heap.size + 1, 3, none⟩ = some (.string r.text) by
    rw [World.cell?_alloc_past _ _ _ (by simp), World.cell?_alloc_at _ _ _ _ (by simp)]
    rfl)
  have HNB := hide (show (Value.slice a n c).ownBlock ≠ some (w.heap.size + 1 + 1) from fun e => by have := hr.lt _ e; omega)
  have HOW := hide (show ∀ k ∈ ownL (.slice a n c), k < w.heap.size from fun k hk => hr.lt k (by simpa [ownL] using hk))
  have hzw : w.heap.size + 1 + 1 < (((w.alloc (.cells #[] 62)).alloc (.cells #[.int .i64 r.kind, .string r.name, .int .i64 r.num, .string r.text] 32)).alloc (.cells #[.int .i64 r.text.size] 3)).heap.size := by simp
  have HZW := hide hzw
  have hxl : xs.length ≤ 1000000 := by omega
  have h1k : [(r.text.size : Int)].length ≤ 1000 := by simp
  have HGE := hide (ownL_ge hr)
  clear hr hzw
  generalize hWW : (((w.alloc (.cells #[] 62)).alloc (.cells #[.int .i64 r.kind, .string r.name, .int .i64 r.num, .string r.text] 32)).alloc (.cells #[.int .i64 r.text.size] 3)) = WW at W1 HR TW BX HZW
  have HWW := hide hWW
  clear hWW
  have hBW := hide (show B ≤ WW.drew.heap.size from Nat.le_trans hB (unhide TW).size)
  have W1d := hide (show NumsAt WW.drew (w.heap.size + 1 + 1) [(r.text.size : Int)] from unhide W1)
  have HRd := hide (show ByRow B WW.drew (.slice a n c) xs from (unhide HR).keep (fun _ _ => rfl))
  have KP := hide (show ∀ X, Turn (ownL (.slice a n c)) WW.drew X → X.cell? ⟨w.heap.size + 1, 3, none⟩ = some (.string r.text) from fun X ht => by
    rw [ht.cell (by show w.heap.size + 1 < WW.heap.size; have := unhide HZW; omega) (fun hm => by have := unhide HOW _ hm; omega)]
    exact unhide BX)
  have TWd := hide (show Turn (ownL (.slice a n c)) w WW.drew from (unhide TW).trans ⟨rfl, rfl, rfl, Nat.le_refl _, fun _ _ _ => rfl⟩)
  go_enter Try.func51, Try.ntmps51
  go_wp2_with fail
  go_region_held3 (fun X : World => X.cell? ⟨w.heap.size + 1, 3, none⟩ = some (.string r.text)) ((first | (rw [unhide HWW]; exact unhide BX) | simp | (refine unhide KP _ ?_; exact unhide (by assumption))))
    (first
      | (go_at_call 22; rw [unhide HWW]; refine (putNums_any B WW.drew a n c xs 1 (w.heap.size + 1 + 1) 1 [(r.text.size : Int)] (by omega) h1k hxl (unhide hBW) (unhide HNB) (unhide HRd) (unhide W1d)).mono ?_; rintro e w1 ⟨a1, n1, c1, rfl, P1⟩; have T1 := hide (unhide P1).2.1; have R1 := hide (show ByRow B w1 (.slice a1 n1 c1) (xs ++ [beB r.text.size 0]) by have := (unhide P1).1; simpa [putL, beL] using this))
      | (refine step_byAppendStr (by rfl) (.tmp 12) (.tmp 14) (by rfl) B (.slice a1 n1 c1) r.text _ (by rfl) (by rfl) (unhide R1) (by simp; omega) (Nat.le_trans (unhide hBW) (unhide T1).size) ?_; intro a2 n2 c2 w2 r2 g2; have R2 := hide r2; have T2 := hide ((unhide T1).grown' g2 (fun y hy => by have := (unhide P1).2.2.mem y hy; exact this)); clear r2 g2)
      | fail)
  all_goals
    go_wp2_with fail
    go_ret
    exact ⟨a2, n2, c2, rfl, hide ⟨by have := unhide R2; simpa using this, ((unhide TWd).trans (unhide T2)).below hB (unhide HGE)⟩⟩
set_option maxHeartbeats 6400000 in
set_option maxRecDepth 20000 in
theorem implRecBytes_1 (r : RecV) (w : World) (hf : RecFit r) (hb : recOkB r = true) (hk : r.kind = 1) : Calls Try.prog 16 #[recVal r] w fun e w' => RetRec r w e w' := by
  have HK := hide (fun W => implRecOk_any r W hf)
  rw [hb] at HK
  obtain ⟨h8, ht, _⟩ := ok_sizes hb
  have HBD := hide (show recBody r = [beB r.kind 0, beB r.name.size 0] ++ r.name.data.toList ++ (beB r.text.size 0 :: r.text.data.toList) by simp [recBody, recTail, hk])
  have HLEN := hide (body_len h8 ht)
  have HV := hide (show recBytesL r = recBody r ++ putL 2 [recSum (recBody r)] by simp only [recBytesL, hb, if_true, recAll]; simp [putL])
  have HB := hide hb
  have HPUT := hide (put_define r ht)
  have HKV := hide (show kindVal r.kind = .iface 62 (.agg #[]) by rw [hk]; rfl)
  unfold recVal at HK ⊢
  have BX0 := hide (boxMade4 w (.int .i64 r.kind) (.string r.name) (.int .i64 r.num) (.string r.text) 32)
  have HA2 := hide (show ([] : List UInt8) ++ putL 1 [r.kind, (r.name.size : Int)] = [beB r.kind 0, beB r.name.size 0] by simp [putL, beL])
  clear hb hf hk
  go_enter Try.func16, Try.ntmps16
  go_wp2_with fail
  refine (unhide HK _).mono ?_
  rintro e w1 ⟨rfl, b1⟩
  have BX1 := hide ((unhide BX0).up b1)
  have B1 := hide (show Below w.heap.size w w1 from Below.trans (by go_grown) (b1.mono (by simp)))
  have hz1 : w.heap.size < w1.heap.size := (unhide BX1).1
  clear b1
  obtain ⟨x0, x1, x2, x3⟩ := (unhide BX1).four
  go_wp2_with fail
  refine (putNums_any w1.heap.size _ none 0 0 [] 1 w1.heap.size 2 [r.kind, (r.name.size : Int)] (by omega) (by simp) (by simp) (by simp) (by simp [Value.ownBlock]) (ByRow.nil _ _) (nums2 w1 r.kind r.name.size 3)).mono ?_
  rintro e w2 ⟨a2, n2, c2, rfl, P2⟩
  have RA := hide (show ByRow w1.heap.size w2 (.slice a2 n2 c2) [beB r.kind 0, beB r.name.size 0] by rw [← unhide HA2]; exact (unhide P2).1)
  have BB2 := hide (show Below w1.heap.size w1 w2 from (((Turn.refl _ w1).alloc _).trans (unhide P2).2.1).below (Nat.le_refl _) (by simp [ownL, Value.ownBlock]))
  clear P2 x0 x1 x2 x3
  obtain ⟨x0, x1, x2, x3⟩ := ((unhide BX1).up (unhide BB2)).four
  go_wp2_with (first
    | (at_builtin; have _t := RA; refine wpList_byAppendStr rfl _ _ rfl w1.heap.size _ r.name _ rfl rfl (unhide RA) (by simp; omega) (unhide BB2).size ?_; intro a3 n3 c3 w3 r3 g3; have RB := hide r3; have BB3 := hide ((unhide BB2).grown g3 (unhide BB2).size (fun y hy => (unhide RA).ge y hy)); clear r3 g3 RA x0 x1 x2 x3; obtain ⟨x0, x1, x2, x3⟩ := ((unhide BX1).up (unhide BB3)).four)
    | fail)
  have KP := hide (show ∀ X, Below w1.heap.size w1 X → (X.cell? ⟨w.heap.size, 0, none⟩ = some (.int .i64 r.kind) ∧ X.cell? ⟨w.heap.size, 1, none⟩ = some (.string r.name) ∧ X.cell? ⟨w.heap.size, 2, none⟩ = some (.int .i64 r.num) ∧ X.cell? ⟨w.heap.size, 3, none⟩ = some (.string r.text)) from fun X b => ((unhide BX1).up b).four)
  have BD := hide (unhide BB3).drew
  have RBd := hide (show ByRow w1.heap.size w3.drew (.slice a3 n3 c3) _ from (unhide RB).keep (fun _ _ => rfl))
  have hzd := hide (show w1.heap.size ≤ w3.drew.heap.size from (unhide BD).size)
  have hlx : ([beB r.kind 0, beB r.name.size 0] ++ r.name.data.toList).length ≤ 1000 := by simp; omega
  go_region_held3 (fun X : World => X.cell? ⟨w.heap.size, 0, none⟩ = some (.int .i64 r.kind) ∧ X.cell? ⟨w.heap.size, 1, none⟩ = some (.string r.name) ∧ X.cell? ⟨w.heap.size, 2, none⟩ = some (.int .i64 r.num) ∧ X.cell? ⟨w.heap.size, 3, none⟩ = some (.string r.text)) ((refine unhide KP _ ?_; exact unhide (by assumption)))
    (first
      | (go_at_call 23; refine (recKindOf_any r.kind _).mono ?_; rintro e w9 ⟨rfl, hw9⟩; rw [hw9, unhide HKV]; clear hw9 w9)
      | (go_at_call 51; refine (unhide HPUT w1.heap.size w3.drew a3 n3 c3 _ hlx (unhide hzd) (unhide RBd)).mono ?_; rintro e w4 ⟨a4, n4, c4, rfl, P4⟩; have RC := hide (show ByRow w1.heap.size w4 (.slice a4 n4 c4) (recBody r) by rw [unhide HBD]; exact (unhide P4).1); have BB4 := hide ((unhide BD).trans (unhide P4).2); clear P4)
      | fail)
  all_goals
    go_wp2_with (first
      | (go_at_call 24; refine (implSum_any _ _ (recBody r) (by have := unhide HLEN; unfold maxLen; omega) (unhide RC).rd).mono ?_; rintro e w5 ⟨rfl, hw5⟩; rw [hw5]; clear hw5 w5)
      | fail)
    refine (putNums_any w1.heap.size _ a4 n4 c4 (recBody r) 2 w4.heap.size 1 [recSum (recBody r)] (by omega) (by simp) (by have := unhide HLEN; omega) (by have := (unhide BB4).size; simp; omega) (fun e => by have := (unhide RC).lt _ e; omega) ((unhide RC).up' _) (nums1 (numsOne w4 (recSum (recBody r)) 3))).mono ?_
    rintro e w6 ⟨a6, n6, c6, rfl, P6⟩
    have BB6 := hide (show Below w1.heap.size w1 w6 from (unhide BB4).trans ((((Turn.refl _ w4).alloc _).trans (unhide P6).2.1).below (unhide BB4).size (ownL_ge (unhide RC))))
    have R6 := hide (unhide P6).1
    clear P6
    go_wp2_with fail
    go_ret2
    exact ⟨a6, n6, c6, by rw [unhide HB]; rfl, by rw [unhide HV]; exact (unhide R6).mono (by omega), (unhide B1).trans ((unhide BB6).mono (unhide B1).size)⟩
set_option maxHeartbeats 6400000 in
set_option maxRecDepth 20000 in
theorem implRecBytes_2 (r : RecV) (w : World) (hf : RecFit r) (hb : recOkB r = true) (hk : r.kind = 2) : Calls Try.prog 16 #[recVal r] w fun e w' => RetRec r w e w' := by
  have HK := hide (fun W => implRecOk_any r W hf)
  rw [hb] at HK
  obtain ⟨h8, ht, _⟩ := ok_sizes hb
  have HBD := hide (show recBody r = [beB r.kind 0, beB r.name.size 0] ++ r.name.data.toList ++ ([]) by simp [recBody, recTail, hk])
  have HLEN := hide (body_len h8 ht)
  have HV := hide (show recBytesL r = recBody r ++ putL 2 [recSum (recBody r)] by simp only [recBytesL, hb, if_true, recAll]; simp [putL])
  have HB := hide hb
  have HPUT := hide (put_remove r)
  have HKV := hide (show kindVal r.kind = .iface 63 (.agg #[]) by rw [hk]; rfl)
  unfold recVal at HK ⊢
  have BX0 := hide (boxMade4 w (.int .i64 r.kind) (.string r.name) (.int .i64 r.num) (.string r.text) 32)
  have HA2 := hide (show ([] : List UInt8) ++ putL 1 [r.kind, (r.name.size : Int)] = [beB r.kind 0, beB r.name.size 0] by simp [putL, beL])
  clear hb hf hk
  go_enter Try.func16, Try.ntmps16
  go_wp2_with fail
  refine (unhide HK _).mono ?_
  rintro e w1 ⟨rfl, b1⟩
  have BX1 := hide ((unhide BX0).up b1)
  have B1 := hide (show Below w.heap.size w w1 from Below.trans (by go_grown) (b1.mono (by simp)))
  have hz1 : w.heap.size < w1.heap.size := (unhide BX1).1
  clear b1
  obtain ⟨x0, x1, x2, x3⟩ := (unhide BX1).four
  go_wp2_with fail
  refine (putNums_any w1.heap.size _ none 0 0 [] 1 w1.heap.size 2 [r.kind, (r.name.size : Int)] (by omega) (by simp) (by simp) (by simp) (by simp [Value.ownBlock]) (ByRow.nil _ _) (nums2 w1 r.kind r.name.size 3)).mono ?_
  rintro e w2 ⟨a2, n2, c2, rfl, P2⟩
  have RA := hide (show ByRow w1.heap.size w2 (.slice a2 n2 c2) [beB r.kind 0, beB r.name.size 0] by rw [← unhide HA2]; exact (unhide P2).1)
  have BB2 := hide (show Below w1.heap.size w1 w2 from (((Turn.refl _ w1).alloc _).trans (unhide P2).2.1).below (Nat.le_refl _) (by simp [ownL, Value.ownBlock]))
  clear P2 x0 x1 x2 x3
  obtain ⟨x0, x1, x2, x3⟩ := ((unhide BX1).up (unhide BB2)).four
  go_wp2_with (first
    | (at_builtin; have _t := RA; refine wpList_byAppendStr rfl _ _ rfl w1.heap.size _ r.name _ rfl rfl (unhide RA) (by simp; omega) (unhide BB2).size ?_; intro a3 n3 c3 w3 r3 g3; have RB := hide r3; have BB3 := hide ((unhide BB2).grown g3 (unhide BB2).size (fun y hy => (unhide RA).ge y hy)); clear r3 g3 RA x0 x1 x2 x3; obtain ⟨x0, x1, x2, x3⟩ := ((unhide BX1).up (unhide BB3)).four)
    | fail)
  have KP := hide (show ∀ X, Below w1.heap.size w1 X → (X.cell? ⟨w.heap.size, 0, none⟩ = some (.int .i64 r.kind) ∧ X.cell? ⟨w.heap.size, 1, none⟩ = some (.string r.name) ∧ X.cell? ⟨w.heap.size, 2, none⟩ = some (.int .i64 r.num) ∧ X.cell? ⟨w.heap.size, 3, none⟩ = some (.string r.text)) from fun X b => ((unhide BX1).up b).four)
  have BD := hide (unhide BB3).drew
  have RBd := hide (show ByRow w1.heap.size w3.drew (.slice a3 n3 c3) _ from (unhide RB).keep (fun _ _ => rfl))
  have hzd := hide (show w1.heap.size ≤ w3.drew.heap.size from (unhide BD).size)
  have hlx : ([beB r.kind 0, beB r.name.size 0] ++ r.name.data.toList).length ≤ 1000 := by simp; omega
  go_region_held3 (fun X : World => X.cell? ⟨w.heap.size, 0, none⟩ = some (.int .i64 r.kind) ∧ X.cell? ⟨w.heap.size, 1, none⟩ = some (.string r.name) ∧ X.cell? ⟨w.heap.size, 2, none⟩ = some (.int .i64 r.num) ∧ X.cell? ⟨w.heap.size, 3, none⟩ = some (.string r.text)) ((refine unhide KP _ ?_; exact unhide (by assumption)))
    (first
      | (go_at_call 23; refine (recKindOf_any r.kind _).mono ?_; rintro e w9 ⟨rfl, hw9⟩; rw [hw9, unhide HKV]; clear hw9 w9)
      | (go_at_call 54; refine (unhide HPUT w1.heap.size w3.drew a3 n3 c3 _ hlx (unhide hzd) (unhide RBd)).mono ?_; rintro e w4 ⟨a4, n4, c4, rfl, P4⟩; have RC := hide (show ByRow w1.heap.size w4 (.slice a4 n4 c4) (recBody r) by rw [unhide HBD]; exact (unhide P4).1); have BB4 := hide ((unhide BD).trans (unhide P4).2); clear P4)
      | fail)
  all_goals
    go_wp2_with (first
      | (go_at_call 24; refine (implSum_any _ _ (recBody r) (by have := unhide HLEN; unfold maxLen; omega) (unhide RC).rd).mono ?_; rintro e w5 ⟨rfl, hw5⟩; rw [hw5]; clear hw5 w5)
      | fail)
    refine (putNums_any w1.heap.size _ a4 n4 c4 (recBody r) 2 w4.heap.size 1 [recSum (recBody r)] (by omega) (by simp) (by have := unhide HLEN; omega) (by have := (unhide BB4).size; simp; omega) (fun e => by have := (unhide RC).lt _ e; omega) ((unhide RC).up' _) (nums1 (numsOne w4 (recSum (recBody r)) 3))).mono ?_
    rintro e w6 ⟨a6, n6, c6, rfl, P6⟩
    have BB6 := hide (show Below w1.heap.size w1 w6 from (unhide BB4).trans ((((Turn.refl _ w4).alloc _).trans (unhide P6).2.1).below (unhide BB4).size (ownL_ge (unhide RC))))
    have R6 := hide (unhide P6).1
    clear P6
    go_wp2_with fail
    go_ret2
    exact ⟨a6, n6, c6, by rw [unhide HB]; rfl, by rw [unhide HV]; exact (unhide R6).mono (by omega), (unhide B1).trans ((unhide BB6).mono (unhide B1).size)⟩
set_option maxHeartbeats 6400000 in
set_option maxRecDepth 20000 in
theorem implRecBytes_3 (r : RecV) (w : World) (hf : RecFit r) (hb : recOkB r = true) (hk : r.kind = 3) : Calls Try.prog 16 #[recVal r] w fun e w' => RetRec r w e w' := by
  have HK := hide (fun W => implRecOk_any r W hf)
  rw [hb] at HK
  obtain ⟨h8, ht, _⟩ := ok_sizes hb
  have HBD := hide (show recBody r = [beB r.kind 0, beB r.name.size 0] ++ r.name.data.toList ++ (beL r.num 8) by simp [recBody, recTail, hk])
  have HLEN := hide (body_len h8 ht)
  have HV := hide (show recBytesL r = recBody r ++ putL 2 [recSum (recBody r)] by simp only [recBytesL, hb, if_true, recAll]; simp [putL])
  have HB := hide hb
  have HPUT := hide (put_value r)
  have HKV := hide (show kindVal r.kind = .iface 64 (.agg #[]) by rw [hk]; rfl)
  unfold recVal at HK ⊢
  have BX0 := hide (boxMade4 w (.int .i64 r.kind) (.string r.name) (.int .i64 r.num) (.string r.text) 32)
  have HA2 := hide (show ([] : List UInt8) ++ putL 1 [r.kind, (r.name.size : Int)] = [beB r.kind 0, beB r.name.size 0] by simp [putL, beL])
  clear hb hf hk
  go_enter Try.func16, Try.ntmps16
  go_wp2_with fail
  refine (unhide HK _).mono ?_
  rintro e w1 ⟨rfl, b1⟩
  have BX1 := hide ((unhide BX0).up b1)
  have B1 := hide (show Below w.heap.size w w1 from Below.trans (by go_grown) (b1.mono (by simp)))
  have hz1 : w.heap.size < w1.heap.size := (unhide BX1).1
  clear b1
  obtain ⟨x0, x1, x2, x3⟩ := (unhide BX1).four
  go_wp2_with fail
  refine (putNums_any w1.heap.size _ none 0 0 [] 1 w1.heap.size 2 [r.kind, (r.name.size : Int)] (by omega) (by simp) (by simp) (by simp) (by simp [Value.ownBlock]) (ByRow.nil _ _) (nums2 w1 r.kind r.name.size 3)).mono ?_
  rintro e w2 ⟨a2, n2, c2, rfl, P2⟩
  have RA := hide (show ByRow w1.heap.size w2 (.slice a2 n2 c2) [beB r.kind 0, beB r.name.size 0] by rw [← unhide HA2]; exact (unhide P2).1)
  have BB2 := hide (show Below w1.heap.size w1 w2 from (((Turn.refl _ w1).alloc _).trans (unhide P2).2.1).below (Nat.le_refl _) (by simp [ownL, Value.ownBlock]))
  clear P2 x0 x1 x2 x3
  obtain ⟨x0, x1, x2, x3⟩ := ((unhide BX1).up (unhide BB2)).four
  go_wp2_with (first
    | (at_builtin; have _t := RA; refine wpList_byAppendStr rfl _ _ rfl w1.heap.size _ r.name _ rfl rfl (unhide RA) (by simp; omega) (unhide BB2).size ?_; intro a3 n3 c3 w3 r3 g3; have RB := hide r3; have BB3 := hide ((unhide BB2).grown g3 (unhide BB2).size (fun y hy => (unhide RA).ge y hy)); clear r3 g3 RA x0 x1 x2 x3; obtain ⟨x0, x1, x2, x3⟩ := ((unhide BX1).up (unhide BB3)).four)
    | fail)
  have KP := hide (show ∀ X, Below w1.heap.size w1 X → (X.cell? ⟨w.heap.size, 0, none⟩ = some (.int .i64 r.kind) ∧ X.cell? ⟨w.heap.size, 1, none⟩ = some (.string r.name) ∧ X.cell? ⟨w.heap.size, 2, none⟩ = some (.int .i64 r.num) ∧ X.cell? ⟨w.heap.size, 3, none⟩ = some (.string r.text)) from fun X b => ((unhide BX1).up b).four)
  have BD := hide (unhide BB3).drew
  have RBd := hide (show ByRow w1.heap.size w3.drew (.slice a3 n3 c3) _ from (unhide RB).keep (fun _ _ => rfl))
  have hzd := hide (show w1.heap.size ≤ w3.drew.heap.size from (unhide BD).size)
  have hlx : ([beB r.kind 0, beB r.name.size 0] ++ r.name.data.toList).length ≤ 1000 := by simp; omega
  go_region_held3 (fun X : World => X.cell? ⟨w.heap.size, 0, none⟩ = some (.int .i64 r.kind) ∧ X.cell? ⟨w.heap.size, 1, none⟩ = some (.string r.name) ∧ X.cell? ⟨w.heap.size, 2, none⟩ = some (.int .i64 r.num) ∧ X.cell? ⟨w.heap.size, 3, none⟩ = some (.string r.text)) ((refine unhide KP _ ?_; exact unhide (by assumption)))
    (first
      | (go_at_call 23; refine (recKindOf_any r.kind _).mono ?_; rintro e w9 ⟨rfl, hw9⟩; rw [hw9, unhide HKV]; clear hw9 w9)
      | (go_at_call 57; refine (unhide HPUT w1.heap.size w3.drew a3 n3 c3 _ hlx (unhide hzd) (unhide RBd)).mono ?_; rintro e w4 ⟨a4, n4, c4, rfl, P4⟩; have RC := hide (show ByRow w1.heap.size w4 (.slice a4 n4 c4) (recBody r) by rw [unhide HBD]; exact (unhide P4).1); have BB4 := hide ((unhide BD).trans (unhide P4).2); clear P4)
      | fail)
  all_goals
    go_wp2_with (first
      | (go_at_call 24; refine (implSum_any _ _ (recBody r) (by have := unhide HLEN; unfold maxLen; omega) (unhide RC).rd).mono ?_; rintro e w5 ⟨rfl, hw5⟩; rw [hw5]; clear hw5 w5)
      | fail)
    refine (putNums_any w1.heap.size _ a4 n4 c4 (recBody r) 2 w4.heap.size 1 [recSum (recBody r)] (by omega) (by simp) (by have := unhide HLEN; omega) (by have := (unhide BB4).size; simp; omega) (fun e => by have := (unhide RC).lt _ e; omega) ((unhide RC).up' _) (nums1 (numsOne w4 (recSum (recBody r)) 3))).mono ?_
    rintro e w6 ⟨a6, n6, c6, rfl, P6⟩
    have BB6 := hide (show Below w1.heap.size w1 w6 from (unhide BB4).trans ((((Turn.refl _ w4).alloc _).trans (unhide P6).2.1).below (unhide BB4).size (ownL_ge (unhide RC))))
    have R6 := hide (unhide P6).1
    clear P6
    go_wp2_with fail
    go_ret2
    exact ⟨a6, n6, c6, by rw [unhide HB]; rfl, by rw [unhide HV]; exact (unhide R6).mono (by omega), (unhide B1).trans ((unhide BB6).mono (unhide B1).size)⟩
set_option maxHeartbeats 6400000 in
set_option maxRecDepth 20000 in
theorem implRecBytes_4 (r : RecV) (w : World) (hf : RecFit r) (hb : recOkB r = true) (hk : r.kind = 4) : Calls Try.prog 16 #[recVal r] w fun e w' => RetRec r w e w' := by
  have HK := hide (fun W => implRecOk_any r W hf)
  rw [hb] at HK
  obtain ⟨h8, ht, _⟩ := ok_sizes hb
  have HBD := hide (show recBody r = [beB r.kind 0, beB r.name.size 0] ++ r.name.data.toList ++ (beL r.num 8) by simp [recBody, recTail, hk])
  have HLEN := hide (body_len h8 ht)
  have HV := hide (show recBytesL r = recBody r ++ putL 2 [recSum (recBody r)] by simp only [recBytesL, hb, if_true, recAll]; simp [putL])
  have HB := hide hb
  have HPUT := hide (put_value r)
  have HKV := hide (show kindVal r.kind = .iface 66 (.agg #[]) by rw [hk]; rfl)
  unfold recVal at HK ⊢
  have BX0 := hide (boxMade4 w (.int .i64 r.kind) (.string r.name) (.int .i64 r.num) (.string r.text) 32)
  have HA2 := hide (show ([] : List UInt8) ++ putL 1 [r.kind, (r.name.size : Int)] = [beB r.kind 0, beB r.name.size 0] by simp [putL, beL])
  clear hb hf hk
  go_enter Try.func16, Try.ntmps16
  go_wp2_with fail
  refine (unhide HK _).mono ?_
  rintro e w1 ⟨rfl, b1⟩
  have BX1 := hide ((unhide BX0).up b1)
  have B1 := hide (show Below w.heap.size w w1 from Below.trans (by go_grown) (b1.mono (by simp)))
  have hz1 : w.heap.size < w1.heap.size := (unhide BX1).1
  clear b1
  obtain ⟨x0, x1, x2, x3⟩ := (unhide BX1).four
  go_wp2_with fail
  refine (putNums_any w1.heap.size _ none 0 0 [] 1 w1.heap.size 2 [r.kind, (r.name.size : Int)] (by omega) (by simp) (by simp) (by simp) (by simp [Value.ownBlock]) (ByRow.nil _ _) (nums2 w1 r.kind r.name.size 3)).mono ?_
  rintro e w2 ⟨a2, n2, c2, rfl, P2⟩
  have RA := hide (show ByRow w1.heap.size w2 (.slice a2 n2 c2) [beB r.kind 0, beB r.name.size 0] by rw [← unhide HA2]; exact (unhide P2).1)
  have BB2 := hide (show Below w1.heap.size w1 w2 from (((Turn.refl _ w1).alloc _).trans (unhide P2).2.1).below (Nat.le_refl _) (by simp [ownL, Value.ownBlock]))
  clear P2 x0 x1 x2 x3
  obtain ⟨x0, x1, x2, x3⟩ := ((unhide BX1).up (unhide BB2)).four
  go_wp2_with (first
    | (at_builtin; have _t := RA; refine wpList_byAppendStr rfl _ _ rfl w1.heap.size _ r.name _ rfl rfl (unhide RA) (by simp; omega) (unhide BB2).size ?_; intro a3 n3 c3 w3 r3 g3; have RB := hide r3; have BB3 := hide ((unhide BB2).grown g3 (unhide BB2).size (fun y hy => (unhide RA).ge y hy)); clear r3 g3 RA x0 x1 x2 x3; obtain ⟨x0, x1, x2, x3⟩ := ((unhide BX1).up (unhide BB3)).four)
    | fail)
  have KP := hide (show ∀ X, Below w1.heap.size w1 X → (X.cell? ⟨w.heap.size, 0, none⟩ = some (.int .i64 r.kind) ∧ X.cell? ⟨w.heap.size, 1, none⟩ = some (.string r.name) ∧ X.cell? ⟨w.heap.size, 2, none⟩ = some (.int .i64 r.num) ∧ X.cell? ⟨w.heap.size, 3, none⟩ = some (.string r.text)) from fun X b => ((unhide BX1).up b).four)
  have BD := hide (unhide BB3).drew
  have RBd := hide (show ByRow w1.heap.size w3.drew (.slice a3 n3 c3) _ from (unhide RB).keep (fun _ _ => rfl))
  have hzd := hide (show w1.heap.size ≤ w3.drew.heap.size from (unhide BD).size)
  have hlx : ([beB r.kind 0, beB r.name.size 0] ++ r.name.data.toList).length ≤ 1000 := by simp; omega
  go_region_held3 (fun X : World => X.cell? ⟨w.heap.size, 0, none⟩ = some (.int .i64 r.kind) ∧ X.cell? ⟨w.heap.size, 1, none⟩ = some (.string r.name) ∧ X.cell? ⟨w.heap.size, 2, none⟩ = some (.int .i64 r.num) ∧ X.cell? ⟨w.heap.size, 3, none⟩ = some (.string r.text)) ((refine unhide KP _ ?_; exact unhide (by assumption)))
    (first
      | (go_at_call 23; refine (recKindOf_any r.kind _).mono ?_; rintro e w9 ⟨rfl, hw9⟩; rw [hw9, unhide HKV]; clear hw9 w9)
      | (go_at_call 57; refine (unhide HPUT w1.heap.size w3.drew a3 n3 c3 _ hlx (unhide hzd) (unhide RBd)).mono ?_; rintro e w4 ⟨a4, n4, c4, rfl, P4⟩; have RC := hide (show ByRow w1.heap.size w4 (.slice a4 n4 c4) (recBody r) by rw [unhide HBD]; exact (unhide P4).1); have BB4 := hide ((unhide BD).trans (unhide P4).2); clear P4)
      | fail)
  all_goals
    go_wp2_with (first
      | (go_at_call 24; refine (implSum_any _ _ (recBody r) (by have := unhide HLEN; unfold maxLen; omega) (unhide RC).rd).mono ?_; rintro e w5 ⟨rfl, hw5⟩; rw [hw5]; clear hw5 w5)
      | fail)
    refine (putNums_any w1.heap.size _ a4 n4 c4 (recBody r) 2 w4.heap.size 1 [recSum (recBody r)] (by omega) (by simp) (by have := unhide HLEN; omega) (by have := (unhide BB4).size; simp; omega) (fun e => by have := (unhide RC).lt _ e; omega) ((unhide RC).up' _) (nums1 (numsOne w4 (recSum (recBody r)) 3))).mono ?_
    rintro e w6 ⟨a6, n6, c6, rfl, P6⟩
    have BB6 := hide (show Below w1.heap.size w1 w6 from (unhide BB4).trans ((((Turn.refl _ w4).alloc _).trans (unhide P6).2.1).below (unhide BB4).size (ownL_ge (unhide RC))))
    have R6 := hide (unhide P6).1
    clear P6
    go_wp2_with fail
    go_ret2
    exact ⟨a6, n6, c6, by rw [unhide HB]; rfl, by rw [unhide HV]; exact (unhide R6).mono (by omega), (unhide B1).trans ((unhide BB6).mono (unhide B1).size)⟩
theorem specRecBytes_any (r : RecV) (w : World) (hf : RecFit r) : Calls Try.prog 17 #[recVal r] w fun e w' => RetRec r w e w' := by
  cases hb : recOkB r
  · exact specRecBytes_no r w hf hb
  · obtain ⟨_, _, h | h | h | h⟩ := ok_sizes hb
    · exact specRecBytes_1 r w hf hb h
    · exact specRecBytes_2 r w hf hb h
    · exact specRecBytes_3 r w hf hb h
    · exact specRecBytes_4 r w hf hb h
theorem implRecBytes_any (r : RecV) (w : World) (hf : RecFit r) : Calls Try.prog 16 #[recVal r] w fun e w' => RetRec r w e w' := by
  cases hb : recOkB r
  · exact implRecBytes_no r w hf hb
  · obtain ⟨_, _, h | h | h | h⟩ := ok_sizes hb
    · exact implRecBytes_1 r w hf hb h
    · exact implRecBytes_2 r w hf hb h
    · exact implRecBytes_3 r w hf hb h
    · exact implRecBytes_4 r w hf hb h
end Go.Proofs.Ytcpjcdbhcllbiaa
