/-
  SayBytes of the specification.
-/
import Derived.Test.YtiebfcefmdiajaaGreatDoorMerged11
import Derived.Test.YtiebfcefmdiajaaGreatDoorMerged12
import Derived.Deep.RegionLaw
set_option linter.unusedVariables false
namespace Go.Proofs.YtiebfcefmdiajaaGreatDoor
open Go.RowKit Go.Maps Go.Deep

theorem beB_small (x : Int) (h0 : 0 ≤ x) (h1 : x < 256) : ((beB x 0).toNat : Int) = x := by
  rw [beB_val]
  simp
  show x % 256 = x
  omega
theorem byLit1 (w : World) (x : Int) (hx0 : 0 ≤ x) (hx1 : x < 256) : ByRd (w.alloc (.cells #[.int .u8 x] 5)) (.slice (some ⟨w.heap.size, 0, none⟩) 1 1) [beB x 0] := by
  have := byCell1 w (beB x 0)
  rwa [beB_small x hx0 hx1] at this
theorem byLit3 (w : World) (x y z : Int) (B : Nat) (hB : B ≤ w.heap.size) (hx : 0 ≤ x ∧ x < 256) (hy : 0 ≤ y ∧ y < 256) (hz : 0 ≤ z ∧ z < 256) : ByRow B (w.alloc (.cells #[.int .u8 x, .int .u8 y, .int .u8 z] 5)) (.slice (some ⟨w.heap.size, 0, none⟩) 3 3) [beB x 0, beB y 0, beB z 0] := by
  have := World.ownsRow_lit (size := 1) (base := B) (e := 5) w #[.int .u8 x, .int .u8 y, .int .u8 z] 3 hB (by unfold maxLen; omega) rfl
  unfold ByRow
  simp only [List.map, byV, beB_small x hx.1 hx.2, beB_small y hy.1 hy.2, beB_small z hz.1 hz.2]
  exact this
/-- a row that grew, and nothing below B turned -/
def RetGrow (bs : List UInt8) (B : Nat) (w : World) (e : Ending) (w' : World) : Prop := ∃ a n c, e = .returned (.slice a n c) ∧ Hid (ByRow B w' (.slice a n c) bs ∧ Below B w w')
set_option maxHeartbeats 3200000 in
theorem putName_any (B : Nat) (w : World) (a0 : Option Addr) (n0 c0 : Nat) (xs : List UInt8) (s : ByteArray) (hs : s.size ≤ 8) (hxl : xs.length ≤ 1000000) (hB : B ≤ w.heap.size) (hv : ByRow B w (.slice a0 n0 c0) xs) :
    Calls Tryz.prog 64 #[.slice a0 n0 c0, .string s] w fun e w' => RetGrow (xs ++ nameBytes s) B w e w' := by
  have R0 := hide (hv.up' (.cells #[.int .u8 (s.size : Int)] 5))
  have U0 := hide (byLit1 w (s.size : Int) (by omega) (by omega))
  have B0 := hide ((Below.refl B w).alloc hB (.cells #[.int .u8 (s.size : Int)] 5))
  have hz0 := hide (show B ≤ (w.alloc (.cells #[.int .u8 (s.size : Int)] 5)).heap.size by simp; omega)
  have hl0 := hide (show xs.length + [beB (s.size : Int) 0].length ≤ 140737488355328 by simp; omega)
  have hl1 := hide (show (xs ++ [beB (s.size : Int) 0]).length + s.size ≤ 140737488355328 by simp; omega)
  have HE := hide (show (xs ++ [beB (s.size : Int) 0]) ++ s.data.toList = xs ++ nameBytes s by simp [nameBytes])
  clear hv
  go_enter Tryz.func64, Tryz.ntmps64
  go_wp2_with (first
    | (at_builtin; have _t := R1; refine wpList_byAppendStr rfl _ _ rfl B _ s (xs ++ [beB (s.size : Int) 0]) rfl rfl (unhide R1) (unhide hl1) (unhide hz1) ?_; intro a2 n2 c2 w2 r2 g2; have R2 := hide r2; have B2 := hide ((unhide B1).grown g2 (unhide hz1) (fun y hy => (unhide R1).ge y hy)); clear r2 g2)
    | (at_builtin; refine wpList_byAppend rfl _ _ rfl B _ _ xs [beB (s.size : Int) 0] rfl rfl (unhide R0) (unhide U0) (unhide hl0) (unhide hz0) ?_; intro a1 c1 w1 r1 g1 o1; generalize xs.length + [beB (s.size : Int) 0].length = n1 at *; have R1 := hide r1; have B1 := hide ((unhide B0).grown g1 (unhide hz0) (fun y hy => (unhide R0).ge y hy)); have hz1 := hide (show B ≤ w1.heap.size from Nat.le_trans (unhide hz0) g1.size); clear r1 g1 o1)
    | fail)
  go_ret
  exact ⟨a2, n2, c2, rfl, hide ⟨by rw [← unhide HE]; exact unhide R2, unhide B2⟩⟩
set_option maxHeartbeats 1600000 in
theorem specSayBytes_no (s : SayV) (v : Value) (w : World) (hs : SmallSay s) (h : SayRd w v s) (hb : sayOkB s = false) : Calls Tryz.prog 43 #[v] w fun e w' => RetSay s w e w' := by
  have HK := hide (fun W (b : Below w.heap.size w W) => specSayOk_any s v W hs (h.up b))
  rw [hb] at HK
  have HV := hide (show sayBytesL s = [] by simp [sayBytesL, hb])
  have HB := hide hb
  obtain ⟨k, f, t, nm, vl, a, n, c, rfl⟩ := h.form
  clear hb hs h
  go_enter Tryz.func43, Tryz.ntmps43
  go_wp2_with fail
  refine (unhide HK _ (by go_grown)).mono ?_
  rintro e w1 ⟨rfl, b1⟩
  have B1 := hide (show Below w.heap.size w w1 from Below.trans (by go_grown) (b1.mono (by simp)))
  clear b1
  go_wp2_with fail
  go_ret2
  exact ⟨none, 0, 0, by rw [unhide HB]; rfl, by rw [unhide HV]; exact ByRow.nil _ _, unhide B1⟩
set_option maxHeartbeats 6400000 in
theorem specSayBytes_bare (kind src dst val : Int) (name : ByteArray) (stamp : List VerV) (a : Option Addr) (c : Nat) (w : World) (hs : SmallSay ⟨kind, src, dst, name, val, stamp⟩) (h : VerIn w a stamp) (hb : sayOkB ⟨kind, src, dst, name, val, stamp⟩ = true) (hk : kind ≠ 2) :
    Calls Tryz.prog 43 #[.agg #[.int .i64 kind, .int .i64 src, .int .i64 dst, .string name, .int .i64 val, .slice a stamp.length c]] w fun e w' => RetSay ⟨kind, src, dst, name, val, stamp⟩ w e w' := by
  have HK := hide (fun W (b : Below w.heap.size w W) => specSayOk_any ⟨kind, src, dst, name, val, stamp⟩ (.agg #[.int .i64 kind, .int .i64 src, .int .i64 dst, .string name, .int .i64 val, .slice a stamp.length c]) W hs ⟨_, rfl, a, c, rfl, h.below b⟩)
  rw [hb] at HK
  have hg := say_good hb
  have hnm := plain_szB hg.name
  have h1 := hg.src
  have h2 := hg.dst
  have hkk : 1 ≤ kind ∧ kind ≤ 3 := by have := hg.kind; simp only at this; omega
  simp only at hnm h1 h2
  obtain ⟨h1a, h1b⟩ := h1
  obtain ⟨h2a, h2b⟩ := h2
  obtain ⟨hka, hkb⟩ := hkk
  have HLEN := hide (sayBody_len hg)
  have HBD := hide (show [beB kind 0, beB src 0, beB dst 0] ++ nameBytes name = sayBody ⟨kind, src, dst, name, val, stamp⟩ by simp [sayBody, sayTail, hk])
  have HV := hide (show sayBytesL ⟨kind, src, dst, name, val, stamp⟩ = sayBody ⟨kind, src, dst, name, val, stamp⟩ ++ beL (saySum (sayBody ⟨kind, src, dst, name, val, stamp⟩)) 2 by simp only [sayBytesL, hb, if_true, sayAll])
  have HB := hide hb
  have q2 : (kind == 2) = false := by simpa using hk
  have BX0 := hide (boxMade w [.int .i64 kind, .int .i64 src, .int .i64 dst, .string name, .int .i64 val, .slice a stamp.length c] 24)
  generalize sayBody ⟨kind, src, dst, name, val, stamp⟩ = body at *
  clear hg hb hs h hk
  generalize stamp.length = n at *
  go_enter Tryz.func43, Tryz.ntmps43
  go_wp2_with fail
  refine (unhide HK _ (by go_grown)).mono ?_
  rintro e w1 ⟨rfl, b1⟩
  have BX1 := hide ((unhide BX0).up b1)
  have B1 := hide (show Below w.heap.size w w1 from Below.trans (by go_grown) (b1.mono (by simp)))
  have hz1 : w.heap.size < w1.heap.size := (unhide BX1).1
  have RA := hide (byLit3 w1 kind src dst w1.heap.size (Nat.le_refl _) (by omega) (by omega) (by omega))
  clear b1 BX0
  obtain ⟨x0, x1, x2, x3, x4, x5⟩ := (unhide BX1).six
  go_wp2_with fail
  refine (putName_any w1.heap.size _ _ 3 3 [beB kind 0, beB src 0, beB dst 0] name hnm (by simp) (by simp) (unhide RA)).mono ?_
  rintro e w2 ⟨a2, n2, c2, rfl, P2⟩
  have R2 := hide (show ByRow w1.heap.size w2 (.slice a2 n2 c2) body by rw [← unhide HBD]; exact (unhide P2).1)
  have B2 := hide (show Below w1.heap.size w1 w2 from ((Below.refl w1.heap.size w1).alloc (Nat.le_refl _) _).trans (unhide P2).2)
  clear P2 RA x0 x1 x2 x3 x4 x5
  obtain ⟨x0, x1, x2, x3, x4, x5⟩ := ((unhide BX1).up (unhide B2)).six
  go_wp2_with fail
  refine (specSSum_any _ _ body (by have := unhide HLEN; unfold maxLen; omega) (unhide R2).rd).mono ?_
  rintro e w3 ⟨rfl, hw⟩
  rw [hw]
  clear hw
  go_wp2_with fail
  refine (l9Put_any w1.heap.size w2 _ _ _ body _ 2 (by omega) (by have := unhide HLEN; omega) (unhide B2).size (unhide R2)).mono ?_
  rintro e w4 ⟨a4, n4, c4, rfl, P4⟩
  have R4 := hide (unhide P4).1
  have B4 := hide (show Below w1.heap.size w1 w4 from (unhide B2).trans ((unhide P4).2.1.below (unhide B2).size (ownL_ge (unhide R2))))
  clear P4
  go_wp2_with fail
  go_ret2
  exact ⟨_, _, _, by rw [unhide HB]; rfl, by rw [unhide HV]; exact (unhide R4).mono (by omega), (unhide B1).trans ((unhide B4).mono (unhide B1).size)⟩
set_option maxHeartbeats 6400000 in
theorem specSayBytes_tell (src dst val : Int) (name : ByteArray) (stamp : List VerV) (a : Option Addr) (c : Nat) (w : World) (hs : SmallSay ⟨2, src, dst, name, val, stamp⟩) (h : VerIn w a stamp) (hb : sayOkB ⟨2, src, dst, name, val, stamp⟩ = true) :
    Calls Tryz.prog 43 #[.agg #[.int .i64 2, .int .i64 src, .int .i64 dst, .string name, .int .i64 val, .slice a stamp.length c]] w fun e w' => RetSay ⟨2, src, dst, name, val, stamp⟩ w e w' := by
  have HK := hide (fun W (b : Below w.heap.size w W) => specSayOk_any ⟨2, src, dst, name, val, stamp⟩ (.agg #[.int .i64 2, .int .i64 src, .int .i64 dst, .string name, .int .i64 val, .slice a stamp.length c]) W hs ⟨_, rfl, a, c, rfl, h.below b⟩)
  rw [hb] at HK
  have hg := say_good hb
  have hnm := plain_szB hg.name
  have h1 := hg.src
  have h2 := hg.dst
  obtain ⟨ht1, ht2⟩ := hg.tell rfl
  obtain ⟨ht3, ht4⟩ := stamp_names ht2
  simp only at hnm h1 h2 ht1 ht3 ht4
  obtain ⟨b, off, rfl, hbl, hc⟩ : ∃ b off, a = some ⟨b, off, none⟩ ∧ b < w.heap.size ∧ VerAt w b off stamp := by
    rcases h with h0 | h0
    · rw [h0] at ht1; simp at ht1
    · exact h0
  obtain ⟨h1a, h1b⟩ := h1
  obtain ⟨h2a, h2b⟩ := h2
  have HLEN := hide (sayBody_len hg)
  have HNM := hide ht4
  have HBD := hide (show ([beB 2 0, beB src 0, beB dst 0] ++ nameBytes name ++ beL val 8 ++ [beB (stamp.length : Int) 0]) ++ stampBytes stamp = sayBody ⟨2, src, dst, name, val, stamp⟩ by simp [sayBody, sayTail])
  have HV := hide (show sayBytesL ⟨2, src, dst, name, val, stamp⟩ = sayBody ⟨2, src, dst, name, val, stamp⟩ ++ beL (saySum (sayBody ⟨2, src, dst, name, val, stamp⟩)) 2 by simp only [sayBytesL, hb, if_true, sayAll])
  have HB := hide hb
  have BX0 := hide (boxMade w [.int .i64 2, .int .i64 src, .int .i64 dst, .string name, .int .i64 val, .slice (some ⟨b, off, none⟩) stamp.length c] 24)
  generalize sayBody ⟨2, src, dst, name, val, stamp⟩ = body at *
  have HC := hide hc
  clear hg hb hs h ht2 hc
  go_enter Tryz.func43, Tryz.ntmps43
  go_wp2_with fail
  refine (unhide HK _ (by go_grown)).mono ?_
  rintro e w1 ⟨rfl, b1⟩
  have BX1 := hide ((unhide BX0).up b1)
  have B1 := hide (show Below w.heap.size w w1 from Below.trans (by go_grown) (b1.mono (by simp)))
  have hz1 : w.heap.size < w1.heap.size := (unhide BX1).1
  have RA := hide (byLit3 w1 2 src dst w1.heap.size (Nat.le_refl _) (by omega) (by omega) (by omega))
  have HC1 := hide (show ∀ X, Below w1.heap.size w1 X → VerAt X b off stamp from fun X bx => (unhide HC).below ((unhide B1).trans (bx.mono (unhide B1).size)) hbl)
  clear b1 BX0 HC HK
  obtain ⟨x0, x1, x2, x3, x4, x5⟩ := (unhide BX1).six
  go_wp2_with fail
  refine (putName_any w1.heap.size _ _ 3 3 [beB 2 0, beB src 0, beB dst 0] name hnm (by simp) (by simp) (unhide RA)).mono ?_
  rintro e w2 ⟨a2, n2, c2, rfl, P2⟩
  have R2 := hide (unhide P2).1
  have B2 := hide (show Below w1.heap.size w1 w2 from ((Below.refl w1.heap.size w1).alloc (Nat.le_refl _) _).trans (unhide P2).2)
  have HL2 := hide (show ([beB 2 0, beB src 0, beB dst 0] ++ nameBytes name).length ≤ 1000 by simp [nameBytes_len]; omega)
  generalize ([beB 2 0, beB src 0, beB dst 0] ++ nameBytes name) = xs2 at *
  clear P2 RA x0 x1 x2 x3 x4 x5
  obtain ⟨x0, x1, x2, x3, x4, x5⟩ := ((unhide BX1).up (unhide B2)).six
  go_wp2_with fail
  refine (l9Put_any w1.heap.size w2 _ _ _ xs2 _ 8 (by omega) (by have := unhide HL2; omega) (unhide B2).size (unhide R2)).mono ?_
  rintro e w3 ⟨a3, n3, c3, rfl, P3⟩
  have R3 := hide (unhide P3).1
  have B3 := hide (show Below w1.heap.size w1 w3 from (unhide B2).trans ((unhide P3).2.1.below (unhide B2).size (ownL_ge (unhide R2))))
  have HL3 := hide (show (xs2 ++ beL val 8).length ≤ 1010 by have := unhide HL2; rw [List.length_append, beL_length]; omega)
  generalize (xs2 ++ beL val 8) = xs3 at *
  clear P3 R2 B2 x0 x1 x2 x3 x4 x5
  obtain ⟨x0, x1, x2, x3, x4, x5⟩ := ((unhide BX1).up (unhide B3)).six
  have R3a := hide ((unhide R3).up' (.cells #[.int .u8 (stamp.length : Int)] 5))
  have U3a := hide (byLit1 w3 (stamp.length : Int) (by omega) (by omega))
  have B3a := hide ((unhide B3).alloc (unhide B3).size (.cells #[.int .u8 (stamp.length : Int)] 5))
  have hl3 := hide (show xs3.length + [beB (stamp.length : Int) 0].length ≤ 140737488355328 by have := unhide HL3; simp; omega)
  have hz3 : w.heap.size < w3.heap.size := by have := (unhide B3).size; omega
  go_wp2_with (first
    | (at_builtin; refine wpList_byAppend rfl _ _ rfl w1.heap.size _ _ xs3 [beB (stamp.length : Int) 0] rfl rfl (unhide R3a) (unhide U3a) (unhide hl3) (unhide B3a).size ?_; intro a4 c4 w4 r4 g4 _; generalize xs3.length + [beB (stamp.length : Int) 0].length = n4 at *; have R4 := hide r4; have B4 := hide ((unhide B3a).grown g4 (unhide B3a).size (fun y hy => (unhide R3a).ge y hy)); clear r4 g4)
    | fail)
  have HL4 := hide (show (xs3 ++ [beB (stamp.length : Int) 0]).length ≤ 1011 by have := unhide HL3; simp; omega)
  generalize (xs3 ++ [beB (stamp.length : Int) 0]) = xs4 at *
  clear R3 R3a U3a B3a B3 hl3 x0 x1 x2 x3 x4 x5
  have HX := hide (show ∀ X, Below w1.heap.size w1 X → X.cell? ⟨w.heap.size, 5, none⟩ = some (.slice (some ⟨b, off, none⟩) stamp.length c) from fun X bx => ((unhide BX1).up bx).six.2.2.2.2.2)
  go_loopw [4, 5] (fun v i wr => ∃ (k : Nat) (a : Option Addr) (n c : Nat) (ys : List UInt8), k ≤ stamp.length ∧ i = .int .i64 k ∧ v = .slice a n c ∧ Hid (ByRow w1.heap.size wr (.slice a n c) ys) ∧ Hid (ys = xs4 ++ stampBytes (stamp.take k)) ∧ Hid (Below w1.heap.size w1 wr)) (fun _ i _ => stamp.length - (intOf i).toNat)
  case atStart => exact ⟨0, _, _, _, xs4, Nat.zero_le _, rfl, rfl, R4, hide (by simp [stampBytes]), B4⟩
  case round =>
    obtain ⟨k, ar, nr, cr, ys, hk, rfl, rfl, HR, HYS, HBr⟩ := hrel
    have x5 := unhide HX wr (unhide HBr)
    by_cases hlt : k < stamp.length
    · obtain ⟨c0, c1⟩ := unhide HC1 wr (unhide HBr) k hlt
      have hsz := hide (plain_szB (unhide HNM _ (List.getElem_mem hlt)).1)
      have HNX := hide (show (ys ++ nameBytes stamp[k].a0) ++ beL stamp[k].a1 6 = xs4 ++ stampBytes (stamp.take (k + 1)) by rw [unhide HYS, stampBytes_take stamp k hlt]; simp)
      have HYL := hide (show ys.length ≤ 2000 by
        rw [unhide HYS, List.length_append]
        have h1 := stampBytes_len (stamp.take k) (fun x hx => plain_szB (unhide HNM x (List.mem_of_mem_take hx)).1)
        have h2 := unhide HL4
        rw [List.length_take] at h1
        omega)
      have HX2 := hide (fun X (bx : Below w1.heap.size w1 X) => unhide HC1 X bx k hlt)
      generalize stamp[k].a0 = nm at *
      generalize stamp[k].a1 = vl at *
      go_wp2_with fail
      refine (putName_any w1.heap.size _ _ _ _ ys nm (unhide hsz) (by have := unhide HYL; omega) (unhide HBr).size (unhide HR)).mono ?_
      rintro e w5 ⟨a5, n5, c5, rfl, P5⟩
      have R5 := hide (unhide P5).1
      have B5 := hide ((unhide HBr).trans (unhide P5).2)
      have HL5 := hide (show (ys ++ nameBytes nm).length ≤ 2010 by have h1 := unhide HYL; have h2 := unhide hsz; rw [List.length_append, nameBytes_len]; omega)
      clear P5 c0 c1 x5
      obtain ⟨c0, c1⟩ := unhide HX2 w5 (unhide B5)
      have x5 := unhide HX w5 (unhide B5)
      generalize (ys ++ nameBytes nm) = ys5 at *
      go_wp2_with fail
      refine (l9Put_any w1.heap.size w5 _ _ _ ys5 vl 6 (by omega) (by have := unhide HL5; omega) (unhide B5).size (unhide R5)).mono ?_
      rintro e w6 ⟨a6, n6, c6, rfl, P6⟩
      have R6 := hide (unhide P6).1
      have B6 := hide (show Below w1.heap.size w1 w6 from (unhide B5).trans ((unhide P6).2.1.below (unhide B5).size (ownL_ge (unhide R5))))
      clear P6 c0 c1 x5
      go_wp2_with fail
      go_roundw
      case rel => exact ⟨k + 1, a6, n6, c6, _, by omega, by go_num, rfl, R6, HNX, B6⟩
      case measure => simp [intOf]; omega
    · have e : k = stamp.length := by omega
      have HBY := hide (show ys = body by rw [unhide HYS, e, List.take_of_length_le (Nat.le_refl _)]; exact unhide HBD)
      rw [unhide HBY] at HR
      clear e HYS
      go_wp2_with fail
      refine (specSSum_any _ _ body (by have := unhide HLEN; unfold maxLen; omega) (unhide HR).rd).mono ?_
      rintro e w7 ⟨rfl, hw⟩
      rw [hw]
      clear hw
      go_wp2_with fail
      refine (l9Put_any w1.heap.size wr _ _ _ body _ 2 (by omega) (by have := unhide HLEN; omega) (unhide HBr).size (unhide HR)).mono ?_
      rintro e w8 ⟨a8, n8, c8, rfl, P8⟩
      have R8 := hide (unhide P8).1
      have B8 := hide (show Below w1.heap.size w1 w8 from (unhide HBr).trans ((unhide P8).2.1.below (unhide HBr).size (ownL_ge (unhide HR))))
      clear P8
      go_wp2_with fail
      go_ret2
      exact ⟨_, _, _, by rw [unhide HB]; rfl, by rw [unhide HV]; exact (unhide R8).mono (by omega), (unhide B1).trans ((unhide B8).mono (unhide B1).size)⟩
theorem specSayBytes_any (s : SayV) (v : Value) (w : World) (hs : SmallSay s) (h : SayRd w v s) : Calls Tryz.prog 43 #[v] w fun e w' => RetSay s w e w' := by
  cases hb : sayOkB s
  · exact specSayBytes_no s v w hs h hb
  · obtain ⟨v5, rfl, a, c, rfl, h⟩ := h
    obtain ⟨kind, src, dst, name, val, stamp⟩ := s
    by_cases hk : kind = 2
    · subst hk
      exact specSayBytes_tell src dst val name stamp a c w hs h hb
    · exact specSayBytes_bare kind src dst val name stamp a c w hs h hb hk
end Go.Proofs.YtiebfcefmdiajaaGreatDoor
