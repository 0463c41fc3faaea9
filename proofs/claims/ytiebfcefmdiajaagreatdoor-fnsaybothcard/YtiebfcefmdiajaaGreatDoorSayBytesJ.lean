/-
  SayBytes of the program: the whole word, by its kind. (Made by wip/mksaybytes.py.)
-/
import Derived.Test.YtiebfcefmdiajaaGreatDoorSayBytesI
set_option linter.unusedVariables false
namespace Go.Proofs.YtiebfcefmdiajaaGreatDoor
open Go.RowKit Go.Maps Go.Deep

theorem nums4 (w : World) (x y z u : Int) (T : TypeId) : NumsAt (w.alloc (.cells #[.int .i64 x, .int .i64 y, .int .i64 z, .int .i64 u] T)) w.heap.size [x, y, z, u] := ⟨by simp, fun i hi => by
  rw [World.cell?_alloc_at _ _ _ _ (by simp)]
  match i, hi with
  | 0, _ => rfl
  | 1, _ => rfl
  | 2, _ => rfl
  | 3, _ => rfl⟩
set_option maxRecDepth 20000 in
set_option maxHeartbeats 1600000 in
theorem implSayBytes_no (s : SayV) (v : Value) (w : World) (hs : SmallSay s) (h : SayRd w v s) (hb : sayOkB s = false) : Calls Tryz.prog 20 #[v] w fun e w' => RetSay s w e w' := by
  have HK := hide (fun W (b : Below w.heap.size w W) => implSayOk_any s v W hs (h.up b))
  rw [hb] at HK
  have HV := hide (show sayBytesL s = [] by simp [sayBytesL, hb])
  have HB := hide hb
  obtain ⟨k, f, t, nm, vl, a, n, c, rfl⟩ := h.form
  clear hb hs h
  go_enter Tryz.func20, Tryz.ntmps20
  go_wp2_with fail
  refine (unhide HK _ (by go_grown)).mono ?_
  rintro e w1 ⟨rfl, b1⟩
  have B1 := hide (show Below w.heap.size w w1 from Below.trans (by go_grown) (b1.mono (by simp)))
  clear b1
  go_wp2_with fail
  go_ret2
  exact ⟨none, 0, 0, by rw [unhide HB]; rfl, by rw [unhide HV]; exact ByRow.nil _ _, unhide B1⟩
set_option maxRecDepth 20000 in
set_option maxHeartbeats 6400000 in
set_option maxRecDepth 20000 in
theorem implSayBytes_1 (src dst val : Int) (name : ByteArray) (stamp : List VerV) (a : Option Addr) (c : Nat) (w : World) (hs : SmallSay ⟨1, src, dst, name, val, stamp⟩) (h : VerIn w a stamp) (hb : sayOkB ⟨1, src, dst, name, val, stamp⟩ = true) :
    Calls Tryz.prog 20 #[.agg #[.int .i64 1, .int .i64 src, .int .i64 dst, .string name, .int .i64 val, .slice a stamp.length c]] w fun e w' => RetSay ⟨1, src, dst, name, val, stamp⟩ w e w' := by
  have HK := hide (fun W (b : Below w.heap.size w W) => implSayOk_any ⟨1, src, dst, name, val, stamp⟩ (.agg #[.int .i64 1, .int .i64 src, .int .i64 dst, .string name, .int .i64 val, .slice a stamp.length c]) W hs ⟨_, rfl, a, c, rfl, h.below b⟩)
  rw [hb] at HK
  have hg := say_good hb
  have hnm := plain_szB hg.name
  simp only at hnm
  have HLEN := hide (sayBody_len hg)
  have HBD := hide (show ([beB 1 0, beB src 0, beB dst 0, beB (name.size : Int) 0] ++ name.data.toList) ++ [] = sayBody ⟨1, src, dst, name, val, stamp⟩ by simp [sayBody, sayTail, nameBytes])
  have HV := hide (show sayBytesL ⟨1, src, dst, name, val, stamp⟩ = sayBody ⟨1, src, dst, name, val, stamp⟩ ++ putL 2 [saySum (sayBody ⟨1, src, dst, name, val, stamp⟩)] by simp only [sayBytesL, hb, if_true, sayAll]; simp [putL])
  have HB := hide hb
  have HKV := hide (show sayKind 1 = .iface 113 (.agg #[]) from rfl)
  have BX0 := hide (boxMade w [.int .i64 1, .int .i64 src, .int .i64 dst, .string name, .int .i64 val, .slice a stamp.length c] 24)
  have HA2 := hide (show ([] : List UInt8) ++ putL 1 [1, src, dst, (name.size : Int)] = [beB 1 0, beB src 0, beB dst 0, beB (name.size : Int) 0] by simp [putL, beL])
  have HL2 := hide (show ([beB 1 0, beB src 0, beB dst 0, beB (name.size : Int) 0] ++ name.data.toList).length ≤ 1000 by simp; omega)
  have hl1 := hide (show [beB 1 0, beB src 0, beB dst 0, beB (name.size : Int) 0].length + name.size ≤ 140737488355328 by simp; omega)
  generalize sayBody ⟨1, src, dst, name, val, stamp⟩ = body at *
  generalize [beB 1 0, beB src 0, beB dst 0, beB (name.size : Int) 0] = hd at *
  clear hg hb hs h
  generalize stamp.length = n at *
  go_enter Tryz.func20, Tryz.ntmps20
  go_wp2_with fail
  refine (unhide HK _ (by go_grown)).mono ?_
  rintro e w1 ⟨rfl, b1⟩
  have BX1 := hide ((unhide BX0).up b1)
  have B1 := hide (show Below w.heap.size w w1 from Below.trans (by go_grown) (b1.mono (by simp)))
  have hz1 : w.heap.size < w1.heap.size := (unhide BX1).1
  clear b1
  obtain ⟨x0, x1, x2, x3, x4, x5⟩ := (unhide BX1).six
  go_wp2_with fail
  refine (putNums_any w1.heap.size _ none 0 0 [] 1 w1.heap.size 4 [1, src, dst, (name.size : Int)] (by omega) (by simp) (by simp) (by simp) (by simp [Value.ownBlock]) (ByRow.nil _ _) (nums4 w1 1 src dst name.size 3)).mono ?_
  rintro e w2 ⟨a2, n2, c2, rfl, P2⟩
  have RA := hide (show ByRow w1.heap.size w2 (.slice a2 n2 c2) hd by rw [← unhide HA2]; exact (unhide P2).1)
  have BB2 := hide (show Below w1.heap.size w1 w2 from (((Turn.refl _ w1).alloc _).trans (unhide P2).2.1).below (Nat.le_refl _) (by simp [ownL, Value.ownBlock]))
  clear P2 x0 x1 x2 x3 x4 x5
  obtain ⟨x0, x1, x2, x3, x4, x5⟩ := ((unhide BX1).up (unhide BB2)).six
  go_wp2_with (first
    | (at_builtin; have _t := RA; refine wpList_byAppendStr rfl _ _ rfl w1.heap.size _ name _ rfl rfl (unhide RA) (unhide hl1) (unhide BB2).size ?_; intro a3 n3 c3 w3 r3 g3; have RB := hide r3; have BB3 := hide ((unhide BB2).grown g3 (unhide BB2).size (fun y hy => (unhide RA).ge y hy)); clear r3 g3 RA x0 x1 x2 x3 x4 x5; obtain ⟨x0, x1, x2, x3, x4, x5⟩ := ((unhide BX1).up (unhide BB3)).six)
    | fail)
  have KP := hide (show ∀ X, Below w1.heap.size w1 X → (X.cell? ⟨w.heap.size, 0, none⟩ = some (.int .i64 1) ∧ X.cell? ⟨w.heap.size, 1, none⟩ = some (.int .i64 src) ∧ X.cell? ⟨w.heap.size, 2, none⟩ = some (.int .i64 dst) ∧ X.cell? ⟨w.heap.size, 3, none⟩ = some (.string name) ∧ X.cell? ⟨w.heap.size, 4, none⟩ = some (.int .i64 val) ∧ X.cell? ⟨w.heap.size, 5, none⟩ = some (.slice a n c)) from fun X b => ((unhide BX1).up b).six)
  have BD := hide (unhide BB3).drew
  have RBd := hide (show ByRow w1.heap.size w3.drew (.slice a3 n3 c3) _ from (unhide RB).keep (fun _ _ => rfl))
  have hzd := hide (show w1.heap.size ≤ w3.drew.heap.size from (unhide BD).size)
  go_region_held3 (fun X : World => X.cell? ⟨w.heap.size, 0, none⟩ = some (.int .i64 1) ∧ X.cell? ⟨w.heap.size, 1, none⟩ = some (.int .i64 src) ∧ X.cell? ⟨w.heap.size, 2, none⟩ = some (.int .i64 dst) ∧ X.cell? ⟨w.heap.size, 3, none⟩ = some (.string name) ∧ X.cell? ⟨w.heap.size, 4, none⟩ = some (.int .i64 val) ∧ X.cell? ⟨w.heap.size, 5, none⟩ = some (.slice a n c)) ((refine unhide KP _ ?_; exact unhide (by assumption)))
    (first
      | (go_at_call 45; refine (sayKindOf_any 1 _).mono ?_; rintro e w9 ⟨rfl, hw9⟩; rw [hw9, unhide HKV]; clear hw9 w9)
      | (go_at_call 150; refine (barePut_any 1 src dst val name n a c (.slice a3 n3 c3) w3.drew).mono ?_; rintro e w4 ⟨rfl, b4⟩; have RC := hide (show ByRow w1.heap.size w4 (.slice a3 n3 c3) body by rw [← unhide HBD, List.append_nil]; exact (unhide RBd).up b4); have BB4 := hide ((unhide BD).trans (b4.mono (unhide hzd))); clear b4)
      | fail)
  all_goals
    go_wp2_with (first
      | (go_at_call 46; refine (implSSum_any _ _ body (by have := unhide HLEN; unfold maxLen; omega) (unhide RC).rd).mono ?_; rintro e w5 ⟨rfl, hw5⟩; rw [hw5]; clear hw5 w5)
      | fail)
    refine (putNums_any w1.heap.size _ _ _ _ body 2 w4.heap.size 1 [saySum body] (by omega) (by simp) (by have := unhide HLEN; omega) (by have := (unhide BB4).size; simp; omega) (fun e => by have := (unhide RC).lt _ e; omega) ((unhide RC).up' _) (nums1 (numsOne w4 (saySum body) 3))).mono ?_
    rintro e w6 ⟨a6, n6, c6, rfl, P6⟩
    have BB6 := hide (show Below w1.heap.size w1 w6 from (unhide BB4).trans ((((Turn.refl _ w4).alloc _).trans (unhide P6).2.1).below (unhide BB4).size (ownL_ge (unhide RC))))
    have R6 := hide (unhide P6).1
    clear P6
    go_wp2_with fail
    go_ret2
    exact ⟨a6, n6, c6, by rw [unhide HB]; rfl, by rw [unhide HV]; exact (unhide R6).mono (by omega), (unhide B1).trans ((unhide BB6).mono (unhide B1).size)⟩
set_option maxRecDepth 20000 in
set_option maxHeartbeats 6400000 in
set_option maxRecDepth 20000 in
theorem implSayBytes_2 (src dst val : Int) (name : ByteArray) (stamp : List VerV) (a : Option Addr) (c : Nat) (w : World) (hs : SmallSay ⟨2, src, dst, name, val, stamp⟩) (h : VerIn w a stamp) (hb : sayOkB ⟨2, src, dst, name, val, stamp⟩ = true) :
    Calls Tryz.prog 20 #[.agg #[.int .i64 2, .int .i64 src, .int .i64 dst, .string name, .int .i64 val, .slice a stamp.length c]] w fun e w' => RetSay ⟨2, src, dst, name, val, stamp⟩ w e w' := by
  have HK := hide (fun W (b : Below w.heap.size w W) => implSayOk_any ⟨2, src, dst, name, val, stamp⟩ (.agg #[.int .i64 2, .int .i64 src, .int .i64 dst, .string name, .int .i64 val, .slice a stamp.length c]) W hs ⟨_, rfl, a, c, rfl, h.below b⟩)
  rw [hb] at HK
  have hg := say_good hb
  have hnm := plain_szB hg.name
  simp only at hnm
  obtain ⟨ht1, ht2⟩ := hg.tell rfl
  simp only at ht1 ht2
  obtain ⟨b, off, rfl, hbl, hc⟩ : ∃ b off, a = some ⟨b, off, none⟩ ∧ b < w.heap.size ∧ VerAt w b off stamp := by
    rcases h with h0 | h0
    · rw [h0] at ht1; simp at ht1
    · exact h0
  have HLEN := hide (sayBody_len hg)
  have HBD := hide (show ([beB 2 0, beB src 0, beB dst 0, beB (name.size : Int) 0] ++ name.data.toList) ++ (beL val 8 ++ [beB (stamp.length : Int) 0] ++ stampBytes stamp) = sayBody ⟨2, src, dst, name, val, stamp⟩ by simp [sayBody, sayTail, nameBytes])
  have HV := hide (show sayBytesL ⟨2, src, dst, name, val, stamp⟩ = sayBody ⟨2, src, dst, name, val, stamp⟩ ++ putL 2 [saySum (sayBody ⟨2, src, dst, name, val, stamp⟩)] by simp only [sayBytesL, hb, if_true, sayAll]; simp [putL])
  have HB := hide hb
  have HKV := hide (show sayKind 2 = .iface 114 (.agg #[]) from rfl)
  have BX0 := hide (boxMade w [.int .i64 2, .int .i64 src, .int .i64 dst, .string name, .int .i64 val, .slice (some ⟨b, off, none⟩) stamp.length c] 24)
  have HA2 := hide (show ([] : List UInt8) ++ putL 1 [2, src, dst, (name.size : Int)] = [beB 2 0, beB src 0, beB dst 0, beB (name.size : Int) 0] by simp [putL, beL])
  have HL2 := hide (show ([beB 2 0, beB src 0, beB dst 0, beB (name.size : Int) 0] ++ name.data.toList).length ≤ 1000 by simp; omega)
  have hl1 := hide (show [beB 2 0, beB src 0, beB dst 0, beB (name.size : Int) 0].length + name.size ≤ 140737488355328 by simp; omega)
  generalize sayBody ⟨2, src, dst, name, val, stamp⟩ = body at *
  generalize [beB 2 0, beB src 0, beB dst 0, beB (name.size : Int) 0] = hd at *
  have HC := hide hc
  have HST := hide ht2
  clear hc ht1 ht2
  clear hg hb hs h
  go_enter Tryz.func20, Tryz.ntmps20
  go_wp2_with fail
  refine (unhide HK _ (by go_grown)).mono ?_
  rintro e w1 ⟨rfl, b1⟩
  have BX1 := hide ((unhide BX0).up b1)
  have B1 := hide (show Below w.heap.size w w1 from Below.trans (by go_grown) (b1.mono (by simp)))
  have hz1 : w.heap.size < w1.heap.size := (unhide BX1).1
  clear b1
  obtain ⟨x0, x1, x2, x3, x4, x5⟩ := (unhide BX1).six
  go_wp2_with fail
  refine (putNums_any w1.heap.size _ none 0 0 [] 1 w1.heap.size 4 [2, src, dst, (name.size : Int)] (by omega) (by simp) (by simp) (by simp) (by simp [Value.ownBlock]) (ByRow.nil _ _) (nums4 w1 2 src dst name.size 3)).mono ?_
  rintro e w2 ⟨a2, n2, c2, rfl, P2⟩
  have RA := hide (show ByRow w1.heap.size w2 (.slice a2 n2 c2) hd by rw [← unhide HA2]; exact (unhide P2).1)
  have BB2 := hide (show Below w1.heap.size w1 w2 from (((Turn.refl _ w1).alloc _).trans (unhide P2).2.1).below (Nat.le_refl _) (by simp [ownL, Value.ownBlock]))
  clear P2 x0 x1 x2 x3 x4 x5
  obtain ⟨x0, x1, x2, x3, x4, x5⟩ := ((unhide BX1).up (unhide BB2)).six
  go_wp2_with (first
    | (at_builtin; have _t := RA; refine wpList_byAppendStr rfl _ _ rfl w1.heap.size _ name _ rfl rfl (unhide RA) (unhide hl1) (unhide BB2).size ?_; intro a3 n3 c3 w3 r3 g3; have RB := hide r3; have BB3 := hide ((unhide BB2).grown g3 (unhide BB2).size (fun y hy => (unhide RA).ge y hy)); clear r3 g3 RA x0 x1 x2 x3 x4 x5; obtain ⟨x0, x1, x2, x3, x4, x5⟩ := ((unhide BX1).up (unhide BB3)).six)
    | fail)
  have KP := hide (show ∀ X, Below w1.heap.size w1 X → (X.cell? ⟨w.heap.size, 0, none⟩ = some (.int .i64 2) ∧ X.cell? ⟨w.heap.size, 1, none⟩ = some (.int .i64 src) ∧ X.cell? ⟨w.heap.size, 2, none⟩ = some (.int .i64 dst) ∧ X.cell? ⟨w.heap.size, 3, none⟩ = some (.string name) ∧ X.cell? ⟨w.heap.size, 4, none⟩ = some (.int .i64 val) ∧ X.cell? ⟨w.heap.size, 5, none⟩ = some (.slice (some ⟨b, off, none⟩) stamp.length c)) from fun X b => ((unhide BX1).up b).six)
  have BD := hide (unhide BB3).drew
  have RBd := hide (show ByRow w1.heap.size w3.drew (.slice a3 n3 c3) _ from (unhide RB).keep (fun _ _ => rfl))
  have hzd := hide (show w1.heap.size ≤ w3.drew.heap.size from (unhide BD).size)
  have HPUT := hide (tellPut_any w1.heap.size 2 src dst val name stamp b off c a3 n3 c3 (hd ++ name.data.toList) w3.drew (unhide HST) (unhide HL2) (unhide hzd) (unhide RBd) (by omega) ((unhide HC).below ((unhide B1).trans ((unhide BD).mono (unhide B1).size)) hbl))
  go_region_held3 (fun X : World => X.cell? ⟨w.heap.size, 0, none⟩ = some (.int .i64 2) ∧ X.cell? ⟨w.heap.size, 1, none⟩ = some (.int .i64 src) ∧ X.cell? ⟨w.heap.size, 2, none⟩ = some (.int .i64 dst) ∧ X.cell? ⟨w.heap.size, 3, none⟩ = some (.string name) ∧ X.cell? ⟨w.heap.size, 4, none⟩ = some (.int .i64 val) ∧ X.cell? ⟨w.heap.size, 5, none⟩ = some (.slice (some ⟨b, off, none⟩) stamp.length c)) ((refine unhide KP _ ?_; exact unhide (by assumption)))
    (first
      | (go_at_call 45; refine (sayKindOf_any 2 _).mono ?_; rintro e w9 ⟨rfl, hw9⟩; rw [hw9, unhide HKV]; clear hw9 w9)
      | (go_at_call 153; refine (unhide HPUT).mono ?_; rintro e w4 ⟨a4, n4, c4, rfl, P4⟩; have RC := hide (show ByRow w1.heap.size w4 (.slice a4 n4 c4) body by rw [← unhide HBD]; exact (unhide P4).1); have BB4 := hide ((unhide BD).trans (unhide P4).2); clear P4)
      | fail)
  all_goals
    go_wp2_with (first
      | (go_at_call 46; refine (implSSum_any _ _ body (by have := unhide HLEN; unfold maxLen; omega) (unhide RC).rd).mono ?_; rintro e w5 ⟨rfl, hw5⟩; rw [hw5]; clear hw5 w5)
      | fail)
    refine (putNums_any w1.heap.size _ _ _ _ body 2 w4.heap.size 1 [saySum body] (by omega) (by simp) (by have := unhide HLEN; omega) (by have := (unhide BB4).size; simp; omega) (fun e => by have := (unhide RC).lt _ e; omega) ((unhide RC).up' _) (nums1 (numsOne w4 (saySum body) 3))).mono ?_
    rintro e w6 ⟨a6, n6, c6, rfl, P6⟩
    have BB6 := hide (show Below w1.heap.size w1 w6 from (unhide BB4).trans ((((Turn.refl _ w4).alloc _).trans (unhide P6).2.1).below (unhide BB4).size (ownL_ge (unhide RC))))
    have R6 := hide (unhide P6).1
    clear P6
    go_wp2_with fail
    go_ret2
    exact ⟨a6, n6, c6, by rw [unhide HB]; rfl, by rw [unhide HV]; exact (unhide R6).mono (by omega), (unhide B1).trans ((unhide BB6).mono (unhide B1).size)⟩
set_option maxRecDepth 20000 in
set_option maxHeartbeats 6400000 in
set_option maxRecDepth 20000 in
theorem implSayBytes_3 (src dst val : Int) (name : ByteArray) (stamp : List VerV) (a : Option Addr) (c : Nat) (w : World) (hs : SmallSay ⟨3, src, dst, name, val, stamp⟩) (h : VerIn w a stamp) (hb : sayOkB ⟨3, src, dst, name, val, stamp⟩ = true) :
    Calls Tryz.prog 20 #[.agg #[.int .i64 3, .int .i64 src, .int .i64 dst, .string name, .int .i64 val, .slice a stamp.length c]] w fun e w' => RetSay ⟨3, src, dst, name, val, stamp⟩ w e w' := by
  have HK := hide (fun W (b : Below w.heap.size w W) => implSayOk_any ⟨3, src, dst, name, val, stamp⟩ (.agg #[.int .i64 3, .int .i64 src, .int .i64 dst, .string name, .int .i64 val, .slice a stamp.length c]) W hs ⟨_, rfl, a, c, rfl, h.below b⟩)
  rw [hb] at HK
  have hg := say_good hb
  have hnm := plain_szB hg.name
  simp only at hnm
  have HLEN := hide (sayBody_len hg)
  have HBD := hide (show ([beB 3 0, beB src 0, beB dst 0, beB (name.size : Int) 0] ++ name.data.toList) ++ [] = sayBody ⟨3, src, dst, name, val, stamp⟩ by simp [sayBody, sayTail, nameBytes])
  have HV := hide (show sayBytesL ⟨3, src, dst, name, val, stamp⟩ = sayBody ⟨3, src, dst, name, val, stamp⟩ ++ putL 2 [saySum (sayBody ⟨3, src, dst, name, val, stamp⟩)] by simp only [sayBytesL, hb, if_true, sayAll]; simp [putL])
  have HB := hide hb
  have HKV := hide (show sayKind 3 = .iface 115 (.agg #[]) from rfl)
  have BX0 := hide (boxMade w [.int .i64 3, .int .i64 src, .int .i64 dst, .string name, .int .i64 val, .slice a stamp.length c] 24)
  have HA2 := hide (show ([] : List UInt8) ++ putL 1 [3, src, dst, (name.size : Int)] = [beB 3 0, beB src 0, beB dst 0, beB (name.size : Int) 0] by simp [putL, beL])
  have HL2 := hide (show ([beB 3 0, beB src 0, beB dst 0, beB (name.size : Int) 0] ++ name.data.toList).length ≤ 1000 by simp; omega)
  have hl1 := hide (show [beB 3 0, beB src 0, beB dst 0, beB (name.size : Int) 0].length + name.size ≤ 140737488355328 by simp; omega)
  generalize sayBody ⟨3, src, dst, name, val, stamp⟩ = body at *
  generalize [beB 3 0, beB src 0, beB dst 0, beB (name.size : Int) 0] = hd at *
  clear hg hb hs h
  generalize stamp.length = n at *
  go_enter Tryz.func20, Tryz.ntmps20
  go_wp2_with fail
  refine (unhide HK _ (by go_grown)).mono ?_
  rintro e w1 ⟨rfl, b1⟩
  have BX1 := hide ((unhide BX0).up b1)
  have B1 := hide (show Below w.heap.size w w1 from Below.trans (by go_grown) (b1.mono (by simp)))
  have hz1 : w.heap.size < w1.heap.size := (unhide BX1).1
  clear b1
  obtain ⟨x0, x1, x2, x3, x4, x5⟩ := (unhide BX1).six
  go_wp2_with fail
  refine (putNums_any w1.heap.size _ none 0 0 [] 1 w1.heap.size 4 [3, src, dst, (name.size : Int)] (by omega) (by simp) (by simp) (by simp) (by simp [Value.ownBlock]) (ByRow.nil _ _) (nums4 w1 3 src dst name.size 3)).mono ?_
  rintro e w2 ⟨a2, n2, c2, rfl, P2⟩
  have RA := hide (show ByRow w1.heap.size w2 (.slice a2 n2 c2) hd by rw [← unhide HA2]; exact (unhide P2).1)
  have BB2 := hide (show Below w1.heap.size w1 w2 from (((Turn.refl _ w1).alloc _).trans (unhide P2).2.1).below (Nat.le_refl _) (by simp [ownL, Value.ownBlock]))
  clear P2 x0 x1 x2 x3 x4 x5
  obtain ⟨x0, x1, x2, x3, x4, x5⟩ := ((unhide BX1).up (unhide BB2)).six
  go_wp2_with (first
    | (at_builtin; have _t := RA; refine wpList_byAppendStr rfl _ _ rfl w1.heap.size _ name _ rfl rfl (unhide RA) (unhide hl1) (unhide BB2).size ?_; intro a3 n3 c3 w3 r3 g3; have RB := hide r3; have BB3 := hide ((unhide BB2).grown g3 (unhide BB2).size (fun y hy => (unhide RA).ge y hy)); clear r3 g3 RA x0 x1 x2 x3 x4 x5; obtain ⟨x0, x1, x2, x3, x4, x5⟩ := ((unhide BX1).up (unhide BB3)).six)
    | fail)
  have KP := hide (show ∀ X, Below w1.heap.size w1 X → (X.cell? ⟨w.heap.size, 0, none⟩ = some (.int .i64 3) ∧ X.cell? ⟨w.heap.size, 1, none⟩ = some (.int .i64 src) ∧ X.cell? ⟨w.heap.size, 2, none⟩ = some (.int .i64 dst) ∧ X.cell? ⟨w.heap.size, 3, none⟩ = some (.string name) ∧ X.cell? ⟨w.heap.size, 4, none⟩ = some (.int .i64 val) ∧ X.cell? ⟨w.heap.size, 5, none⟩ = some (.slice a n c)) from fun X b => ((unhide BX1).up b).six)
  have BD := hide (unhide BB3).drew
  have RBd := hide (show ByRow w1.heap.size w3.drew (.slice a3 n3 c3) _ from (unhide RB).keep (fun _ _ => rfl))
  have hzd := hide (show w1.heap.size ≤ w3.drew.heap.size from (unhide BD).size)
  go_region_held3 (fun X : World => X.cell? ⟨w.heap.size, 0, none⟩ = some (.int .i64 3) ∧ X.cell? ⟨w.heap.size, 1, none⟩ = some (.int .i64 src) ∧ X.cell? ⟨w.heap.size, 2, none⟩ = some (.int .i64 dst) ∧ X.cell? ⟨w.heap.size, 3, none⟩ = some (.string name) ∧ X.cell? ⟨w.heap.size, 4, none⟩ = some (.int .i64 val) ∧ X.cell? ⟨w.heap.size, 5, none⟩ = some (.slice a n c)) ((refine unhide KP _ ?_; exact unhide (by assumption)))
    (first
      | (go_at_call 45; refine (sayKindOf_any 3 _).mono ?_; rintro e w9 ⟨rfl, hw9⟩; rw [hw9, unhide HKV]; clear hw9 w9)
      | (go_at_call 150; refine (barePut_any 3 src dst val name n a c (.slice a3 n3 c3) w3.drew).mono ?_; rintro e w4 ⟨rfl, b4⟩; have RC := hide (show ByRow w1.heap.size w4 (.slice a3 n3 c3) body by rw [← unhide HBD, List.append_nil]; exact (unhide RBd).up b4); have BB4 := hide ((unhide BD).trans (b4.mono (unhide hzd))); clear b4)
      | fail)
  all_goals
    go_wp2_with (first
      | (go_at_call 46; refine (implSSum_any _ _ body (by have := unhide HLEN; unfold maxLen; omega) (unhide RC).rd).mono ?_; rintro e w5 ⟨rfl, hw5⟩; rw [hw5]; clear hw5 w5)
      | fail)
    refine (putNums_any w1.heap.size _ _ _ _ body 2 w4.heap.size 1 [saySum body] (by omega) (by simp) (by have := unhide HLEN; omega) (by have := (unhide BB4).size; simp; omega) (fun e => by have := (unhide RC).lt _ e; omega) ((unhide RC).up' _) (nums1 (numsOne w4 (saySum body) 3))).mono ?_
    rintro e w6 ⟨a6, n6, c6, rfl, P6⟩
    have BB6 := hide (show Below w1.heap.size w1 w6 from (unhide BB4).trans ((((Turn.refl _ w4).alloc _).trans (unhide P6).2.1).below (unhide BB4).size (ownL_ge (unhide RC))))
    have R6 := hide (unhide P6).1
    clear P6
    go_wp2_with fail
    go_ret2
    exact ⟨a6, n6, c6, by rw [unhide HB]; rfl, by rw [unhide HV]; exact (unhide R6).mono (by omega), (unhide B1).trans ((unhide BB6).mono (unhide B1).size)⟩
theorem implSayBytes_any (s : SayV) (v : Value) (w : World) (hs : SmallSay s) (h : SayRd w v s) : Calls Tryz.prog 20 #[v] w fun e w' => RetSay s w e w' := by
  cases hb : sayOkB s
  · exact implSayBytes_no s v w hs h hb
  · obtain ⟨v5, rfl, a, c, rfl, h⟩ := h
    have hk := (say_good hb).kind
    obtain ⟨kind, src, dst, name, val, stamp⟩ := s
    simp only at hk h ⊢
    rcases hk with rfl | rfl | rfl
    · exact implSayBytes_1 src dst val name stamp a c w hs h hb
    · exact implSayBytes_2 src dst val name stamp a c w hs h hb
    · exact implSayBytes_3 src dst val name stamp a c w hs h hb
end Go.Proofs.YtiebfcefmdiajaaGreatDoor
