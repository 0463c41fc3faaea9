/-
  SayBytes of the program.
-/
import Derived.Test.YtiebfcefmdiajaaGreatDoorSayBytesS
import Derived.Test.YtiebfcefmdiajaaGreatDoorSayOkI
import Derived.Test.YtiebfcefmdiajaaGreatDoorMerged31
import Derived.Deep.RegionHeld3
set_option linter.unusedVariables false
namespace Go.Proofs.YtiebfcefmdiajaaGreatDoor
open Go.RowKit Go.Maps Go.Deep

set_option maxRecDepth 20000 in
set_option maxHeartbeats 1600000 in
theorem barePut_any (kind src dst val : Int) (name : ByteArray) (n : Nat) (a : Option Addr) (c : Nat) (v : Value) (w : World) :
    Calls Tryz.prog 150 #[.agg #[], v, .agg #[.int .i64 kind, .int .i64 src, .int .i64 dst, .string name, .int .i64 val, .slice a n c]] w fun e w' => e = .returned v ∧ Below w.heap.size w w' := by
  go_enter Tryz.func150, Tryz.ntmps150
  go_wp2
  go_ret
  exact ⟨rfl, by go_grown⟩
theorem tInt : 3 ≠ 5 := by decide
theorem tSay : 24 ≠ 5 := by decide
theorem tVer : 57 ≠ 5 := by decide
/-- a number put behind a row, at the call: the row has grown, other blocks of memory stand -/
theorem put1 (B : Nat) (w : World) (a0 : Option Addr) (n0 c0 : Nat) (xs : List UInt8) (size : Nat) (x : Int) (hsz : size ≤ 8) (hxl : xs.length ≤ 1000000) (hB : B ≤ w.heap.size) (hv : ByRow B w (.slice a0 n0 c0) xs) :
    Calls Tryz.prog 44 #[.slice a0 n0 c0, .int .i64 (size : Int), .slice (some ⟨w.heap.size, 0, none⟩) 1 1] (w.alloc (.cells #[.int .i64 x] 3)) fun e w' => ∃ a n c, e = .returned (.slice a n c) ∧ Hid (ByRow B w' (.slice a n c) (xs ++ beL x size) ∧ Below B w w' ∧ ∀ g arr T, T ≠ 5 → BlockIs w g (.cells arr T) → BlockIs w' g (.cells arr T)) := by
  have hR := hv.up' (.cells #[.int .i64 x] 3)
  refine (putNums_any B _ a0 n0 c0 xs size w.heap.size 1 [x] hsz (by simp) hxl (by simp; omega) (fun e => by have := hv.lt _ e; omega) hR (nums1 (numsOne w x 3))).mono ?_
  rintro e w' ⟨a, n, c, rfl, P⟩
  have hp : putL size [x] = beL x size := by simp [putL]
  refine ⟨a, n, c, rfl, hide ⟨by have := (unhide P).1; rwa [hp] at this, ((Below.refl B w).alloc hB _).trans ((unhide P).2.1.below (by simp; omega) (ownL_ge hR)), fun g arr T hT hb => ?_⟩⟩
  exact (hb.alloc _).turn (unhide P).2.1 (ownL_not ((hb.alloc _).apart hR hT))
set_option maxRecDepth 20000 in
set_option maxHeartbeats 6400000 in
theorem tellPut_any (B : Nat) (kind src dst val : Int) (name : ByteArray) (stamp : List VerV) (b off c : Nat) (a0 : Option Addr) (n0 c0 : Nat) (xs : List UInt8) (w : World) (ht : stampB stamp = true) (hxl : xs.length ≤ 1000) (hB : B ≤ w.heap.size) (hv : ByRow B w (.slice a0 n0 c0) xs) (hbl : b < B) (hc : VerAt w b off stamp) :
    Calls Tryz.prog 153 #[.agg #[], .slice a0 n0 c0, .agg #[.int .i64 kind, .int .i64 src, .int .i64 dst, .string name, .int .i64 val, .slice (some ⟨b, off, none⟩) stamp.length c]] w fun e w' => RetGrow (xs ++ (beL val 8 ++ [beB (stamp.length : Int) 0] ++ stampBytes stamp)) B w e w' := by
  obtain ⟨ht3, ht4⟩ := stamp_names ht
  have HNM := hide ht4
  have HC := hide (show ∀ X, Below B w X → VerAt X b off stamp from fun X bx => hc.below bx hbl)
  have R0 := hide ((hv.up' (.cells #[] 114)).up' (.cells #[.int .i64 kind, .int .i64 src, .int .i64 dst, .string name, .int .i64 val, .slice (some ⟨b, off, none⟩) stamp.length c] 24))
  have B0 := hide (((Below.refl B w).alloc hB (.cells #[] 114)).alloc (by simp; omega) (.cells #[.int .i64 kind, .int .i64 src, .int .i64 dst, .string name, .int .i64 val, .slice (some ⟨b, off, none⟩) stamp.length c] 24))
  have X0 := hide (show BlockIs ((w.alloc (.cells #[] 114)).alloc (.cells #[.int .i64 kind, .int .i64 src, .int .i64 dst, .string name, .int .i64 val, .slice (some ⟨b, off, none⟩) stamp.length c] 24)) (w.heap.size + 1) (.cells #[.int .i64 kind, .int .i64 src, .int .i64 dst, .string name, .int .i64 val, .slice (some ⟨b, off, none⟩) stamp.length c] 24) by
    have := block_new (w.alloc (.cells #[] 114)) (.cells #[.int .i64 kind, .int .i64 src, .int .i64 dst, .string name, .int .i64 val, .slice (some ⟨b, off, none⟩) stamp.length c] 24)
    simpa using this)
  have HOUT := hide (show ((xs ++ beL val 8) ++ beL (stamp.length : Int) 1) ++ stampBytes stamp = xs ++ (beL val 8 ++ [beB (stamp.length : Int) 0] ++ stampBytes stamp) by simp [beL])
  have HZ := hide (show ((w.alloc (.cells #[] 114)).alloc (.cells #[.int .i64 kind, .int .i64 src, .int .i64 dst, .string name, .int .i64 val, .slice (some ⟨b, off, none⟩) stamp.length c] 24)).heap.size = w.heap.size + 1 + 1 by simp)
  clear hc hv ht
  go_enter Tryz.func153, Tryz.ntmps153
  go_wp2_with fail
  generalize (w.alloc (.cells #[] 114)).alloc (.cells #[.int .i64 kind, .int .i64 src, .int .i64 dst, .string name, .int .i64 val, .slice (some ⟨b, off, none⟩) stamp.length c] 24) = W0 at *
  rw [← unhide HZ]
  refine (put1 B W0 a0 n0 c0 xs 8 val (by omega) (by omega) (Nat.le_trans hB (unhide B0).size) (unhide R0)).mono ?_
  rintro e w1 ⟨a1, n1, c1, rfl, P1⟩
  have R1 := hide (unhide P1).1
  have B1 := hide ((unhide B0).trans (unhide P1).2.1)
  have X1 := hide ((unhide P1).2.2 _ _ _ tSay (unhide X0))
  have HL1 := hide (show (xs ++ beL val 8).length ≤ 1010 by rw [List.length_append, beL_length]; omega)
  generalize (xs ++ beL val 8) = xs1 at *
  have x5 := (unhide X1).cell 5 _ rfl
  have hz1 := (unhide X1).lt
  clear P1
  go_wp2_with fail
  refine (put1 B w1 a1 n1 c1 xs1 1 (stamp.length : Int) (by omega) (by have := unhide HL1; omega) (Nat.le_trans hB (unhide B1).size) (unhide R1)).mono ?_
  rintro e w2 ⟨a2, n2, c2, rfl, P2⟩
  have R2 := hide (unhide P2).1
  have B2 := hide ((unhide B1).trans (unhide P2).2.1)
  have X2 := hide ((unhide P2).2.2 _ _ _ tSay (unhide X1))
  have HL2 := hide (show (xs1 ++ beL (stamp.length : Int) 1).length ≤ 1020 by have := unhide HL1; rw [List.length_append, beL_length]; omega)
  generalize (xs1 ++ beL (stamp.length : Int) 1) = xs2 at *
  clear P2 x5 hz1
  have x5 := (unhide X2).cell 5 _ rfl
  have hz2 := (unhide X2).lt
  go_wp2_with fail
  clear x5 hz2
  go_loopw [1, 23] (fun v i wr => ∃ (k : Nat) (a : Option Addr) (n c : Nat) (ys : List UInt8), k ≤ stamp.length ∧ i = .int .i64 k ∧ v = .slice a n c ∧ Hid (ByRow B wr (.slice a n c) ys) ∧ Hid (ys = xs2 ++ stampBytes (stamp.take k)) ∧ Hid (Below B w wr)) (fun _ i _ => stamp.length - (intOf i).toNat)
  case atStart => exact ⟨0, _, _, _, xs2, Nat.zero_le _, rfl, rfl, R2, hide (by simp [stampBytes]), B2⟩
  case round =>
    obtain ⟨k, ar, nr, cr, ys, hk, rfl, rfl, HR, HYS, HBr⟩ := hrel
    by_cases hlt : k < stamp.length
    · obtain ⟨c0', c1'⟩ := unhide HC wr (unhide HBr) k hlt
      have hsz := hide (plain_szB (unhide HNM _ (List.getElem_mem hlt)).1)
      have HNX := hide (show (ys ++ nameBytes stamp[k].a0) ++ beL stamp[k].a1 6 = xs2 ++ stampBytes (stamp.take (k + 1)) by rw [unhide HYS, stampBytes_take stamp k hlt]; simp)
      have HYL := hide (show ys.length ≤ 2000 by
        rw [unhide HYS, List.length_append]
        have h1 := stampBytes_len (stamp.take k) (fun x hx => plain_szB (unhide HNM x (List.mem_of_mem_take hx)).1)
        have h2 := unhide HL2
        rw [List.length_take] at h1
        omega)
      generalize stamp[k].a0 = nm at *
      generalize stamp[k].a1 = vl at *
      have HRW := hide (((unhide HR).up' (.cells #[.string nm, .int .i64 vl] 57)).up' (.cells #[.int .i64 (nm.size : Int)] 3))
      have W1 := hide (show NumsAt ((wr.alloc (.cells #[.string nm, .int .i64 vl] 57)).alloc (.cells #[.int .i64 (nm.size : Int)] 3)) (wr.heap.size + 1) [(nm.size : Int)] by
        have := nums1 (numsOne (wr.alloc (.cells #[.string nm, .int .i64 vl] 57)) (nm.size : Int) 3)
        simpa using this)
      have XB := hide ((block_new wr (.cells #[.string nm, .int .i64 vl] 57)).alloc (.cells #[.int .i64 (nm.size : Int)] 3))
      have BX := hide ((unhide XB).cell 0 _ rfl)
      have HNB := hide (show (Value.slice ar nr cr).ownBlock ≠ some (wr.heap.size + 1) from fun e => by have := (unhide HR).lt _ e; omega)
      have HOW := hide (show wr.heap.size ∉ ownL (.slice ar nr cr) from fun hk => by have := (unhide HR).lt _ (show (Value.slice ar nr cr).ownBlock = some wr.heap.size by simpa [ownL] using hk); omega)
      have hBw : B ≤ wr.heap.size := Nat.le_trans hB (unhide HBr).size
      have BW := hide ((((unhide HBr)).alloc hBw (.cells #[.string nm, .int .i64 vl] 57)).alloc (by simp; omega) (.cells #[.int .i64 (nm.size : Int)] 3))
      have HGE := hide (ownL_ge (unhide HR))
      have hxl1 := hide (show ys.length ≤ 1000000 by have := unhide HYL; omega)
      have hxl2 := hide (show (ys ++ [beB (nm.size : Int) 0]).length + nm.size ≤ 140737488355328 by have h1 := unhide HYL; have h2 := unhide hsz; simp; omega)
      have h1k : [(nm.size : Int)].length ≤ 1000 := by simp
      have hnms : (nm.size : Int) ≤ 8 := by have := unhide hsz; omega
      generalize hWW : ((wr.alloc (.cells #[.string nm, .int .i64 vl] 57)).alloc (.cells #[.int .i64 (nm.size : Int)] 3)) = WW at HRW W1 XB BX BW
      have HWW := hide hWW
      clear hWW
      have hBW := hide (show B ≤ WW.drew.heap.size from Nat.le_trans hB (unhide BW).size)
      have W1d := hide (show NumsAt WW.drew (wr.heap.size + 1) [(nm.size : Int)] from unhide W1)
      have HRd := hide (show ByRow B WW.drew (.slice ar nr cr) ys from (unhide HRW).keep (fun _ _ => rfl))
      have XBd := hide (show BlockIs WW.drew wr.heap.size (.cells #[.string nm, .int .i64 vl] 57) from unhide XB)
      have KP := hide (show ∀ X, Turn (ownL (.slice ar nr cr)) WW.drew X → X.cell? ⟨wr.heap.size, 0, none⟩ = some (.string nm) from fun X ht => ((unhide XBd).turn ht (unhide HOW)).cell 0 _ rfl)
      have KP1 := hide (show ∀ X, Turn (ownL (.slice ar nr cr)) WW.drew X → X.cell? ⟨wr.heap.size, 1, none⟩ = some (.int .i64 vl) from fun X ht => ((unhide XBd).turn ht (unhide HOW)).cell 1 _ rfl)
      have BWd := hide (show Below B w WW.drew from (unhide BW).drew)
      go_wp2_with fail
      go_region_held3 (fun X : World => X.cell? ⟨wr.heap.size, 0, none⟩ = some (.string nm)) ((first | (rw [unhide HWW]; exact unhide BX) | simp | (refine unhide KP _ ?_; exact unhide (by assumption))))
        (first
          | (go_at_call 44; rw [unhide HWW]; refine (putNums_any B WW.drew ar nr cr ys 1 (wr.heap.size + 1) 1 [(nm.size : Int)] (by omega) h1k (unhide hxl1) (unhide hBW) (unhide HNB) (unhide HRd) (unhide W1d)).mono ?_; rintro e w3 ⟨a3, n3, c3, rfl, P3⟩; have T3 := hide (unhide P3).2.1; have R3 := hide (show ByRow B w3 (.slice a3 n3 c3) (ys ++ [beB (nm.size : Int) 0]) by have := (unhide P3).1; simpa [putL, beL] using this))
          | (refine step_byAppendStr (by rfl) (.tmp 32) (.tmp 34) (by rfl) B (.slice a3 n3 c3) nm _ (by rfl) (by rfl) (unhide R3) (unhide hxl2) (Nat.le_trans (unhide hBW) (unhide T3).size) ?_; intro a4 n4 c4 w4 r4 g4; have R4 := hide r4; have T4 := hide ((unhide T3).grown' g4 (fun y hy => by have := (unhide P3).2.2.mem y hy; exact this)); clear r4 g4)
          | fail)
      all_goals
        have R4' := hide (show ByRow B w4 (.slice a4 n4 c4) (ys ++ nameBytes nm) by have := unhide R4; simpa [nameBytes] using this)
        have B4 := hide (show Below B w w4 from (unhide BWd).trans ((unhide T4).below (unhide hBW) (unhide HGE)))
        have HL4 := hide (show (ys ++ nameBytes nm).length ≤ 1000000 by have h1 := unhide HYL; have h2 := unhide hsz; rw [List.length_append, nameBytes_len]; omega)
        have x1 := unhide KP1 w4 (unhide T4)
        have hBw4 : B ≤ w4.heap.size := Nat.le_trans (unhide hBW) (unhide T4).size
        generalize (ys ++ nameBytes nm) = ys4 at *
        clear P3 T3 R3 R4
        go_wp2_with fail
        refine (put1 B w4 a4 n4 c4 ys4 6 vl (by omega) (unhide HL4) hBw4 (unhide R4')).mono ?_
        rintro e w5 ⟨a5, n5, c5, rfl, P5⟩
        have R5 := hide (unhide P5).1
        have B5 := hide ((unhide B4).trans (unhide P5).2.1)
        clear P5 x1
        go_wp2_with fail
        go_roundw
        case rel => exact ⟨k + 1, a5, n5, c5, _, by omega, by go_num, rfl, R5, HNX, B5⟩
        case measure => simp [intOf]; omega
    · have e : k = stamp.length := by omega
      have HBY := hide (show ys = xs ++ (beL val 8 ++ [beB (stamp.length : Int) 0] ++ stampBytes stamp) by rw [unhide HYS, e, List.take_of_length_le (Nat.le_refl _)]; exact unhide HOUT)
      clear e HYS
      go_wp2_with fail
      go_ret
      exact ⟨ar, nr, cr, rfl, hide ⟨by rw [← unhide HBY]; exact unhide HR, unhide HBr⟩⟩
end Go.Proofs.YtiebfcefmdiajaaGreatDoor
