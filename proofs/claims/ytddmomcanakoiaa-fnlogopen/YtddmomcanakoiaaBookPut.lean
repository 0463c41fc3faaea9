/-
  A record's bytes put behind the program's log. (Made by wip/mklogput.py.)
-/
import Derived.Test.YtddmomcanakoiaaMerged6
import Derived.Test.YtddmomcanakoiaaLogReadI
set_option linter.unusedVariables false
namespace Go.Proofs.Ytddmomcanakoiaa
open Go.RowKit Go.Maps Go.Deep

def RetPb (B g : Nat) (d : DiskV) (bs : List UInt8) (w : World) (e : Ending) (w' : World) : Prop := e = .returned (.int .i64 (pbC d bs)) ∧ ∃ v v1, Drive B w' g v v1 (pbD d bs) ∧ Below B w w'
theorem retPb_of {B g : Nat} {d : DiskV} {bs : List UInt8} {w w' : World} {O : DiskV} {C : Int} {v v1 : Value} (he : pbD d bs = O ∧ pbC d bs = C) (D : Drive B w' g v v1 O) (hb : Below B w w') : RetPb B g d bs w (.returned (.int .i64 C)) w' := by
  obtain ⟨e1, e2⟩ := he
  subst e1 e2
  exact ⟨rfl, v, v1, D, hb⟩
theorem ByLow.form {B : Nat} {w : World} {v : Value} {bs : List UInt8} (h : ByLow B w v bs) : ∃ a n c, v = .slice a n c := by
  obtain ⟨a, c, rfl, _⟩ := h
  exact ⟨a, _, c, rfl⟩
theorem ByLow.on {B : Nat} {w w' : World} {v : Value} {bs : List UInt8} (h : ByLow B w v bs) (hb : Below B w w') : ByLow B w' v bs := by
  obtain ⟨a, c, rfl, h⟩ := h
  refine ⟨a, c, rfl, ?_⟩
  rcases h with h | ⟨rb, off, e, hlt, hc⟩
  · exact .inl h
  · exact .inr ⟨rb, off, e, hlt, fun i hi => (hb.cell (by exact hlt)).trans (hc i hi)⟩
theorem Drive.rd {B : Nat} {w : World} {g : Nat} {v0 v1 : Value} {d : DiskV} (h : Drive B w g v0 v1 d) : DiskRd w (.agg #[v0, v1, .int .i64 d.fuse, .bool d.down]) d := ⟨v0, v1, rfl, h.r0.rd, h.r1.rd⟩
set_option maxHeartbeats 6400000 in
theorem put_down (B : Nat) (w : World) (g : Nat) (v0 v1 vb : Value) (d : DiskV) (bs : List UInt8) (hok : diskOkB d = true) (hbl : bs.length ≤ 2000000) (hB : B ≤ w.heap.size) (h : Drive B w g v0 v1 d) (hr : ByLow B w vb bs) (hd : d.down = true) :
    Calls Try.prog 38 #[.pointer (some ⟨g, 0, none⟩), vb] w fun e w' => RetPb B g d bs w e w' := by
  have HP := hide (pb_down (bs := bs) hd)
  have HD := hide h
  have c3 := h.c3
  obtain ⟨ab, nb, cb, rfl⟩ := hr.form
  rw [hd] at c3
  clear h hr hok
  go_enter Try.func38, Try.ntmps38
  go_wp2_with fail
  go_ret
  exact retPb_of (unhide HP) (unhide HD) (Below.refl _ _)
set_option maxHeartbeats 6400000 in
theorem put_cut (B : Nat) (w : World) (g : Nat) (v0 v1 vb : Value) (d : DiskV) (bs : List UInt8) (hok : diskOkB d = true) (hbl : bs.length ≤ 2000000) (hB : B ≤ w.heap.size) (h : Drive B w g v0 v1 d) (hr : ByLow B w vb bs) (hd : d.down = false) (h1 : logE (bookL d) < (bookL d).length) :
    Calls Try.prog 38 #[.pointer (some ⟨g, 0, none⟩), vb] w fun e w' => RetPb B g d bs w e w' := by
  have HP := hide (pb_cut (bs := bs) hd h1)
  have hsm := disk_small hok
  have HD := hide h
  have HLW := hide hr
  have HALL := hide (fun W (D : Drive B W g v0 v1 d) => all_any d _ W (by omega) D.rd)
  obtain ⟨a0, q0, rfl⟩ := h.r0.slice
  obtain ⟨a1, q1, rfl⟩ := h.r1.slice
  have HRD := hide (fun (v : Value) (W : World) (hv : ByRd W v (bookL d)) => implLogRead_any (bookL d) v W (by rw [bookL_len]; omega) hv)
  have hE : ((logE (bookL d) : Nat) : Int) < (d.safe.length : Int) + (d.soft.length : Int) := by rw [bookL_len] at h1; omega
  have hR : True := trivial
  obtain ⟨ab, nb, cb, rfl⟩ := hr.form
  have c0 := h.c0
  have c1 := h.c1
  have c2 := h.c2
  have c3 := h.c3
  rw [hd] at c3 HALL
  have HDN := hide hd
  clear h hr hd h1 hok
  go_enter Try.func38, Try.ntmps38
  go_wp2_with fail
  refine (unhide HALL _ (unhide HD)).mono ?_
  rintro e w1 ⟨x1, y1, z1, rfl, HN1, r1, b1⟩
  have D1 := hide ((unhide HD).up b1)
  have B1 := hide (b1.mono hB)
  have LW1 := hide ((unhide HLW).on (b1.mono hB))
  have hB1 : B ≤ w1.heap.size := Nat.le_trans hB b1.size
  have RR := hide (show ByRd w1 (.slice x1 y1 z1) (bookL d) from r1.rd)
  clear b1 c0 c1 c2 c3 r1 HD HLW HALL HN1
  go_wp2_with fail
  refine (unhide HRD _ _ (unhide RR)).mono ?_
  rintro e w2 ⟨vr, rfl, R2, b2⟩
  obtain ⟨ra, rc, hvr⟩ := (unhide R2).slice
  subst hvr
  have D2 := hide ((unhide D1).up b2)
  have B2 := hide ((unhide B1).trans (b2.mono hB1))
  have LW2 := hide ((unhide LW1).on (b2.mono hB1))
  have hB2 : B ≤ w2.heap.size := Nat.le_trans hB1 b2.size
  have c0 := (unhide D2).c0
  have c1 := (unhide D2).c1
  have c2 := (unhide D2).c2
  have c3 := (unhide D2).c3
  clear b2 R2 RR D1 B1 LW1 HRD hB1
  generalize logE (bookL d) = E at *
  generalize (logRs (bookL d)).length = rl at *
  go_wp2_with fail
  refine (size_val _ _ _ _ _ _ _ _ _ (by omega) (by omega)).mono ?_
  rintro e w3 ⟨rfl, b3⟩
  have D3 := hide ((unhide D2).up b3)
  have B3 := hide ((unhide B2).trans (b3.mono hB2))
  have LW3 := hide ((unhide LW2).on (b3.mono hB2))
  have hB3 : B ≤ w3.heap.size := Nat.le_trans hB2 b3.size
  clear b3 c0 c1 c2 c3 D2 B2 LW2 hB2
  go_wp2_with fail
  go_ret
  exact retPb_of (unhide HP) (unhide D3) (unhide B3)
set_option maxHeartbeats 6400000 in
theorem put_full (B : Nat) (w : World) (g : Nat) (v0 v1 vb : Value) (d : DiskV) (bs : List UInt8) (hok : diskOkB d = true) (hbl : bs.length ≤ 2000000) (hB : B ≤ w.heap.size) (h : Drive B w g v0 v1 d) (hr : ByLow B w vb bs) (hd : d.down = false) (h1 : ¬ logE (bookL d) < (bookL d).length) (h2 : (logRs (bookL d)).length = 200) :
    Calls Try.prog 38 #[.pointer (some ⟨g, 0, none⟩), vb] w fun e w' => RetPb B g d bs w e w' := by
  have HP := hide (pb_full (bs := bs) hd h1 h2)
  have hsm := disk_small hok
  have HD := hide h
  have HLW := hide hr
  have HALL := hide (fun W (D : Drive B W g v0 v1 d) => all_any d _ W (by omega) D.rd)
  obtain ⟨a0, q0, rfl⟩ := h.r0.slice
  obtain ⟨a1, q1, rfl⟩ := h.r1.slice
  have HRD := hide (fun (v : Value) (W : World) (hv : ByRd W v (bookL d)) => implLogRead_any (bookL d) v W (by rw [bookL_len]; omega) hv)
  have hE : ¬ ((logE (bookL d) : Nat) : Int) < (d.safe.length : Int) + (d.soft.length : Int) := by rw [bookL_len] at h1; omega
  have hR : ((((logRs (bookL d)).length : Nat) : Int) == 200) = true := by rw [h2]; rfl
  obtain ⟨ab, nb, cb, rfl⟩ := hr.form
  have c0 := h.c0
  have c1 := h.c1
  have c2 := h.c2
  have c3 := h.c3
  rw [hd] at c3 HALL
  have HDN := hide hd
  clear h hr hd h1 h2 hok
  go_enter Try.func38, Try.ntmps38
  go_wp2_with fail
  refine (unhide HALL _ (unhide HD)).mono ?_
  rintro e w1 ⟨x1, y1, z1, rfl, HN1, r1, b1⟩
  have D1 := hide ((unhide HD).up b1)
  have B1 := hide (b1.mono hB)
  have LW1 := hide ((unhide HLW).on (b1.mono hB))
  have hB1 : B ≤ w1.heap.size := Nat.le_trans hB b1.size
  have RR := hide (show ByRd w1 (.slice x1 y1 z1) (bookL d) from r1.rd)
  clear b1 c0 c1 c2 c3 r1 HD HLW HALL HN1
  go_wp2_with fail
  refine (unhide HRD _ _ (unhide RR)).mono ?_
  rintro e w2 ⟨vr, rfl, R2, b2⟩
  obtain ⟨ra, rc, hvr⟩ := (unhide R2).slice
  subst hvr
  have D2 := hide ((unhide D1).up b2)
  have B2 := hide ((unhide B1).trans (b2.mono hB1))
  have LW2 := hide ((unhide LW1).on (b2.mono hB1))
  have hB2 : B ≤ w2.heap.size := Nat.le_trans hB1 b2.size
  have c0 := (unhide D2).c0
  have c1 := (unhide D2).c1
  have c2 := (unhide D2).c2
  have c3 := (unhide D2).c3
  clear b2 R2 RR D1 B1 LW1 HRD hB1
  generalize logE (bookL d) = E at *
  generalize (logRs (bookL d)).length = rl at *
  go_wp2_with fail
  refine (size_val _ _ _ _ _ _ _ _ _ (by omega) (by omega)).mono ?_
  rintro e w3 ⟨rfl, b3⟩
  have D3 := hide ((unhide D2).up b3)
  have B3 := hide ((unhide B2).trans (b3.mono hB2))
  have LW3 := hide ((unhide LW2).on (b3.mono hB2))
  have hB3 : B ≤ w3.heap.size := Nat.le_trans hB2 b3.size
  clear b3 c0 c1 c2 c3 D2 B2 LW2 hB2
  go_wp2_with fail
  go_ret
  exact retPb_of (unhide HP) (unhide D3) (unhide B3)
set_option maxHeartbeats 6400000 in
theorem put_no (B : Nat) (w : World) (g : Nat) (v0 v1 vb : Value) (d : DiskV) (bs : List UInt8) (hok : diskOkB d = true) (hbl : bs.length ≤ 2000000) (hB : B ≤ w.heap.size) (h : Drive B w g v0 v1 d) (hr : ByLow B w vb bs) (hd : d.down = false) (h1 : ¬ logE (bookL d) < (bookL d).length) (h2 : ¬ (logRs (bookL d)).length = 200) (h3 : ¬ wrCode d bs = 0) :
    Calls Try.prog 38 #[.pointer (some ⟨g, 0, none⟩), vb] w fun e w' => RetPb B g d bs w e w' := by
  have HP := hide (pb_no (bs := bs) hd h1 h2 h3)
  have HF := hide (diskOk_fuse hok)
  have HWR := hide (fun W D (LW : ByLow B W vb bs) (hBW : B ≤ W.heap.size) => driveWrite_any B W g v0 v1 vb d bs (disk_small hok) hbl hBW D LW (diskOk_fuse hok).1 (diskOk_fuse hok).2)
  have hsm := disk_small hok
  have HD := hide h
  have HLW := hide hr
  have HALL := hide (fun W (D : Drive B W g v0 v1 d) => all_any d _ W (by omega) D.rd)
  obtain ⟨a0, q0, rfl⟩ := h.r0.slice
  obtain ⟨a1, q1, rfl⟩ := h.r1.slice
  have HRD := hide (fun (v : Value) (W : World) (hv : ByRd W v (bookL d)) => implLogRead_any (bookL d) v W (by rw [bookL_len]; omega) hv)
  have hE : ¬ ((logE (bookL d) : Nat) : Int) < (d.safe.length : Int) + (d.soft.length : Int) := by rw [bookL_len] at h1; omega
  have hR : ((((logRs (bookL d)).length : Nat) : Int) == 200) = false := by rw [beq_eq_false_iff_ne]; omega
  have q3 : (wrCode d bs != 0) = true := by simpa using h3
  obtain ⟨ab, nb, cb, rfl⟩ := hr.form
  have c0 := h.c0
  have c1 := h.c1
  have c2 := h.c2
  have c3 := h.c3
  rw [hd] at c3 HALL
  have HDN := hide hd
  clear h hr hd h1 h2 h3 hok
  go_enter Try.func38, Try.ntmps38
  go_wp2_with fail
  refine (unhide HALL _ (unhide HD)).mono ?_
  rintro e w1 ⟨x1, y1, z1, rfl, HN1, r1, b1⟩
  have D1 := hide ((unhide HD).up b1)
  have B1 := hide (b1.mono hB)
  have LW1 := hide ((unhide HLW).on (b1.mono hB))
  have hB1 : B ≤ w1.heap.size := Nat.le_trans hB b1.size
  have RR := hide (show ByRd w1 (.slice x1 y1 z1) (bookL d) from r1.rd)
  clear b1 c0 c1 c2 c3 r1 HD HLW HALL HN1
  go_wp2_with fail
  refine (unhide HRD _ _ (unhide RR)).mono ?_
  rintro e w2 ⟨vr, rfl, R2, b2⟩
  obtain ⟨ra, rc, hvr⟩ := (unhide R2).slice
  subst hvr
  have D2 := hide ((unhide D1).up b2)
  have B2 := hide ((unhide B1).trans (b2.mono hB1))
  have LW2 := hide ((unhide LW1).on (b2.mono hB1))
  have hB2 : B ≤ w2.heap.size := Nat.le_trans hB1 b2.size
  have c0 := (unhide D2).c0
  have c1 := (unhide D2).c1
  have c2 := (unhide D2).c2
  have c3 := (unhide D2).c3
  clear b2 R2 RR D1 B1 LW1 HRD hB1
  generalize logE (bookL d) = E at *
  generalize (logRs (bookL d)).length = rl at *
  go_wp2_with fail
  refine (size_val _ _ _ _ _ _ _ _ _ (by omega) (by omega)).mono ?_
  rintro e w3 ⟨rfl, b3⟩
  have D3 := hide ((unhide D2).up b3)
  have B3 := hide ((unhide B2).trans (b3.mono hB2))
  have LW3 := hide ((unhide LW2).on (b3.mono hB2))
  have hB3 : B ≤ w3.heap.size := Nat.le_trans hB2 b3.size
  clear b3 c0 c1 c2 c3 D2 B2 LW2 hB2
  go_wp2_with fail
  refine (unhide HWR w3 (unhide D3) (unhide LW3) hB3).mono ?_
  rintro e w4 ⟨rfl, v4, v5, D4, b4⟩
  have DD4 := hide D4
  have B4 := hide ((unhide B3).trans b4)
  have hB4 : B ≤ w4.heap.size := Nat.le_trans hB3 b4.size
  clear D4 b4 D3 B3 LW3 HWR
  generalize wrCode d bs = CC at *
  go_wp2_with fail
  go_ret
  exact retPb_of (unhide HP) (unhide DD4) (unhide B4)
set_option maxHeartbeats 6400000 in
theorem put_yes (B : Nat) (w : World) (g : Nat) (v0 v1 vb : Value) (d : DiskV) (bs : List UInt8) (hok : diskOkB d = true) (hbl : bs.length ≤ 2000000) (hB : B ≤ w.heap.size) (h : Drive B w g v0 v1 d) (hr : ByLow B w vb bs) (hd : d.down = false) (h1 : ¬ logE (bookL d) < (bookL d).length) (h2 : ¬ (logRs (bookL d)).length = 200) (h3 : wrCode d bs = 0) :
    Calls Try.prog 38 #[.pointer (some ⟨g, 0, none⟩), vb] w fun e w' => RetPb B g d bs w e w' := by
  have HP := hide (pb_yes (bs := bs) hd h1 h2 h3)
  have HF := hide (diskOk_fuse hok)
  have HWR := hide (fun W D (LW : ByLow B W vb bs) (hBW : B ≤ W.heap.size) => driveWrite_any B W g v0 v1 vb d bs (disk_small hok) hbl hBW D LW (diskOk_fuse hok).1 (diskOk_fuse hok).2)
  have HSY := hide (fun W v4 v5 (D : Drive B W g v4 v5 (wrOut d bs)) (hBW : B ≤ W.heap.size) => driveSync_any B W g v4 v5 (wrOut d bs) (disk_small (wr_ok hok h3)) hBW D (diskOk_fuse (wr_ok hok h3)).1 (diskOk_fuse (wr_ok hok h3)).2)
  have H3 := hide h3
  have hsm := disk_small hok
  have HD := hide h
  have HLW := hide hr
  have HALL := hide (fun W (D : Drive B W g v0 v1 d) => all_any d _ W (by omega) D.rd)
  obtain ⟨a0, q0, rfl⟩ := h.r0.slice
  obtain ⟨a1, q1, rfl⟩ := h.r1.slice
  have HRD := hide (fun (v : Value) (W : World) (hv : ByRd W v (bookL d)) => implLogRead_any (bookL d) v W (by rw [bookL_len]; omega) hv)
  have hE : ¬ ((logE (bookL d) : Nat) : Int) < (d.safe.length : Int) + (d.soft.length : Int) := by rw [bookL_len] at h1; omega
  have hR : ((((logRs (bookL d)).length : Nat) : Int) == 200) = false := by rw [beq_eq_false_iff_ne]; omega
  obtain ⟨ab, nb, cb, rfl⟩ := hr.form
  have c0 := h.c0
  have c1 := h.c1
  have c2 := h.c2
  have c3 := h.c3
  rw [hd] at c3 HALL
  have HDN := hide hd
  clear h hr hd h1 h2 h3 hok
  go_enter Try.func38, Try.ntmps38
  go_wp2_with fail
  refine (unhide HALL _ (unhide HD)).mono ?_
  rintro e w1 ⟨x1, y1, z1, rfl, HN1, r1, b1⟩
  have D1 := hide ((unhide HD).up b1)
  have B1 := hide (b1.mono hB)
  have LW1 := hide ((unhide HLW).on (b1.mono hB))
  have hB1 : B ≤ w1.heap.size := Nat.le_trans hB b1.size
  have RR := hide (show ByRd w1 (.slice x1 y1 z1) (bookL d) from r1.rd)
  clear b1 c0 c1 c2 c3 r1 HD HLW HALL HN1
  go_wp2_with fail
  refine (unhide HRD _ _ (unhide RR)).mono ?_
  rintro e w2 ⟨vr, rfl, R2, b2⟩
  obtain ⟨ra, rc, hvr⟩ := (unhide R2).slice
  subst hvr
  have D2 := hide ((unhide D1).up b2)
  have B2 := hide ((unhide B1).trans (b2.mono hB1))
  have LW2 := hide ((unhide LW1).on (b2.mono hB1))
  have hB2 : B ≤ w2.heap.size := Nat.le_trans hB1 b2.size
  have c0 := (unhide D2).c0
  have c1 := (unhide D2).c1
  have c2 := (unhide D2).c2
  have c3 := (unhide D2).c3
  clear b2 R2 RR D1 B1 LW1 HRD hB1
  generalize logE (bookL d) = E at *
  generalize (logRs (bookL d)).length = rl at *
  go_wp2_with fail
  refine (size_val _ _ _ _ _ _ _ _ _ (by omega) (by omega)).mono ?_
  rintro e w3 ⟨rfl, b3⟩
  have D3 := hide ((unhide D2).up b3)
  have B3 := hide ((unhide B2).trans (b3.mono hB2))
  have LW3 := hide ((unhide LW2).on (b3.mono hB2))
  have hB3 : B ≤ w3.heap.size := Nat.le_trans hB2 b3.size
  clear b3 c0 c1 c2 c3 D2 B2 LW2 hB2
  go_wp2_with fail
  refine (unhide HWR w3 (unhide D3) (unhide LW3) hB3).mono ?_
  rintro e w4 ⟨rfl, v4, v5, D4, b4⟩
  have DD4 := hide D4
  have B4 := hide ((unhide B3).trans b4)
  have hB4 : B ≤ w4.heap.size := Nat.le_trans hB3 b4.size
  clear D4 b4 D3 B3 LW3 HWR
  rw [unhide H3]
  go_wp2_with fail
  refine (unhide HSY w4 _ _ (unhide DD4) hB4).mono ?_
  rintro e w5 ⟨rfl, v6, v7, D5, b5⟩
  have DD5 := hide D5
  have B5 := hide ((unhide B4).trans b5)
  clear D5 b5 DD4 B4 HSY
  generalize cutCode (wrOut d bs) = CC at *
  go_wp2_with fail
  go_ret
  exact retPb_of (unhide HP) (unhide DD5) (unhide B5)
theorem bookPut_any (B : Nat) (w : World) (g : Nat) (v0 v1 vb : Value) (d : DiskV) (bs : List UInt8) (hok : diskOkB d = true) (hbl : bs.length ≤ 2000000) (hB : B ≤ w.heap.size) (h : Drive B w g v0 v1 d) (hr : ByLow B w vb bs) :
    Calls Try.prog 38 #[.pointer (some ⟨g, 0, none⟩), vb] w fun e w' => RetPb B g d bs w e w' := by
  cases hd : d.down
  · by_cases h1 : logE (bookL d) < (bookL d).length
    · exact put_cut B w g v0 v1 vb d bs hok hbl hB h hr hd h1
    · by_cases h2 : (logRs (bookL d)).length = 200
      · exact put_full B w g v0 v1 vb d bs hok hbl hB h hr hd h1 h2
      · by_cases h3 : wrCode d bs = 0
        · exact put_yes B w g v0 v1 vb d bs hok hbl hB h hr hd h1 h2 h3
        · exact put_no B w g v0 v1 vb d bs hok hbl hB h hr hd h1 h2 h3
  · exact put_down B w g v0 v1 vb d bs hok hbl hB h hr hd
end Go.Proofs.Ytddmomcanakoiaa
