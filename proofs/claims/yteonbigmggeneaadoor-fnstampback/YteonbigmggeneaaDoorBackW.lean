/-
  The law on a stamp's text and its reading, walked.
-/
import Derived.Test.YteonbigmggeneaaDoorDrawBack
import Derived.Test.YteonbigmggeneaaDoorBsMarks
import Derived.Test.YteonbigmggeneaaDoorStRdK
set_option linter.unusedVariables false
namespace Go.Proofs.YteonbigmggeneaaDoor
open Go.RowKit Go.Maps Go.Deep

theorem self_same (t : ByteArray) : (t.toList == t.toList) = true := by simp
set_option maxRecDepth 20000 in
set_option maxHeartbeats 12800000 in
theorem back_walk (a : Option Addr) (cap : Nat) (bs : List UInt8) (a2 : Option Addr) (cap2 : Nat) (more : List UInt8) (w : World) (hl : bs.length ≤ maxLen) (hc : bs.length ≤ cap) (hb : ByIn w a bs) (hl2 : more.length ≤ maxLen) (hc2 : more.length ≤ cap2) (hb2 : ByIn w a2 more) (hE : ErrIn w) (hP : PowIn w) :
    Calls Tryd.prog 3 #[.slice a bs.length cap, .slice a2 more.length cap2] w fun e w' => e = .returned (.bool true) ∧ Below w.heap.size w w' := by
  by_cases hbs : (bs.length : Int) ≤ 1048576
  rotate_left
  · unfold maxLen at hl
    go_enter Tryd.func3, Tryd.ntmps3
    go_wp2_with fail
    go_ret
    exact ⟨rfl, Below.refl _ _⟩
  by_cases hms : (more.length : Int) ≤ 1048576
  rotate_left
  · unfold maxLen at hl hl2
    go_enter Tryd.func3, Tryd.ntmps3
    go_wp2_with fail
    go_ret
    exact ⟨rfl, Below.refl _ _⟩
  have HD := hide (drawText_any w a cap bs hl hc hb)
  have HD2 := hide (fun (W : World) (bW : Below w.heap.size w W) => drawRead_any W a2 cap2 more hl2 hc2 (hb2.up bW))
  have HE := hide (fun (W : World) (bW : Below w.heap.size w W) => hE.below bW (Nat.le_refl _))
  have HP := hide (fun (W : World) (bW : Below w.heap.size w W) => hP.below bW (Nat.le_refl _))
  clear hb hc hl hb2 hc2 hl2 hE hP
  go_enter Tryd.func3, Tryd.ntmps3
  go_wp2_with fail
  refine (unhide HD).mono ?_
  rintro e w1 ⟨va, vn, vc, ns, rfl, R1, SM, b1⟩
  have B1 := hide b1
  have HSM := hide ((unhide SM).small (by omega))
  have HTI := hide (implText_any ns (.slice va vn vc) w1 (unhide HSM) (unhide R1) (unhide HP w1 b1))
  have HTS := hide (fun (W : World) (bW : Below w1.heap.size w1 W) => specText_any ns (.slice va vn vc) W (unhide HSM) ((unhide R1).up bW))
  have HRI := hide (fun (W : World) (bW : Below w.heap.size w W) => implStampRead_any (textOut ns) W (by have := textOut_size ns; omega) (unhide HE W bW) (unhide HP W bW))
  have HBO := hide (back_out ns)
  have HOK := hide (fun (W : World) (bW : Below w1.heap.size w1 W) => specStampOk_any ns (.slice va vn vc) W (unhide HSM) ((unhide R1).up bW))
  clear b1 HD SM
  unfold RetRd at HRI
  generalize textOut ns = t at *
  have q0 := self_same t
  go_wp2_with fail
  refine (unhide HTI).mono ?_
  rintro e w2 ⟨rfl, b2⟩
  have C2 := hide b2
  clear b2 HTI
  go_wp2_with fail
  refine (unhide HTS w2 (unhide C2)).mono ?_
  rintro e w3 ⟨rfl, b3⟩
  have C3 := hide ((unhide C2).trans (b3.mono (unhide C2).size))
  clear b3 HTS C2
  go_wp2_with fail
  refine (unhide HRI w3 ((unhide B1).trans ((unhide C3).mono (unhide B1).size))).mono ?_
  rintro e w4 ⟨u, rfl, MR4, b4⟩
  rw [(unhide HBO).1]
  have C4 := hide ((unhide C3).trans (b4.mono (unhide C3).size))
  obtain ⟨ua, uc, rfl⟩ := (unhide MR4).slice
  clear b4 HRI C3
  have HBM := hide (fun (h : mstampB ns = true) (W : World) (bW : Below w4.heap.size w4 W) => show Calls Tryd.prog 10 #[.slice ua (rdOut t).length uc, .slice va vn vc] W fun e w' => e = .returned (.bool true) ∧ Below W.heap.size W w' from by
    have e := (unhide HBO).2 h
    have := bsMarks_any (rdOut t) (.slice ua (rdOut t).length uc) ns (.slice va vn vc) W (by rw [e]; exact unhide HSM) (unhide HSM) ((unhide MR4).rd.up bW) ((unhide R1).up ((unhide C4).trans (bW.mono (unhide C4).size)))
    rw [e, eqMk_same] at this
    rw [e]
    exact this)
  generalize (rdOut t).length = un at *
  clear MR4
  go_upto_region 8 with fail
  go_cut [8, 47] (fun kv bv wx => (∃ b8, kv = .bool b8) ∧ bv = .bool false ∧ Hid (Below w1.heap.size w1 wx))
  case first =>
    go_wp2_with fail
    refine (unhide HOK w4 (unhide C4)).mono ?_
    rintro e w5 ⟨rfl, b5⟩
    have C5 := hide ((unhide C4).trans (b5.mono (unhide C4).size))
    cases hm : mstampB ns
    · clear b5 HOK C4 HBM
      go_wp2_with fail
      go_meet
      exact ⟨⟨_, rfl⟩, rfl, C5⟩
    · have HB5 := hide (unhide HBM hm w5 b5)
      clear b5 HOK C4 HBM hm
      go_wp2_with fail
      refine (unhide HB5).mono ?_
      rintro e w6 ⟨rfl, b6⟩
      have C6 := hide ((unhide C5).trans (b6.mono (unhide C5).size))
      clear b6 HB5
      go_wp2_with fail
      go_meet
      exact ⟨⟨_, rfl⟩, rfl, C6⟩
  case rest =>
  obtain ⟨⟨b8, rfl⟩, rfl, C6⟩ := hcut
  generalize wc = w6 at *
  have B6 := hide ((unhide B1).trans ((unhide C6).mono (unhide B1).size))
  clear HOK HBM HBO C4 C6 R1 HSM q0 B1
  have HDR := hide (unhide HD2 w6 (unhide B6))
  clear HD2
  go_wp2_with fail
  refine (unhide HDR).mono ?_
  rintro e w7 ⟨x, rfl, hx, b7⟩
  have B7 := hide ((unhide B6).trans (b7.mono (unhide B6).size))
  have HR1 := hide (implStampRead_any x w7 (by omega) (unhide HE _ (unhide B7)) (unhide HP _ (unhide B7)))
  have HR2 := hide (fun (W : World) => specStampRead_any x W (by omega))
  have HOB := hide (out_back x)
  have HSX := hide (small_rdT x)
  unfold RetRd at HR1 HR2
  clear b7 HDR
  go_wp2_with fail
  refine (unhide HR1).mono ?_
  rintro e w8 ⟨v8, rfl, M8, b8⟩
  have C8 := hide b8
  obtain ⟨va8, vc8, rfl⟩ := (unhide M8).slice
  clear b8 HR1
  go_wp2_with fail
  refine (unhide HR2 w8).mono ?_
  rintro e w9 ⟨v9, rfl, M9, b9⟩
  have M8' := hide ((unhide M8).up b9)
  have C9 := hide ((unhide C8).trans (b9.mono (unhide C8).size))
  have B9 := hide ((unhide B7).trans ((unhide C9).mono (unhide B7).size))
  obtain ⟨va9, vc9, rfl⟩ := (unhide M9).slice
  have HBM := hide (show Calls Tryd.prog 10 #[.slice va8 (rdOut x).length vc8, .slice va9 (rdOut x).length vc9] w9 fun e w' => e = .returned (.bool true) ∧ Below w9.heap.size w9 w' from by
    have := bsMarks_any (rdOut x) _ (rdOut x) _ w9 (unhide HSX) (unhide HSX) (unhide M8').rd (unhide M9).rd
    rw [eqMk_same] at this
    exact this)
  have HTX := hide (fun (h : rdOkB x = true) (W : World) (bW : Below w9.heap.size w9 W) => show Calls Tryd.prog 6 #[.slice va8 (rdOut x).length vc8] W fun e w' => e = .returned (.string x) ∧ Below W.heap.size W w' from by
    have := implText_any (rdOut x) _ W (unhide HSX) ((unhide M8').rd.up bW) (unhide HP W ((unhide B9).trans (bW.mono (unhide B9).size)))
    rw [unhide HOB h] at this
    exact this)
  have q1 := self_same x
  clear b9 HR2 M8 M9 M8' HSX HOB B7 C8 C9
  generalize (rdOut x).length = xn at *
  cases hok : rdOkB x
  · clear HTX
    go_wp2_with fail
    refine (unhide HBM).mono ?_
    rintro e w10 ⟨rfl, b10⟩
    have B10 := hide ((unhide B9).trans (b10.mono (unhide B9).size))
    clear b10 HBM
    go_wp2_with fail
    go_ret
    exact ⟨rfl, unhide B10⟩
  · have HTX' := hide (unhide HTX hok)
    clear HTX
    go_wp2_with fail
    refine (unhide HBM).mono ?_
    rintro e w10 ⟨rfl, b10⟩
    have HT10 := hide (unhide HTX' w10 b10)
    have B10 := hide ((unhide B9).trans (b10.mono (unhide B9).size))
    clear b10 HBM HTX'
    go_wp2_with fail
    refine (unhide HT10).mono ?_
    rintro e w11 ⟨rfl, b11⟩
    have B11 := hide ((unhide B10).trans (b11.mono (unhide B10).size))
    clear b11 HT10
    go_wp2_with fail
    go_ret
    exact ⟨rfl, unhide B11⟩
end Go.Proofs.YteonbigmggeneaaDoor
