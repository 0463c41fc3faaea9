/-
  The walk of the law on the join of two stamps.
-/
import Derived.Test.YtmgjohipblocmaaDrawMarks
import Derived.Test.YtmgjohipblocmaaByArg
import Derived.Test.YtmgjohipblocmaaBsMarks
import Derived.Test.YtmgjohipblocmaaLatticeMath
import Derived.Test.YtmgjohipblocmaaJoinFace
import Derived.Test.YtmgjohipblocmaaOrderS
set_option linter.unusedVariables false
namespace Go.Proofs.Ytmgjohipblocmaa
open Go.RowKit Go.Maps Go.Deep

theorem bytesIn_of {w : World} {a : Option Addr} {bs : List UInt8} (h : ByIn w a bs) : BytesIn w a bs.length := by
  rcases h with rfl | ⟨b, off, e, hb, hc⟩
  · exact .inl rfl
  · exact .inr ⟨b, off, e, hb, fun i hi => ⟨bs[i].toNat, by have := bs[i].toNat_lt; omega, hc i hi⟩⟩
/-- two lists of marks are drawn -/
def RetTwo (w : World) (e : Ending) (w' : World) : Prop := ∃ v xs u ys, e = .returned (.tuple #[v, u]) ∧ Hid (MarkSRd w' v xs) ∧ Hid (Sm 40 xs) ∧ Hid (MarkSRd w' u ys) ∧ Hid (Sm 40 ys) ∧ Below w.heap.size w w'
def RetOne (w : World) (e : Ending) (w' : World) : Prop := ∃ v xs, e = .returned v ∧ Hid (MarkSRd w' v xs) ∧ Hid (Sm 40 xs) ∧ Below w.heap.size w w'
set_option maxHeartbeats 3200000 in
theorem drawJoin_any (w : World) (a : Option Addr) (cap : Nat) (bs : List UInt8) (hl : bs.length ≤ maxLen) (hc : bs.length ≤ cap) (hb : ByIn w a bs) :
    Calls Try.prog 4 #[.slice a bs.length cap] w fun e w' => RetTwo w e w' := by
  have HO := hide (l1Open_any w a bs.length cap hl hc (bytesIn_of hb))
  clear hb hl hc
  go_enter Try.func4, Try.ntmps4
  go_wp2_with fail
  refine (unhide HO).mono ?_
  rintro e w1 ⟨g, rfl, hr1, ht1⟩
  have R1 := hide hr1
  have B1 := hide (show Below w.heap.size w w1 from ht1.below (Nat.le_refl _) (by simp))
  have hgl := hr1.lt
  have hga := hr1.above
  clear hr1 ht1 HO
  go_wp2_with fail
  refine (l34Marks_any w.heap.size g 0 w1 (by omega) (unhide R1)).mono ?_
  rintro e w2 ⟨v, xs, rfl, HV, HS, HR, HT⟩
  obtain ⟨va, vn, vc, rfl⟩ := (unhide HV).rd.form
  obtain ⟨q2, hq2, hr2⟩ := unhide HR
  have R2 := hide hr2
  have B2 := hide (show Below w.heap.size w w2 from (unhide B1).trans ((unhide HT).below (unhide B1).size (by simpa using hga)))
  clear R1 HR hr2 HT B1
  go_wp2_with fail
  refine (l34Marks_any w.heap.size g q2 w2 (by omega) (unhide R2)).mono ?_
  rintro e w3 ⟨u, ys, rfl, HU, HY, _, HT⟩
  obtain ⟨ua, un, uc, rfl⟩ := (unhide HU).rd.form
  have HE := hide (show RetTwo w (.returned (.tuple #[.slice va vn vc, .slice ua un uc])) w3 from ⟨_, xs, _, ys, rfl, hide ((unhide HV).turn (unhide HT) hgl).rd, HS, hide (unhide HU).rd, HY, (unhide B2).trans ((unhide HT).below (unhide B2).size (by simpa using hga))⟩)
  clear R2 HT B2 HV HU
  go_wp2_with fail
  go_ret2
  exact unhide HE
set_option maxHeartbeats 3200000 in
theorem drawText_any (w : World) (a : Option Addr) (cap : Nat) (bs : List UInt8) (hl : bs.length ≤ maxLen) (hc : bs.length ≤ cap) (hb : ByIn w a bs) :
    Calls Try.prog 5 #[.slice a bs.length cap] w fun e w' => RetOne w e w' := by
  have HO := hide (l1Open_any w a bs.length cap hl hc (bytesIn_of hb))
  clear hb hl hc
  go_enter Try.func5, Try.ntmps5
  go_wp2_with fail
  refine (unhide HO).mono ?_
  rintro e w1 ⟨g, rfl, hr1, ht1⟩
  have R1 := hide hr1
  have B1 := hide (show Below w.heap.size w w1 from ht1.below (Nat.le_refl _) (by simp))
  have hga := hr1.above
  clear hr1 ht1 HO
  go_wp2_with fail
  refine (l34Marks_any w.heap.size g 0 w1 (by omega) (unhide R1)).mono ?_
  rintro e w2 ⟨v, xs, rfl, HV, HS, HR, HT⟩
  have HE := hide (show RetOne w (.returned v) w2 from ⟨v, xs, rfl, hide (unhide HV).rd, HS, (unhide B1).trans ((unhide HT).below (unhide B1).size (by simpa using hga))⟩)
  clear R1 HT B1 HV HR
  go_wp2_with fail
  go_ret
  exact unhide HE

set_option maxRecDepth 20000 in
set_option maxHeartbeats 12800000 in
theorem lattice_walk (a a2 : Option Addr) (cap cap2 : Nat) (bs more : List UInt8) (w : World) (hl : bs.length ≤ maxLen) (hc : bs.length ≤ cap) (hb : ByIn w a bs) (hl2 : more.length ≤ maxLen) (hc2 : more.length ≤ cap2) (hb2 : ByIn w a2 more) :
    Calls Try.prog 3 #[.slice a bs.length cap, .slice a2 more.length cap2] w fun e w' => e = .returned (.bool true) ∧ Below w.heap.size w w' := by
  have HD := hide (drawJoin_any w a cap bs hl hc hb)
  have HD2 := hide (fun W (b : Below w.heap.size w W) => drawText_any W a2 cap2 more hl2 hc2 (hb2.up b))
  have hn : (bs.length : Int) ≤ 9223372036854775807 := by unfold maxLen at hl; omega
  have hm : (more.length : Int) ≤ 9223372036854775807 := by unfold maxLen at hl2; omega
  clear hl hc hb hl2 hc2 hb2
  generalize bs.length = n at *
  generalize more.length = mm at *
  by_cases h1 : (1048576 : Int) < (n : Int)
  · clear HD HD2
    go_enter Try.func3, Try.ntmps3
    go_wp2_with fail
    go_ret
    exact ⟨rfl, Below.refl _ _⟩
  by_cases h2 : (1048576 : Int) < (mm : Int)
  · clear HD HD2
    go_enter Try.func3, Try.ntmps3
    go_wp2_with fail
    go_ret
    exact ⟨rfl, Below.refl _ _⟩
  go_enter Try.func3, Try.ntmps3
  go_wp2_with fail
  refine (unhide HD).mono ?_
  rintro e w1 ⟨v, xa, u, xb, rfl, HV1, SA0, HU1, SB0, b1⟩
  have B1 := hide b1
  obtain ⟨va, vn, vc, rfl⟩ := (unhide HV1).form
  obtain ⟨ua, un, uc, rfl⟩ := (unhide HU1).form
  have SA := hide ((unhide SA0).small (by omega))
  have SB := hide ((unhide SB0).small (by omega))
  clear b1 HD SA0 SB0
  go_wp2_with fail
  refine (unhide HD2 w1 (unhide B1)).mono ?_
  rintro e w2 ⟨v2, xc, rfl, HZ, SC0, b2⟩
  have SC := hide ((unhide SC0).small (by omega))
  have B2 := hide ((unhide B1).trans (b2.mono (unhide B1).size))
  have HA := hide ((unhide HV1).up b2)
  have HB := hide ((unhide HU1).up b2)
  obtain ⟨za, zn, zc, rfl⟩ := (unhide HZ).form
  clear b2 HD2 B1 HV1 HU1 SC0
  have SJ := hide (small_join (unhide SA) (unhide SB))
  have HREST := hide (show ∀ W, Below w2.heap.size w2 W → Below w.heap.size w W from fun W hb => (unhide B2).trans (hb.mono (unhide B2).size))
  have J1 := hide (implJoin_any xa _ xb _ w2 (unhide SA) (unhide SB) (unhide HA) (unhide HB))
  have J2 := hide (fun W (b : Below w2.heap.size w2 W) => specJoin_any xa _ xb _ W (unhide SA) (unhide SB) ((unhide HA).up b) ((unhide HB).up b))
  have J3 := hide (fun W (b : Below w2.heap.size w2 W) => implJoin_any xb _ xa _ W (unhide SB) (unhide SA) ((unhide HB).up b) ((unhide HA).up b))
  unfold RetJoin at J1 J2 J3
  rw [← (joinOk_comm xa xb).1, ← (joinOk_comm xa xb).2] at J3
  have HAB := hide (fun h => join_above (xa := xa) (xb := xb) h)
  have HSF := hide (fun h => join_self (xa := xa) (xb := xb) h)
  have HLE := hide (fun h => join_least (xa := xa) (xb := xb) (xc := xc) h)
  have HNO := hide (fun h => join_no (xa := xa) (xb := xb) (xc := xc) h)
  have HAS := hide (fun h => join_assoc (xa := xa) (xb := xb) (xc := xc) h)
  have O5 := hide (fun W (b : Below w2.heap.size w2 W) => specOrder_any xa _ xc _ W (unhide SA) (unhide SC) ((unhide HA).up b) ((unhide HZ).up b))
  have O6 := hide (fun W (b : Below w2.heap.size w2 W) => specOrder_any xb _ xc _ W (unhide SB) (unhide SC) ((unhide HB).up b) ((unhide HZ).up b))
  have J8 := hide (fun W (b : Below w2.heap.size w2 W) => implJoin_any xb _ xc _ W (unhide SB) (unhide SC) ((unhide HB).up b) ((unhide HZ).up b))
  have SM := hide (small_join (unhide SB) (unhide SC))
  have R56 := hide (And.intro (order_range xa xc) (order_range xb xc))
  obtain ⟨jn, HJN⟩ : ∃ jn, Hid (joinV xa xb = jn) := ⟨_, rfl⟩
  rw [unhide HJN] at HAB HSF HLE HNO HAS SJ J1 J2 J3
  have O1 := hide (fun W (b : Below w2.heap.size w2 W) v (h : MarkSRd W v jn) => implOrder_any xa _ jn v W (unhide SA) (unhide SJ) ((unhide HA).up b) h)
  have O2 := hide (fun W (b : Below w2.heap.size w2 W) v (h : MarkSRd W v jn) => implOrder_any xb _ jn v W (unhide SB) (unhide SJ) ((unhide HB).up b) h)
  have J4 := hide (fun W v (h : MarkSRd W v jn) => implJoin_any jn v jn v W (unhide SJ) (unhide SJ) h h)
  have O7 := hide (fun W (b : Below w2.heap.size w2 W) v (h : MarkSRd W v jn) => implOrder_any jn v xc _ W (unhide SJ) (unhide SC) h ((unhide HZ).up b))
  have J7 := hide (fun W (b : Below w2.heap.size w2 W) v (h : MarkSRd W v jn) => implJoin_any jn v xc _ W (unhide SJ) (unhide SC) h ((unhide HZ).up b))
  have J9 := hide (fun W (b : Below w2.heap.size w2 W) v (h : MarkSRd W v (joinV xb xc)) => implJoin_any xa _ (joinV xb xc) v W (unhide SA) (unhide SM) ((unhide HA).up b) h)
  unfold RetJoin at J4 J7 J8 J9
  have BQ := hide (fun W (ns : List MarkV) v v2 (hs : SmallMarkS ns) (h : MarkSRd W v ns) (h2 : MarkSRd W v2 ns) => by have := bsMarks_any ns v ns v2 W hs hs h h2; rw [eqMk_same] at this; exact this)
  have SL := hide (small_join (unhide SJ) (unhide SC))
  clear HA HB HZ SA SB SC
  generalize orderOut xa jn = x at *
  generalize orderOut xb jn = y at *
  generalize orderOut xa xc = u5 at *
  generalize orderOut xb xc = u6 at *
  generalize orderOut jn xc = u7 at *
  generalize joinOkB xa xb = ok at *
  have D0 := hide (Below.refl w2.heap.size w2)
  go_wp2_with fail
  refine (unhide J1).mono ?_
  rintro e w1 ⟨v2, rfl, R3, b4⟩
  have D5 := hide ((unhide D0).trans (b4.mono (unhide D0).size))
  have F6 := hide (unhide R3).rd
  obtain ⟨v2a, v2n, v2c, rfl⟩ := (unhide F6).form
  clear R3 b4
  go_wp2_with fail
  refine (unhide J2 w1 (unhide D5)).mono ?_
  rintro e w7 ⟨v8, rfl, R9, b10⟩
  have D11 := hide ((unhide D5).trans (b10.mono (unhide D5).size))
  have F12 := hide ((unhide F6).up b10)
  have F13 := hide (unhide R9).rd
  obtain ⟨v8a, v8n, v8c, rfl⟩ := (unhide F13).form
  clear R9 b10
  go_wp2_with fail
  refine (unhide J3 w7 (unhide D11)).mono ?_
  rintro e w14 ⟨v15, rfl, R16, b17⟩
  have D18 := hide ((unhide D11).trans (b17.mono (unhide D11).size))
  have F19 := hide ((unhide F12).up b17)
  have F20 := hide ((unhide F13).up b17)
  have F21 := hide (unhide R16).rd
  obtain ⟨v15a, v15n, v15c, rfl⟩ := (unhide F21).form
  clear R16 b17
  clear J1 J2 J3
  have eok : (ok != ok) = false := by simp
  go_wp2_with fail
  refine (unhide BQ w14 jn _ _ (unhide SJ) (unhide F19) (unhide F20)).mono ?_
  rintro e w22 ⟨rfl, b23⟩
  have D24 := hide ((unhide D18).trans (b23.mono (unhide D18).size))
  have F25 := hide ((unhide F19).up b23)
  have F26 := hide ((unhide F20).up b23)
  have F27 := hide ((unhide F21).up b23)
  clear b23
  go_wp2_with fail
  refine (unhide BQ w22 jn _ _ (unhide SJ) (unhide F27) (unhide F26)).mono ?_
  rintro e w28 ⟨rfl, b29⟩
  have D30 := hide ((unhide D24).trans (b29.mono (unhide D24).size))
  have F31 := hide ((unhide F25).up b29)
  have F32 := hide ((unhide F26).up b29)
  have F33 := hide ((unhide F27).up b29)
  clear b29
  cases hok : ok
  · subst hok
    go_wp2_with fail
    go_ret
    exact ⟨by simp, unhide HREST _ (unhide D30)⟩
  subst hok
  obtain ⟨hx, hy⟩ := unhide HAB rfl
  obtain ⟨hs1, hs2⟩ := unhide HSF rfl
  have HLE2 := hide (unhide HLE rfl)
  have HNO2 := hide (unhide HNO rfl)
  have HAS2 := hide (unhide HAS rfl)
  rw [hs1, hs2] at J4
  clear hs1 hs2 HAB HSF HLE HNO HAS
  generalize joinOkB jn xc = left at *
  generalize joinOkB xb xc = mid at *
  go_wp2_with fail
  refine (unhide O1 w28 (unhide D30) _ (unhide F31)).mono ?_
  rintro e w34 ⟨rfl, b35⟩
  have D36 := hide ((unhide D30).trans (b35.mono (unhide D30).size))
  have F37 := hide ((unhide F31).up b35)
  clear b35
  go_wp2_with fail
  refine (unhide O2 w34 (unhide D36) _ (unhide F37)).mono ?_
  rintro e w38 ⟨rfl, b39⟩
  have D40 := hide ((unhide D36).trans (b39.mono (unhide D36).size))
  have F41 := hide ((unhide F37).up b39)
  clear b39
  obtain rfl | rfl := hx
  · obtain rfl | rfl := hy
    · skip
      go_wp2_with fail
      refine (unhide J4 w38 _ (unhide F41)).mono ?_
      rintro e w42 ⟨v43, rfl, R44, b45⟩
      have D46 := hide ((unhide D40).trans (b45.mono (unhide D40).size))
      have F47 := hide ((unhide F41).up b45)
      have F48 := hide (unhide R44).rd
      obtain ⟨v43a, v43n, v43c, rfl⟩ := (unhide F48).form
      clear R44 b45
      go_wp2_with fail
      refine (unhide BQ w42 jn _ _ (unhide SJ) (unhide F48) (unhide F47)).mono ?_
      rintro e w49 ⟨rfl, b50⟩
      have D51 := hide ((unhide D46).trans (b50.mono (unhide D46).size))
      have F52 := hide ((unhide F47).up b50)
      have F53 := hide ((unhide F48).up b50)
      clear b50
      go_wp2_with fail
      refine (unhide O5 w49 (unhide D51)).mono ?_
      rintro e w54 ⟨rfl, b55⟩
      have D56 := hide ((unhide D51).trans (b55.mono (unhide D51).size))
      have F57 := hide ((unhide F52).up b55)
      clear b55
      go_wp2_with fail
      refine (unhide O6 w54 (unhide D56)).mono ?_
      rintro e w58 ⟨rfl, b59⟩
      have D60 := hide ((unhide D56).trans (b59.mono (unhide D56).size))
      have F61 := hide ((unhide F57).up b59)
      clear b59
      by_cases f0 : u5 = 0
      · subst f0
        by_cases g0 : u6 = 0
        · subst g0
          have h7 := unhide HLE2 (by simp [Le01]) (by simp [Le01])
          go_wp2_with fail
          refine (unhide O7 w58 (unhide D60) _ (unhide F61)).mono ?_
          rintro e w62 ⟨rfl, b63⟩
          have D64 := hide ((unhide D60).trans (b63.mono (unhide D60).size))
          have F65 := hide ((unhide F61).up b63)
          clear b63
          obtain rfl | rfl := h7
          · skip
            go_wp2_with fail
            refine (unhide J7 w62 (unhide D64) _ (unhide F65)).mono ?_
            rintro e w66 ⟨v67, rfl, R68, b69⟩
            have D70 := hide ((unhide D64).trans (b69.mono (unhide D64).size))
            have F71 := hide ((unhide F65).up b69)
            have F72 := hide (unhide R68).rd
            obtain ⟨v67a, v67n, v67c, rfl⟩ := (unhide F72).form
            clear R68 b69
            go_wp2_with fail
            refine (unhide J8 w66 (unhide D70)).mono ?_
            rintro e w73 ⟨v74, rfl, R75, b76⟩
            have D77 := hide ((unhide D70).trans (b76.mono (unhide D70).size))
            have F78 := hide ((unhide F71).up b76)
            have F79 := hide ((unhide F72).up b76)
            have F80 := hide (unhide R75).rd
            obtain ⟨v74a, v74n, v74c, rfl⟩ := (unhide F80).form
            clear R75 b76
            cases mid
            · obtain rfl := unhide HNO2 rfl
              go_wp2_with fail
              go_ret
              exact ⟨by simp, unhide HREST _ (unhide D77)⟩
            obtain ⟨ha1, ha2⟩ := unhide HAS2 rfl
            rw [← ha1, ← ha2] at J9
            clear ha1 ha2
            generalize joinV jn xc = jl at *
            go_wp2_with fail
            refine (unhide J9 w73 (unhide D77) _ (unhide F80)).mono ?_
            rintro e w81 ⟨v82, rfl, R83, b84⟩
            have D85 := hide ((unhide D77).trans (b84.mono (unhide D77).size))
            have F86 := hide ((unhide F78).up b84)
            have F87 := hide ((unhide F79).up b84)
            have F88 := hide ((unhide F80).up b84)
            have F89 := hide (unhide R83).rd
            obtain ⟨v82a, v82n, v82c, rfl⟩ := (unhide F89).form
            clear R83 b84
            have ell : (left == left) = true := by simp
            go_wp2_with fail
            refine (unhide BQ w81 jl _ _ (unhide SL) (unhide F87) (unhide F89)).mono ?_
            rintro e w90 ⟨rfl, b91⟩
            have D92 := hide ((unhide D85).trans (b91.mono (unhide D85).size))
            have F93 := hide ((unhide F86).up b91)
            have F94 := hide ((unhide F87).up b91)
            have F95 := hide ((unhide F88).up b91)
            have F96 := hide ((unhide F89).up b91)
            clear b91
            go_wp2_with fail
            go_ret
            exact ⟨by simp, unhide HREST _ (unhide D92)⟩
          · skip
            go_wp2_with fail
            refine (unhide J7 w62 (unhide D64) _ (unhide F65)).mono ?_
            rintro e w97 ⟨v98, rfl, R99, b100⟩
            have D101 := hide ((unhide D64).trans (b100.mono (unhide D64).size))
            have F102 := hide ((unhide F65).up b100)
            have F103 := hide (unhide R99).rd
            obtain ⟨v98a, v98n, v98c, rfl⟩ := (unhide F103).form
            clear R99 b100
            go_wp2_with fail
            refine (unhide J8 w97 (unhide D101)).mono ?_
            rintro e w104 ⟨v105, rfl, R106, b107⟩
            have D108 := hide ((unhide D101).trans (b107.mono (unhide D101).size))
            have F109 := hide ((unhide F102).up b107)
            have F110 := hide ((unhide F103).up b107)
            have F111 := hide (unhide R106).rd
            obtain ⟨v105a, v105n, v105c, rfl⟩ := (unhide F111).form
            clear R106 b107
            cases mid
            · obtain rfl := unhide HNO2 rfl
              go_wp2_with fail
              go_ret
              exact ⟨by simp, unhide HREST _ (unhide D108)⟩
            obtain ⟨ha1, ha2⟩ := unhide HAS2 rfl
            rw [← ha1, ← ha2] at J9
            clear ha1 ha2
            generalize joinV jn xc = jl at *
            go_wp2_with fail
            refine (unhide J9 w104 (unhide D108) _ (unhide F111)).mono ?_
            rintro e w112 ⟨v113, rfl, R114, b115⟩
            have D116 := hide ((unhide D108).trans (b115.mono (unhide D108).size))
            have F117 := hide ((unhide F109).up b115)
            have F118 := hide ((unhide F110).up b115)
            have F119 := hide ((unhide F111).up b115)
            have F120 := hide (unhide R114).rd
            obtain ⟨v113a, v113n, v113c, rfl⟩ := (unhide F120).form
            clear R114 b115
            have ell : (left == left) = true := by simp
            go_wp2_with fail
            refine (unhide BQ w112 jl _ _ (unhide SL) (unhide F118) (unhide F120)).mono ?_
            rintro e w121 ⟨rfl, b122⟩
            have D123 := hide ((unhide D116).trans (b122.mono (unhide D116).size))
            have F124 := hide ((unhide F117).up b122)
            have F125 := hide ((unhide F118).up b122)
            have F126 := hide ((unhide F119).up b122)
            have F127 := hide ((unhide F120).up b122)
            clear b122
            go_wp2_with fail
            go_ret
            exact ⟨by simp, unhide HREST _ (unhide D123)⟩
        by_cases g1 : u6 = 1
        · subst g1
          have h7 := unhide HLE2 (by simp [Le01]) (by simp [Le01])
          go_wp2_with fail
          refine (unhide O7 w58 (unhide D60) _ (unhide F61)).mono ?_
          rintro e w128 ⟨rfl, b129⟩
          have D130 := hide ((unhide D60).trans (b129.mono (unhide D60).size))
          have F131 := hide ((unhide F61).up b129)
          clear b129
          obtain rfl | rfl := h7
          · skip
            go_wp2_with fail
            refine (unhide J7 w128 (unhide D130) _ (unhide F131)).mono ?_
            rintro e w132 ⟨v133, rfl, R134, b135⟩
            have D136 := hide ((unhide D130).trans (b135.mono (unhide D130).size))
            have F137 := hide ((unhide F131).up b135)
            have F138 := hide (unhide R134).rd
            obtain ⟨v133a, v133n, v133c, rfl⟩ := (unhide F138).form
            clear R134 b135
            go_wp2_with fail
            refine (unhide J8 w132 (unhide D136)).mono ?_
            rintro e w139 ⟨v140, rfl, R141, b142⟩
            have D143 := hide ((unhide D136).trans (b142.mono (unhide D136).size))
            have F144 := hide ((unhide F137).up b142)
            have F145 := hide ((unhide F138).up b142)
            have F146 := hide (unhide R141).rd
            obtain ⟨v140a, v140n, v140c, rfl⟩ := (unhide F146).form
            clear R141 b142
            cases mid
            · obtain rfl := unhide HNO2 rfl
              go_wp2_with fail
              go_ret
              exact ⟨by simp, unhide HREST _ (unhide D143)⟩
            obtain ⟨ha1, ha2⟩ := unhide HAS2 rfl
            rw [← ha1, ← ha2] at J9
            clear ha1 ha2
            generalize joinV jn xc = jl at *
            go_wp2_with fail
            refine (unhide J9 w139 (unhide D143) _ (unhide F146)).mono ?_
            rintro e w147 ⟨v148, rfl, R149, b150⟩
            have D151 := hide ((unhide D143).trans (b150.mono (unhide D143).size))
            have F152 := hide ((unhide F144).up b150)
            have F153 := hide ((unhide F145).up b150)
            have F154 := hide ((unhide F146).up b150)
            have F155 := hide (unhide R149).rd
            obtain ⟨v148a, v148n, v148c, rfl⟩ := (unhide F155).form
            clear R149 b150
            have ell : (left == left) = true := by simp
            go_wp2_with fail
            refine (unhide BQ w147 jl _ _ (unhide SL) (unhide F153) (unhide F155)).mono ?_
            rintro e w156 ⟨rfl, b157⟩
            have D158 := hide ((unhide D151).trans (b157.mono (unhide D151).size))
            have F159 := hide ((unhide F152).up b157)
            have F160 := hide ((unhide F153).up b157)
            have F161 := hide ((unhide F154).up b157)
            have F162 := hide ((unhide F155).up b157)
            clear b157
            go_wp2_with fail
            go_ret
            exact ⟨by simp, unhide HREST _ (unhide D158)⟩
          · skip
            go_wp2_with fail
            refine (unhide J7 w128 (unhide D130) _ (unhide F131)).mono ?_
            rintro e w163 ⟨v164, rfl, R165, b166⟩
            have D167 := hide ((unhide D130).trans (b166.mono (unhide D130).size))
            have F168 := hide ((unhide F131).up b166)
            have F169 := hide (unhide R165).rd
            obtain ⟨v164a, v164n, v164c, rfl⟩ := (unhide F169).form
            clear R165 b166
            go_wp2_with fail
            refine (unhide J8 w163 (unhide D167)).mono ?_
            rintro e w170 ⟨v171, rfl, R172, b173⟩
            have D174 := hide ((unhide D167).trans (b173.mono (unhide D167).size))
            have F175 := hide ((unhide F168).up b173)
            have F176 := hide ((unhide F169).up b173)
            have F177 := hide (unhide R172).rd
            obtain ⟨v171a, v171n, v171c, rfl⟩ := (unhide F177).form
            clear R172 b173
            cases mid
            · obtain rfl := unhide HNO2 rfl
              go_wp2_with fail
              go_ret
              exact ⟨by simp, unhide HREST _ (unhide D174)⟩
            obtain ⟨ha1, ha2⟩ := unhide HAS2 rfl
            rw [← ha1, ← ha2] at J9
            clear ha1 ha2
            generalize joinV jn xc = jl at *
            go_wp2_with fail
            refine (unhide J9 w170 (unhide D174) _ (unhide F177)).mono ?_
            rintro e w178 ⟨v179, rfl, R180, b181⟩
            have D182 := hide ((unhide D174).trans (b181.mono (unhide D174).size))
            have F183 := hide ((unhide F175).up b181)
            have F184 := hide ((unhide F176).up b181)
            have F185 := hide ((unhide F177).up b181)
            have F186 := hide (unhide R180).rd
            obtain ⟨v179a, v179n, v179c, rfl⟩ := (unhide F186).form
            clear R180 b181
            have ell : (left == left) = true := by simp
            go_wp2_with fail
            refine (unhide BQ w178 jl _ _ (unhide SL) (unhide F184) (unhide F186)).mono ?_
            rintro e w187 ⟨rfl, b188⟩
            have D189 := hide ((unhide D182).trans (b188.mono (unhide D182).size))
            have F190 := hide ((unhide F183).up b188)
            have F191 := hide ((unhide F184).up b188)
            have F192 := hide ((unhide F185).up b188)
            have F193 := hide ((unhide F186).up b188)
            clear b188
            go_wp2_with fail
            go_ret
            exact ⟨by simp, unhide HREST _ (unhide D189)⟩
        have e60 : (u6 == 0) = false := by rw [beq_eq_false_iff_ne]; exact g0
        have e61 : (u6 == 1) = false := by rw [beq_eq_false_iff_ne]; exact g1
        clear g0 g1
        go_wp2_with fail
        refine (unhide J7 w58 (unhide D60) _ (unhide F61)).mono ?_
        rintro e w194 ⟨v195, rfl, R196, b197⟩
        have D198 := hide ((unhide D60).trans (b197.mono (unhide D60).size))
        have F199 := hide ((unhide F61).up b197)
        have F200 := hide (unhide R196).rd
        obtain ⟨v195a, v195n, v195c, rfl⟩ := (unhide F200).form
        clear R196 b197
        go_wp2_with fail
        refine (unhide J8 w194 (unhide D198)).mono ?_
        rintro e w201 ⟨v202, rfl, R203, b204⟩
        have D205 := hide ((unhide D198).trans (b204.mono (unhide D198).size))
        have F206 := hide ((unhide F199).up b204)
        have F207 := hide ((unhide F200).up b204)
        have F208 := hide (unhide R203).rd
        obtain ⟨v202a, v202n, v202c, rfl⟩ := (unhide F208).form
        clear R203 b204
        cases mid
        · obtain rfl := unhide HNO2 rfl
          go_wp2_with fail
          go_ret
          exact ⟨by simp, unhide HREST _ (unhide D205)⟩
        obtain ⟨ha1, ha2⟩ := unhide HAS2 rfl
        rw [← ha1, ← ha2] at J9
        clear ha1 ha2
        generalize joinV jn xc = jl at *
        go_wp2_with fail
        refine (unhide J9 w201 (unhide D205) _ (unhide F208)).mono ?_
        rintro e w209 ⟨v210, rfl, R211, b212⟩
        have D213 := hide ((unhide D205).trans (b212.mono (unhide D205).size))
        have F214 := hide ((unhide F206).up b212)
        have F215 := hide ((unhide F207).up b212)
        have F216 := hide ((unhide F208).up b212)
        have F217 := hide (unhide R211).rd
        obtain ⟨v210a, v210n, v210c, rfl⟩ := (unhide F217).form
        clear R211 b212
        have ell : (left == left) = true := by simp
        go_wp2_with fail
        refine (unhide BQ w209 jl _ _ (unhide SL) (unhide F215) (unhide F217)).mono ?_
        rintro e w218 ⟨rfl, b219⟩
        have D220 := hide ((unhide D213).trans (b219.mono (unhide D213).size))
        have F221 := hide ((unhide F214).up b219)
        have F222 := hide ((unhide F215).up b219)
        have F223 := hide ((unhide F216).up b219)
        have F224 := hide ((unhide F217).up b219)
        clear b219
        go_wp2_with fail
        go_ret
        exact ⟨by simp, unhide HREST _ (unhide D220)⟩
      by_cases f1 : u5 = 1
      · subst f1
        by_cases g0 : u6 = 0
        · subst g0
          have h7 := unhide HLE2 (by simp [Le01]) (by simp [Le01])
          go_wp2_with fail
          refine (unhide O7 w58 (unhide D60) _ (unhide F61)).mono ?_
          rintro e w225 ⟨rfl, b226⟩
          have D227 := hide ((unhide D60).trans (b226.mono (unhide D60).size))
          have F228 := hide ((unhide F61).up b226)
          clear b226
          obtain rfl | rfl := h7
          · skip
            go_wp2_with fail
            refine (unhide J7 w225 (unhide D227) _ (unhide F228)).mono ?_
            rintro e w229 ⟨v230, rfl, R231, b232⟩
            have D233 := hide ((unhide D227).trans (b232.mono (unhide D227).size))
            have F234 := hide ((unhide F228).up b232)
            have F235 := hide (unhide R231).rd
            obtain ⟨v230a, v230n, v230c, rfl⟩ := (unhide F235).form
            clear R231 b232
            go_wp2_with fail
            refine (unhide J8 w229 (unhide D233)).mono ?_
            rintro e w236 ⟨v237, rfl, R238, b239⟩
            have D240 := hide ((unhide D233).trans (b239.mono (unhide D233).size))
            have F241 := hide ((unhide F234).up b239)
            have F242 := hide ((unhide F235).up b239)
            have F243 := hide (unhide R238).rd
            obtain ⟨v237a, v237n, v237c, rfl⟩ := (unhide F243).form
            clear R238 b239
            cases mid
            · obtain rfl := unhide HNO2 rfl
              go_wp2_with fail
              go_ret
              exact ⟨by simp, unhide HREST _ (unhide D240)⟩
            obtain ⟨ha1, ha2⟩ := unhide HAS2 rfl
            rw [← ha1, ← ha2] at J9
            clear ha1 ha2
            generalize joinV jn xc = jl at *
            go_wp2_with fail
            refine (unhide J9 w236 (unhide D240) _ (unhide F243)).mono ?_
            rintro e w244 ⟨v245, rfl, R246, b247⟩
            have D248 := hide ((unhide D240).trans (b247.mono (unhide D240).size))
            have F249 := hide ((unhide F241).up b247)
            have F250 := hide ((unhide F242).up b247)
            have F251 := hide ((unhide F243).up b247)
            have F252 := hide (unhide R246).rd
            obtain ⟨v245a, v245n, v245c, rfl⟩ := (unhide F252).form
            clear R246 b247
            have ell : (left == left) = true := by simp
            go_wp2_with fail
            refine (unhide BQ w244 jl _ _ (unhide SL) (unhide F250) (unhide F252)).mono ?_
            rintro e w253 ⟨rfl, b254⟩
            have D255 := hide ((unhide D248).trans (b254.mono (unhide D248).size))
            have F256 := hide ((unhide F249).up b254)
            have F257 := hide ((unhide F250).up b254)
            have F258 := hide ((unhide F251).up b254)
            have F259 := hide ((unhide F252).up b254)
            clear b254
            go_wp2_with fail
            go_ret
            exact ⟨by simp, unhide HREST _ (unhide D255)⟩
          · skip
            go_wp2_with fail
            refine (unhide J7 w225 (unhide D227) _ (unhide F228)).mono ?_
            rintro e w260 ⟨v261, rfl, R262, b263⟩
            have D264 := hide ((unhide D227).trans (b263.mono (unhide D227).size))
            have F265 := hide ((unhide F228).up b263)
            have F266 := hide (unhide R262).rd
            obtain ⟨v261a, v261n, v261c, rfl⟩ := (unhide F266).form
            clear R262 b263
            go_wp2_with fail
            refine (unhide J8 w260 (unhide D264)).mono ?_
            rintro e w267 ⟨v268, rfl, R269, b270⟩
            have D271 := hide ((unhide D264).trans (b270.mono (unhide D264).size))
            have F272 := hide ((unhide F265).up b270)
            have F273 := hide ((unhide F266).up b270)
            have F274 := hide (unhide R269).rd
            obtain ⟨v268a, v268n, v268c, rfl⟩ := (unhide F274).form
            clear R269 b270
            cases mid
            · obtain rfl := unhide HNO2 rfl
              go_wp2_with fail
              go_ret
              exact ⟨by simp, unhide HREST _ (unhide D271)⟩
            obtain ⟨ha1, ha2⟩ := unhide HAS2 rfl
            rw [← ha1, ← ha2] at J9
            clear ha1 ha2
            generalize joinV jn xc = jl at *
            go_wp2_with fail
            refine (unhide J9 w267 (unhide D271) _ (unhide F274)).mono ?_
            rintro e w275 ⟨v276, rfl, R277, b278⟩
            have D279 := hide ((unhide D271).trans (b278.mono (unhide D271).size))
            have F280 := hide ((unhide F272).up b278)
            have F281 := hide ((unhide F273).up b278)
            have F282 := hide ((unhide F274).up b278)
            have F283 := hide (unhide R277).rd
            obtain ⟨v276a, v276n, v276c, rfl⟩ := (unhide F283).form
            clear R277 b278
            have ell : (left == left) = true := by simp
            go_wp2_with fail
            refine (unhide BQ w275 jl _ _ (unhide SL) (unhide F281) (unhide F283)).mono ?_
            rintro e w284 ⟨rfl, b285⟩
            have D286 := hide ((unhide D279).trans (b285.mono (unhide D279).size))
            have F287 := hide ((unhide F280).up b285)
            have F288 := hide ((unhide F281).up b285)
            have F289 := hide ((unhide F282).up b285)
            have F290 := hide ((unhide F283).up b285)
            clear b285
            go_wp2_with fail
            go_ret
            exact ⟨by simp, unhide HREST _ (unhide D286)⟩
        by_cases g1 : u6 = 1
        · subst g1
          have h7 := unhide HLE2 (by simp [Le01]) (by simp [Le01])
          go_wp2_with fail
          refine (unhide O7 w58 (unhide D60) _ (unhide F61)).mono ?_
          rintro e w291 ⟨rfl, b292⟩
          have D293 := hide ((unhide D60).trans (b292.mono (unhide D60).size))
          have F294 := hide ((unhide F61).up b292)
          clear b292
          obtain rfl | rfl := h7
          · skip
            go_wp2_with fail
            refine (unhide J7 w291 (unhide D293) _ (unhide F294)).mono ?_
            rintro e w295 ⟨v296, rfl, R297, b298⟩
            have D299 := hide ((unhide D293).trans (b298.mono (unhide D293).size))
            have F300 := hide ((unhide F294).up b298)
            have F301 := hide (unhide R297).rd
            obtain ⟨v296a, v296n, v296c, rfl⟩ := (unhide F301).form
            clear R297 b298
            go_wp2_with fail
            refine (unhide J8 w295 (unhide D299)).mono ?_
            rintro e w302 ⟨v303, rfl, R304, b305⟩
            have D306 := hide ((unhide D299).trans (b305.mono (unhide D299).size))
            have F307 := hide ((unhide F300).up b305)
            have F308 := hide ((unhide F301).up b305)
            have F309 := hide (unhide R304).rd
            obtain ⟨v303a, v303n, v303c, rfl⟩ := (unhide F309).form
            clear R304 b305
            cases mid
            · obtain rfl := unhide HNO2 rfl
              go_wp2_with fail
              go_ret
              exact ⟨by simp, unhide HREST _ (unhide D306)⟩
            obtain ⟨ha1, ha2⟩ := unhide HAS2 rfl
            rw [← ha1, ← ha2] at J9
            clear ha1 ha2
            generalize joinV jn xc = jl at *
            go_wp2_with fail
            refine (unhide J9 w302 (unhide D306) _ (unhide F309)).mono ?_
            rintro e w310 ⟨v311, rfl, R312, b313⟩
            have D314 := hide ((unhide D306).trans (b313.mono (unhide D306).size))
            have F315 := hide ((unhide F307).up b313)
            have F316 := hide ((unhide F308).up b313)
            have F317 := hide ((unhide F309).up b313)
            have F318 := hide (unhide R312).rd
            obtain ⟨v311a, v311n, v311c, rfl⟩ := (unhide F318).form
            clear R312 b313
            have ell : (left == left) = true := by simp
            go_wp2_with fail
            refine (unhide BQ w310 jl _ _ (unhide SL) (unhide F316) (unhide F318)).mono ?_
            rintro e w319 ⟨rfl, b320⟩
            have D321 := hide ((unhide D314).trans (b320.mono (unhide D314).size))
            have F322 := hide ((unhide F315).up b320)
            have F323 := hide ((unhide F316).up b320)
            have F324 := hide ((unhide F317).up b320)
            have F325 := hide ((unhide F318).up b320)
            clear b320
            go_wp2_with fail
            go_ret
            exact ⟨by simp, unhide HREST _ (unhide D321)⟩
          · skip
            go_wp2_with fail
            refine (unhide J7 w291 (unhide D293) _ (unhide F294)).mono ?_
            rintro e w326 ⟨v327, rfl, R328, b329⟩
            have D330 := hide ((unhide D293).trans (b329.mono (unhide D293).size))
            have F331 := hide ((unhide F294).up b329)
            have F332 := hide (unhide R328).rd
            obtain ⟨v327a, v327n, v327c, rfl⟩ := (unhide F332).form
            clear R328 b329
            go_wp2_with fail
            refine (unhide J8 w326 (unhide D330)).mono ?_
            rintro e w333 ⟨v334, rfl, R335, b336⟩
            have D337 := hide ((unhide D330).trans (b336.mono (unhide D330).size))
            have F338 := hide ((unhide F331).up b336)
            have F339 := hide ((unhide F332).up b336)
            have F340 := hide (unhide R335).rd
            obtain ⟨v334a, v334n, v334c, rfl⟩ := (unhide F340).form
            clear R335 b336
            cases mid
            · obtain rfl := unhide HNO2 rfl
              go_wp2_with fail
              go_ret
              exact ⟨by simp, unhide HREST _ (unhide D337)⟩
            obtain ⟨ha1, ha2⟩ := unhide HAS2 rfl
            rw [← ha1, ← ha2] at J9
            clear ha1 ha2
            generalize joinV jn xc = jl at *
            go_wp2_with fail
            refine (unhide J9 w333 (unhide D337) _ (unhide F340)).mono ?_
            rintro e w341 ⟨v342, rfl, R343, b344⟩
            have D345 := hide ((unhide D337).trans (b344.mono (unhide D337).size))
            have F346 := hide ((unhide F338).up b344)
            have F347 := hide ((unhide F339).up b344)
            have F348 := hide ((unhide F340).up b344)
            have F349 := hide (unhide R343).rd
            obtain ⟨v342a, v342n, v342c, rfl⟩ := (unhide F349).form
            clear R343 b344
            have ell : (left == left) = true := by simp
            go_wp2_with fail
            refine (unhide BQ w341 jl _ _ (unhide SL) (unhide F347) (unhide F349)).mono ?_
            rintro e w350 ⟨rfl, b351⟩
            have D352 := hide ((unhide D345).trans (b351.mono (unhide D345).size))
            have F353 := hide ((unhide F346).up b351)
            have F354 := hide ((unhide F347).up b351)
            have F355 := hide ((unhide F348).up b351)
            have F356 := hide ((unhide F349).up b351)
            clear b351
            go_wp2_with fail
            go_ret
            exact ⟨by simp, unhide HREST _ (unhide D352)⟩
        have e60 : (u6 == 0) = false := by rw [beq_eq_false_iff_ne]; exact g0
        have e61 : (u6 == 1) = false := by rw [beq_eq_false_iff_ne]; exact g1
        clear g0 g1
        go_wp2_with fail
        refine (unhide J7 w58 (unhide D60) _ (unhide F61)).mono ?_
        rintro e w357 ⟨v358, rfl, R359, b360⟩
        have D361 := hide ((unhide D60).trans (b360.mono (unhide D60).size))
        have F362 := hide ((unhide F61).up b360)
        have F363 := hide (unhide R359).rd
        obtain ⟨v358a, v358n, v358c, rfl⟩ := (unhide F363).form
        clear R359 b360
        go_wp2_with fail
        refine (unhide J8 w357 (unhide D361)).mono ?_
        rintro e w364 ⟨v365, rfl, R366, b367⟩
        have D368 := hide ((unhide D361).trans (b367.mono (unhide D361).size))
        have F369 := hide ((unhide F362).up b367)
        have F370 := hide ((unhide F363).up b367)
        have F371 := hide (unhide R366).rd
        obtain ⟨v365a, v365n, v365c, rfl⟩ := (unhide F371).form
        clear R366 b367
        cases mid
        · obtain rfl := unhide HNO2 rfl
          go_wp2_with fail
          go_ret
          exact ⟨by simp, unhide HREST _ (unhide D368)⟩
        obtain ⟨ha1, ha2⟩ := unhide HAS2 rfl
        rw [← ha1, ← ha2] at J9
        clear ha1 ha2
        generalize joinV jn xc = jl at *
        go_wp2_with fail
        refine (unhide J9 w364 (unhide D368) _ (unhide F371)).mono ?_
        rintro e w372 ⟨v373, rfl, R374, b375⟩
        have D376 := hide ((unhide D368).trans (b375.mono (unhide D368).size))
        have F377 := hide ((unhide F369).up b375)
        have F378 := hide ((unhide F370).up b375)
        have F379 := hide ((unhide F371).up b375)
        have F380 := hide (unhide R374).rd
        obtain ⟨v373a, v373n, v373c, rfl⟩ := (unhide F380).form
        clear R374 b375
        have ell : (left == left) = true := by simp
        go_wp2_with fail
        refine (unhide BQ w372 jl _ _ (unhide SL) (unhide F378) (unhide F380)).mono ?_
        rintro e w381 ⟨rfl, b382⟩
        have D383 := hide ((unhide D376).trans (b382.mono (unhide D376).size))
        have F384 := hide ((unhide F377).up b382)
        have F385 := hide ((unhide F378).up b382)
        have F386 := hide ((unhide F379).up b382)
        have F387 := hide ((unhide F380).up b382)
        clear b382
        go_wp2_with fail
        go_ret
        exact ⟨by simp, unhide HREST _ (unhide D383)⟩
      have e50 : (u5 == 0) = false := by rw [beq_eq_false_iff_ne]; exact f0
      have e51 : (u5 == 1) = false := by rw [beq_eq_false_iff_ne]; exact f1
      clear f0 f1
      go_wp2_with fail
      refine (unhide J7 w58 (unhide D60) _ (unhide F61)).mono ?_
      rintro e w388 ⟨v389, rfl, R390, b391⟩
      have D392 := hide ((unhide D60).trans (b391.mono (unhide D60).size))
      have F393 := hide ((unhide F61).up b391)
      have F394 := hide (unhide R390).rd
      obtain ⟨v389a, v389n, v389c, rfl⟩ := (unhide F394).form
      clear R390 b391
      go_wp2_with fail
      refine (unhide J8 w388 (unhide D392)).mono ?_
      rintro e w395 ⟨v396, rfl, R397, b398⟩
      have D399 := hide ((unhide D392).trans (b398.mono (unhide D392).size))
      have F400 := hide ((unhide F393).up b398)
      have F401 := hide ((unhide F394).up b398)
      have F402 := hide (unhide R397).rd
      obtain ⟨v396a, v396n, v396c, rfl⟩ := (unhide F402).form
      clear R397 b398
      cases mid
      · obtain rfl := unhide HNO2 rfl
        go_wp2_with fail
        go_ret
        exact ⟨by simp, unhide HREST _ (unhide D399)⟩
      obtain ⟨ha1, ha2⟩ := unhide HAS2 rfl
      rw [← ha1, ← ha2] at J9
      clear ha1 ha2
      generalize joinV jn xc = jl at *
      go_wp2_with fail
      refine (unhide J9 w395 (unhide D399) _ (unhide F402)).mono ?_
      rintro e w403 ⟨v404, rfl, R405, b406⟩
      have D407 := hide ((unhide D399).trans (b406.mono (unhide D399).size))
      have F408 := hide ((unhide F400).up b406)
      have F409 := hide ((unhide F401).up b406)
      have F410 := hide ((unhide F402).up b406)
      have F411 := hide (unhide R405).rd
      obtain ⟨v404a, v404n, v404c, rfl⟩ := (unhide F411).form
      clear R405 b406
      have ell : (left == left) = true := by simp
      go_wp2_with fail
      refine (unhide BQ w403 jl _ _ (unhide SL) (unhide F409) (unhide F411)).mono ?_
      rintro e w412 ⟨rfl, b413⟩
      have D414 := hide ((unhide D407).trans (b413.mono (unhide D407).size))
      have F415 := hide ((unhide F408).up b413)
      have F416 := hide ((unhide F409).up b413)
      have F417 := hide ((unhide F410).up b413)
      have F418 := hide ((unhide F411).up b413)
      clear b413
      go_wp2_with fail
      go_ret
      exact ⟨by simp, unhide HREST _ (unhide D414)⟩
    · skip
      go_wp2_with fail
      refine (unhide J4 w38 _ (unhide F41)).mono ?_
      rintro e w419 ⟨v420, rfl, R421, b422⟩
      have D423 := hide ((unhide D40).trans (b422.mono (unhide D40).size))
      have F424 := hide ((unhide F41).up b422)
      have F425 := hide (unhide R421).rd
      obtain ⟨v420a, v420n, v420c, rfl⟩ := (unhide F425).form
      clear R421 b422
      go_wp2_with fail
      refine (unhide BQ w419 jn _ _ (unhide SJ) (unhide F425) (unhide F424)).mono ?_
      rintro e w426 ⟨rfl, b427⟩
      have D428 := hide ((unhide D423).trans (b427.mono (unhide D423).size))
      have F429 := hide ((unhide F424).up b427)
      have F430 := hide ((unhide F425).up b427)
      clear b427
      go_wp2_with fail
      refine (unhide O5 w426 (unhide D428)).mono ?_
      rintro e w431 ⟨rfl, b432⟩
      have D433 := hide ((unhide D428).trans (b432.mono (unhide D428).size))
      have F434 := hide ((unhide F429).up b432)
      clear b432
      go_wp2_with fail
      refine (unhide O6 w431 (unhide D433)).mono ?_
      rintro e w435 ⟨rfl, b436⟩
      have D437 := hide ((unhide D433).trans (b436.mono (unhide D433).size))
      have F438 := hide ((unhide F434).up b436)
      clear b436
      by_cases f0 : u5 = 0
      · subst f0
        by_cases g0 : u6 = 0
        · subst g0
          have h7 := unhide HLE2 (by simp [Le01]) (by simp [Le01])
          go_wp2_with fail
          refine (unhide O7 w435 (unhide D437) _ (unhide F438)).mono ?_
          rintro e w439 ⟨rfl, b440⟩
          have D441 := hide ((unhide D437).trans (b440.mono (unhide D437).size))
          have F442 := hide ((unhide F438).up b440)
          clear b440
          obtain rfl | rfl := h7
          · skip
            go_wp2_with fail
            refine (unhide J7 w439 (unhide D441) _ (unhide F442)).mono ?_
            rintro e w443 ⟨v444, rfl, R445, b446⟩
            have D447 := hide ((unhide D441).trans (b446.mono (unhide D441).size))
            have F448 := hide ((unhide F442).up b446)
            have F449 := hide (unhide R445).rd
            obtain ⟨v444a, v444n, v444c, rfl⟩ := (unhide F449).form
            clear R445 b446
            go_wp2_with fail
            refine (unhide J8 w443 (unhide D447)).mono ?_
            rintro e w450 ⟨v451, rfl, R452, b453⟩
            have D454 := hide ((unhide D447).trans (b453.mono (unhide D447).size))
            have F455 := hide ((unhide F448).up b453)
            have F456 := hide ((unhide F449).up b453)
            have F457 := hide (unhide R452).rd
            obtain ⟨v451a, v451n, v451c, rfl⟩ := (unhide F457).form
            clear R452 b453
            cases mid
            · obtain rfl := unhide HNO2 rfl
              go_wp2_with fail
              go_ret
              exact ⟨by simp, unhide HREST _ (unhide D454)⟩
            obtain ⟨ha1, ha2⟩ := unhide HAS2 rfl
            rw [← ha1, ← ha2] at J9
            clear ha1 ha2
            generalize joinV jn xc = jl at *
            go_wp2_with fail
            refine (unhide J9 w450 (unhide D454) _ (unhide F457)).mono ?_
            rintro e w458 ⟨v459, rfl, R460, b461⟩
            have D462 := hide ((unhide D454).trans (b461.mono (unhide D454).size))
            have F463 := hide ((unhide F455).up b461)
            have F464 := hide ((unhide F456).up b461)
            have F465 := hide ((unhide F457).up b461)
            have F466 := hide (unhide R460).rd
            obtain ⟨v459a, v459n, v459c, rfl⟩ := (unhide F466).form
            clear R460 b461
            have ell : (left == left) = true := by simp
            go_wp2_with fail
            refine (unhide BQ w458 jl _ _ (unhide SL) (unhide F464) (unhide F466)).mono ?_
            rintro e w467 ⟨rfl, b468⟩
            have D469 := hide ((unhide D462).trans (b468.mono (unhide D462).size))
            have F470 := hide ((unhide F463).up b468)
            have F471 := hide ((unhide F464).up b468)
            have F472 := hide ((unhide F465).up b468)
            have F473 := hide ((unhide F466).up b468)
            clear b468
            go_wp2_with fail
            go_ret
            exact ⟨by simp, unhide HREST _ (unhide D469)⟩
          · skip
            go_wp2_with fail
            refine (unhide J7 w439 (unhide D441) _ (unhide F442)).mono ?_
            rintro e w474 ⟨v475, rfl, R476, b477⟩
            have D478 := hide ((unhide D441).trans (b477.mono (unhide D441).size))
            have F479 := hide ((unhide F442).up b477)
            have F480 := hide (unhide R476).rd
            obtain ⟨v475a, v475n, v475c, rfl⟩ := (unhide F480).form
            clear R476 b477
            go_wp2_with fail
            refine (unhide J8 w474 (unhide D478)).mono ?_
            rintro e w481 ⟨v482, rfl, R483, b484⟩
            have D485 := hide ((unhide D478).trans (b484.mono (unhide D478).size))
            have F486 := hide ((unhide F479).up b484)
            have F487 := hide ((unhide F480).up b484)
            have F488 := hide (unhide R483).rd
            obtain ⟨v482a, v482n, v482c, rfl⟩ := (unhide F488).form
            clear R483 b484
            cases mid
            · obtain rfl := unhide HNO2 rfl
              go_wp2_with fail
              go_ret
              exact ⟨by simp, unhide HREST _ (unhide D485)⟩
            obtain ⟨ha1, ha2⟩ := unhide HAS2 rfl
            rw [← ha1, ← ha2] at J9
            clear ha1 ha2
            generalize joinV jn xc = jl at *
            go_wp2_with fail
            refine (unhide J9 w481 (unhide D485) _ (unhide F488)).mono ?_
            rintro e w489 ⟨v490, rfl, R491, b492⟩
            have D493 := hide ((unhide D485).trans (b492.mono (unhide D485).size))
            have F494 := hide ((unhide F486).up b492)
            have F495 := hide ((unhide F487).up b492)
            have F496 := hide ((unhide F488).up b492)
            have F497 := hide (unhide R491).rd
            obtain ⟨v490a, v490n, v490c, rfl⟩ := (unhide F497).form
            clear R491 b492
            have ell : (left == left) = true := by simp
            go_wp2_with fail
            refine (unhide BQ w489 jl _ _ (unhide SL) (unhide F495) (unhide F497)).mono ?_
            rintro e w498 ⟨rfl, b499⟩
            have D500 := hide ((unhide D493).trans (b499.mono (unhide D493).size))
            have F501 := hide ((unhide F494).up b499)
            have F502 := hide ((unhide F495).up b499)
            have F503 := hide ((unhide F496).up b499)
            have F504 := hide ((unhide F497).up b499)
            clear b499
            go_wp2_with fail
            go_ret
            exact ⟨by simp, unhide HREST _ (unhide D500)⟩
        by_cases g1 : u6 = 1
        · subst g1
          have h7 := unhide HLE2 (by simp [Le01]) (by simp [Le01])
          go_wp2_with fail
          refine (unhide O7 w435 (unhide D437) _ (unhide F438)).mono ?_
          rintro e w505 ⟨rfl, b506⟩
          have D507 := hide ((unhide D437).trans (b506.mono (unhide D437).size))
          have F508 := hide ((unhide F438).up b506)
          clear b506
          obtain rfl | rfl := h7
          · skip
            go_wp2_with fail
            refine (unhide J7 w505 (unhide D507) _ (unhide F508)).mono ?_
            rintro e w509 ⟨v510, rfl, R511, b512⟩
            have D513 := hide ((unhide D507).trans (b512.mono (unhide D507).size))
            have F514 := hide ((unhide F508).up b512)
            have F515 := hide (unhide R511).rd
            obtain ⟨v510a, v510n, v510c, rfl⟩ := (unhide F515).form
            clear R511 b512
            go_wp2_with fail
            refine (unhide J8 w509 (unhide D513)).mono ?_
            rintro e w516 ⟨v517, rfl, R518, b519⟩
            have D520 := hide ((unhide D513).trans (b519.mono (unhide D513).size))
            have F521 := hide ((unhide F514).up b519)
            have F522 := hide ((unhide F515).up b519)
            have F523 := hide (unhide R518).rd
            obtain ⟨v517a, v517n, v517c, rfl⟩ := (unhide F523).form
            clear R518 b519
            cases mid
            · obtain rfl := unhide HNO2 rfl
              go_wp2_with fail
              go_ret
              exact ⟨by simp, unhide HREST _ (unhide D520)⟩
            obtain ⟨ha1, ha2⟩ := unhide HAS2 rfl
            rw [← ha1, ← ha2] at J9
            clear ha1 ha2
            generalize joinV jn xc = jl at *
            go_wp2_with fail
            refine (unhide J9 w516 (unhide D520) _ (unhide F523)).mono ?_
            rintro e w524 ⟨v525, rfl, R526, b527⟩
            have D528 := hide ((unhide D520).trans (b527.mono (unhide D520).size))
            have F529 := hide ((unhide F521).up b527)
            have F530 := hide ((unhide F522).up b527)
            have F531 := hide ((unhide F523).up b527)
            have F532 := hide (unhide R526).rd
            obtain ⟨v525a, v525n, v525c, rfl⟩ := (unhide F532).form
            clear R526 b527
            have ell : (left == left) = true := by simp
            go_wp2_with fail
            refine (unhide BQ w524 jl _ _ (unhide SL) (unhide F530) (unhide F532)).mono ?_
            rintro e w533 ⟨rfl, b534⟩
            have D535 := hide ((unhide D528).trans (b534.mono (unhide D528).size))
            have F536 := hide ((unhide F529).up b534)
            have F537 := hide ((unhide F530).up b534)
            have F538 := hide ((unhide F531).up b534)
            have F539 := hide ((unhide F532).up b534)
            clear b534
            go_wp2_with fail
            go_ret
            exact ⟨by simp, unhide HREST _ (unhide D535)⟩
          · skip
            go_wp2_with fail
            refine (unhide J7 w505 (unhide D507) _ (unhide F508)).mono ?_
            rintro e w540 ⟨v541, rfl, R542, b543⟩
            have D544 := hide ((unhide D507).trans (b543.mono (unhide D507).size))
            have F545 := hide ((unhide F508).up b543)
            have F546 := hide (unhide R542).rd
            obtain ⟨v541a, v541n, v541c, rfl⟩ := (unhide F546).form
            clear R542 b543
            go_wp2_with fail
            refine (unhide J8 w540 (unhide D544)).mono ?_
            rintro e w547 ⟨v548, rfl, R549, b550⟩
            have D551 := hide ((unhide D544).trans (b550.mono (unhide D544).size))
            have F552 := hide ((unhide F545).up b550)
            have F553 := hide ((unhide F546).up b550)
            have F554 := hide (unhide R549).rd
            obtain ⟨v548a, v548n, v548c, rfl⟩ := (unhide F554).form
            clear R549 b550
            cases mid
            · obtain rfl := unhide HNO2 rfl
              go_wp2_with fail
              go_ret
              exact ⟨by simp, unhide HREST _ (unhide D551)⟩
            obtain ⟨ha1, ha2⟩ := unhide HAS2 rfl
            rw [← ha1, ← ha2] at J9
            clear ha1 ha2
            generalize joinV jn xc = jl at *
            go_wp2_with fail
            refine (unhide J9 w547 (unhide D551) _ (unhide F554)).mono ?_
            rintro e w555 ⟨v556, rfl, R557, b558⟩
            have D559 := hide ((unhide D551).trans (b558.mono (unhide D551).size))
            have F560 := hide ((unhide F552).up b558)
            have F561 := hide ((unhide F553).up b558)
            have F562 := hide ((unhide F554).up b558)
            have F563 := hide (unhide R557).rd
            obtain ⟨v556a, v556n, v556c, rfl⟩ := (unhide F563).form
            clear R557 b558
            have ell : (left == left) = true := by simp
            go_wp2_with fail
            refine (unhide BQ w555 jl _ _ (unhide SL) (unhide F561) (unhide F563)).mono ?_
            rintro e w564 ⟨rfl, b565⟩
            have D566 := hide ((unhide D559).trans (b565.mono (unhide D559).size))
            have F567 := hide ((unhide F560).up b565)
            have F568 := hide ((unhide F561).up b565)
            have F569 := hide ((unhide F562).up b565)
            have F570 := hide ((unhide F563).up b565)
            clear b565
            go_wp2_with fail
            go_ret
            exact ⟨by simp, unhide HREST _ (unhide D566)⟩
        have e60 : (u6 == 0) = false := by rw [beq_eq_false_iff_ne]; exact g0
        have e61 : (u6 == 1) = false := by rw [beq_eq_false_iff_ne]; exact g1
        clear g0 g1
        go_wp2_with fail
        refine (unhide J7 w435 (unhide D437) _ (unhide F438)).mono ?_
        rintro e w571 ⟨v572, rfl, R573, b574⟩
        have D575 := hide ((unhide D437).trans (b574.mono (unhide D437).size))
        have F576 := hide ((unhide F438).up b574)
        have F577 := hide (unhide R573).rd
        obtain ⟨v572a, v572n, v572c, rfl⟩ := (unhide F577).form
        clear R573 b574
        go_wp2_with fail
        refine (unhide J8 w571 (unhide D575)).mono ?_
        rintro e w578 ⟨v579, rfl, R580, b581⟩
        have D582 := hide ((unhide D575).trans (b581.mono (unhide D575).size))
        have F583 := hide ((unhide F576).up b581)
        have F584 := hide ((unhide F577).up b581)
        have F585 := hide (unhide R580).rd
        obtain ⟨v579a, v579n, v579c, rfl⟩ := (unhide F585).form
        clear R580 b581
        cases mid
        · obtain rfl := unhide HNO2 rfl
          go_wp2_with fail
          go_ret
          exact ⟨by simp, unhide HREST _ (unhide D582)⟩
        obtain ⟨ha1, ha2⟩ := unhide HAS2 rfl
        rw [← ha1, ← ha2] at J9
        clear ha1 ha2
        generalize joinV jn xc = jl at *
        go_wp2_with fail
        refine (unhide J9 w578 (unhide D582) _ (unhide F585)).mono ?_
        rintro e w586 ⟨v587, rfl, R588, b589⟩
        have D590 := hide ((unhide D582).trans (b589.mono (unhide D582).size))
        have F591 := hide ((unhide F583).up b589)
        have F592 := hide ((unhide F584).up b589)
        have F593 := hide ((unhide F585).up b589)
        have F594 := hide (unhide R588).rd
        obtain ⟨v587a, v587n, v587c, rfl⟩ := (unhide F594).form
        clear R588 b589
        have ell : (left == left) = true := by simp
        go_wp2_with fail
        refine (unhide BQ w586 jl _ _ (unhide SL) (unhide F592) (unhide F594)).mono ?_
        rintro e w595 ⟨rfl, b596⟩
        have D597 := hide ((unhide D590).trans (b596.mono (unhide D590).size))
        have F598 := hide ((unhide F591).up b596)
        have F599 := hide ((unhide F592).up b596)
        have F600 := hide ((unhide F593).up b596)
        have F601 := hide ((unhide F594).up b596)
        clear b596
        go_wp2_with fail
        go_ret
        exact ⟨by simp, unhide HREST _ (unhide D597)⟩
      by_cases f1 : u5 = 1
      · subst f1
        by_cases g0 : u6 = 0
        · subst g0
          have h7 := unhide HLE2 (by simp [Le01]) (by simp [Le01])
          go_wp2_with fail
          refine (unhide O7 w435 (unhide D437) _ (unhide F438)).mono ?_
          rintro e w602 ⟨rfl, b603⟩
          have D604 := hide ((unhide D437).trans (b603.mono (unhide D437).size))
          have F605 := hide ((unhide F438).up b603)
          clear b603
          obtain rfl | rfl := h7
          · skip
            go_wp2_with fail
            refine (unhide J7 w602 (unhide D604) _ (unhide F605)).mono ?_
            rintro e w606 ⟨v607, rfl, R608, b609⟩
            have D610 := hide ((unhide D604).trans (b609.mono (unhide D604).size))
            have F611 := hide ((unhide F605).up b609)
            have F612 := hide (unhide R608).rd
            obtain ⟨v607a, v607n, v607c, rfl⟩ := (unhide F612).form
            clear R608 b609
            go_wp2_with fail
            refine (unhide J8 w606 (unhide D610)).mono ?_
            rintro e w613 ⟨v614, rfl, R615, b616⟩
            have D617 := hide ((unhide D610).trans (b616.mono (unhide D610).size))
            have F618 := hide ((unhide F611).up b616)
            have F619 := hide ((unhide F612).up b616)
            have F620 := hide (unhide R615).rd
            obtain ⟨v614a, v614n, v614c, rfl⟩ := (unhide F620).form
            clear R615 b616
            cases mid
            · obtain rfl := unhide HNO2 rfl
              go_wp2_with fail
              go_ret
              exact ⟨by simp, unhide HREST _ (unhide D617)⟩
            obtain ⟨ha1, ha2⟩ := unhide HAS2 rfl
            rw [← ha1, ← ha2] at J9
            clear ha1 ha2
            generalize joinV jn xc = jl at *
            go_wp2_with fail
            refine (unhide J9 w613 (unhide D617) _ (unhide F620)).mono ?_
            rintro e w621 ⟨v622, rfl, R623, b624⟩
            have D625 := hide ((unhide D617).trans (b624.mono (unhide D617).size))
            have F626 := hide ((unhide F618).up b624)
            have F627 := hide ((unhide F619).up b624)
            have F628 := hide ((unhide F620).up b624)
            have F629 := hide (unhide R623).rd
            obtain ⟨v622a, v622n, v622c, rfl⟩ := (unhide F629).form
            clear R623 b624
            have ell : (left == left) = true := by simp
            go_wp2_with fail
            refine (unhide BQ w621 jl _ _ (unhide SL) (unhide F627) (unhide F629)).mono ?_
            rintro e w630 ⟨rfl, b631⟩
            have D632 := hide ((unhide D625).trans (b631.mono (unhide D625).size))
            have F633 := hide ((unhide F626).up b631)
            have F634 := hide ((unhide F627).up b631)
            have F635 := hide ((unhide F628).up b631)
            have F636 := hide ((unhide F629).up b631)
            clear b631
            go_wp2_with fail
            go_ret
            exact ⟨by simp, unhide HREST _ (unhide D632)⟩
          · skip
            go_wp2_with fail
            refine (unhide J7 w602 (unhide D604) _ (unhide F605)).mono ?_
            rintro e w637 ⟨v638, rfl, R639, b640⟩
            have D641 := hide ((unhide D604).trans (b640.mono (unhide D604).size))
            have F642 := hide ((unhide F605).up b640)
            have F643 := hide (unhide R639).rd
            obtain ⟨v638a, v638n, v638c, rfl⟩ := (unhide F643).form
            clear R639 b640
            go_wp2_with fail
            refine (unhide J8 w637 (unhide D641)).mono ?_
            rintro e w644 ⟨v645, rfl, R646, b647⟩
            have D648 := hide ((unhide D641).trans (b647.mono (unhide D641).size))
            have F649 := hide ((unhide F642).up b647)
            have F650 := hide ((unhide F643).up b647)
            have F651 := hide (unhide R646).rd
            obtain ⟨v645a, v645n, v645c, rfl⟩ := (unhide F651).form
            clear R646 b647
            cases mid
            · obtain rfl := unhide HNO2 rfl
              go_wp2_with fail
              go_ret
              exact ⟨by simp, unhide HREST _ (unhide D648)⟩
            obtain ⟨ha1, ha2⟩ := unhide HAS2 rfl
            rw [← ha1, ← ha2] at J9
            clear ha1 ha2
            generalize joinV jn xc = jl at *
            go_wp2_with fail
            refine (unhide J9 w644 (unhide D648) _ (unhide F651)).mono ?_
            rintro e w652 ⟨v653, rfl, R654, b655⟩
            have D656 := hide ((unhide D648).trans (b655.mono (unhide D648).size))
            have F657 := hide ((unhide F649).up b655)
            have F658 := hide ((unhide F650).up b655)
            have F659 := hide ((unhide F651).up b655)
            have F660 := hide (unhide R654).rd
            obtain ⟨v653a, v653n, v653c, rfl⟩ := (unhide F660).form
            clear R654 b655
            have ell : (left == left) = true := by simp
            go_wp2_with fail
            refine (unhide BQ w652 jl _ _ (unhide SL) (unhide F658) (unhide F660)).mono ?_
            rintro e w661 ⟨rfl, b662⟩
            have D663 := hide ((unhide D656).trans (b662.mono (unhide D656).size))
            have F664 := hide ((unhide F657).up b662)
            have F665 := hide ((unhide F658).up b662)
            have F666 := hide ((unhide F659).up b662)
            have F667 := hide ((unhide F660).up b662)
            clear b662
            go_wp2_with fail
            go_ret
            exact ⟨by simp, unhide HREST _ (unhide D663)⟩
        by_cases g1 : u6 = 1
        · subst g1
          have h7 := unhide HLE2 (by simp [Le01]) (by simp [Le01])
          go_wp2_with fail
          refine (unhide O7 w435 (unhide D437) _ (unhide F438)).mono ?_
          rintro e w668 ⟨rfl, b669⟩
          have D670 := hide ((unhide D437).trans (b669.mono (unhide D437).size))
          have F671 := hide ((unhide F438).up b669)
          clear b669
          obtain rfl | rfl := h7
          · skip
            go_wp2_with fail
            refine (unhide J7 w668 (unhide D670) _ (unhide F671)).mono ?_
            rintro e w672 ⟨v673, rfl, R674, b675⟩
            have D676 := hide ((unhide D670).trans (b675.mono (unhide D670).size))
            have F677 := hide ((unhide F671).up b675)
            have F678 := hide (unhide R674).rd
            obtain ⟨v673a, v673n, v673c, rfl⟩ := (unhide F678).form
            clear R674 b675
            go_wp2_with fail
            refine (unhide J8 w672 (unhide D676)).mono ?_
            rintro e w679 ⟨v680, rfl, R681, b682⟩
            have D683 := hide ((unhide D676).trans (b682.mono (unhide D676).size))
            have F684 := hide ((unhide F677).up b682)
            have F685 := hide ((unhide F678).up b682)
            have F686 := hide (unhide R681).rd
            obtain ⟨v680a, v680n, v680c, rfl⟩ := (unhide F686).form
            clear R681 b682
            cases mid
            · obtain rfl := unhide HNO2 rfl
              go_wp2_with fail
              go_ret
              exact ⟨by simp, unhide HREST _ (unhide D683)⟩
            obtain ⟨ha1, ha2⟩ := unhide HAS2 rfl
            rw [← ha1, ← ha2] at J9
            clear ha1 ha2
            generalize joinV jn xc = jl at *
            go_wp2_with fail
            refine (unhide J9 w679 (unhide D683) _ (unhide F686)).mono ?_
            rintro e w687 ⟨v688, rfl, R689, b690⟩
            have D691 := hide ((unhide D683).trans (b690.mono (unhide D683).size))
            have F692 := hide ((unhide F684).up b690)
            have F693 := hide ((unhide F685).up b690)
            have F694 := hide ((unhide F686).up b690)
            have F695 := hide (unhide R689).rd
            obtain ⟨v688a, v688n, v688c, rfl⟩ := (unhide F695).form
            clear R689 b690
            have ell : (left == left) = true := by simp
            go_wp2_with fail
            refine (unhide BQ w687 jl _ _ (unhide SL) (unhide F693) (unhide F695)).mono ?_
            rintro e w696 ⟨rfl, b697⟩
            have D698 := hide ((unhide D691).trans (b697.mono (unhide D691).size))
            have F699 := hide ((unhide F692).up b697)
            have F700 := hide ((unhide F693).up b697)
            have F701 := hide ((unhide F694).up b697)
            have F702 := hide ((unhide F695).up b697)
            clear b697
            go_wp2_with fail
            go_ret
            exact ⟨by simp, unhide HREST _ (unhide D698)⟩
          · skip
            go_wp2_with fail
            refine (unhide J7 w668 (unhide D670) _ (unhide F671)).mono ?_
            rintro e w703 ⟨v704, rfl, R705, b706⟩
            have D707 := hide ((unhide D670).trans (b706.mono (unhide D670).size))
            have F708 := hide ((unhide F671).up b706)
            have F709 := hide (unhide R705).rd
            obtain ⟨v704a, v704n, v704c, rfl⟩ := (unhide F709).form
            clear R705 b706
            go_wp2_with fail
            refine (unhide J8 w703 (unhide D707)).mono ?_
            rintro e w710 ⟨v711, rfl, R712, b713⟩
            have D714 := hide ((unhide D707).trans (b713.mono (unhide D707).size))
            have F715 := hide ((unhide F708).up b713)
            have F716 := hide ((unhide F709).up b713)
            have F717 := hide (unhide R712).rd
            obtain ⟨v711a, v711n, v711c, rfl⟩ := (unhide F717).form
            clear R712 b713
            cases mid
            · obtain rfl := unhide HNO2 rfl
              go_wp2_with fail
              go_ret
              exact ⟨by simp, unhide HREST _ (unhide D714)⟩
            obtain ⟨ha1, ha2⟩ := unhide HAS2 rfl
            rw [← ha1, ← ha2] at J9
            clear ha1 ha2
            generalize joinV jn xc = jl at *
            go_wp2_with fail
            refine (unhide J9 w710 (unhide D714) _ (unhide F717)).mono ?_
            rintro e w718 ⟨v719, rfl, R720, b721⟩
            have D722 := hide ((unhide D714).trans (b721.mono (unhide D714).size))
            have F723 := hide ((unhide F715).up b721)
            have F724 := hide ((unhide F716).up b721)
            have F725 := hide ((unhide F717).up b721)
            have F726 := hide (unhide R720).rd
            obtain ⟨v719a, v719n, v719c, rfl⟩ := (unhide F726).form
            clear R720 b721
            have ell : (left == left) = true := by simp
            go_wp2_with fail
            refine (unhide BQ w718 jl _ _ (unhide SL) (unhide F724) (unhide F726)).mono ?_
            rintro e w727 ⟨rfl, b728⟩
            have D729 := hide ((unhide D722).trans (b728.mono (unhide D722).size))
            have F730 := hide ((unhide F723).up b728)
            have F731 := hide ((unhide F724).up b728)
            have F732 := hide ((unhide F725).up b728)
            have F733 := hide ((unhide F726).up b728)
            clear b728
            go_wp2_with fail
            go_ret
            exact ⟨by simp, unhide HREST _ (unhide D729)⟩
        have e60 : (u6 == 0) = false := by rw [beq_eq_false_iff_ne]; exact g0
        have e61 : (u6 == 1) = false := by rw [beq_eq_false_iff_ne]; exact g1
        clear g0 g1
        go_wp2_with fail
        refine (unhide J7 w435 (unhide D437) _ (unhide F438)).mono ?_
        rintro e w734 ⟨v735, rfl, R736, b737⟩
        have D738 := hide ((unhide D437).trans (b737.mono (unhide D437).size))
        have F739 := hide ((unhide F438).up b737)
        have F740 := hide (unhide R736).rd
        obtain ⟨v735a, v735n, v735c, rfl⟩ := (unhide F740).form
        clear R736 b737
        go_wp2_with fail
        refine (unhide J8 w734 (unhide D738)).mono ?_
        rintro e w741 ⟨v742, rfl, R743, b744⟩
        have D745 := hide ((unhide D738).trans (b744.mono (unhide D738).size))
        have F746 := hide ((unhide F739).up b744)
        have F747 := hide ((unhide F740).up b744)
        have F748 := hide (unhide R743).rd
        obtain ⟨v742a, v742n, v742c, rfl⟩ := (unhide F748).form
        clear R743 b744
        cases mid
        · obtain rfl := unhide HNO2 rfl
          go_wp2_with fail
          go_ret
          exact ⟨by simp, unhide HREST _ (unhide D745)⟩
        obtain ⟨ha1, ha2⟩ := unhide HAS2 rfl
        rw [← ha1, ← ha2] at J9
        clear ha1 ha2
        generalize joinV jn xc = jl at *
        go_wp2_with fail
        refine (unhide J9 w741 (unhide D745) _ (unhide F748)).mono ?_
        rintro e w749 ⟨v750, rfl, R751, b752⟩
        have D753 := hide ((unhide D745).trans (b752.mono (unhide D745).size))
        have F754 := hide ((unhide F746).up b752)
        have F755 := hide ((unhide F747).up b752)
        have F756 := hide ((unhide F748).up b752)
        have F757 := hide (unhide R751).rd
        obtain ⟨v750a, v750n, v750c, rfl⟩ := (unhide F757).form
        clear R751 b752
        have ell : (left == left) = true := by simp
        go_wp2_with fail
        refine (unhide BQ w749 jl _ _ (unhide SL) (unhide F755) (unhide F757)).mono ?_
        rintro e w758 ⟨rfl, b759⟩
        have D760 := hide ((unhide D753).trans (b759.mono (unhide D753).size))
        have F761 := hide ((unhide F754).up b759)
        have F762 := hide ((unhide F755).up b759)
        have F763 := hide ((unhide F756).up b759)
        have F764 := hide ((unhide F757).up b759)
        clear b759
        go_wp2_with fail
        go_ret
        exact ⟨by simp, unhide HREST _ (unhide D760)⟩
      have e50 : (u5 == 0) = false := by rw [beq_eq_false_iff_ne]; exact f0
      have e51 : (u5 == 1) = false := by rw [beq_eq_false_iff_ne]; exact f1
      clear f0 f1
      go_wp2_with fail
      refine (unhide J7 w435 (unhide D437) _ (unhide F438)).mono ?_
      rintro e w765 ⟨v766, rfl, R767, b768⟩
      have D769 := hide ((unhide D437).trans (b768.mono (unhide D437).size))
      have F770 := hide ((unhide F438).up b768)
      have F771 := hide (unhide R767).rd
      obtain ⟨v766a, v766n, v766c, rfl⟩ := (unhide F771).form
      clear R767 b768
      go_wp2_with fail
      refine (unhide J8 w765 (unhide D769)).mono ?_
      rintro e w772 ⟨v773, rfl, R774, b775⟩
      have D776 := hide ((unhide D769).trans (b775.mono (unhide D769).size))
      have F777 := hide ((unhide F770).up b775)
      have F778 := hide ((unhide F771).up b775)
      have F779 := hide (unhide R774).rd
      obtain ⟨v773a, v773n, v773c, rfl⟩ := (unhide F779).form
      clear R774 b775
      cases mid
      · obtain rfl := unhide HNO2 rfl
        go_wp2_with fail
        go_ret
        exact ⟨by simp, unhide HREST _ (unhide D776)⟩
      obtain ⟨ha1, ha2⟩ := unhide HAS2 rfl
      rw [← ha1, ← ha2] at J9
      clear ha1 ha2
      generalize joinV jn xc = jl at *
      go_wp2_with fail
      refine (unhide J9 w772 (unhide D776) _ (unhide F779)).mono ?_
      rintro e w780 ⟨v781, rfl, R782, b783⟩
      have D784 := hide ((unhide D776).trans (b783.mono (unhide D776).size))
      have F785 := hide ((unhide F777).up b783)
      have F786 := hide ((unhide F778).up b783)
      have F787 := hide ((unhide F779).up b783)
      have F788 := hide (unhide R782).rd
      obtain ⟨v781a, v781n, v781c, rfl⟩ := (unhide F788).form
      clear R782 b783
      have ell : (left == left) = true := by simp
      go_wp2_with fail
      refine (unhide BQ w780 jl _ _ (unhide SL) (unhide F786) (unhide F788)).mono ?_
      rintro e w789 ⟨rfl, b790⟩
      have D791 := hide ((unhide D784).trans (b790.mono (unhide D784).size))
      have F792 := hide ((unhide F785).up b790)
      have F793 := hide ((unhide F786).up b790)
      have F794 := hide ((unhide F787).up b790)
      have F795 := hide ((unhide F788).up b790)
      clear b790
      go_wp2_with fail
      go_ret
      exact ⟨by simp, unhide HREST _ (unhide D791)⟩
  · obtain rfl | rfl := hy
    · skip
      go_wp2_with fail
      refine (unhide J4 w38 _ (unhide F41)).mono ?_
      rintro e w796 ⟨v797, rfl, R798, b799⟩
      have D800 := hide ((unhide D40).trans (b799.mono (unhide D40).size))
      have F801 := hide ((unhide F41).up b799)
      have F802 := hide (unhide R798).rd
      obtain ⟨v797a, v797n, v797c, rfl⟩ := (unhide F802).form
      clear R798 b799
      go_wp2_with fail
      refine (unhide BQ w796 jn _ _ (unhide SJ) (unhide F802) (unhide F801)).mono ?_
      rintro e w803 ⟨rfl, b804⟩
      have D805 := hide ((unhide D800).trans (b804.mono (unhide D800).size))
      have F806 := hide ((unhide F801).up b804)
      have F807 := hide ((unhide F802).up b804)
      clear b804
      go_wp2_with fail
      refine (unhide O5 w803 (unhide D805)).mono ?_
      rintro e w808 ⟨rfl, b809⟩
      have D810 := hide ((unhide D805).trans (b809.mono (unhide D805).size))
      have F811 := hide ((unhide F806).up b809)
      clear b809
      go_wp2_with fail
      refine (unhide O6 w808 (unhide D810)).mono ?_
      rintro e w812 ⟨rfl, b813⟩
      have D814 := hide ((unhide D810).trans (b813.mono (unhide D810).size))
      have F815 := hide ((unhide F811).up b813)
      clear b813
      by_cases f0 : u5 = 0
      · subst f0
        by_cases g0 : u6 = 0
        · subst g0
          have h7 := unhide HLE2 (by simp [Le01]) (by simp [Le01])
          go_wp2_with fail
          refine (unhide O7 w812 (unhide D814) _ (unhide F815)).mono ?_
          rintro e w816 ⟨rfl, b817⟩
          have D818 := hide ((unhide D814).trans (b817.mono (unhide D814).size))
          have F819 := hide ((unhide F815).up b817)
          clear b817
          obtain rfl | rfl := h7
          · skip
            go_wp2_with fail
            refine (unhide J7 w816 (unhide D818) _ (unhide F819)).mono ?_
            rintro e w820 ⟨v821, rfl, R822, b823⟩
            have D824 := hide ((unhide D818).trans (b823.mono (unhide D818).size))
            have F825 := hide ((unhide F819).up b823)
            have F826 := hide (unhide R822).rd
            obtain ⟨v821a, v821n, v821c, rfl⟩ := (unhide F826).form
            clear R822 b823
            go_wp2_with fail
            refine (unhide J8 w820 (unhide D824)).mono ?_
            rintro e w827 ⟨v828, rfl, R829, b830⟩
            have D831 := hide ((unhide D824).trans (b830.mono (unhide D824).size))
            have F832 := hide ((unhide F825).up b830)
            have F833 := hide ((unhide F826).up b830)
            have F834 := hide (unhide R829).rd
            obtain ⟨v828a, v828n, v828c, rfl⟩ := (unhide F834).form
            clear R829 b830
            cases mid
            · obtain rfl := unhide HNO2 rfl
              go_wp2_with fail
              go_ret
              exact ⟨by simp, unhide HREST _ (unhide D831)⟩
            obtain ⟨ha1, ha2⟩ := unhide HAS2 rfl
            rw [← ha1, ← ha2] at J9
            clear ha1 ha2
            generalize joinV jn xc = jl at *
            go_wp2_with fail
            refine (unhide J9 w827 (unhide D831) _ (unhide F834)).mono ?_
            rintro e w835 ⟨v836, rfl, R837, b838⟩
            have D839 := hide ((unhide D831).trans (b838.mono (unhide D831).size))
            have F840 := hide ((unhide F832).up b838)
            have F841 := hide ((unhide F833).up b838)
            have F842 := hide ((unhide F834).up b838)
            have F843 := hide (unhide R837).rd
            obtain ⟨v836a, v836n, v836c, rfl⟩ := (unhide F843).form
            clear R837 b838
            have ell : (left == left) = true := by simp
            go_wp2_with fail
            refine (unhide BQ w835 jl _ _ (unhide SL) (unhide F841) (unhide F843)).mono ?_
            rintro e w844 ⟨rfl, b845⟩
            have D846 := hide ((unhide D839).trans (b845.mono (unhide D839).size))
            have F847 := hide ((unhide F840).up b845)
            have F848 := hide ((unhide F841).up b845)
            have F849 := hide ((unhide F842).up b845)
            have F850 := hide ((unhide F843).up b845)
            clear b845
            go_wp2_with fail
            go_ret
            exact ⟨by simp, unhide HREST _ (unhide D846)⟩
          · skip
            go_wp2_with fail
            refine (unhide J7 w816 (unhide D818) _ (unhide F819)).mono ?_
            rintro e w851 ⟨v852, rfl, R853, b854⟩
            have D855 := hide ((unhide D818).trans (b854.mono (unhide D818).size))
            have F856 := hide ((unhide F819).up b854)
            have F857 := hide (unhide R853).rd
            obtain ⟨v852a, v852n, v852c, rfl⟩ := (unhide F857).form
            clear R853 b854
            go_wp2_with fail
            refine (unhide J8 w851 (unhide D855)).mono ?_
            rintro e w858 ⟨v859, rfl, R860, b861⟩
            have D862 := hide ((unhide D855).trans (b861.mono (unhide D855).size))
            have F863 := hide ((unhide F856).up b861)
            have F864 := hide ((unhide F857).up b861)
            have F865 := hide (unhide R860).rd
            obtain ⟨v859a, v859n, v859c, rfl⟩ := (unhide F865).form
            clear R860 b861
            cases mid
            · obtain rfl := unhide HNO2 rfl
              go_wp2_with fail
              go_ret
              exact ⟨by simp, unhide HREST _ (unhide D862)⟩
            obtain ⟨ha1, ha2⟩ := unhide HAS2 rfl
            rw [← ha1, ← ha2] at J9
            clear ha1 ha2
            generalize joinV jn xc = jl at *
            go_wp2_with fail
            refine (unhide J9 w858 (unhide D862) _ (unhide F865)).mono ?_
            rintro e w866 ⟨v867, rfl, R868, b869⟩
            have D870 := hide ((unhide D862).trans (b869.mono (unhide D862).size))
            have F871 := hide ((unhide F863).up b869)
            have F872 := hide ((unhide F864).up b869)
            have F873 := hide ((unhide F865).up b869)
            have F874 := hide (unhide R868).rd
            obtain ⟨v867a, v867n, v867c, rfl⟩ := (unhide F874).form
            clear R868 b869
            have ell : (left == left) = true := by simp
            go_wp2_with fail
            refine (unhide BQ w866 jl _ _ (unhide SL) (unhide F872) (unhide F874)).mono ?_
            rintro e w875 ⟨rfl, b876⟩
            have D877 := hide ((unhide D870).trans (b876.mono (unhide D870).size))
            have F878 := hide ((unhide F871).up b876)
            have F879 := hide ((unhide F872).up b876)
            have F880 := hide ((unhide F873).up b876)
            have F881 := hide ((unhide F874).up b876)
            clear b876
            go_wp2_with fail
            go_ret
            exact ⟨by simp, unhide HREST _ (unhide D877)⟩
        by_cases g1 : u6 = 1
        · subst g1
          have h7 := unhide HLE2 (by simp [Le01]) (by simp [Le01])
          go_wp2_with fail
          refine (unhide O7 w812 (unhide D814) _ (unhide F815)).mono ?_
          rintro e w882 ⟨rfl, b883⟩
          have D884 := hide ((unhide D814).trans (b883.mono (unhide D814).size))
          have F885 := hide ((unhide F815).up b883)
          clear b883
          obtain rfl | rfl := h7
          · skip
            go_wp2_with fail
            refine (unhide J7 w882 (unhide D884) _ (unhide F885)).mono ?_
            rintro e w886 ⟨v887, rfl, R888, b889⟩
            have D890 := hide ((unhide D884).trans (b889.mono (unhide D884).size))
            have F891 := hide ((unhide F885).up b889)
            have F892 := hide (unhide R888).rd
            obtain ⟨v887a, v887n, v887c, rfl⟩ := (unhide F892).form
            clear R888 b889
            go_wp2_with fail
            refine (unhide J8 w886 (unhide D890)).mono ?_
            rintro e w893 ⟨v894, rfl, R895, b896⟩
            have D897 := hide ((unhide D890).trans (b896.mono (unhide D890).size))
            have F898 := hide ((unhide F891).up b896)
            have F899 := hide ((unhide F892).up b896)
            have F900 := hide (unhide R895).rd
            obtain ⟨v894a, v894n, v894c, rfl⟩ := (unhide F900).form
            clear R895 b896
            cases mid
            · obtain rfl := unhide HNO2 rfl
              go_wp2_with fail
              go_ret
              exact ⟨by simp, unhide HREST _ (unhide D897)⟩
            obtain ⟨ha1, ha2⟩ := unhide HAS2 rfl
            rw [← ha1, ← ha2] at J9
            clear ha1 ha2
            generalize joinV jn xc = jl at *
            go_wp2_with fail
            refine (unhide J9 w893 (unhide D897) _ (unhide F900)).mono ?_
            rintro e w901 ⟨v902, rfl, R903, b904⟩
            have D905 := hide ((unhide D897).trans (b904.mono (unhide D897).size))
            have F906 := hide ((unhide F898).up b904)
            have F907 := hide ((unhide F899).up b904)
            have F908 := hide ((unhide F900).up b904)
            have F909 := hide (unhide R903).rd
            obtain ⟨v902a, v902n, v902c, rfl⟩ := (unhide F909).form
            clear R903 b904
            have ell : (left == left) = true := by simp
            go_wp2_with fail
            refine (unhide BQ w901 jl _ _ (unhide SL) (unhide F907) (unhide F909)).mono ?_
            rintro e w910 ⟨rfl, b911⟩
            have D912 := hide ((unhide D905).trans (b911.mono (unhide D905).size))
            have F913 := hide ((unhide F906).up b911)
            have F914 := hide ((unhide F907).up b911)
            have F915 := hide ((unhide F908).up b911)
            have F916 := hide ((unhide F909).up b911)
            clear b911
            go_wp2_with fail
            go_ret
            exact ⟨by simp, unhide HREST _ (unhide D912)⟩
          · skip
            go_wp2_with fail
            refine (unhide J7 w882 (unhide D884) _ (unhide F885)).mono ?_
            rintro e w917 ⟨v918, rfl, R919, b920⟩
            have D921 := hide ((unhide D884).trans (b920.mono (unhide D884).size))
            have F922 := hide ((unhide F885).up b920)
            have F923 := hide (unhide R919).rd
            obtain ⟨v918a, v918n, v918c, rfl⟩ := (unhide F923).form
            clear R919 b920
            go_wp2_with fail
            refine (unhide J8 w917 (unhide D921)).mono ?_
            rintro e w924 ⟨v925, rfl, R926, b927⟩
            have D928 := hide ((unhide D921).trans (b927.mono (unhide D921).size))
            have F929 := hide ((unhide F922).up b927)
            have F930 := hide ((unhide F923).up b927)
            have F931 := hide (unhide R926).rd
            obtain ⟨v925a, v925n, v925c, rfl⟩ := (unhide F931).form
            clear R926 b927
            cases mid
            · obtain rfl := unhide HNO2 rfl
              go_wp2_with fail
              go_ret
              exact ⟨by simp, unhide HREST _ (unhide D928)⟩
            obtain ⟨ha1, ha2⟩ := unhide HAS2 rfl
            rw [← ha1, ← ha2] at J9
            clear ha1 ha2
            generalize joinV jn xc = jl at *
            go_wp2_with fail
            refine (unhide J9 w924 (unhide D928) _ (unhide F931)).mono ?_
            rintro e w932 ⟨v933, rfl, R934, b935⟩
            have D936 := hide ((unhide D928).trans (b935.mono (unhide D928).size))
            have F937 := hide ((unhide F929).up b935)
            have F938 := hide ((unhide F930).up b935)
            have F939 := hide ((unhide F931).up b935)
            have F940 := hide (unhide R934).rd
            obtain ⟨v933a, v933n, v933c, rfl⟩ := (unhide F940).form
            clear R934 b935
            have ell : (left == left) = true := by simp
            go_wp2_with fail
            refine (unhide BQ w932 jl _ _ (unhide SL) (unhide F938) (unhide F940)).mono ?_
            rintro e w941 ⟨rfl, b942⟩
            have D943 := hide ((unhide D936).trans (b942.mono (unhide D936).size))
            have F944 := hide ((unhide F937).up b942)
            have F945 := hide ((unhide F938).up b942)
            have F946 := hide ((unhide F939).up b942)
            have F947 := hide ((unhide F940).up b942)
            clear b942
            go_wp2_with fail
            go_ret
            exact ⟨by simp, unhide HREST _ (unhide D943)⟩
        have e60 : (u6 == 0) = false := by rw [beq_eq_false_iff_ne]; exact g0
        have e61 : (u6 == 1) = false := by rw [beq_eq_false_iff_ne]; exact g1
        clear g0 g1
        go_wp2_with fail
        refine (unhide J7 w812 (unhide D814) _ (unhide F815)).mono ?_
        rintro e w948 ⟨v949, rfl, R950, b951⟩
        have D952 := hide ((unhide D814).trans (b951.mono (unhide D814).size))
        have F953 := hide ((unhide F815).up b951)
        have F954 := hide (unhide R950).rd
        obtain ⟨v949a, v949n, v949c, rfl⟩ := (unhide F954).form
        clear R950 b951
        go_wp2_with fail
        refine (unhide J8 w948 (unhide D952)).mono ?_
        rintro e w955 ⟨v956, rfl, R957, b958⟩
        have D959 := hide ((unhide D952).trans (b958.mono (unhide D952).size))
        have F960 := hide ((unhide F953).up b958)
        have F961 := hide ((unhide F954).up b958)
        have F962 := hide (unhide R957).rd
        obtain ⟨v956a, v956n, v956c, rfl⟩ := (unhide F962).form
        clear R957 b958
        cases mid
        · obtain rfl := unhide HNO2 rfl
          go_wp2_with fail
          go_ret
          exact ⟨by simp, unhide HREST _ (unhide D959)⟩
        obtain ⟨ha1, ha2⟩ := unhide HAS2 rfl
        rw [← ha1, ← ha2] at J9
        clear ha1 ha2
        generalize joinV jn xc = jl at *
        go_wp2_with fail
        refine (unhide J9 w955 (unhide D959) _ (unhide F962)).mono ?_
        rintro e w963 ⟨v964, rfl, R965, b966⟩
        have D967 := hide ((unhide D959).trans (b966.mono (unhide D959).size))
        have F968 := hide ((unhide F960).up b966)
        have F969 := hide ((unhide F961).up b966)
        have F970 := hide ((unhide F962).up b966)
        have F971 := hide (unhide R965).rd
        obtain ⟨v964a, v964n, v964c, rfl⟩ := (unhide F971).form
        clear R965 b966
        have ell : (left == left) = true := by simp
        go_wp2_with fail
        refine (unhide BQ w963 jl _ _ (unhide SL) (unhide F969) (unhide F971)).mono ?_
        rintro e w972 ⟨rfl, b973⟩
        have D974 := hide ((unhide D967).trans (b973.mono (unhide D967).size))
        have F975 := hide ((unhide F968).up b973)
        have F976 := hide ((unhide F969).up b973)
        have F977 := hide ((unhide F970).up b973)
        have F978 := hide ((unhide F971).up b973)
        clear b973
        go_wp2_with fail
        go_ret
        exact ⟨by simp, unhide HREST _ (unhide D974)⟩
      by_cases f1 : u5 = 1
      · subst f1
        by_cases g0 : u6 = 0
        · subst g0
          have h7 := unhide HLE2 (by simp [Le01]) (by simp [Le01])
          go_wp2_with fail
          refine (unhide O7 w812 (unhide D814) _ (unhide F815)).mono ?_
          rintro e w979 ⟨rfl, b980⟩
          have D981 := hide ((unhide D814).trans (b980.mono (unhide D814).size))
          have F982 := hide ((unhide F815).up b980)
          clear b980
          obtain rfl | rfl := h7
          · skip
            go_wp2_with fail
            refine (unhide J7 w979 (unhide D981) _ (unhide F982)).mono ?_
            rintro e w983 ⟨v984, rfl, R985, b986⟩
            have D987 := hide ((unhide D981).trans (b986.mono (unhide D981).size))
            have F988 := hide ((unhide F982).up b986)
            have F989 := hide (unhide R985).rd
            obtain ⟨v984a, v984n, v984c, rfl⟩ := (unhide F989).form
            clear R985 b986
            go_wp2_with fail
            refine (unhide J8 w983 (unhide D987)).mono ?_
            rintro e w990 ⟨v991, rfl, R992, b993⟩
            have D994 := hide ((unhide D987).trans (b993.mono (unhide D987).size))
            have F995 := hide ((unhide F988).up b993)
            have F996 := hide ((unhide F989).up b993)
            have F997 := hide (unhide R992).rd
            obtain ⟨v991a, v991n, v991c, rfl⟩ := (unhide F997).form
            clear R992 b993
            cases mid
            · obtain rfl := unhide HNO2 rfl
              go_wp2_with fail
              go_ret
              exact ⟨by simp, unhide HREST _ (unhide D994)⟩
            obtain ⟨ha1, ha2⟩ := unhide HAS2 rfl
            rw [← ha1, ← ha2] at J9
            clear ha1 ha2
            generalize joinV jn xc = jl at *
            go_wp2_with fail
            refine (unhide J9 w990 (unhide D994) _ (unhide F997)).mono ?_
            rintro e w998 ⟨v999, rfl, R1000, b1001⟩
            have D1002 := hide ((unhide D994).trans (b1001.mono (unhide D994).size))
            have F1003 := hide ((unhide F995).up b1001)
            have F1004 := hide ((unhide F996).up b1001)
            have F1005 := hide ((unhide F997).up b1001)
            have F1006 := hide (unhide R1000).rd
            obtain ⟨v999a, v999n, v999c, rfl⟩ := (unhide F1006).form
            clear R1000 b1001
            have ell : (left == left) = true := by simp
            go_wp2_with fail
            refine (unhide BQ w998 jl _ _ (unhide SL) (unhide F1004) (unhide F1006)).mono ?_
            rintro e w1007 ⟨rfl, b1008⟩
            have D1009 := hide ((unhide D1002).trans (b1008.mono (unhide D1002).size))
            have F1010 := hide ((unhide F1003).up b1008)
            have F1011 := hide ((unhide F1004).up b1008)
            have F1012 := hide ((unhide F1005).up b1008)
            have F1013 := hide ((unhide F1006).up b1008)
            clear b1008
            go_wp2_with fail
            go_ret
            exact ⟨by simp, unhide HREST _ (unhide D1009)⟩
          · skip
            go_wp2_with fail
            refine (unhide J7 w979 (unhide D981) _ (unhide F982)).mono ?_
            rintro e w1014 ⟨v1015, rfl, R1016, b1017⟩
            have D1018 := hide ((unhide D981).trans (b1017.mono (unhide D981).size))
            have F1019 := hide ((unhide F982).up b1017)
            have F1020 := hide (unhide R1016).rd
            obtain ⟨v1015a, v1015n, v1015c, rfl⟩ := (unhide F1020).form
            clear R1016 b1017
            go_wp2_with fail
            refine (unhide J8 w1014 (unhide D1018)).mono ?_
            rintro e w1021 ⟨v1022, rfl, R1023, b1024⟩
            have D1025 := hide ((unhide D1018).trans (b1024.mono (unhide D1018).size))
            have F1026 := hide ((unhide F1019).up b1024)
            have F1027 := hide ((unhide F1020).up b1024)
            have F1028 := hide (unhide R1023).rd
            obtain ⟨v1022a, v1022n, v1022c, rfl⟩ := (unhide F1028).form
            clear R1023 b1024
            cases mid
            · obtain rfl := unhide HNO2 rfl
              go_wp2_with fail
              go_ret
              exact ⟨by simp, unhide HREST _ (unhide D1025)⟩
            obtain ⟨ha1, ha2⟩ := unhide HAS2 rfl
            rw [← ha1, ← ha2] at J9
            clear ha1 ha2
            generalize joinV jn xc = jl at *
            go_wp2_with fail
            refine (unhide J9 w1021 (unhide D1025) _ (unhide F1028)).mono ?_
            rintro e w1029 ⟨v1030, rfl, R1031, b1032⟩
            have D1033 := hide ((unhide D1025).trans (b1032.mono (unhide D1025).size))
            have F1034 := hide ((unhide F1026).up b1032)
            have F1035 := hide ((unhide F1027).up b1032)
            have F1036 := hide ((unhide F1028).up b1032)
            have F1037 := hide (unhide R1031).rd
            obtain ⟨v1030a, v1030n, v1030c, rfl⟩ := (unhide F1037).form
            clear R1031 b1032
            have ell : (left == left) = true := by simp
            go_wp2_with fail
            refine (unhide BQ w1029 jl _ _ (unhide SL) (unhide F1035) (unhide F1037)).mono ?_
            rintro e w1038 ⟨rfl, b1039⟩
            have D1040 := hide ((unhide D1033).trans (b1039.mono (unhide D1033).size))
            have F1041 := hide ((unhide F1034).up b1039)
            have F1042 := hide ((unhide F1035).up b1039)
            have F1043 := hide ((unhide F1036).up b1039)
            have F1044 := hide ((unhide F1037).up b1039)
            clear b1039
            go_wp2_with fail
            go_ret
            exact ⟨by simp, unhide HREST _ (unhide D1040)⟩
        by_cases g1 : u6 = 1
        · subst g1
          have h7 := unhide HLE2 (by simp [Le01]) (by simp [Le01])
          go_wp2_with fail
          refine (unhide O7 w812 (unhide D814) _ (unhide F815)).mono ?_
          rintro e w1045 ⟨rfl, b1046⟩
          have D1047 := hide ((unhide D814).trans (b1046.mono (unhide D814).size))
          have F1048 := hide ((unhide F815).up b1046)
          clear b1046
          obtain rfl | rfl := h7
          · skip
            go_wp2_with fail
            refine (unhide J7 w1045 (unhide D1047) _ (unhide F1048)).mono ?_
            rintro e w1049 ⟨v1050, rfl, R1051, b1052⟩
            have D1053 := hide ((unhide D1047).trans (b1052.mono (unhide D1047).size))
            have F1054 := hide ((unhide F1048).up b1052)
            have F1055 := hide (unhide R1051).rd
            obtain ⟨v1050a, v1050n, v1050c, rfl⟩ := (unhide F1055).form
            clear R1051 b1052
            go_wp2_with fail
            refine (unhide J8 w1049 (unhide D1053)).mono ?_
            rintro e w1056 ⟨v1057, rfl, R1058, b1059⟩
            have D1060 := hide ((unhide D1053).trans (b1059.mono (unhide D1053).size))
            have F1061 := hide ((unhide F1054).up b1059)
            have F1062 := hide ((unhide F1055).up b1059)
            have F1063 := hide (unhide R1058).rd
            obtain ⟨v1057a, v1057n, v1057c, rfl⟩ := (unhide F1063).form
            clear R1058 b1059
            cases mid
            · obtain rfl := unhide HNO2 rfl
              go_wp2_with fail
              go_ret
              exact ⟨by simp, unhide HREST _ (unhide D1060)⟩
            obtain ⟨ha1, ha2⟩ := unhide HAS2 rfl
            rw [← ha1, ← ha2] at J9
            clear ha1 ha2
            generalize joinV jn xc = jl at *
            go_wp2_with fail
            refine (unhide J9 w1056 (unhide D1060) _ (unhide F1063)).mono ?_
            rintro e w1064 ⟨v1065, rfl, R1066, b1067⟩
            have D1068 := hide ((unhide D1060).trans (b1067.mono (unhide D1060).size))
            have F1069 := hide ((unhide F1061).up b1067)
            have F1070 := hide ((unhide F1062).up b1067)
            have F1071 := hide ((unhide F1063).up b1067)
            have F1072 := hide (unhide R1066).rd
            obtain ⟨v1065a, v1065n, v1065c, rfl⟩ := (unhide F1072).form
            clear R1066 b1067
            have ell : (left == left) = true := by simp
            go_wp2_with fail
            refine (unhide BQ w1064 jl _ _ (unhide SL) (unhide F1070) (unhide F1072)).mono ?_
            rintro e w1073 ⟨rfl, b1074⟩
            have D1075 := hide ((unhide D1068).trans (b1074.mono (unhide D1068).size))
            have F1076 := hide ((unhide F1069).up b1074)
            have F1077 := hide ((unhide F1070).up b1074)
            have F1078 := hide ((unhide F1071).up b1074)
            have F1079 := hide ((unhide F1072).up b1074)
            clear b1074
            go_wp2_with fail
            go_ret
            exact ⟨by simp, unhide HREST _ (unhide D1075)⟩
          · skip
            go_wp2_with fail
            refine (unhide J7 w1045 (unhide D1047) _ (unhide F1048)).mono ?_
            rintro e w1080 ⟨v1081, rfl, R1082, b1083⟩
            have D1084 := hide ((unhide D1047).trans (b1083.mono (unhide D1047).size))
            have F1085 := hide ((unhide F1048).up b1083)
            have F1086 := hide (unhide R1082).rd
            obtain ⟨v1081a, v1081n, v1081c, rfl⟩ := (unhide F1086).form
            clear R1082 b1083
            go_wp2_with fail
            refine (unhide J8 w1080 (unhide D1084)).mono ?_
            rintro e w1087 ⟨v1088, rfl, R1089, b1090⟩
            have D1091 := hide ((unhide D1084).trans (b1090.mono (unhide D1084).size))
            have F1092 := hide ((unhide F1085).up b1090)
            have F1093 := hide ((unhide F1086).up b1090)
            have F1094 := hide (unhide R1089).rd
            obtain ⟨v1088a, v1088n, v1088c, rfl⟩ := (unhide F1094).form
            clear R1089 b1090
            cases mid
            · obtain rfl := unhide HNO2 rfl
              go_wp2_with fail
              go_ret
              exact ⟨by simp, unhide HREST _ (unhide D1091)⟩
            obtain ⟨ha1, ha2⟩ := unhide HAS2 rfl
            rw [← ha1, ← ha2] at J9
            clear ha1 ha2
            generalize joinV jn xc = jl at *
            go_wp2_with fail
            refine (unhide J9 w1087 (unhide D1091) _ (unhide F1094)).mono ?_
            rintro e w1095 ⟨v1096, rfl, R1097, b1098⟩
            have D1099 := hide ((unhide D1091).trans (b1098.mono (unhide D1091).size))
            have F1100 := hide ((unhide F1092).up b1098)
            have F1101 := hide ((unhide F1093).up b1098)
            have F1102 := hide ((unhide F1094).up b1098)
            have F1103 := hide (unhide R1097).rd
            obtain ⟨v1096a, v1096n, v1096c, rfl⟩ := (unhide F1103).form
            clear R1097 b1098
            have ell : (left == left) = true := by simp
            go_wp2_with fail
            refine (unhide BQ w1095 jl _ _ (unhide SL) (unhide F1101) (unhide F1103)).mono ?_
            rintro e w1104 ⟨rfl, b1105⟩
            have D1106 := hide ((unhide D1099).trans (b1105.mono (unhide D1099).size))
            have F1107 := hide ((unhide F1100).up b1105)
            have F1108 := hide ((unhide F1101).up b1105)
            have F1109 := hide ((unhide F1102).up b1105)
            have F1110 := hide ((unhide F1103).up b1105)
            clear b1105
            go_wp2_with fail
            go_ret
            exact ⟨by simp, unhide HREST _ (unhide D1106)⟩
        have e60 : (u6 == 0) = false := by rw [beq_eq_false_iff_ne]; exact g0
        have e61 : (u6 == 1) = false := by rw [beq_eq_false_iff_ne]; exact g1
        clear g0 g1
        go_wp2_with fail
        refine (unhide J7 w812 (unhide D814) _ (unhide F815)).mono ?_
        rintro e w1111 ⟨v1112, rfl, R1113, b1114⟩
        have D1115 := hide ((unhide D814).trans (b1114.mono (unhide D814).size))
        have F1116 := hide ((unhide F815).up b1114)
        have F1117 := hide (unhide R1113).rd
        obtain ⟨v1112a, v1112n, v1112c, rfl⟩ := (unhide F1117).form
        clear R1113 b1114
        go_wp2_with fail
        refine (unhide J8 w1111 (unhide D1115)).mono ?_
        rintro e w1118 ⟨v1119, rfl, R1120, b1121⟩
        have D1122 := hide ((unhide D1115).trans (b1121.mono (unhide D1115).size))
        have F1123 := hide ((unhide F1116).up b1121)
        have F1124 := hide ((unhide F1117).up b1121)
        have F1125 := hide (unhide R1120).rd
        obtain ⟨v1119a, v1119n, v1119c, rfl⟩ := (unhide F1125).form
        clear R1120 b1121
        cases mid
        · obtain rfl := unhide HNO2 rfl
          go_wp2_with fail
          go_ret
          exact ⟨by simp, unhide HREST _ (unhide D1122)⟩
        obtain ⟨ha1, ha2⟩ := unhide HAS2 rfl
        rw [← ha1, ← ha2] at J9
        clear ha1 ha2
        generalize joinV jn xc = jl at *
        go_wp2_with fail
        refine (unhide J9 w1118 (unhide D1122) _ (unhide F1125)).mono ?_
        rintro e w1126 ⟨v1127, rfl, R1128, b1129⟩
        have D1130 := hide ((unhide D1122).trans (b1129.mono (unhide D1122).size))
        have F1131 := hide ((unhide F1123).up b1129)
        have F1132 := hide ((unhide F1124).up b1129)
        have F1133 := hide ((unhide F1125).up b1129)
        have F1134 := hide (unhide R1128).rd
        obtain ⟨v1127a, v1127n, v1127c, rfl⟩ := (unhide F1134).form
        clear R1128 b1129
        have ell : (left == left) = true := by simp
        go_wp2_with fail
        refine (unhide BQ w1126 jl _ _ (unhide SL) (unhide F1132) (unhide F1134)).mono ?_
        rintro e w1135 ⟨rfl, b1136⟩
        have D1137 := hide ((unhide D1130).trans (b1136.mono (unhide D1130).size))
        have F1138 := hide ((unhide F1131).up b1136)
        have F1139 := hide ((unhide F1132).up b1136)
        have F1140 := hide ((unhide F1133).up b1136)
        have F1141 := hide ((unhide F1134).up b1136)
        clear b1136
        go_wp2_with fail
        go_ret
        exact ⟨by simp, unhide HREST _ (unhide D1137)⟩
      have e50 : (u5 == 0) = false := by rw [beq_eq_false_iff_ne]; exact f0
      have e51 : (u5 == 1) = false := by rw [beq_eq_false_iff_ne]; exact f1
      clear f0 f1
      go_wp2_with fail
      refine (unhide J7 w812 (unhide D814) _ (unhide F815)).mono ?_
      rintro e w1142 ⟨v1143, rfl, R1144, b1145⟩
      have D1146 := hide ((unhide D814).trans (b1145.mono (unhide D814).size))
      have F1147 := hide ((unhide F815).up b1145)
      have F1148 := hide (unhide R1144).rd
      obtain ⟨v1143a, v1143n, v1143c, rfl⟩ := (unhide F1148).form
      clear R1144 b1145
      go_wp2_with fail
      refine (unhide J8 w1142 (unhide D1146)).mono ?_
      rintro e w1149 ⟨v1150, rfl, R1151, b1152⟩
      have D1153 := hide ((unhide D1146).trans (b1152.mono (unhide D1146).size))
      have F1154 := hide ((unhide F1147).up b1152)
      have F1155 := hide ((unhide F1148).up b1152)
      have F1156 := hide (unhide R1151).rd
      obtain ⟨v1150a, v1150n, v1150c, rfl⟩ := (unhide F1156).form
      clear R1151 b1152
      cases mid
      · obtain rfl := unhide HNO2 rfl
        go_wp2_with fail
        go_ret
        exact ⟨by simp, unhide HREST _ (unhide D1153)⟩
      obtain ⟨ha1, ha2⟩ := unhide HAS2 rfl
      rw [← ha1, ← ha2] at J9
      clear ha1 ha2
      generalize joinV jn xc = jl at *
      go_wp2_with fail
      refine (unhide J9 w1149 (unhide D1153) _ (unhide F1156)).mono ?_
      rintro e w1157 ⟨v1158, rfl, R1159, b1160⟩
      have D1161 := hide ((unhide D1153).trans (b1160.mono (unhide D1153).size))
      have F1162 := hide ((unhide F1154).up b1160)
      have F1163 := hide ((unhide F1155).up b1160)
      have F1164 := hide ((unhide F1156).up b1160)
      have F1165 := hide (unhide R1159).rd
      obtain ⟨v1158a, v1158n, v1158c, rfl⟩ := (unhide F1165).form
      clear R1159 b1160
      have ell : (left == left) = true := by simp
      go_wp2_with fail
      refine (unhide BQ w1157 jl _ _ (unhide SL) (unhide F1163) (unhide F1165)).mono ?_
      rintro e w1166 ⟨rfl, b1167⟩
      have D1168 := hide ((unhide D1161).trans (b1167.mono (unhide D1161).size))
      have F1169 := hide ((unhide F1162).up b1167)
      have F1170 := hide ((unhide F1163).up b1167)
      have F1171 := hide ((unhide F1164).up b1167)
      have F1172 := hide ((unhide F1165).up b1167)
      clear b1167
      go_wp2_with fail
      go_ret
      exact ⟨by simp, unhide HREST _ (unhide D1168)⟩
    · skip
      go_wp2_with fail
      refine (unhide J4 w38 _ (unhide F41)).mono ?_
      rintro e w1173 ⟨v1174, rfl, R1175, b1176⟩
      have D1177 := hide ((unhide D40).trans (b1176.mono (unhide D40).size))
      have F1178 := hide ((unhide F41).up b1176)
      have F1179 := hide (unhide R1175).rd
      obtain ⟨v1174a, v1174n, v1174c, rfl⟩ := (unhide F1179).form
      clear R1175 b1176
      go_wp2_with fail
      refine (unhide BQ w1173 jn _ _ (unhide SJ) (unhide F1179) (unhide F1178)).mono ?_
      rintro e w1180 ⟨rfl, b1181⟩
      have D1182 := hide ((unhide D1177).trans (b1181.mono (unhide D1177).size))
      have F1183 := hide ((unhide F1178).up b1181)
      have F1184 := hide ((unhide F1179).up b1181)
      clear b1181
      go_wp2_with fail
      refine (unhide O5 w1180 (unhide D1182)).mono ?_
      rintro e w1185 ⟨rfl, b1186⟩
      have D1187 := hide ((unhide D1182).trans (b1186.mono (unhide D1182).size))
      have F1188 := hide ((unhide F1183).up b1186)
      clear b1186
      go_wp2_with fail
      refine (unhide O6 w1185 (unhide D1187)).mono ?_
      rintro e w1189 ⟨rfl, b1190⟩
      have D1191 := hide ((unhide D1187).trans (b1190.mono (unhide D1187).size))
      have F1192 := hide ((unhide F1188).up b1190)
      clear b1190
      by_cases f0 : u5 = 0
      · subst f0
        by_cases g0 : u6 = 0
        · subst g0
          have h7 := unhide HLE2 (by simp [Le01]) (by simp [Le01])
          go_wp2_with fail
          refine (unhide O7 w1189 (unhide D1191) _ (unhide F1192)).mono ?_
          rintro e w1193 ⟨rfl, b1194⟩
          have D1195 := hide ((unhide D1191).trans (b1194.mono (unhide D1191).size))
          have F1196 := hide ((unhide F1192).up b1194)
          clear b1194
          obtain rfl | rfl := h7
          · skip
            go_wp2_with fail
            refine (unhide J7 w1193 (unhide D1195) _ (unhide F1196)).mono ?_
            rintro e w1197 ⟨v1198, rfl, R1199, b1200⟩
            have D1201 := hide ((unhide D1195).trans (b1200.mono (unhide D1195).size))
            have F1202 := hide ((unhide F1196).up b1200)
            have F1203 := hide (unhide R1199).rd
            obtain ⟨v1198a, v1198n, v1198c, rfl⟩ := (unhide F1203).form
            clear R1199 b1200
            go_wp2_with fail
            refine (unhide J8 w1197 (unhide D1201)).mono ?_
            rintro e w1204 ⟨v1205, rfl, R1206, b1207⟩
            have D1208 := hide ((unhide D1201).trans (b1207.mono (unhide D1201).size))
            have F1209 := hide ((unhide F1202).up b1207)
            have F1210 := hide ((unhide F1203).up b1207)
            have F1211 := hide (unhide R1206).rd
            obtain ⟨v1205a, v1205n, v1205c, rfl⟩ := (unhide F1211).form
            clear R1206 b1207
            cases mid
            · obtain rfl := unhide HNO2 rfl
              go_wp2_with fail
              go_ret
              exact ⟨by simp, unhide HREST _ (unhide D1208)⟩
            obtain ⟨ha1, ha2⟩ := unhide HAS2 rfl
            rw [← ha1, ← ha2] at J9
            clear ha1 ha2
            generalize joinV jn xc = jl at *
            go_wp2_with fail
            refine (unhide J9 w1204 (unhide D1208) _ (unhide F1211)).mono ?_
            rintro e w1212 ⟨v1213, rfl, R1214, b1215⟩
            have D1216 := hide ((unhide D1208).trans (b1215.mono (unhide D1208).size))
            have F1217 := hide ((unhide F1209).up b1215)
            have F1218 := hide ((unhide F1210).up b1215)
            have F1219 := hide ((unhide F1211).up b1215)
            have F1220 := hide (unhide R1214).rd
            obtain ⟨v1213a, v1213n, v1213c, rfl⟩ := (unhide F1220).form
            clear R1214 b1215
            have ell : (left == left) = true := by simp
            go_wp2_with fail
            refine (unhide BQ w1212 jl _ _ (unhide SL) (unhide F1218) (unhide F1220)).mono ?_
            rintro e w1221 ⟨rfl, b1222⟩
            have D1223 := hide ((unhide D1216).trans (b1222.mono (unhide D1216).size))
            have F1224 := hide ((unhide F1217).up b1222)
            have F1225 := hide ((unhide F1218).up b1222)
            have F1226 := hide ((unhide F1219).up b1222)
            have F1227 := hide ((unhide F1220).up b1222)
            clear b1222
            go_wp2_with fail
            go_ret
            exact ⟨by simp, unhide HREST _ (unhide D1223)⟩
          · skip
            go_wp2_with fail
            refine (unhide J7 w1193 (unhide D1195) _ (unhide F1196)).mono ?_
            rintro e w1228 ⟨v1229, rfl, R1230, b1231⟩
            have D1232 := hide ((unhide D1195).trans (b1231.mono (unhide D1195).size))
            have F1233 := hide ((unhide F1196).up b1231)
            have F1234 := hide (unhide R1230).rd
            obtain ⟨v1229a, v1229n, v1229c, rfl⟩ := (unhide F1234).form
            clear R1230 b1231
            go_wp2_with fail
            refine (unhide J8 w1228 (unhide D1232)).mono ?_
            rintro e w1235 ⟨v1236, rfl, R1237, b1238⟩
            have D1239 := hide ((unhide D1232).trans (b1238.mono (unhide D1232).size))
            have F1240 := hide ((unhide F1233).up b1238)
            have F1241 := hide ((unhide F1234).up b1238)
            have F1242 := hide (unhide R1237).rd
            obtain ⟨v1236a, v1236n, v1236c, rfl⟩ := (unhide F1242).form
            clear R1237 b1238
            cases mid
            · obtain rfl := unhide HNO2 rfl
              go_wp2_with fail
              go_ret
              exact ⟨by simp, unhide HREST _ (unhide D1239)⟩
            obtain ⟨ha1, ha2⟩ := unhide HAS2 rfl
            rw [← ha1, ← ha2] at J9
            clear ha1 ha2
            generalize joinV jn xc = jl at *
            go_wp2_with fail
            refine (unhide J9 w1235 (unhide D1239) _ (unhide F1242)).mono ?_
            rintro e w1243 ⟨v1244, rfl, R1245, b1246⟩
            have D1247 := hide ((unhide D1239).trans (b1246.mono (unhide D1239).size))
            have F1248 := hide ((unhide F1240).up b1246)
            have F1249 := hide ((unhide F1241).up b1246)
            have F1250 := hide ((unhide F1242).up b1246)
            have F1251 := hide (unhide R1245).rd
            obtain ⟨v1244a, v1244n, v1244c, rfl⟩ := (unhide F1251).form
            clear R1245 b1246
            have ell : (left == left) = true := by simp
            go_wp2_with fail
            refine (unhide BQ w1243 jl _ _ (unhide SL) (unhide F1249) (unhide F1251)).mono ?_
            rintro e w1252 ⟨rfl, b1253⟩
            have D1254 := hide ((unhide D1247).trans (b1253.mono (unhide D1247).size))
            have F1255 := hide ((unhide F1248).up b1253)
            have F1256 := hide ((unhide F1249).up b1253)
            have F1257 := hide ((unhide F1250).up b1253)
            have F1258 := hide ((unhide F1251).up b1253)
            clear b1253
            go_wp2_with fail
            go_ret
            exact ⟨by simp, unhide HREST _ (unhide D1254)⟩
        by_cases g1 : u6 = 1
        · subst g1
          have h7 := unhide HLE2 (by simp [Le01]) (by simp [Le01])
          go_wp2_with fail
          refine (unhide O7 w1189 (unhide D1191) _ (unhide F1192)).mono ?_
          rintro e w1259 ⟨rfl, b1260⟩
          have D1261 := hide ((unhide D1191).trans (b1260.mono (unhide D1191).size))
          have F1262 := hide ((unhide F1192).up b1260)
          clear b1260
          obtain rfl | rfl := h7
          · skip
            go_wp2_with fail
            refine (unhide J7 w1259 (unhide D1261) _ (unhide F1262)).mono ?_
            rintro e w1263 ⟨v1264, rfl, R1265, b1266⟩
            have D1267 := hide ((unhide D1261).trans (b1266.mono (unhide D1261).size))
            have F1268 := hide ((unhide F1262).up b1266)
            have F1269 := hide (unhide R1265).rd
            obtain ⟨v1264a, v1264n, v1264c, rfl⟩ := (unhide F1269).form
            clear R1265 b1266
            go_wp2_with fail
            refine (unhide J8 w1263 (unhide D1267)).mono ?_
            rintro e w1270 ⟨v1271, rfl, R1272, b1273⟩
            have D1274 := hide ((unhide D1267).trans (b1273.mono (unhide D1267).size))
            have F1275 := hide ((unhide F1268).up b1273)
            have F1276 := hide ((unhide F1269).up b1273)
            have F1277 := hide (unhide R1272).rd
            obtain ⟨v1271a, v1271n, v1271c, rfl⟩ := (unhide F1277).form
            clear R1272 b1273
            cases mid
            · obtain rfl := unhide HNO2 rfl
              go_wp2_with fail
              go_ret
              exact ⟨by simp, unhide HREST _ (unhide D1274)⟩
            obtain ⟨ha1, ha2⟩ := unhide HAS2 rfl
            rw [← ha1, ← ha2] at J9
            clear ha1 ha2
            generalize joinV jn xc = jl at *
            go_wp2_with fail
            refine (unhide J9 w1270 (unhide D1274) _ (unhide F1277)).mono ?_
            rintro e w1278 ⟨v1279, rfl, R1280, b1281⟩
            have D1282 := hide ((unhide D1274).trans (b1281.mono (unhide D1274).size))
            have F1283 := hide ((unhide F1275).up b1281)
            have F1284 := hide ((unhide F1276).up b1281)
            have F1285 := hide ((unhide F1277).up b1281)
            have F1286 := hide (unhide R1280).rd
            obtain ⟨v1279a, v1279n, v1279c, rfl⟩ := (unhide F1286).form
            clear R1280 b1281
            have ell : (left == left) = true := by simp
            go_wp2_with fail
            refine (unhide BQ w1278 jl _ _ (unhide SL) (unhide F1284) (unhide F1286)).mono ?_
            rintro e w1287 ⟨rfl, b1288⟩
            have D1289 := hide ((unhide D1282).trans (b1288.mono (unhide D1282).size))
            have F1290 := hide ((unhide F1283).up b1288)
            have F1291 := hide ((unhide F1284).up b1288)
            have F1292 := hide ((unhide F1285).up b1288)
            have F1293 := hide ((unhide F1286).up b1288)
            clear b1288
            go_wp2_with fail
            go_ret
            exact ⟨by simp, unhide HREST _ (unhide D1289)⟩
          · skip
            go_wp2_with fail
            refine (unhide J7 w1259 (unhide D1261) _ (unhide F1262)).mono ?_
            rintro e w1294 ⟨v1295, rfl, R1296, b1297⟩
            have D1298 := hide ((unhide D1261).trans (b1297.mono (unhide D1261).size))
            have F1299 := hide ((unhide F1262).up b1297)
            have F1300 := hide (unhide R1296).rd
            obtain ⟨v1295a, v1295n, v1295c, rfl⟩ := (unhide F1300).form
            clear R1296 b1297
            go_wp2_with fail
            refine (unhide J8 w1294 (unhide D1298)).mono ?_
            rintro e w1301 ⟨v1302, rfl, R1303, b1304⟩
            have D1305 := hide ((unhide D1298).trans (b1304.mono (unhide D1298).size))
            have F1306 := hide ((unhide F1299).up b1304)
            have F1307 := hide ((unhide F1300).up b1304)
            have F1308 := hide (unhide R1303).rd
            obtain ⟨v1302a, v1302n, v1302c, rfl⟩ := (unhide F1308).form
            clear R1303 b1304
            cases mid
            · obtain rfl := unhide HNO2 rfl
              go_wp2_with fail
              go_ret
              exact ⟨by simp, unhide HREST _ (unhide D1305)⟩
            obtain ⟨ha1, ha2⟩ := unhide HAS2 rfl
            rw [← ha1, ← ha2] at J9
            clear ha1 ha2
            generalize joinV jn xc = jl at *
            go_wp2_with fail
            refine (unhide J9 w1301 (unhide D1305) _ (unhide F1308)).mono ?_
            rintro e w1309 ⟨v1310, rfl, R1311, b1312⟩
            have D1313 := hide ((unhide D1305).trans (b1312.mono (unhide D1305).size))
            have F1314 := hide ((unhide F1306).up b1312)
            have F1315 := hide ((unhide F1307).up b1312)
            have F1316 := hide ((unhide F1308).up b1312)
            have F1317 := hide (unhide R1311).rd
            obtain ⟨v1310a, v1310n, v1310c, rfl⟩ := (unhide F1317).form
            clear R1311 b1312
            have ell : (left == left) = true := by simp
            go_wp2_with fail
            refine (unhide BQ w1309 jl _ _ (unhide SL) (unhide F1315) (unhide F1317)).mono ?_
            rintro e w1318 ⟨rfl, b1319⟩
            have D1320 := hide ((unhide D1313).trans (b1319.mono (unhide D1313).size))
            have F1321 := hide ((unhide F1314).up b1319)
            have F1322 := hide ((unhide F1315).up b1319)
            have F1323 := hide ((unhide F1316).up b1319)
            have F1324 := hide ((unhide F1317).up b1319)
            clear b1319
            go_wp2_with fail
            go_ret
            exact ⟨by simp, unhide HREST _ (unhide D1320)⟩
        have e60 : (u6 == 0) = false := by rw [beq_eq_false_iff_ne]; exact g0
        have e61 : (u6 == 1) = false := by rw [beq_eq_false_iff_ne]; exact g1
        clear g0 g1
        go_wp2_with fail
        refine (unhide J7 w1189 (unhide D1191) _ (unhide F1192)).mono ?_
        rintro e w1325 ⟨v1326, rfl, R1327, b1328⟩
        have D1329 := hide ((unhide D1191).trans (b1328.mono (unhide D1191).size))
        have F1330 := hide ((unhide F1192).up b1328)
        have F1331 := hide (unhide R1327).rd
        obtain ⟨v1326a, v1326n, v1326c, rfl⟩ := (unhide F1331).form
        clear R1327 b1328
        go_wp2_with fail
        refine (unhide J8 w1325 (unhide D1329)).mono ?_
        rintro e w1332 ⟨v1333, rfl, R1334, b1335⟩
        have D1336 := hide ((unhide D1329).trans (b1335.mono (unhide D1329).size))
        have F1337 := hide ((unhide F1330).up b1335)
        have F1338 := hide ((unhide F1331).up b1335)
        have F1339 := hide (unhide R1334).rd
        obtain ⟨v1333a, v1333n, v1333c, rfl⟩ := (unhide F1339).form
        clear R1334 b1335
        cases mid
        · obtain rfl := unhide HNO2 rfl
          go_wp2_with fail
          go_ret
          exact ⟨by simp, unhide HREST _ (unhide D1336)⟩
        obtain ⟨ha1, ha2⟩ := unhide HAS2 rfl
        rw [← ha1, ← ha2] at J9
        clear ha1 ha2
        generalize joinV jn xc = jl at *
        go_wp2_with fail
        refine (unhide J9 w1332 (unhide D1336) _ (unhide F1339)).mono ?_
        rintro e w1340 ⟨v1341, rfl, R1342, b1343⟩
        have D1344 := hide ((unhide D1336).trans (b1343.mono (unhide D1336).size))
        have F1345 := hide ((unhide F1337).up b1343)
        have F1346 := hide ((unhide F1338).up b1343)
        have F1347 := hide ((unhide F1339).up b1343)
        have F1348 := hide (unhide R1342).rd
        obtain ⟨v1341a, v1341n, v1341c, rfl⟩ := (unhide F1348).form
        clear R1342 b1343
        have ell : (left == left) = true := by simp
        go_wp2_with fail
        refine (unhide BQ w1340 jl _ _ (unhide SL) (unhide F1346) (unhide F1348)).mono ?_
        rintro e w1349 ⟨rfl, b1350⟩
        have D1351 := hide ((unhide D1344).trans (b1350.mono (unhide D1344).size))
        have F1352 := hide ((unhide F1345).up b1350)
        have F1353 := hide ((unhide F1346).up b1350)
        have F1354 := hide ((unhide F1347).up b1350)
        have F1355 := hide ((unhide F1348).up b1350)
        clear b1350
        go_wp2_with fail
        go_ret
        exact ⟨by simp, unhide HREST _ (unhide D1351)⟩
      by_cases f1 : u5 = 1
      · subst f1
        by_cases g0 : u6 = 0
        · subst g0
          have h7 := unhide HLE2 (by simp [Le01]) (by simp [Le01])
          go_wp2_with fail
          refine (unhide O7 w1189 (unhide D1191) _ (unhide F1192)).mono ?_
          rintro e w1356 ⟨rfl, b1357⟩
          have D1358 := hide ((unhide D1191).trans (b1357.mono (unhide D1191).size))
          have F1359 := hide ((unhide F1192).up b1357)
          clear b1357
          obtain rfl | rfl := h7
          · skip
            go_wp2_with fail
            refine (unhide J7 w1356 (unhide D1358) _ (unhide F1359)).mono ?_
            rintro e w1360 ⟨v1361, rfl, R1362, b1363⟩
            have D1364 := hide ((unhide D1358).trans (b1363.mono (unhide D1358).size))
            have F1365 := hide ((unhide F1359).up b1363)
            have F1366 := hide (unhide R1362).rd
            obtain ⟨v1361a, v1361n, v1361c, rfl⟩ := (unhide F1366).form
            clear R1362 b1363
            go_wp2_with fail
            refine (unhide J8 w1360 (unhide D1364)).mono ?_
            rintro e w1367 ⟨v1368, rfl, R1369, b1370⟩
            have D1371 := hide ((unhide D1364).trans (b1370.mono (unhide D1364).size))
            have F1372 := hide ((unhide F1365).up b1370)
            have F1373 := hide ((unhide F1366).up b1370)
            have F1374 := hide (unhide R1369).rd
            obtain ⟨v1368a, v1368n, v1368c, rfl⟩ := (unhide F1374).form
            clear R1369 b1370
            cases mid
            · obtain rfl := unhide HNO2 rfl
              go_wp2_with fail
              go_ret
              exact ⟨by simp, unhide HREST _ (unhide D1371)⟩
            obtain ⟨ha1, ha2⟩ := unhide HAS2 rfl
            rw [← ha1, ← ha2] at J9
            clear ha1 ha2
            generalize joinV jn xc = jl at *
            go_wp2_with fail
            refine (unhide J9 w1367 (unhide D1371) _ (unhide F1374)).mono ?_
            rintro e w1375 ⟨v1376, rfl, R1377, b1378⟩
            have D1379 := hide ((unhide D1371).trans (b1378.mono (unhide D1371).size))
            have F1380 := hide ((unhide F1372).up b1378)
            have F1381 := hide ((unhide F1373).up b1378)
            have F1382 := hide ((unhide F1374).up b1378)
            have F1383 := hide (unhide R1377).rd
            obtain ⟨v1376a, v1376n, v1376c, rfl⟩ := (unhide F1383).form
            clear R1377 b1378
            have ell : (left == left) = true := by simp
            go_wp2_with fail
            refine (unhide BQ w1375 jl _ _ (unhide SL) (unhide F1381) (unhide F1383)).mono ?_
            rintro e w1384 ⟨rfl, b1385⟩
            have D1386 := hide ((unhide D1379).trans (b1385.mono (unhide D1379).size))
            have F1387 := hide ((unhide F1380).up b1385)
            have F1388 := hide ((unhide F1381).up b1385)
            have F1389 := hide ((unhide F1382).up b1385)
            have F1390 := hide ((unhide F1383).up b1385)
            clear b1385
            go_wp2_with fail
            go_ret
            exact ⟨by simp, unhide HREST _ (unhide D1386)⟩
          · skip
            go_wp2_with fail
            refine (unhide J7 w1356 (unhide D1358) _ (unhide F1359)).mono ?_
            rintro e w1391 ⟨v1392, rfl, R1393, b1394⟩
            have D1395 := hide ((unhide D1358).trans (b1394.mono (unhide D1358).size))
            have F1396 := hide ((unhide F1359).up b1394)
            have F1397 := hide (unhide R1393).rd
            obtain ⟨v1392a, v1392n, v1392c, rfl⟩ := (unhide F1397).form
            clear R1393 b1394
            go_wp2_with fail
            refine (unhide J8 w1391 (unhide D1395)).mono ?_
            rintro e w1398 ⟨v1399, rfl, R1400, b1401⟩
            have D1402 := hide ((unhide D1395).trans (b1401.mono (unhide D1395).size))
            have F1403 := hide ((unhide F1396).up b1401)
            have F1404 := hide ((unhide F1397).up b1401)
            have F1405 := hide (unhide R1400).rd
            obtain ⟨v1399a, v1399n, v1399c, rfl⟩ := (unhide F1405).form
            clear R1400 b1401
            cases mid
            · obtain rfl := unhide HNO2 rfl
              go_wp2_with fail
              go_ret
              exact ⟨by simp, unhide HREST _ (unhide D1402)⟩
            obtain ⟨ha1, ha2⟩ := unhide HAS2 rfl
            rw [← ha1, ← ha2] at J9
            clear ha1 ha2
            generalize joinV jn xc = jl at *
            go_wp2_with fail
            refine (unhide J9 w1398 (unhide D1402) _ (unhide F1405)).mono ?_
            rintro e w1406 ⟨v1407, rfl, R1408, b1409⟩
            have D1410 := hide ((unhide D1402).trans (b1409.mono (unhide D1402).size))
            have F1411 := hide ((unhide F1403).up b1409)
            have F1412 := hide ((unhide F1404).up b1409)
            have F1413 := hide ((unhide F1405).up b1409)
            have F1414 := hide (unhide R1408).rd
            obtain ⟨v1407a, v1407n, v1407c, rfl⟩ := (unhide F1414).form
            clear R1408 b1409
            have ell : (left == left) = true := by simp
            go_wp2_with fail
            refine (unhide BQ w1406 jl _ _ (unhide SL) (unhide F1412) (unhide F1414)).mono ?_
            rintro e w1415 ⟨rfl, b1416⟩
            have D1417 := hide ((unhide D1410).trans (b1416.mono (unhide D1410).size))
            have F1418 := hide ((unhide F1411).up b1416)
            have F1419 := hide ((unhide F1412).up b1416)
            have F1420 := hide ((unhide F1413).up b1416)
            have F1421 := hide ((unhide F1414).up b1416)
            clear b1416
            go_wp2_with fail
            go_ret
            exact ⟨by simp, unhide HREST _ (unhide D1417)⟩
        by_cases g1 : u6 = 1
        · subst g1
          have h7 := unhide HLE2 (by simp [Le01]) (by simp [Le01])
          go_wp2_with fail
          refine (unhide O7 w1189 (unhide D1191) _ (unhide F1192)).mono ?_
          rintro e w1422 ⟨rfl, b1423⟩
          have D1424 := hide ((unhide D1191).trans (b1423.mono (unhide D1191).size))
          have F1425 := hide ((unhide F1192).up b1423)
          clear b1423
          obtain rfl | rfl := h7
          · skip
            go_wp2_with fail
            refine (unhide J7 w1422 (unhide D1424) _ (unhide F1425)).mono ?_
            rintro e w1426 ⟨v1427, rfl, R1428, b1429⟩
            have D1430 := hide ((unhide D1424).trans (b1429.mono (unhide D1424).size))
            have F1431 := hide ((unhide F1425).up b1429)
            have F1432 := hide (unhide R1428).rd
            obtain ⟨v1427a, v1427n, v1427c, rfl⟩ := (unhide F1432).form
            clear R1428 b1429
            go_wp2_with fail
            refine (unhide J8 w1426 (unhide D1430)).mono ?_
            rintro e w1433 ⟨v1434, rfl, R1435, b1436⟩
            have D1437 := hide ((unhide D1430).trans (b1436.mono (unhide D1430).size))
            have F1438 := hide ((unhide F1431).up b1436)
            have F1439 := hide ((unhide F1432).up b1436)
            have F1440 := hide (unhide R1435).rd
            obtain ⟨v1434a, v1434n, v1434c, rfl⟩ := (unhide F1440).form
            clear R1435 b1436
            cases mid
            · obtain rfl := unhide HNO2 rfl
              go_wp2_with fail
              go_ret
              exact ⟨by simp, unhide HREST _ (unhide D1437)⟩
            obtain ⟨ha1, ha2⟩ := unhide HAS2 rfl
            rw [← ha1, ← ha2] at J9
            clear ha1 ha2
            generalize joinV jn xc = jl at *
            go_wp2_with fail
            refine (unhide J9 w1433 (unhide D1437) _ (unhide F1440)).mono ?_
            rintro e w1441 ⟨v1442, rfl, R1443, b1444⟩
            have D1445 := hide ((unhide D1437).trans (b1444.mono (unhide D1437).size))
            have F1446 := hide ((unhide F1438).up b1444)
            have F1447 := hide ((unhide F1439).up b1444)
            have F1448 := hide ((unhide F1440).up b1444)
            have F1449 := hide (unhide R1443).rd
            obtain ⟨v1442a, v1442n, v1442c, rfl⟩ := (unhide F1449).form
            clear R1443 b1444
            have ell : (left == left) = true := by simp
            go_wp2_with fail
            refine (unhide BQ w1441 jl _ _ (unhide SL) (unhide F1447) (unhide F1449)).mono ?_
            rintro e w1450 ⟨rfl, b1451⟩
            have D1452 := hide ((unhide D1445).trans (b1451.mono (unhide D1445).size))
            have F1453 := hide ((unhide F1446).up b1451)
            have F1454 := hide ((unhide F1447).up b1451)
            have F1455 := hide ((unhide F1448).up b1451)
            have F1456 := hide ((unhide F1449).up b1451)
            clear b1451
            go_wp2_with fail
            go_ret
            exact ⟨by simp, unhide HREST _ (unhide D1452)⟩
          · skip
            go_wp2_with fail
            refine (unhide J7 w1422 (unhide D1424) _ (unhide F1425)).mono ?_
            rintro e w1457 ⟨v1458, rfl, R1459, b1460⟩
            have D1461 := hide ((unhide D1424).trans (b1460.mono (unhide D1424).size))
            have F1462 := hide ((unhide F1425).up b1460)
            have F1463 := hide (unhide R1459).rd
            obtain ⟨v1458a, v1458n, v1458c, rfl⟩ := (unhide F1463).form
            clear R1459 b1460
            go_wp2_with fail
            refine (unhide J8 w1457 (unhide D1461)).mono ?_
            rintro e w1464 ⟨v1465, rfl, R1466, b1467⟩
            have D1468 := hide ((unhide D1461).trans (b1467.mono (unhide D1461).size))
            have F1469 := hide ((unhide F1462).up b1467)
            have F1470 := hide ((unhide F1463).up b1467)
            have F1471 := hide (unhide R1466).rd
            obtain ⟨v1465a, v1465n, v1465c, rfl⟩ := (unhide F1471).form
            clear R1466 b1467
            cases mid
            · obtain rfl := unhide HNO2 rfl
              go_wp2_with fail
              go_ret
              exact ⟨by simp, unhide HREST _ (unhide D1468)⟩
            obtain ⟨ha1, ha2⟩ := unhide HAS2 rfl
            rw [← ha1, ← ha2] at J9
            clear ha1 ha2
            generalize joinV jn xc = jl at *
            go_wp2_with fail
            refine (unhide J9 w1464 (unhide D1468) _ (unhide F1471)).mono ?_
            rintro e w1472 ⟨v1473, rfl, R1474, b1475⟩
            have D1476 := hide ((unhide D1468).trans (b1475.mono (unhide D1468).size))
            have F1477 := hide ((unhide F1469).up b1475)
            have F1478 := hide ((unhide F1470).up b1475)
            have F1479 := hide ((unhide F1471).up b1475)
            have F1480 := hide (unhide R1474).rd
            obtain ⟨v1473a, v1473n, v1473c, rfl⟩ := (unhide F1480).form
            clear R1474 b1475
            have ell : (left == left) = true := by simp
            go_wp2_with fail
            refine (unhide BQ w1472 jl _ _ (unhide SL) (unhide F1478) (unhide F1480)).mono ?_
            rintro e w1481 ⟨rfl, b1482⟩
            have D1483 := hide ((unhide D1476).trans (b1482.mono (unhide D1476).size))
            have F1484 := hide ((unhide F1477).up b1482)
            have F1485 := hide ((unhide F1478).up b1482)
            have F1486 := hide ((unhide F1479).up b1482)
            have F1487 := hide ((unhide F1480).up b1482)
            clear b1482
            go_wp2_with fail
            go_ret
            exact ⟨by simp, unhide HREST _ (unhide D1483)⟩
        have e60 : (u6 == 0) = false := by rw [beq_eq_false_iff_ne]; exact g0
        have e61 : (u6 == 1) = false := by rw [beq_eq_false_iff_ne]; exact g1
        clear g0 g1
        go_wp2_with fail
        refine (unhide J7 w1189 (unhide D1191) _ (unhide F1192)).mono ?_
        rintro e w1488 ⟨v1489, rfl, R1490, b1491⟩
        have D1492 := hide ((unhide D1191).trans (b1491.mono (unhide D1191).size))
        have F1493 := hide ((unhide F1192).up b1491)
        have F1494 := hide (unhide R1490).rd
        obtain ⟨v1489a, v1489n, v1489c, rfl⟩ := (unhide F1494).form
        clear R1490 b1491
        go_wp2_with fail
        refine (unhide J8 w1488 (unhide D1492)).mono ?_
        rintro e w1495 ⟨v1496, rfl, R1497, b1498⟩
        have D1499 := hide ((unhide D1492).trans (b1498.mono (unhide D1492).size))
        have F1500 := hide ((unhide F1493).up b1498)
        have F1501 := hide ((unhide F1494).up b1498)
        have F1502 := hide (unhide R1497).rd
        obtain ⟨v1496a, v1496n, v1496c, rfl⟩ := (unhide F1502).form
        clear R1497 b1498
        cases mid
        · obtain rfl := unhide HNO2 rfl
          go_wp2_with fail
          go_ret
          exact ⟨by simp, unhide HREST _ (unhide D1499)⟩
        obtain ⟨ha1, ha2⟩ := unhide HAS2 rfl
        rw [← ha1, ← ha2] at J9
        clear ha1 ha2
        generalize joinV jn xc = jl at *
        go_wp2_with fail
        refine (unhide J9 w1495 (unhide D1499) _ (unhide F1502)).mono ?_
        rintro e w1503 ⟨v1504, rfl, R1505, b1506⟩
        have D1507 := hide ((unhide D1499).trans (b1506.mono (unhide D1499).size))
        have F1508 := hide ((unhide F1500).up b1506)
        have F1509 := hide ((unhide F1501).up b1506)
        have F1510 := hide ((unhide F1502).up b1506)
        have F1511 := hide (unhide R1505).rd
        obtain ⟨v1504a, v1504n, v1504c, rfl⟩ := (unhide F1511).form
        clear R1505 b1506
        have ell : (left == left) = true := by simp
        go_wp2_with fail
        refine (unhide BQ w1503 jl _ _ (unhide SL) (unhide F1509) (unhide F1511)).mono ?_
        rintro e w1512 ⟨rfl, b1513⟩
        have D1514 := hide ((unhide D1507).trans (b1513.mono (unhide D1507).size))
        have F1515 := hide ((unhide F1508).up b1513)
        have F1516 := hide ((unhide F1509).up b1513)
        have F1517 := hide ((unhide F1510).up b1513)
        have F1518 := hide ((unhide F1511).up b1513)
        clear b1513
        go_wp2_with fail
        go_ret
        exact ⟨by simp, unhide HREST _ (unhide D1514)⟩
      have e50 : (u5 == 0) = false := by rw [beq_eq_false_iff_ne]; exact f0
      have e51 : (u5 == 1) = false := by rw [beq_eq_false_iff_ne]; exact f1
      clear f0 f1
      go_wp2_with fail
      refine (unhide J7 w1189 (unhide D1191) _ (unhide F1192)).mono ?_
      rintro e w1519 ⟨v1520, rfl, R1521, b1522⟩
      have D1523 := hide ((unhide D1191).trans (b1522.mono (unhide D1191).size))
      have F1524 := hide ((unhide F1192).up b1522)
      have F1525 := hide (unhide R1521).rd
      obtain ⟨v1520a, v1520n, v1520c, rfl⟩ := (unhide F1525).form
      clear R1521 b1522
      go_wp2_with fail
      refine (unhide J8 w1519 (unhide D1523)).mono ?_
      rintro e w1526 ⟨v1527, rfl, R1528, b1529⟩
      have D1530 := hide ((unhide D1523).trans (b1529.mono (unhide D1523).size))
      have F1531 := hide ((unhide F1524).up b1529)
      have F1532 := hide ((unhide F1525).up b1529)
      have F1533 := hide (unhide R1528).rd
      obtain ⟨v1527a, v1527n, v1527c, rfl⟩ := (unhide F1533).form
      clear R1528 b1529
      cases mid
      · obtain rfl := unhide HNO2 rfl
        go_wp2_with fail
        go_ret
        exact ⟨by simp, unhide HREST _ (unhide D1530)⟩
      obtain ⟨ha1, ha2⟩ := unhide HAS2 rfl
      rw [← ha1, ← ha2] at J9
      clear ha1 ha2
      generalize joinV jn xc = jl at *
      go_wp2_with fail
      refine (unhide J9 w1526 (unhide D1530) _ (unhide F1533)).mono ?_
      rintro e w1534 ⟨v1535, rfl, R1536, b1537⟩
      have D1538 := hide ((unhide D1530).trans (b1537.mono (unhide D1530).size))
      have F1539 := hide ((unhide F1531).up b1537)
      have F1540 := hide ((unhide F1532).up b1537)
      have F1541 := hide ((unhide F1533).up b1537)
      have F1542 := hide (unhide R1536).rd
      obtain ⟨v1535a, v1535n, v1535c, rfl⟩ := (unhide F1542).form
      clear R1536 b1537
      have ell : (left == left) = true := by simp
      go_wp2_with fail
      refine (unhide BQ w1534 jl _ _ (unhide SL) (unhide F1540) (unhide F1542)).mono ?_
      rintro e w1543 ⟨rfl, b1544⟩
      have D1545 := hide ((unhide D1538).trans (b1544.mono (unhide D1538).size))
      have F1546 := hide ((unhide F1539).up b1544)
      have F1547 := hide ((unhide F1540).up b1544)
      have F1548 := hide ((unhide F1541).up b1544)
      have F1549 := hide ((unhide F1542).up b1544)
      clear b1544
      go_wp2_with fail
      go_ret
      exact ⟨by simp, unhide HREST _ (unhide D1545)⟩
end Go.Proofs.Ytmgjohipblocmaa
