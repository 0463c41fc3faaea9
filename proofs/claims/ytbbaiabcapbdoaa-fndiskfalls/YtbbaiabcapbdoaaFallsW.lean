/-
  The walk of the law on falls. (Made by wip/mkdisklaws.py.)
-/
import Derived.Test.YtbbaiabcapbdoaaDrawFall
import Derived.Test.YtbbaiabcapbdoaaPeDisk
import Derived.Test.YtbbaiabcapbdoaaDiskFall
import Derived.Test.YtbbaiabcapbdoaaSyncFace
import Derived.Test.YtbbaiabcapbdoaaDiskAll
import Derived.Test.YtbbaiabcapbdoaaDiskKit
import Derived.Test.YtbbaiabcapbdoaaByArg
import Derived.BigQuiet
import Derived.Deep.QuietTactic
import Derived.Handy
set_option linter.unusedVariables false
namespace Go.Proofs.Ytbbaiabcapbdoaa
open Go.RowKit Go.Maps Go.Deep

theorem dk_small {d : DiskV} (h : DkFit d) : SmallDisk d := by unfold DkFit at h; exact ⟨by omega, by omega⟩
theorem own_form {S : List Nat} {w : World} {v : Value} {d : DiskV} (h : DiskOwn S w v d) : ∃ a0 n0 c0 a1 n1 c1, v = .agg #[.slice a0 n0 c0, .slice a1 n1 c1, .int .i64 d.fuse, .bool d.down] := by
  obtain ⟨v0, v1, rfl, h0, h1⟩ := h.rd
  obtain ⟨p0, p2, rfl⟩ := h0.len
  obtain ⟨p3, p5, rfl⟩ := h1.len
  exact ⟨_, _, _, _, _, _, rfl⟩
theorem fall_yes {d : DiskV} {k : Int} (h : fallB d k = true) : diskOkB d = true ∧ d.down = false ∧ 0 ≤ k ∧ fallV d k = ⟨d.safe ++ d.soft.take k.toNat, [], -1, true⟩ := by
  have h' := h
  simp only [fallB, Bool.and_eq_true, decide_eq_true_eq, Bool.not_eq_true'] at h'
  exact ⟨h'.1.1, h'.1.2, h'.2, by simp [fallV, h]⟩
theorem fell_rises {d : DiskV} {k : Int} (h : fallB d k = true) : riseB (fallV d k) (-1) = true ∧ riseV (fallV d k) (-1) = ⟨d.safe ++ d.soft.take k.toNat, [], -1, false⟩ := by
  obtain ⟨h1, h2, h3, h4⟩ := fall_yes h
  have h8 := disk_small h1
  have hb : riseB (fallV d k) (-1) = true := by
    rw [h4]
    have hm : min k.toNat d.soft.length ≤ d.soft.length := Nat.min_le_right _ _
    simp [riseB, diskOkB]
    omega
  exact ⟨hb, by simp only [riseV, hb, if_true]; rw [h4]⟩
theorem all_of {d : DiskV} (h : diskOkB d = true) (hd : d.down = false) : allB d = true ∧ allV d = d.safe ++ d.soft := by
  have hb : allB d = true := by simp [allB, h, hd]
  exact ⟨hb, by simp [allV, hb]⟩
theorem risen_ok {d : DiskV} {k : Int} (h : fallB d k = true) : diskOkB ⟨d.safe ++ d.soft.take k.toNat, [], -1, false⟩ = true := by
  obtain ⟨h1, h2, h3, h4⟩ := fall_yes h
  have h8 := disk_small h1
  have hm : min k.toNat d.soft.length ≤ d.soft.length := Nat.min_le_right _ _
  simp [diskOkB]
  omega
theorem sync_of {d : DiskV} (h : diskOkB d = true) (hd : d.down = false) : (syncI d = 2) ∨ (syncI d = 0 ∧ fallB (syncV d) 0 = true ∧ (fallV (syncV d) 0).safe = d.safe ++ d.soft) := by
  have h8 := disk_small h
  by_cases hf : d.fuse = 0
  · exact .inl (by simp [syncI, h, cutCode, hd, hf])
  · refine .inr ⟨by simp [syncI, h, cutCode, hd, hf], ?_⟩
    have hv : syncV d = cutD d (d.safe.length + d.soft.length) := by simp [syncV, h, cutOut, hd, hf]
    have hb : burnI d.fuse ≥ -1 ∧ burnI d.fuse ≤ 400 := by
      have := diskOk_fuse h
      unfold burnI
      split <;> omega
    have hfb : fallB (syncV d) 0 = true := by
      rw [hv]
      simp [fallB, cutD, diskOkB, hd]
      omega
    refine ⟨hfb, ?_⟩
    rw [(fall_yes hfb).2.2.2, hv]
    simp only [cutD]
    rw [List.take_of_length_le (by simp)]
    simp
theorem below_dn (w : World) (q : Nat) : Below w.heap.size w (w.drewN q) := ⟨rfl, rfl, rfl, Nat.le_refl _, fun _ _ => rfl⟩
theorem by_pre {w : World} {a : Option Addr} {n c : Nat} {bs : List UInt8} (h : ByRd w (.slice a n c) bs) (k : Nat) (hk : k ≤ bs.length) : ByRd w (.slice a k c) (bs.take k) := by
  obtain ⟨a', c', e, h1, h2⟩ := h
  simp only [Value.slice.injEq] at e
  obtain ⟨rfl, rfl, rfl⟩ := e
  refine ⟨a, c, by simp [Nat.min_eq_left hk], ?_, by simp; omega⟩
  rcases h1 with rfl | ⟨b, off, rfl, hb, hx⟩
  · exact .inl (by simp)
  · refine .inr ⟨b, off, rfl, hb, fun i hi => ?_⟩
    have hi' : i < bs.length := by simp at hi; omega
    rw [List.getElem_take]
    exact hx i hi'
theorem rd_lens {w : World} {a0 : Option Addr} {n0 c0 : Nat} {a1 : Option Addr} {n1 c1 : Nat} {f : Int} {b : Bool} {d : DiskV} (h : DiskRd w (.agg #[.slice a0 n0 c0, .slice a1 n1 c1, .int .i64 f, .bool b]) d) : n0 = d.safe.length ∧ n1 = d.soft.length := by
  obtain ⟨v0, v1, e, ⟨x0, y0, e0, _⟩, ⟨x1, y1, e1, _⟩⟩ := h
  subst e0 e1
  simp at e
  exact ⟨e.1.2.1, e.2.1.2.1⟩
theorem rd_safe {w : World} {a0 : Option Addr} {n0 c0 : Nat} {a1 : Option Addr} {n1 c1 : Nat} {f : Int} {b : Bool} {d : DiskV} (h : DiskRd w (.agg #[.slice a0 n0 c0, .slice a1 n1 c1, .int .i64 f, .bool b]) d) : ByRd w (.slice a0 n0 c0) d.safe := by
  obtain ⟨v0, v1, e, h0, h1⟩ := h
  simp at e
  rw [e.1]
  exact h0
theorem small_sync {d : DiskV} (h : SmallDisk d) : SmallDisk (syncV d) := by
  unfold syncV
  split
  · rename_i hb
    have := disk_small (d := d) hb
    unfold cutOut
    split
    · exact h
    · split
      · unfold SmallDisk fellD
        simp
        omega
      · unfold SmallDisk cutD
        simp
        omega
  · unfold SmallDisk noDisk
    simp
theorem rd_cap {w : World} {a : Option Addr} {n c : Nat} {bs : List UInt8} (h : ByRd w (.slice a n c) bs) : n ≤ c := by
  obtain ⟨a', c', e, h1, h2⟩ := h
  simp only [Value.slice.injEq] at e
  omega
set_option maxRecDepth 20000 in
set_option maxHeartbeats 12800000 in
theorem falls_walk (a : Option Addr) (cap : Nat) (bs : List UInt8) (w : World) (hl : bs.length ≤ maxLen) (hc : bs.length ≤ cap) (hb : ByIn w a bs) :
    Calls Try.prog 4 #[.slice a bs.length cap] w fun e w' => e = .returned (.bool true) ∧ Below w.heap.size w w' := by
  by_cases hlen : (bs.length : Int) ≤ 1048576
  rotate_left
  · unfold maxLen at hl
    go_enter Try.func4, Try.ntmps4
    go_wp2_with fail
    go_ret
    exact ⟨rfl, Below.refl _ _⟩
  have HD := hide (drawFall_any w a cap bs hl hc hb)
  clear hb hc hl
  go_enter Try.func4, Try.ntmps4
  go_wp2_with fail
  refine (unhide HD).mono ?_
  rintro e w1 ⟨a0, n0, c0, a1, n1, c1, d, k, rfl, RD, HF, HK, b⟩
  have B2 := hide b
  clear b
  clear HD
  have HS := hide (dk_small (unhide HF))
  have x3 := boxF_new4 w1 (.slice a0 n0 c0) (.slice a1 n1 c1) (.int .i64 d.fuse) (.bool d.down) 24
  have b4 := (Below.refl w1.heap.size w1).alloc (Nat.le_refl _) (.cells #[.slice a0 n0 c0, .slice a1 n1 c1, .int .i64 d.fuse, .bool d.down] 24)
  have B5 := hide ((unhide B2).trans (b4.mono (unhide B2).size))
  clear B2
  have F6 := hide ((unhide RD).up b4)
  clear RD
  have X7 := hide x3
  clear x3 b4
  obtain ⟨⟨c8, c9, c10, c11⟩, z12, z13, z14, z15⟩ := (unhide X7).four
  go_wp2_with fail
  generalize w1.alloc (.cells #[.slice a0 n0 c0, .slice a1 n1 c1, .int .i64 d.fuse, .bool d.down] 24) = W16 at *
  generalize w1.heap.size = g17 at *
  clear c8 c9 c10 c11 z12 z13 z14 z15
  refine (implFall_any d _ k W16 (unhide HS) (unhide F6)).mono ?_
  rintro e w18 ⟨ve, Se, rfl, Oe, Le, b⟩
  obtain ⟨re0, re1, re2, re3, re4, re5, rfl⟩ := own_form (unhide Oe)
  have B19 := hide ((unhide B5).trans (b.mono (unhide B5).size))
  clear B5
  have F20 := hide ((unhide F6).up b)
  clear F6
  have X21 := hide ((unhide X7).up b)
  clear X7
  clear b
  have F22 := hide ((unhide Oe).rd)
  clear Oe Le
  have x23 := boxF_new4 w18 (.slice re0 re1 re2) (.slice re3 re4 re5) (.int .i64 (fallV d k).fuse) (.bool (fallV d k).down) 24
  have b24 := (Below.refl w18.heap.size w18).alloc (Nat.le_refl _) (.cells #[.slice re0 re1 re2, .slice re3 re4 re5, .int .i64 (fallV d k).fuse, .bool (fallV d k).down] 24)
  have B25 := hide ((unhide B19).trans (b24.mono (unhide B19).size))
  clear B19
  have F26 := hide ((unhide F20).up b24)
  clear F20
  have F27 := hide ((unhide F22).up b24)
  clear F22
  have X28 := hide ((unhide X21).up b24)
  clear X21
  have X29 := hide x23
  clear x23 b24
  obtain ⟨⟨c30, c31, c32, c33⟩, z34, z35, z36, z37⟩ := (unhide X28).four
  go_wp2_with fail
  generalize w18.alloc (.cells #[.slice re0 re1 re2, .slice re3 re4 re5, .int .i64 (fallV d k).fuse, .bool (fallV d k).down] 24) = W38 at *
  generalize w18.heap.size = g39 at *
  clear c30 c31 c32 c33 z34 z35 z36 z37
  refine (specFall_any d _ k W38 (unhide HS) (unhide F26)).mono ?_
  rintro e w40 ⟨vf, Sf, rfl, Of, Lf, b⟩
  obtain ⟨rf0, rf1, rf2, rf3, rf4, rf5, rfl⟩ := own_form (unhide Of)
  have B41 := hide ((unhide B25).trans (b.mono (unhide B25).size))
  clear B25
  have F42 := hide ((unhide F26).up b)
  clear F26
  have F43 := hide ((unhide F27).up b)
  clear F27
  have X44 := hide ((unhide X28).up b)
  clear X28
  have X45 := hide ((unhide X29).up b)
  clear X29
  clear b
  have F46 := hide ((unhide Of).rd)
  clear Of Lf
  have x47 := boxF_new4 w40 (.slice rf0 rf1 rf2) (.slice rf3 rf4 rf5) (.int .i64 (fallV d k).fuse) (.bool (fallV d k).down) 24
  have b48 := (Below.refl w40.heap.size w40).alloc (Nat.le_refl _) (.cells #[.slice rf0 rf1 rf2, .slice rf3 rf4 rf5, .int .i64 (fallV d k).fuse, .bool (fallV d k).down] 24)
  have B49 := hide ((unhide B41).trans (b48.mono (unhide B41).size))
  clear B41
  have F50 := hide ((unhide F42).up b48)
  clear F42
  have F51 := hide ((unhide F43).up b48)
  clear F43
  have F52 := hide ((unhide F46).up b48)
  clear F46
  have X53 := hide ((unhide X44).up b48)
  clear X44
  have X54 := hide ((unhide X45).up b48)
  clear X45
  have X55 := hide x47
  clear x47 b48
  obtain ⟨⟨c56, c57, c58, c59⟩, z60, z61, z62, z63⟩ := (unhide X54).four
  obtain ⟨⟨c64, c65, c66, c67⟩, z68, z69, z70, z71⟩ := (unhide X55).four
  go_wp2_with fail
  generalize w40.alloc (.cells #[.slice rf0 rf1 rf2, .slice rf3 rf4 rf5, .int .i64 (fallV d k).fuse, .bool (fallV d k).down] 24) = W72 at *
  generalize w40.heap.size = g73 at *
  clear c56 c57 c58 c59 z60 z61 z62 z63 c64 c65 c66 c67 z68 z69 z70 z71
  refine (peDisk_same (fallV d k) _ _ W72 (unhide F51) (unhide F52)).mono ?_
  rintro e w74 ⟨rfl, b⟩
  have B75 := hide ((unhide B49).trans (b.mono (unhide B49).size))
  clear B49
  have F76 := hide ((unhide F50).up b)
  clear F50
  have F77 := hide ((unhide F51).up b)
  clear F51
  have F78 := hide ((unhide F52).up b)
  clear F52
  have X79 := hide ((unhide X53).up b)
  clear X53
  have X80 := hide ((unhide X54).up b)
  clear X54
  have X81 := hide ((unhide X55).up b)
  clear X55
  clear b
  cases hfb : fallB d k
  · go_wp2_with fail
    go_ret
    exact ⟨rfl, unhide B75⟩
  obtain ⟨hok, hdn, hk0, hfv⟩ := fall_yes hfb
  obtain ⟨hrb, hrv⟩ := fell_rises hfb
  obtain ⟨hab, hav⟩ := all_of hok hdn
  obtain ⟨hub, huv⟩ := all_of (risen_ok hfb) rfl
  have HSE := hide (show SmallDisk (fallV d k) by rw [hfv]; have := (unhide HS).1; have := (unhide HS).2; have hm : min k.toNat d.soft.length ≤ d.soft.length := Nat.min_le_right _ _; have hF := unhide HF; unfold DkFit at hF; exact ⟨by simp; omega, by simp⟩)
  have HRI := hide (fun (v : Value) (W : World) (h : DiskRd W v (fallV d k)) => implRise_any (fallV d k) v (-1) W (unhide HSE) h)
  rw [hrb, hrv] at HRI
  have HAD := hide (fun (v : Value) (W : World) (h : DiskRd W v d) => implAll_any d v W (by have := (unhide HS).1; omega) (by have := (unhide HS).2; omega) h)
  unfold RetAll at HAD
  rw [hab, hav] at HAD
  have HAU := hide (fun (v : Value) (W : World) (h : DiskRd W v ⟨d.safe ++ d.soft.take k.toNat, [], -1, false⟩) => implAll_any _ v W (by have h1 := (unhide HS).1; have h2 := (unhide HS).2; have hm : min k.toNat d.soft.length ≤ d.soft.length := Nat.min_le_right _ _; simp; omega) (by simp) h)
  unfold RetAll at HAU
  rw [hub, huv] at HAU
  simp only [List.append_nil] at HAU
  have HSY := hide (sync_of hok hdn)
  have HDN := hide hdn
  have HOK := hide hok
  clear hfb hok hdn hk0 hfv hrb hrv hab hav hub huv
  obtain ⟨⟨c82, c83, c84, c85⟩, z86, z87, z88, z89⟩ := (unhide X80).four
  go_wp2_with fail
  clear c82 c83 c84 c85 z86 z87 z88 z89
  refine (unhide HRI _ w74 (unhide F77)).mono ?_
  rintro e w90 ⟨vu, Su, rfl, Ou, Lu, b⟩
  obtain ⟨u0, u1, u2, u3, u4, u5, rfl⟩ := own_form (unhide Ou)
  have B91 := hide ((unhide B75).trans (b.mono (unhide B75).size))
  clear B75
  have F92 := hide ((unhide F76).up b)
  clear F76
  have F93 := hide ((unhide F77).up b)
  clear F77
  have F94 := hide ((unhide F78).up b)
  clear F78
  have X95 := hide ((unhide X79).up b)
  clear X79
  have X96 := hide ((unhide X80).up b)
  clear X80
  have X97 := hide ((unhide X81).up b)
  clear X81
  clear b
  have F98 := hide ((unhide Ou).rd)
  clear Ou Lu HRI
  have x99 := boxF_new4 w90 (.slice u0 u1 u2) (.slice u3 u4 u5) (.int .i64 (-1)) (.bool false) 24
  have b100 := (Below.refl w90.heap.size w90).alloc (Nat.le_refl _) (.cells #[.slice u0 u1 u2, .slice u3 u4 u5, .int .i64 (-1), .bool false] 24)
  have B101 := hide ((unhide B91).trans (b100.mono (unhide B91).size))
  clear B91
  have F102 := hide ((unhide F92).up b100)
  clear F92
  have F103 := hide ((unhide F93).up b100)
  clear F93
  have F104 := hide ((unhide F94).up b100)
  clear F94
  have F105 := hide ((unhide F98).up b100)
  clear F98
  have X106 := hide ((unhide X95).up b100)
  clear X95
  have X107 := hide ((unhide X96).up b100)
  clear X96
  have X108 := hide ((unhide X97).up b100)
  clear X97
  have X109 := hide x99
  clear x99 b100
  obtain ⟨⟨c110, c111, c112, c113⟩, z114, z115, z116, z117⟩ := (unhide X106).four
  go_wp2_with fail
  generalize w90.alloc (.cells #[.slice u0 u1 u2, .slice u3 u4 u5, .int .i64 (-1), .bool false] 24) = W118 at *
  generalize w90.heap.size = g119 at *
  clear c110 c111 c112 c113 z114 z115 z116 z117
  refine (unhide HAD _ W118 (unhide F102)).mono ?_
  rintro e w120 ⟨ha, hn, hcp, rfl, HHN, hrow, b⟩
  have B121 := hide ((unhide B101).trans (b.mono (unhide B101).size))
  clear B101
  have F122 := hide ((unhide F102).up b)
  clear F102
  have F123 := hide ((unhide F103).up b)
  clear F103
  have F124 := hide ((unhide F104).up b)
  clear F104
  have F125 := hide ((unhide F105).up b)
  clear F105
  have X126 := hide ((unhide X106).up b)
  clear X106
  have X127 := hide ((unhide X107).up b)
  clear X107
  have X128 := hide ((unhide X108).up b)
  clear X108
  have X129 := hide ((unhide X109).up b)
  clear X109
  clear b
  have F130 := hide (hrow.rd)
  clear hrow HAD
  obtain ⟨⟨c131, c132, c133, c134⟩, z135, z136, z137, z138⟩ := (unhide X129).four
  go_wp2_with fail
  clear c131 c132 c133 c134 z135 z136 z137 z138
  refine (unhide HAU _ w120 (unhide F125)).mono ?_
  rintro e w139 ⟨sa, sn, scp, rfl, HSN, srow, b⟩
  have B140 := hide ((unhide B121).trans (b.mono (unhide B121).size))
  clear B121
  have F141 := hide ((unhide F122).up b)
  clear F122
  have F142 := hide ((unhide F123).up b)
  clear F123
  have F143 := hide ((unhide F124).up b)
  clear F124
  have F144 := hide ((unhide F125).up b)
  clear F125
  have F145 := hide ((unhide F130).up b)
  clear F130
  have X146 := hide ((unhide X126).up b)
  clear X126
  have X147 := hide ((unhide X127).up b)
  clear X127
  have X148 := hide ((unhide X128).up b)
  clear X128
  have X149 := hide ((unhide X129).up b)
  clear X129
  clear b
  have F150 := hide (srow.rd)
  clear srow HAU
  have HSL := hide (show sn ≤ hn ∧ d.safe.length ≤ sn from by have h1 := unhide HHN; have h2 := unhide HSN; have hm : min k.toNat d.soft.length ≤ d.soft.length := Nat.min_le_right _ _; simp at h1 h2; omega)
  have PFX := hide (show (d.safe ++ d.soft).take sn = d.safe ++ d.soft.take k.toNat from by
    have h2 := unhide HSN
    have e : sn = d.safe.length + min k.toNat d.soft.length := by simpa using h2
    rw [e, List.take_append, List.take_of_length_le (by omega), show d.safe.length + min k.toNat d.soft.length - d.safe.length = min k.toNat d.soft.length by omega]
    congr 1
    rcases Nat.le_total k.toNat d.soft.length with h | h
    · rw [Nat.min_eq_left h]
    · rw [Nat.min_eq_right h, List.take_of_length_le (Nat.le_refl _), List.take_of_length_le h])
  have CVH := hide (fun q => conv_back ((unhide F150).up (below_dn w139 q)))
  have CVP := hide (fun q => conv_back (a := ha) (m := sn) (c := hcp) (bs := (d.safe ++ d.soft).take sn) (by_pre ((unhide F145).up (below_dn w139 q)) sn (by have := unhide HSL; have := unhide HHN; omega)))
  rw [unhide PFX] at CVP
  have NDS := hide (show n0 = d.safe.length from (rd_lens (unhide F141)).1)
  have cvh := unhide CVH
  have cvp := unhide CVP
  obtain ⟨l1, l2⟩ := unhide HSL
  have l1a : ¬ (hn : Int) < (sn : Int) := by omega
  have l2a : ¬ (sn : Int) < (n0 : Int) := by have := unhide NDS; omega
  have l3 : (sn : Int) ≤ (hcp : Int) := by have := rd_cap (unhide F145); omega
  have l1b : decide (hn < sn) = false := by simp; omega
  have l1c : decide ((hn : Int) < (sn : Int)) = false := by simp; omega
  have l2b : decide (sn < n0) = false := by have := unhide NDS; simp; omega
  have l2c : decide ((sn : Int) < (n0 : Int)) = false := by have := unhide NDS; simp; omega
  clear CVH CVP l1 l2
  obtain ⟨⟨c151, c152, c153, c154⟩, z155, z156, z157, z158⟩ := (unhide X146).four
  go_upto_region 13 with fail
  go_cut [95] (fun s95 wx => s95 = .bool false ∧ Hid (Below w139.heap.size w139 wx))
  case first =>
    go_quiet (fail)
    go_wp2_with fail
    go_meet
    exact ⟨by first | rfl | simp [l1b, l2b], hide (below_dn _ _)⟩
  case rest =>
  obtain ⟨rfl, HBC⟩ := hcut
  have bc := unhide HBC
  clear HBC
  clear c151 c152 c153 c154 z155 z156 z157 z158
  clear cvh cvp l1a l2a l3 l1b l1c l2b l2c PFX
  have B159 := hide ((unhide B140).trans (bc.mono (unhide B140).size))
  clear B140
  have F160 := hide ((unhide F141).up bc)
  clear F141
  have F161 := hide ((unhide F142).up bc)
  clear F142
  have F162 := hide ((unhide F143).up bc)
  clear F143
  have F163 := hide ((unhide F144).up bc)
  clear F144
  have F164 := hide ((unhide F145).up bc)
  clear F145
  have F165 := hide ((unhide F150).up bc)
  clear F150
  have X166 := hide ((unhide X146).up bc)
  clear X146
  have X167 := hide ((unhide X147).up bc)
  clear X147
  have X168 := hide ((unhide X148).up bc)
  clear X148
  have X169 := hide ((unhide X149).up bc)
  clear X149
  clear bc
  have HSC := hide (fun (v : Value) (W : World) (h : DiskRd W v d) => implSync_any d v W (unhide HS) h)
  rcases unhide HSY with hs2 | ⟨hs0, hs1, hs3⟩
  · skip
    have HSC2 := HSC
    clear HSC HSY
    rw [hs2] at HSC2
    clear hs2
    obtain ⟨⟨c170, c171, c172, c173⟩, z174, z175, z176, z177⟩ := (unhide X166).four
    go_wp2_with fail
    clear c170 c171 c172 c173 z174 z175 z176 z177
    refine (unhide HSC2 _ wc (unhide F160)).mono ?_
    rintro e w178 ⟨vs, Ss, rfl, Os, Ls, b⟩
    obtain ⟨s0, s1, s2, s3, s4, s5, rfl⟩ := own_form (unhide Os)
    have B179 := hide ((unhide B159).trans (b.mono (unhide B159).size))
    clear B159
    have F180 := hide ((unhide F160).up b)
    clear F160
    have F181 := hide ((unhide F161).up b)
    clear F161
    have F182 := hide ((unhide F162).up b)
    clear F162
    have F183 := hide ((unhide F163).up b)
    clear F163
    have F184 := hide ((unhide F164).up b)
    clear F164
    have F185 := hide ((unhide F165).up b)
    clear F165
    have X186 := hide ((unhide X166).up b)
    clear X166
    have X187 := hide ((unhide X167).up b)
    clear X167
    have X188 := hide ((unhide X168).up b)
    clear X168
    have X189 := hide ((unhide X169).up b)
    clear X169
    clear b
    have F190 := hide ((unhide Os).rd)
    clear Os Ls HSC2
    have x191 := boxF_new4 w178 (.slice s0 s1 s2) (.slice s3 s4 s5) (.int .i64 (syncV d).fuse) (.bool (syncV d).down) 24
    have b192 := (Below.refl w178.heap.size w178).alloc (Nat.le_refl _) (.cells #[.slice s0 s1 s2, .slice s3 s4 s5, .int .i64 (syncV d).fuse, .bool (syncV d).down] 24)
    have B193 := hide ((unhide B179).trans (b192.mono (unhide B179).size))
    clear B179
    have F194 := hide ((unhide F180).up b192)
    clear F180
    have F195 := hide ((unhide F181).up b192)
    clear F181
    have F196 := hide ((unhide F182).up b192)
    clear F182
    have F197 := hide ((unhide F183).up b192)
    clear F183
    have F198 := hide ((unhide F184).up b192)
    clear F184
    have F199 := hide ((unhide F185).up b192)
    clear F185
    have F200 := hide ((unhide F190).up b192)
    clear F190
    have X201 := hide ((unhide X186).up b192)
    clear X186
    have X202 := hide ((unhide X187).up b192)
    clear X187
    have X203 := hide ((unhide X188).up b192)
    clear X188
    have X204 := hide ((unhide X189).up b192)
    clear X189
    have X205 := hide x191
    clear x191 b192
    go_wp2_with fail
    generalize w178.alloc (.cells #[.slice s0 s1 s2, .slice s3 s4 s5, .int .i64 (syncV d).fuse, .bool (syncV d).down] 24) = W206 at *
    generalize w178.heap.size = g207 at *
    go_ret
    exact ⟨rfl, unhide B193⟩
  · skip
    have HSC2 := HSC
    clear HSC HSY
    rw [hs0] at HSC2
    clear hs0
    have H1 := hide hs1
    have H3 := hide hs3
    clear hs1 hs3
    obtain ⟨⟨c208, c209, c210, c211⟩, z212, z213, z214, z215⟩ := (unhide X166).four
    go_wp2_with fail
    clear c208 c209 c210 c211 z212 z213 z214 z215
    refine (unhide HSC2 _ wc (unhide F160)).mono ?_
    rintro e w216 ⟨vs, Ss, rfl, Os, Ls, b⟩
    obtain ⟨s0, s1, s2, s3, s4, s5, rfl⟩ := own_form (unhide Os)
    have B217 := hide ((unhide B159).trans (b.mono (unhide B159).size))
    clear B159
    have F218 := hide ((unhide F160).up b)
    clear F160
    have F219 := hide ((unhide F161).up b)
    clear F161
    have F220 := hide ((unhide F162).up b)
    clear F162
    have F221 := hide ((unhide F163).up b)
    clear F163
    have F222 := hide ((unhide F164).up b)
    clear F164
    have F223 := hide ((unhide F165).up b)
    clear F165
    have X224 := hide ((unhide X166).up b)
    clear X166
    have X225 := hide ((unhide X167).up b)
    clear X167
    have X226 := hide ((unhide X168).up b)
    clear X168
    have X227 := hide ((unhide X169).up b)
    clear X169
    clear b
    have F228 := hide ((unhide Os).rd)
    clear Os Ls HSC2
    have x229 := boxF_new4 w216 (.slice s0 s1 s2) (.slice s3 s4 s5) (.int .i64 (syncV d).fuse) (.bool (syncV d).down) 24
    have b230 := (Below.refl w216.heap.size w216).alloc (Nat.le_refl _) (.cells #[.slice s0 s1 s2, .slice s3 s4 s5, .int .i64 (syncV d).fuse, .bool (syncV d).down] 24)
    have B231 := hide ((unhide B217).trans (b230.mono (unhide B217).size))
    clear B217
    have F232 := hide ((unhide F218).up b230)
    clear F218
    have F233 := hide ((unhide F219).up b230)
    clear F219
    have F234 := hide ((unhide F220).up b230)
    clear F220
    have F235 := hide ((unhide F221).up b230)
    clear F221
    have F236 := hide ((unhide F222).up b230)
    clear F222
    have F237 := hide ((unhide F223).up b230)
    clear F223
    have F238 := hide ((unhide F228).up b230)
    clear F228
    have X239 := hide ((unhide X224).up b230)
    clear X224
    have X240 := hide ((unhide X225).up b230)
    clear X225
    have X241 := hide ((unhide X226).up b230)
    clear X226
    have X242 := hide ((unhide X227).up b230)
    clear X227
    have X243 := hide x229
    clear x229 b230
    obtain ⟨⟨c244, c245, c246, c247⟩, z248, z249, z250, z251⟩ := (unhide X243).four
    go_wp2_with fail
    generalize w216.alloc (.cells #[.slice s0 s1 s2, .slice s3 s4 s5, .int .i64 (syncV d).fuse, .bool (syncV d).down] 24) = W252 at *
    generalize w216.heap.size = g253 at *
    clear c244 c245 c246 c247 z248 z249 z250 z251
    have HSM := hide (show SmallDisk (syncV d) from small_sync (unhide HS))
    have HFA := hide (fun (v : Value) (W : World) (h : DiskRd W v (syncV d)) => implFall_any (syncV d) v 0 W (unhide HSM) h)
    rw [unhide H1] at HFA
    refine (unhide HFA _ W252 (unhide F238)).mono ?_
    rintro e w254 ⟨vt, St, rfl, Ot, Lt, b⟩
    obtain ⟨t0, t1, t2, t3, t4, t5, rfl⟩ := own_form (unhide Ot)
    have B255 := hide ((unhide B231).trans (b.mono (unhide B231).size))
    clear B231
    have F256 := hide ((unhide F232).up b)
    clear F232
    have F257 := hide ((unhide F233).up b)
    clear F233
    have F258 := hide ((unhide F234).up b)
    clear F234
    have F259 := hide ((unhide F235).up b)
    clear F235
    have F260 := hide ((unhide F236).up b)
    clear F236
    have F261 := hide ((unhide F237).up b)
    clear F237
    have F262 := hide ((unhide F238).up b)
    clear F238
    have X263 := hide ((unhide X239).up b)
    clear X239
    have X264 := hide ((unhide X240).up b)
    clear X240
    have X265 := hide ((unhide X241).up b)
    clear X241
    have X266 := hide ((unhide X242).up b)
    clear X242
    have X267 := hide ((unhide X243).up b)
    clear X243
    clear b
    have F268 := hide ((unhide Ot).rd)
    clear Ot Lt HFA
    have x269 := boxF_new4 w254 (.slice t0 t1 t2) (.slice t3 t4 t5) (.int .i64 (fallV (syncV d) 0).fuse) (.bool (fallV (syncV d) 0).down) 24
    have b270 := (Below.refl w254.heap.size w254).alloc (Nat.le_refl _) (.cells #[.slice t0 t1 t2, .slice t3 t4 t5, .int .i64 (fallV (syncV d) 0).fuse, .bool (fallV (syncV d) 0).down] 24)
    have B271 := hide ((unhide B255).trans (b270.mono (unhide B255).size))
    clear B255
    have F272 := hide ((unhide F256).up b270)
    clear F256
    have F273 := hide ((unhide F257).up b270)
    clear F257
    have F274 := hide ((unhide F258).up b270)
    clear F258
    have F275 := hide ((unhide F259).up b270)
    clear F259
    have F276 := hide ((unhide F260).up b270)
    clear F260
    have F277 := hide ((unhide F261).up b270)
    clear F261
    have F278 := hide ((unhide F262).up b270)
    clear F262
    have F279 := hide ((unhide F268).up b270)
    clear F268
    have X280 := hide ((unhide X263).up b270)
    clear X263
    have X281 := hide ((unhide X264).up b270)
    clear X264
    have X282 := hide ((unhide X265).up b270)
    clear X265
    have X283 := hide ((unhide X266).up b270)
    clear X266
    have X284 := hide ((unhide X267).up b270)
    clear X267
    have X285 := hide x269
    clear x269 b270
    have CT := conv_back (rd_safe (unhide F279))
    rw [unhide H3] at CT
    have CH := conv_back (unhide F276)
    obtain ⟨⟨c286, c287, c288, c289⟩, z290, z291, z292, z293⟩ := (unhide X285).four
    go_wp2_with fail
    generalize w254.alloc (.cells #[.slice t0 t1 t2, .slice t3 t4 t5, .int .i64 (fallV (syncV d) 0).fuse, .bool (fallV (syncV d) 0).down] 24) = W294 at *
    generalize w254.heap.size = g295 at *
    clear c286 c287 c288 c289 z290 z291 z292 z293
    go_ret
    exact ⟨rfl, unhide B271⟩
end Go.Proofs.Ytbbaiabcapbdoaa
