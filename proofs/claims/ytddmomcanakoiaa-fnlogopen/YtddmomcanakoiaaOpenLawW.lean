/-
  The walk of the law on logs that are opened. (Made by wip/mkopenlaw.py.)
-/
import Derived.Test.YtddmomcanakoiaaMerged5
import Derived.Test.YtddmomcanakoiaaMerged8
import Derived.Test.YtddmomcanakoiaaMerged20
import Derived.Test.YtddmomcanakoiaaMerged14
import Derived.Test.YtddmomcanakoiaaLogOpenS
import Derived.Test.YtddmomcanakoiaaMerged21
import Derived.Test.YtddmomcanakoiaaLogPutS
import Derived.Test.YtddmomcanakoiaaLogPutJ
import Derived.Test.YtddmomcanakoiaaLogReadI
import Derived.Test.YtddmomcanakoiaaDiskAll
import Derived.Test.YtddmomcanakoiaaMerged1
import Derived.Handy
import Derived.Deep.DeepCutAuto
import Derived.Deep.RegionHeld3
set_option linter.unusedVariables false
namespace Go.Proofs.Ytddmomcanakoiaa
open Go.RowKit Go.Maps Go.Deep

theorem dk_small {d : DiskV} (h : DkFit d) : SmallDisk d := by unfold DkFit at h; exact ⟨by omega, by omega⟩
theorem rd_form {w : World} {v : Value} {d : DiskV} (h : DiskRd w v d) : ∃ a0 n0 c0 a1 n1 c1, v = .agg #[.slice a0 n0 c0, .slice a1 n1 c1, .int .i64 d.fuse, .bool d.down] := by
  obtain ⟨v0, v1, rfl, h0, h1⟩ := h
  obtain ⟨p0, p2, rfl⟩ := h0.len
  obtain ⟨p3, p5, rfl⟩ := h1.len
  exact ⟨_, _, _, _, _, _, rfl⟩
theorem rs_form {w : World} {v : Value} {rs : List RecV} (h : RecSRd w v rs) : ∃ a n c, v = .slice a n c ∧ n = rs.length := by
  obtain ⟨a, c, rfl, _⟩ := h
  exact ⟨a, _, c, rfl, rfl⟩
theorem lit_at (w : World) (r : RecV) : RecAt (w.alloc (.cells #[.int .i64 r.kind, .string r.name, .int .i64 r.num, .string r.text] 32)) w.heap.size 0 [r] := by
  obtain ⟨⟨c0, c1, c2, c3⟩, _⟩ := (boxF_new4 w (.int .i64 r.kind) (.string r.name) (.int .i64 r.num) (.string r.text) 32).four
  intro i hi
  obtain rfl : i = 0 := by simp at hi; omega
  exact ⟨c0, c1, c2, c3⟩
theorem lit_turn {S : List Nat} {X Y : World} {g : Nat} {r : RecV} (h : RecAt X g 0 [r]) (hg : g < X.heap.size) (t : Turn S X Y) (hS : g ∉ S) : RecSRd Y (.slice (some ⟨g, 0, none⟩) 1 1) [r] := by
  refine ⟨_, 1, rfl, .inr ⟨g, 0, rfl, Nat.lt_of_lt_of_le hg t.size, fun i hi => ?_⟩⟩
  obtain ⟨c0, c1, c2, c3⟩ := h i hi
  exact ⟨(t.cell hg hS).trans c0, (t.cell hg hS).trans c1, (t.cell hg hS).trans c2, (t.cell hg hS).trans c3⟩
theorem lit_kept {W w Y : World} {r : RecV} {row : Option Nat} (hw : w.heap.size = W.heap.size + 1) (hgr : ((w.alloc (.cells #[.int .i64 r.kind, .string r.name, .int .i64 r.num, .string r.text] 32)).drew).grownBy Y row) (hr : row = some W.heap.size) : RecSRd Y (.slice (some ⟨W.heap.size + 1, 0, none⟩) 1 1) [r] := by
  subst hr
  have t : Turn [W.heap.size] (w.alloc (.cells #[.int .i64 r.kind, .string r.name, .int .i64 r.num, .string r.text] 32)) Y := Turn.trans (Turn.of_below ((Below.refl _ _).drew)) (Turn.of_grown hgr (by simp))
  have h := lit_turn (lit_at w r) (by simp) t (by simp; omega)
  rw [hw] at h
  exact h
theorem lit_kept3 {W Y : World} {r : RecV} (hgr : (((W.alloc (.cells #[.int .i64 r.kind, .string r.name, .int .i64 r.num, .string r.text] 32)).alloc (.cells #[] 32)).drew).grownBy Y (some (W.heap.size + 1))) : RecSRd Y (.slice (some ⟨W.heap.size, 0, none⟩) 1 1) [r] := by
  have t : Turn [W.heap.size + 1] (W.alloc (.cells #[.int .i64 r.kind, .string r.name, .int .i64 r.num, .string r.text] 32)) Y := Turn.trans (Turn.of_below (((Below.refl _ _).alloc (Nat.le_refl _) _).drew)) (Turn.of_grown hgr (by simp))
  exact lit_turn (lit_at W r) (by simp) t (by simp)
theorem loR_le (d : DiskV) : (loR d).length ≤ 1000 := by
  unfold loR boR
  have := (log_facts (bookL d)).1
  repeat' split
  all_goals first | omega | simp
theorem by_in {w : World} {a : Option Addr} {c : Nat} {bs : List UInt8} (h : ByRd w (.slice a bs.length c) bs) : ByIn w a bs := by
  obtain ⟨a', c', e, h1, h2⟩ := h
  simp only [Value.slice.injEq] at e
  obtain ⟨rfl, _, rfl⟩ := e
  exact h1
set_option maxRecDepth 20000 in
set_option maxHeartbeats 12800000 in
theorem openlaw_walk (a a2 : Option Addr) (cap cap2 : Nat) (bs ms : List UInt8) (w : World) (hl : bs.length ≤ maxLen) (hc : bs.length ≤ cap) (hb : ByIn w a bs) (hl2 : ms.length ≤ maxLen) (hc2 : ms.length ≤ cap2) (hb2 : ByIn w a2 ms) :
    Calls Try.prog 4 #[.slice a bs.length cap, .slice a2 ms.length cap2] w fun e w' => e = .returned (.bool true) ∧ Below w.heap.size w w' := by
  by_cases hl0 : (bs.length : Int) ≤ 1048576
  rotate_left
  · unfold maxLen at hl hl2
    go_enter Try.func4, Try.ntmps4
    go_wp2_with fail
    go_ret
    exact ⟨rfl, Below.refl _ _⟩
  by_cases hl3 : (ms.length : Int) ≤ 1048576
  rotate_left
  · unfold maxLen at hl hl2
    go_enter Try.func4, Try.ntmps4
    go_wp2_with fail
    go_ret
    exact ⟨rfl, Below.refl _ _⟩
  have HD := hide (drawOpen_any w a cap bs hl hc hb)
  have HDR := hide (fun (W : World) (h : ByIn W a2 ms) => drawRecOk_any W a2 cap2 ms hl2 hc2 h)
  have RM := hide (show ByRd w (.slice a2 ms.length cap2) ms from ⟨a2, cap2, rfl, hb2, hc2⟩)
  clear hb hc hl hb2 hc2 hl2
  go_enter Try.func4, Try.ntmps4
  go_wp2_with fail
  refine (unhide HD).mono ?_
  rintro e w1 ⟨a0, n0, c0, a1, n1, c1, d, rfl, RD, HF, b⟩
  have B2 := hide b
  have F3 := hide ((unhide RM).up b)
  clear RM
  clear b
  clear HD
  have HS := hide (dk_small (unhide HF))
  have x4 := boxF_new4 w1 (.slice a0 n0 c0) (.slice a1 n1 c1) (.int .i64 d.fuse) (.bool d.down) 35
  have b5 := (Below.refl w1.heap.size w1).alloc (Nat.le_refl _) (.cells #[.slice a0 n0 c0, .slice a1 n1 c1, .int .i64 d.fuse, .bool d.down] 35)
  have B6 := hide ((unhide B2).trans (b5.mono (unhide B2).size))
  clear B2
  have F7 := hide ((unhide F3).up b5)
  clear F3
  have F8 := hide ((unhide RD).up b5)
  clear RD
  have X9 := hide x4
  clear x4 b5
  obtain ⟨⟨c10, c11, c12, c13⟩, z14, z15, z16, z17⟩ := (unhide X9).four
  go_wp2_with fail
  generalize w1.alloc (.cells #[.slice a0 n0 c0, .slice a1 n1 c1, .int .i64 d.fuse, .bool d.down] 35) = W18 at *
  generalize w1.heap.size = g19 at *
  clear c10 c11 c12 c13 z14 z15 z16 z17
  refine (implLogOpen_any d _ W18 (unhide HS) (unhide F8)).mono ?_
  rintro e w20 ⟨ve, Se, ue, Qe, rfl, Oe, Le, Pe, Me, Ae, b⟩
  obtain ⟨re0, re1, re2, re3, re4, re5, rfl⟩ := rd_form (unhide Oe).rd
  obtain ⟨qla, qln, qlc, rfl, hqln⟩ := rs_form (unhide Pe).rd
  have HqlN := hide hqln
  clear hqln
  have B21 := hide ((unhide B6).trans (b.mono (unhide B6).size))
  clear B6
  have F22 := hide ((unhide F7).up b)
  clear F7
  have F23 := hide ((unhide F8).up b)
  clear F8
  have X24 := hide ((unhide X9).up b)
  clear X9
  clear b
  have F25 := hide ((unhide Oe).rd)
  have F26 := hide ((unhide Pe).rd)
  clear Oe Pe Le Me Ae
  have x27 := boxF_new4 w20 (.slice re0 re1 re2) (.slice re3 re4 re5) (.int .i64 (loV d).fuse) (.bool (loV d).down) 35
  have b28 := (Below.refl w20.heap.size w20).alloc (Nat.le_refl _) (.cells #[.slice re0 re1 re2, .slice re3 re4 re5, .int .i64 (loV d).fuse, .bool (loV d).down] 35)
  have B29 := hide ((unhide B21).trans (b28.mono (unhide B21).size))
  clear B21
  have F30 := hide ((unhide F22).up b28)
  clear F22
  have F31 := hide ((unhide F23).up b28)
  clear F23
  have F32 := hide ((unhide F25).up b28)
  clear F25
  have F33 := hide ((unhide F26).up b28)
  clear F26
  have X34 := hide ((unhide X24).up b28)
  clear X24
  have X35 := hide x27
  clear x27 b28
  obtain ⟨⟨c36, c37, c38, c39⟩, z40, z41, z42, z43⟩ := (unhide X34).four
  go_wp2_with fail
  generalize w20.alloc (.cells #[.slice re0 re1 re2, .slice re3 re4 re5, .int .i64 (loV d).fuse, .bool (loV d).down] 35) = W44 at *
  generalize w20.heap.size = g45 at *
  clear c36 c37 c38 c39 z40 z41 z42 z43
  refine (specLogOpen_any d _ W44 (unhide HS) (unhide F31)).mono ?_
  rintro e w46 ⟨vf, uf, rfl, Of, Pf, b⟩
  obtain ⟨rf0, rf1, rf2, rf3, rf4, rf5, rfl⟩ := rd_form (unhide Of)
  obtain ⟨qka, qkn, qkc, rfl, hqkn⟩ := rs_form (unhide Pf)
  have HqkN := hide hqkn
  clear hqkn
  have B47 := hide ((unhide B29).trans (b.mono (unhide B29).size))
  clear B29
  have F48 := hide ((unhide F30).up b)
  clear F30
  have F49 := hide ((unhide F31).up b)
  clear F31
  have F50 := hide ((unhide F32).up b)
  clear F32
  have F51 := hide ((unhide F33).up b)
  clear F33
  have X52 := hide ((unhide X34).up b)
  clear X34
  have X53 := hide ((unhide X35).up b)
  clear X35
  clear b
  have F54 := hide ((unhide Of))
  have F55 := hide ((unhide Pf))
  clear Of Pf
  have x56 := boxF_new4 w46 (.slice rf0 rf1 rf2) (.slice rf3 rf4 rf5) (.int .i64 (loV d).fuse) (.bool (loV d).down) 35
  have b57 := (Below.refl w46.heap.size w46).alloc (Nat.le_refl _) (.cells #[.slice rf0 rf1 rf2, .slice rf3 rf4 rf5, .int .i64 (loV d).fuse, .bool (loV d).down] 35)
  have B58 := hide ((unhide B47).trans (b57.mono (unhide B47).size))
  clear B47
  have F59 := hide ((unhide F48).up b57)
  clear F48
  have F60 := hide ((unhide F49).up b57)
  clear F49
  have F61 := hide ((unhide F50).up b57)
  clear F50
  have F62 := hide ((unhide F51).up b57)
  clear F51
  have F63 := hide ((unhide F54).up b57)
  clear F54
  have F64 := hide ((unhide F55).up b57)
  clear F55
  have X65 := hide ((unhide X52).up b57)
  clear X52
  have X66 := hide ((unhide X53).up b57)
  clear X53
  have X67 := hide x56
  clear x56 b57
  obtain ⟨⟨c68, c69, c70, c71⟩, z72, z73, z74, z75⟩ := (unhide X66).four
  obtain ⟨⟨c76, c77, c78, c79⟩, z80, z81, z82, z83⟩ := (unhide X67).four
  go_wp2_with fail
  generalize w46.alloc (.cells #[.slice rf0 rf1 rf2, .slice rf3 rf4 rf5, .int .i64 (loV d).fuse, .bool (loV d).down] 35) = W84 at *
  generalize w46.heap.size = g85 at *
  clear c68 c69 c70 c71 z72 z73 z74 z75 c76 c77 c78 c79 z80 z81 z82 z83
  refine (peDisk_same (loV d) _ _ W84 (unhide F61) (unhide F63)).mono ?_
  rintro e w86 ⟨rfl, b⟩
  have B87 := hide ((unhide B58).trans (b.mono (unhide B58).size))
  clear B58
  have F88 := hide ((unhide F59).up b)
  clear F59
  have F89 := hide ((unhide F60).up b)
  clear F60
  have F90 := hide ((unhide F61).up b)
  clear F61
  have F91 := hide ((unhide F62).up b)
  clear F62
  have F92 := hide ((unhide F63).up b)
  clear F63
  have F93 := hide ((unhide F64).up b)
  clear F64
  have X94 := hide ((unhide X65).up b)
  clear X65
  have X95 := hide ((unhide X66).up b)
  clear X66
  have X96 := hide ((unhide X67).up b)
  clear X67
  clear b
  have HRL := hide (show (loR d).length ≤ 1048576 from (small_loR d).1.1)
  go_wp2_with fail
  refine (peRecs_same (loR d) _ _ w86 (unhide HRL) (unhide F91) (unhide F93)).mono ?_
  rintro e w97 ⟨rfl, b⟩
  have B98 := hide ((unhide B87).trans (b.mono (unhide B87).size))
  clear B87
  have F99 := hide ((unhide F88).up b)
  clear F88
  have F100 := hide ((unhide F89).up b)
  clear F89
  have F101 := hide ((unhide F90).up b)
  clear F90
  have F102 := hide ((unhide F91).up b)
  clear F91
  have F103 := hide ((unhide F92).up b)
  clear F92
  have F104 := hide ((unhide F93).up b)
  clear F93
  have X105 := hide ((unhide X94).up b)
  clear X94
  have X106 := hide ((unhide X95).up b)
  clear X95
  have X107 := hide ((unhide X96).up b)
  clear X96
  clear b
  by_cases h0 : loI d = 0
  rotate_left
  · have h0b : (loI d != 0) = true := by simpa using h0
    have e0 : qln = 0 := by rw [unhide HqlN, lo_none h0]; rfl
    subst e0
    clear h0
    go_wp2_with fail
    go_ret
    exact ⟨rfl, unhide B98⟩
  obtain ⟨s1, s2, s3⟩ := lo_same h0
  have HA := hide (lo_again h0)
  have HSE := hide (small_loV (unhide HS))
  have HLO := hide (fun (v : Value) (W : World) (h : DiskRd W v (loV d)) => implLogOpen_any (loV d) v W (unhide HSE) h)
  rw [s1, s2, s3] at HLO
  rw [h0]
  clear s1 s2 s3 h0
  --MARK1
  obtain ⟨⟨c108, c109, c110, c111⟩, z112, z113, z114, z115⟩ := (unhide X106).four
  go_wp2_with fail
  clear c108 c109 c110 c111 z112 z113 z114 z115
  refine (unhide HLO _ w97 (unhide F101)).mono ?_
  rintro e w116 ⟨vg, Sg, ug, Qg, rfl, Og, Lg, Pg, Mg, Ag, b⟩
  obtain ⟨rg0, rg1, rg2, rg3, rg4, rg5, rfl⟩ := rd_form (unhide Og).rd
  obtain ⟨qna, qnn, qnc, rfl, hqnn⟩ := rs_form (unhide Pg).rd
  have HqnN := hide hqnn
  clear hqnn
  have B117 := hide ((unhide B98).trans (b.mono (unhide B98).size))
  clear B98
  have F118 := hide ((unhide F99).up b)
  clear F99
  have F119 := hide ((unhide F100).up b)
  clear F100
  have F120 := hide ((unhide F101).up b)
  clear F101
  have F121 := hide ((unhide F102).up b)
  clear F102
  have F122 := hide ((unhide F103).up b)
  clear F103
  have F123 := hide ((unhide F104).up b)
  clear F104
  have X124 := hide ((unhide X105).up b)
  clear X105
  have X125 := hide ((unhide X106).up b)
  clear X106
  have X126 := hide ((unhide X107).up b)
  clear X107
  clear b
  have F127 := hide ((unhide Og).rd)
  have F128 := hide ((unhide Pg).rd)
  clear Og Pg Lg Mg Ag
  have x129 := boxF_new4 w116 (.slice rg0 rg1 rg2) (.slice rg3 rg4 rg5) (.int .i64 (loV d).fuse) (.bool (loV d).down) 35
  have b130 := (Below.refl w116.heap.size w116).alloc (Nat.le_refl _) (.cells #[.slice rg0 rg1 rg2, .slice rg3 rg4 rg5, .int .i64 (loV d).fuse, .bool (loV d).down] 35)
  have B131 := hide ((unhide B117).trans (b130.mono (unhide B117).size))
  clear B117
  have F132 := hide ((unhide F118).up b130)
  clear F118
  have F133 := hide ((unhide F119).up b130)
  clear F119
  have F134 := hide ((unhide F120).up b130)
  clear F120
  have F135 := hide ((unhide F121).up b130)
  clear F121
  have F136 := hide ((unhide F122).up b130)
  clear F122
  have F137 := hide ((unhide F123).up b130)
  clear F123
  have F138 := hide ((unhide F127).up b130)
  clear F127
  have F139 := hide ((unhide F128).up b130)
  clear F128
  have X140 := hide ((unhide X124).up b130)
  clear X124
  have X141 := hide ((unhide X125).up b130)
  clear X125
  have X142 := hide ((unhide X126).up b130)
  clear X126
  have X143 := hide x129
  clear x129 b130
  clear HLO
  obtain ⟨⟨c144, c145, c146, c147⟩, z148, z149, z150, z151⟩ := (unhide X141).four
  obtain ⟨⟨c152, c153, c154, c155⟩, z156, z157, z158, z159⟩ := (unhide X143).four
  go_wp2_with fail
  generalize w116.alloc (.cells #[.slice rg0 rg1 rg2, .slice rg3 rg4 rg5, .int .i64 (loV d).fuse, .bool (loV d).down] 35) = W160 at *
  generalize w116.heap.size = g161 at *
  clear c144 c145 c146 c147 z148 z149 z150 z151 c152 c153 c154 c155 z156 z157 z158 z159
  refine (peDisk_same (loV d) _ _ W160 (unhide F138) (unhide F134)).mono ?_
  rintro e w162 ⟨rfl, b⟩
  have B163 := hide ((unhide B131).trans (b.mono (unhide B131).size))
  clear B131
  have F164 := hide ((unhide F132).up b)
  clear F132
  have F165 := hide ((unhide F133).up b)
  clear F133
  have F166 := hide ((unhide F134).up b)
  clear F134
  have F167 := hide ((unhide F135).up b)
  clear F135
  have F168 := hide ((unhide F136).up b)
  clear F136
  have F169 := hide ((unhide F137).up b)
  clear F137
  have F170 := hide ((unhide F138).up b)
  clear F138
  have F171 := hide ((unhide F139).up b)
  clear F139
  have X172 := hide ((unhide X140).up b)
  clear X140
  have X173 := hide ((unhide X141).up b)
  clear X141
  have X174 := hide ((unhide X142).up b)
  clear X142
  have X175 := hide ((unhide X143).up b)
  clear X143
  clear b
  go_wp2_with fail
  refine (peRecs_same (loR d) _ _ w162 (unhide HRL) (unhide F171) (unhide F167)).mono ?_
  rintro e w176 ⟨rfl, b⟩
  have B177 := hide ((unhide B163).trans (b.mono (unhide B163).size))
  clear B163
  have F178 := hide ((unhide F164).up b)
  clear F164
  have F179 := hide ((unhide F165).up b)
  clear F165
  have F180 := hide ((unhide F166).up b)
  clear F166
  have F181 := hide ((unhide F167).up b)
  clear F167
  have F182 := hide ((unhide F168).up b)
  clear F168
  have F183 := hide ((unhide F169).up b)
  clear F169
  have F184 := hide ((unhide F170).up b)
  clear F170
  have F185 := hide ((unhide F171).up b)
  clear F171
  have X186 := hide ((unhide X172).up b)
  clear X172
  have X187 := hide ((unhide X173).up b)
  clear X173
  have X188 := hide ((unhide X174).up b)
  clear X174
  have X189 := hide ((unhide X175).up b)
  clear X175
  clear b
  --MARK2
  go_wp2_with fail
  refine (unhide HDR _ (by_in (unhide F178))).mono ?_
  rintro e w190 ⟨r, rfl, HRF, b⟩
  have B191 := hide ((unhide B177).trans (b.mono (unhide B177).size))
  clear B177
  have F192 := hide ((unhide F178).up b)
  clear F178
  have F193 := hide ((unhide F179).up b)
  clear F179
  have F194 := hide ((unhide F180).up b)
  clear F180
  have F195 := hide ((unhide F181).up b)
  clear F181
  have F196 := hide ((unhide F182).up b)
  clear F182
  have F197 := hide ((unhide F183).up b)
  clear F183
  have F198 := hide ((unhide F184).up b)
  clear F184
  have F199 := hide ((unhide F185).up b)
  clear F185
  have X200 := hide ((unhide X186).up b)
  clear X186
  have X201 := hide ((unhide X187).up b)
  clear X187
  have X202 := hide ((unhide X188).up b)
  clear X188
  have X203 := hide ((unhide X189).up b)
  clear X189
  clear b
  clear HDR
  unfold recVal
  have x204 := boxF_new4 w190 (.int .i64 r.kind) (.string r.name) (.int .i64 r.num) (.string r.text) 32
  have b205 := (Below.refl w190.heap.size w190).alloc (Nat.le_refl _) (.cells #[.int .i64 r.kind, .string r.name, .int .i64 r.num, .string r.text] 32)
  have B206 := hide ((unhide B191).trans (b205.mono (unhide B191).size))
  clear B191
  have F207 := hide ((unhide F192).up b205)
  clear F192
  have F208 := hide ((unhide F193).up b205)
  clear F193
  have F209 := hide ((unhide F194).up b205)
  clear F194
  have F210 := hide ((unhide F195).up b205)
  clear F195
  have F211 := hide ((unhide F196).up b205)
  clear F196
  have F212 := hide ((unhide F197).up b205)
  clear F197
  have F213 := hide ((unhide F198).up b205)
  clear F198
  have F214 := hide ((unhide F199).up b205)
  clear F199
  have X215 := hide ((unhide X200).up b205)
  clear X200
  have X216 := hide ((unhide X201).up b205)
  clear X201
  have X217 := hide ((unhide X202).up b205)
  clear X202
  have X218 := hide ((unhide X203).up b205)
  clear X203
  have X219 := hide x204
  clear x204 b205
  obtain ⟨⟨c220, c221, c222, c223⟩, z224, z225, z226, z227⟩ := (unhide X216).four
  obtain ⟨⟨c228, c229, c230, c231⟩, z232, z233, z234, z235⟩ := (unhide X219).four
  go_wp2_with fail
  generalize w190.alloc (.cells #[.int .i64 r.kind, .string r.name, .int .i64 r.num, .string r.text] 32) = W236 at *
  generalize w190.heap.size = g237 at *
  clear c220 c221 c222 c223 z224 z225 z226 z227 c228 c229 c230 c231 z232 z233 z234 z235
  have HPI := hide (fun (v : Value) (W : World) (h : DiskRd W v (loV d)) => implLogPut_any (loV d) v r W (unhide HSE) (unhide HRF) h)
  have HPS := hide (fun (v : Value) (W : World) (h : DiskRd W v (loV d)) => specLogPut_any (loV d) v r W (unhide HSE) (unhide HRF) h)
  unfold recVal at HPI HPS
  refine (unhide HPI _ W236 (unhide F209)).mono ?_
  rintro e w238 ⟨vp, Sp, rfl, Op, Lp, b⟩
  obtain ⟨rp0, rp1, rp2, rp3, rp4, rp5, rfl⟩ := rd_form (unhide Op).rd
  have B239 := hide ((unhide B206).trans (b.mono (unhide B206).size))
  clear B206
  have F240 := hide ((unhide F207).up b)
  clear F207
  have F241 := hide ((unhide F208).up b)
  clear F208
  have F242 := hide ((unhide F209).up b)
  clear F209
  have F243 := hide ((unhide F210).up b)
  clear F210
  have F244 := hide ((unhide F211).up b)
  clear F211
  have F245 := hide ((unhide F212).up b)
  clear F212
  have F246 := hide ((unhide F213).up b)
  clear F213
  have F247 := hide ((unhide F214).up b)
  clear F214
  have X248 := hide ((unhide X215).up b)
  clear X215
  have X249 := hide ((unhide X216).up b)
  clear X216
  have X250 := hide ((unhide X217).up b)
  clear X217
  have X251 := hide ((unhide X218).up b)
  clear X218
  have X252 := hide ((unhide X219).up b)
  clear X219
  clear b
  have F253 := hide ((unhide Op).rd)
  clear Op Lp HPI
  have x254 := boxF_new4 w238 (.slice rp0 rp1 rp2) (.slice rp3 rp4 rp5) (.int .i64 (lpV (loV d) r).fuse) (.bool (lpV (loV d) r).down) 35
  have b255 := (Below.refl w238.heap.size w238).alloc (Nat.le_refl _) (.cells #[.slice rp0 rp1 rp2, .slice rp3 rp4 rp5, .int .i64 (lpV (loV d) r).fuse, .bool (lpV (loV d) r).down] 35)
  have B256 := hide ((unhide B239).trans (b255.mono (unhide B239).size))
  clear B239
  have F257 := hide ((unhide F240).up b255)
  clear F240
  have F258 := hide ((unhide F241).up b255)
  clear F241
  have F259 := hide ((unhide F242).up b255)
  clear F242
  have F260 := hide ((unhide F243).up b255)
  clear F243
  have F261 := hide ((unhide F244).up b255)
  clear F244
  have F262 := hide ((unhide F245).up b255)
  clear F245
  have F263 := hide ((unhide F246).up b255)
  clear F246
  have F264 := hide ((unhide F247).up b255)
  clear F247
  have F265 := hide ((unhide F253).up b255)
  clear F253
  have X266 := hide ((unhide X248).up b255)
  clear X248
  have X267 := hide ((unhide X249).up b255)
  clear X249
  have X268 := hide ((unhide X250).up b255)
  clear X250
  have X269 := hide ((unhide X251).up b255)
  clear X251
  have X270 := hide ((unhide X252).up b255)
  clear X252
  have X271 := hide x254
  clear x254 b255
  obtain ⟨⟨c272, c273, c274, c275⟩, z276, z277, z278, z279⟩ := (unhide X267).four
  obtain ⟨⟨c280, c281, c282, c283⟩, z284, z285, z286, z287⟩ := (unhide X270).four
  go_wp2_with fail
  generalize w238.alloc (.cells #[.slice rp0 rp1 rp2, .slice rp3 rp4 rp5, .int .i64 (lpV (loV d) r).fuse, .bool (lpV (loV d) r).down] 35) = W288 at *
  generalize w238.heap.size = g289 at *
  clear c272 c273 c274 c275 z276 z277 z278 z279 c280 c281 c282 c283 z284 z285 z286 z287
  refine (unhide HPS _ W288 (unhide F259)).mono ?_
  rintro e w290 ⟨vs, Ss, rfl, Os, Ls, b⟩
  obtain ⟨rs0, rs1, rs2, rs3, rs4, rs5, rfl⟩ := rd_form (unhide Os).rd
  have B291 := hide ((unhide B256).trans (b.mono (unhide B256).size))
  clear B256
  have F292 := hide ((unhide F257).up b)
  clear F257
  have F293 := hide ((unhide F258).up b)
  clear F258
  have F294 := hide ((unhide F259).up b)
  clear F259
  have F295 := hide ((unhide F260).up b)
  clear F260
  have F296 := hide ((unhide F261).up b)
  clear F261
  have F297 := hide ((unhide F262).up b)
  clear F262
  have F298 := hide ((unhide F263).up b)
  clear F263
  have F299 := hide ((unhide F264).up b)
  clear F264
  have F300 := hide ((unhide F265).up b)
  clear F265
  have X301 := hide ((unhide X266).up b)
  clear X266
  have X302 := hide ((unhide X267).up b)
  clear X267
  have X303 := hide ((unhide X268).up b)
  clear X268
  have X304 := hide ((unhide X269).up b)
  clear X269
  have X305 := hide ((unhide X270).up b)
  clear X270
  have X306 := hide ((unhide X271).up b)
  clear X271
  clear b
  have F307 := hide ((unhide Os).rd)
  clear Os Ls HPS
  have x308 := boxF_new4 w290 (.slice rs0 rs1 rs2) (.slice rs3 rs4 rs5) (.int .i64 (lpV (loV d) r).fuse) (.bool (lpV (loV d) r).down) 35
  have b309 := (Below.refl w290.heap.size w290).alloc (Nat.le_refl _) (.cells #[.slice rs0 rs1 rs2, .slice rs3 rs4 rs5, .int .i64 (lpV (loV d) r).fuse, .bool (lpV (loV d) r).down] 35)
  have B310 := hide ((unhide B291).trans (b309.mono (unhide B291).size))
  clear B291
  have F311 := hide ((unhide F292).up b309)
  clear F292
  have F312 := hide ((unhide F293).up b309)
  clear F293
  have F313 := hide ((unhide F294).up b309)
  clear F294
  have F314 := hide ((unhide F295).up b309)
  clear F295
  have F315 := hide ((unhide F296).up b309)
  clear F296
  have F316 := hide ((unhide F297).up b309)
  clear F297
  have F317 := hide ((unhide F298).up b309)
  clear F298
  have F318 := hide ((unhide F299).up b309)
  clear F299
  have F319 := hide ((unhide F300).up b309)
  clear F300
  have F320 := hide ((unhide F307).up b309)
  clear F307
  have X321 := hide ((unhide X301).up b309)
  clear X301
  have X322 := hide ((unhide X302).up b309)
  clear X302
  have X323 := hide ((unhide X303).up b309)
  clear X303
  have X324 := hide ((unhide X304).up b309)
  clear X304
  have X325 := hide ((unhide X305).up b309)
  clear X305
  have X326 := hide ((unhide X306).up b309)
  clear X306
  have X327 := hide x308
  clear x308 b309
  obtain ⟨⟨c328, c329, c330, c331⟩, z332, z333, z334, z335⟩ := (unhide X326).four
  obtain ⟨⟨c336, c337, c338, c339⟩, z340, z341, z342, z343⟩ := (unhide X327).four
  go_wp2_with fail
  generalize w290.alloc (.cells #[.slice rs0 rs1 rs2, .slice rs3 rs4 rs5, .int .i64 (lpV (loV d) r).fuse, .bool (lpV (loV d) r).down] 35) = W344 at *
  generalize w290.heap.size = g345 at *
  clear c328 c329 c330 c331 z332 z333 z334 z335 c336 c337 c338 c339 z340 z341 z342 z343
  refine (peDisk_same (lpV (loV d) r) _ _ W344 (unhide F319) (unhide F320)).mono ?_
  rintro e w346 ⟨rfl, b⟩
  have B347 := hide ((unhide B310).trans (b.mono (unhide B310).size))
  clear B310
  have F348 := hide ((unhide F311).up b)
  clear F311
  have F349 := hide ((unhide F312).up b)
  clear F312
  have F350 := hide ((unhide F313).up b)
  clear F313
  have F351 := hide ((unhide F314).up b)
  clear F314
  have F352 := hide ((unhide F315).up b)
  clear F315
  have F353 := hide ((unhide F316).up b)
  clear F316
  have F354 := hide ((unhide F317).up b)
  clear F317
  have F355 := hide ((unhide F318).up b)
  clear F318
  have F356 := hide ((unhide F319).up b)
  clear F319
  have F357 := hide ((unhide F320).up b)
  clear F320
  have X358 := hide ((unhide X321).up b)
  clear X321
  have X359 := hide ((unhide X322).up b)
  clear X322
  have X360 := hide ((unhide X323).up b)
  clear X323
  have X361 := hide ((unhide X324).up b)
  clear X324
  have X362 := hide ((unhide X325).up b)
  clear X325
  have X363 := hide ((unhide X326).up b)
  clear X326
  have X364 := hide ((unhide X327).up b)
  clear X327
  clear b
  by_cases h0 : lpI (loV d) r = 0
  rotate_left
  · have h0b : (lpI (loV d) r != 0) = true := by simpa using h0
    clear h0
    go_wp2_with fail
    go_ret
    exact ⟨rfl, unhide B347⟩
  obtain ⟨p1, p2, p3, p4⟩ := lp_done h0
  obtain ⟨q1, q2⟩ := log_more (unhide HA).2.2.1 p4 (unhide HRF) p3
  rw [(unhide HA).2.2.2] at q1
  have HSP := hide (small_lpV (unhide HSE) r)
  have HAL := hide (fun (v : Value) (W : World) (h : DiskRd W v (lpV (loV d) r)) => implAll_any (lpV (loV d) r) v W (by have := (unhide HSP).1; omega) (by have := (unhide HSP).2; omega) h)
  unfold RetAll at HAL
  rw [p1, p2] at HAL
  have HLN := hide (show (bookL (loV d) ++ recAll r).length ≤ 1048576 from by have h1 := disk_small (unhide HA).1; have h2 := recBytesL_len r; rw [show recBytesL r = recAll r by simp [recBytesL, p3]] at h2; rw [List.length_append, bookL_len]; omega)
  have HLR := hide (fun (v : Value) (W : World) (h : ByRd W v (bookL (loV d) ++ recAll r)) => implLogRead_any (bookL (loV d) ++ recAll r) v W (unhide HLN) h)
  unfold RetLogR at HLR
  rw [q1, q2] at HLR
  obtain ⟨LL, HLL⟩ : ∃ LL, Hid ((bookL (loV d) ++ recAll r).length = LL) := ⟨_, rfl⟩
  rw [unhide HLL] at HAL HLR
  rw [h0]
  clear h0 p1 p2 p3 p4 q1 q2
  --MARK3
  obtain ⟨⟨c365, c366, c367, c368⟩, z369, z370, z371, z372⟩ := (unhide X363).four
  go_wp2_with fail
  clear c365 c366 c367 c368 z369 z370 z371 z372
  refine (unhide HAL _ w346 (unhide F356)).mono ?_
  rintro e w373 ⟨ba, bn, bc, rfl, HBN, brow, b⟩
  have B374 := hide ((unhide B347).trans (b.mono (unhide B347).size))
  clear B347
  have F375 := hide ((unhide F348).up b)
  clear F348
  have F376 := hide ((unhide F349).up b)
  clear F349
  have F377 := hide ((unhide F350).up b)
  clear F350
  have F378 := hide ((unhide F351).up b)
  clear F351
  have F379 := hide ((unhide F352).up b)
  clear F352
  have F380 := hide ((unhide F353).up b)
  clear F353
  have F381 := hide ((unhide F354).up b)
  clear F354
  have F382 := hide ((unhide F355).up b)
  clear F355
  have F383 := hide ((unhide F356).up b)
  clear F356
  have F384 := hide ((unhide F357).up b)
  clear F357
  have X385 := hide ((unhide X358).up b)
  clear X358
  have X386 := hide ((unhide X359).up b)
  clear X359
  have X387 := hide ((unhide X360).up b)
  clear X360
  have X388 := hide ((unhide X361).up b)
  clear X361
  have X389 := hide ((unhide X362).up b)
  clear X362
  have X390 := hide ((unhide X363).up b)
  clear X363
  have X391 := hide ((unhide X364).up b)
  clear X364
  clear b
  have F392 := hide (brow.rd)
  clear brow HAL
  go_wp2_with fail
  refine (unhide HLR _ w373 (unhide F392)).mono ?_
  rintro e w393 ⟨vx, rfl, Rx, b⟩
  obtain ⟨xa, xn, xc, rfl, hxn⟩ := rs_form (unhide Rx).rd
  have HXN := hide hxn
  clear hxn
  have B394 := hide ((unhide B374).trans (b.mono (unhide B374).size))
  clear B374
  have F395 := hide ((unhide F375).up b)
  clear F375
  have F396 := hide ((unhide F376).up b)
  clear F376
  have F397 := hide ((unhide F377).up b)
  clear F377
  have F398 := hide ((unhide F378).up b)
  clear F378
  have F399 := hide ((unhide F379).up b)
  clear F379
  have F400 := hide ((unhide F380).up b)
  clear F380
  have F401 := hide ((unhide F381).up b)
  clear F381
  have F402 := hide ((unhide F382).up b)
  clear F382
  have F403 := hide ((unhide F383).up b)
  clear F383
  have F404 := hide ((unhide F384).up b)
  clear F384
  have F405 := hide ((unhide F392).up b)
  clear F392
  have X406 := hide ((unhide X385).up b)
  clear X385
  have X407 := hide ((unhide X386).up b)
  clear X386
  have X408 := hide ((unhide X387).up b)
  clear X387
  have X409 := hide ((unhide X388).up b)
  clear X388
  have X410 := hide ((unhide X389).up b)
  clear X389
  have X411 := hide ((unhide X390).up b)
  clear X390
  have X412 := hide ((unhide X391).up b)
  clear X391
  clear b
  have F413 := hide ((unhide Rx).rd)
  clear Rx HLR
  --MARK4
  have hbb : ((LL : Int) == (bn : Int)) = true := by simp [unhide HBN]
  obtain ⟨⟨c414, c415, c416, c417⟩, z418, z419, z420, z421⟩ := (unhide X410).four
  have KP := hide (show ∀ X : World, Below w393.heap.size w393 X → (fun (X : World) => (X.cell? ⟨g237, 0, none⟩ = some (.int .i64 r.kind) ∧ X.cell? ⟨g237, 1, none⟩ = some (.string r.name) ∧ X.cell? ⟨g237, 2, none⟩ = some (.int .i64 r.num) ∧ X.cell? ⟨g237, 3, none⟩ = some (.string r.text)) ∧ Hid (Below w393.heap.size w393 X)) X from fun X b => ⟨((unhide X410).up b).four.1, hide b⟩)
  have BD := hide (show Below w393.heap.size w393 w393.drew from (Below.refl _ _).drew)
  have FL := hide (fun (X : World) (b : Below w393.heap.size w393 X) => (unhide F398).up b)
  have FX := hide (fun (X : World) (b : Below w393.heap.size w393 X) => (unhide F413).up b)
  have HLS := hide (show (loR d).length ≤ 1000 from loR_le d)
  go_upto_region 22 with fail
  go_region_held3 (fun (X : World) => (X.cell? ⟨g237, 0, none⟩ = some (.int .i64 r.kind) ∧ X.cell? ⟨g237, 1, none⟩ = some (.string r.name) ∧ X.cell? ⟨g237, 2, none⟩ = some (.int .i64 r.num) ∧ X.cell? ⟨g237, 3, none⟩ = some (.string r.text)) ∧ Hid (Below w393.heap.size w393 X)) ((first | (refine unhide KP _ ?_; exact unhide (by assumption)) | (refine unhide KP _ ?_; exact ((Below.refl _ _).alloc (Nat.le_refl _) _).drew) | (refine unhide KP _ ?_; exact (((Below.refl _ _).alloc (Nat.le_refl _) _).alloc (by simp) _).drew) | (refine unhide KP _ ?_; exact (Below.refl _ _).alloc (Nat.le_refl _) _) | (refine unhide KP _ ?_; exact ((Below.refl _ _).alloc (Nat.le_refl _) _).alloc (by simp) _) | (refine unhide KP _ ?_; exact (unhide B5).alloc (unhide B5).size _)))
    (first
      | (have bX : Below w393.heap.size w393 (w393.alloc (.cells #[] 32)).drew := ((Below.refl _ _).alloc (Nat.le_refl _) _).drew; have rX : RcRow w393.heap.size (w393.alloc (.cells #[] 32)).drew (.slice (some ⟨w393.heap.size, 0, none⟩) 0 0) [] := (rcLit0 w393 _ (Nat.le_refl _)).up ((Below.refl _ _).drew); refine step_rcsAppend (w := (w393.alloc (.cells #[] 32)).drew) (by first | rfl | simp [Region.wanted, yielded]) (.tmp 130) (.tmp 131) (by rfl) w393.heap.size _ _ [] (loR d) (by rfl) (by rfl) rX (unhide FL _ bX) (by have := unhide HLS; simp; omega) bX.size ?_; intro a5 n5 c5 w5 hn5 r5 gr5; have R5 := hide (show RcRow w393.heap.size w5 (.slice a5 n5 c5) (loR d) by simpa using r5); have B5 := hide (bX.grown gr5 bX.size (fun y hy => rX.ge y hy)); clear hn5 r5 gr5 bX rX)
      | (have bX : Below w393.heap.size w393 ((w393.alloc (.cells #[] 32)).alloc (.cells #[.int .i64 r.kind, .string r.name, .int .i64 r.num, .string r.text] 32)).drew := (((Below.refl _ _).alloc (Nat.le_refl _) _).alloc (by simp) _).drew; have rX : RcRow w393.heap.size ((w393.alloc (.cells #[] 32)).alloc (.cells #[.int .i64 r.kind, .string r.name, .int .i64 r.num, .string r.text] 32)).drew (.slice (some ⟨w393.heap.size, 0, none⟩) 0 0) [] := ((rcLit0 w393 _ (Nat.le_refl _)).up ((Below.refl _ _).alloc (Nat.le_refl _) (.cells #[.int .i64 r.kind, .string r.name, .int .i64 r.num, .string r.text] 32))).up ((Below.refl _ _).drew); refine step_rcsAppend (w := ((w393.alloc (.cells #[] 32)).alloc (.cells #[.int .i64 r.kind, .string r.name, .int .i64 r.num, .string r.text] 32)).drew) (by first | rfl | simp [Region.wanted, yielded]) (.tmp 130) (.tmp 131) (by rfl) w393.heap.size _ _ [] (loR d) (by rfl) (by rfl) rX (unhide FL _ bX) (by have := unhide HLS; simp; omega) bX.size ?_; intro a5 n5 c5 w5 hn5 r5 gr5; have R5 := hide (show RcRow w393.heap.size w5 (.slice a5 n5 c5) (loR d) by simpa using r5); have B5 := hide (bX.grown gr5 bX.size (fun y hy => rX.ge y hy)); have U5 := hide (show RecSRd w5 (.slice (some ⟨w393.heap.size + 1, 0, none⟩) 1 1) [r] from lit_kept (W := w393) (w := w393.alloc (.cells #[] 32)) (by simp) gr5 rfl); clear hn5 r5 gr5 bX rX)
      | (have bX : Below w393.heap.size w393 ((w393.alloc (.cells #[.int .i64 r.kind, .string r.name, .int .i64 r.num, .string r.text] 32)).alloc (.cells #[] 32)).drew := (((Below.refl _ _).alloc (Nat.le_refl _) _).alloc (by simp) _).drew; have rX : RcRow w393.heap.size ((w393.alloc (.cells #[.int .i64 r.kind, .string r.name, .int .i64 r.num, .string r.text] 32)).alloc (.cells #[] 32)).drew (.slice (some ⟨w393.heap.size + 1, 0, none⟩) 0 0) [] := (by have h := (rcLit0 (w393.alloc (.cells #[.int .i64 r.kind, .string r.name, .int .i64 r.num, .string r.text] 32)) w393.heap.size (by simp)).up ((Below.refl _ _).drew); rw [show (w393.alloc (.cells #[.int .i64 r.kind, .string r.name, .int .i64 r.num, .string r.text] 32)).heap.size = w393.heap.size + 1 by simp] at h; exact h); refine step_rcsAppend (w := ((w393.alloc (.cells #[.int .i64 r.kind, .string r.name, .int .i64 r.num, .string r.text] 32)).alloc (.cells #[] 32)).drew) (by first | rfl | simp [Region.wanted, yielded]) (.tmp 130) (.tmp 131) (by rfl) w393.heap.size _ _ [] (loR d) (by rfl) (by rfl) rX (unhide FL _ bX) (by have := unhide HLS; simp; omega) bX.size ?_; intro a5 n5 c5 w5 hn5 r5 gr5; have R5 := hide (show RcRow w393.heap.size w5 (.slice a5 n5 c5) (loR d) by simpa using r5); have B5 := hide (bX.grown gr5 bX.size (fun y hy => rX.ge y hy)); have U5 := hide (show RecSRd w5 (.slice (some ⟨w393.heap.size, 0, none⟩) 1 1) [r] from lit_kept3 gr5); clear hn5 r5 gr5 bX rX)
      | (have _t := U5; refine step_rcsAppend (w := w5) (by first | rfl | simp [Region.wanted, yielded]) (.tmp 132) (.tmp 134) (by rfl) w393.heap.size _ _ (loR d) [r] (by rfl) (by rfl) (unhide R5) (unhide U5) (by have := unhide HLS; simp; omega) (unhide B5).size ?_; intro a6 n6 c6 w6 hn6 r6 gr6; have R6 := hide r6; have B6 := hide ((unhide B5).grown gr6 (unhide B5).size (fun y hy => (unhide R5).ge y hy)); clear hn6 r6 gr6)
      | (have _t := R5; refine step_rcsAppend (w := w5.alloc (.cells #[.int .i64 r.kind, .string r.name, .int .i64 r.num, .string r.text] 32)) (by first | rfl | simp [Region.wanted, yielded]) (.tmp 132) (.tmp 134) (by rfl) w393.heap.size _ _ (loR d) [r] (by rfl) (by rfl) ((unhide R5).up ((Below.refl _ _).alloc (Nat.le_refl _) _)) (rcLit1 w5 r) (by have := unhide HLS; simp; omega) (Nat.le_trans (unhide B5).size (by simp)) ?_; intro a6 n6 c6 w6 hn6 r6 gr6; have R6 := hide r6; have B6 := hide (((unhide B5).alloc (unhide B5).size (.cells #[.int .i64 r.kind, .string r.name, .int .i64 r.num, .string r.text] 32)).grown gr6 (Nat.le_trans (unhide B5).size (by simp)) (fun y hy => (unhide R5).ge y hy)); clear hn6 r6 gr6)
      | (go_at_call 9; have _t := R6; refine (peRecs_same (loR d ++ [r]) _ _ _ (by have := unhide HLS; simp; omega) (unhide FX _ (unhide B6)) (unhide R6).rd).mono ?_; rintro e w7 ⟨rfl, b7⟩; have B7 := hide ((unhide B6).trans (b7.mono (unhide B6).size)); clear b7)
      | fail)
  clear c414 c415 c416 c417 z418 z419 z420 z421
  all_goals
    go_wp2_with fail
    go_ret
    exact ⟨rfl, (unhide B394).trans ((unhide B7).mono (unhide B394).size)⟩
end Go.Proofs.Ytddmomcanakoiaa
