/-
  The program's reader: signs between two.
-/
/-
  DERIVED: THE SHELF's CONTRACTS AT THIS DUMP, IN PLAIN WORDS (tools/lay-plain.mjs out of 'TryzShelf.lean', which tools/lay-shelf.mjs wrote): THE SAME DECLARATIONS UNDER THE SAME NAMES: 'import', 'namespace', 'open', 'def', 'theorem' AND NOTHING ELSE: no command of the shelf's: FOR A HAND-IN. Each laying: the table of numbers ('.._ren') and one theorem, a field a fact of the dump's own or the kernel's comparison; each contract: ONE APPLICATION.
-/
import Derived.Test.YtjfebnplffpmoaaGreatDoorRdrH
import Derived.Shelf.Strconv.Atoi
import Derived.Shelf.Strconv.Itoa0
import Derived.Shelf.Strconv.Itoa1
import Derived.Shelf.LaysM
import Derived.Shelf.Strconv.Itoa2
import Derived.Shelf.Strconv.Itoa3
import Derived.Shelf.Strconv.AtoiErrFast
import Derived.Shelf.Strconv.ParseIntEmpty
import Derived.Shelf.Strconv.AtoiFail
import Derived.Shelf.Strconv.Clone
import Derived.Shelf.Strconv.SyntaxError
import Derived.Shelf.LaysC
import Derived.Shelf.Strconv.ToError
import Derived.Shelf.Strconv.Lower
import Derived.Shelf.Strconv.ParseUint10
import Derived.Shelf.Strconv.ParseUint10Empty
import Derived.Shelf.Strconv.ParseUint10Any
import Derived.Shelf.Strconv.ParseInt10
import Derived.Shelf.Strconv.AtoiLong
import Derived.Shelf.Strconv.AtoiInnerAll
import Derived.Shelf.Strconv.RangeError
import Derived.Shelf.Strconv.ToErrorRange
import Derived.Shelf.Strconv.AtoiAll
import Derived.Shelf.Strconv.ErrVarAll
import Derived.Test.YtjfebnplffpmoaaGreatDoorProg
set_option linter.unusedVariables false
namespace Go.Proofs.YtjfebnplffpmoaaGreatDoor
open Go.RowKit Go.Maps Go.Deep

theorem good_level {ws : List WordV} {f lv n k : Nat} {t : TreeV} (hle : n ≤ ws.length) (h1 : 1 ≤ lv) (h6 : lv ≤ 6) (h : needF (ws.length - n) (.level lv) < f) (hp : parse ws f (.level lv) n = .ok t k) : n < k := by
  have g := parse_good ws f (.level lv) n hle (show modeOk (.level lv) from ⟨h1, h6⟩) h
  rw [hp] at g
  exact g.1
set_option maxHeartbeats 6400000 in
set_option maxRecDepth 20000 in
theorem ilevel_one (ws : List WordV) (hw : ∀ x ∈ ws, WordIs x) (sz F : Nat) (HL : ∀ f', f' ≤ F → SaidIL ws sz f') (HH : SaidIH ws sz F) : SaidIL ws sz (F + 1) := by
  intro lv w rb a c n hl1 hl6 hp HF
  have HRB := hp.pr.lt
  by_cases h5 : 5 < lv
  · have e : lv = 6 := by omega
    subst e
    have P0 := hide hp
    have HR := hide (show parse ws (F + 1) (.level 6) n = parse ws F .ahead n from by rw [parse, if_pos (by omega)])
    have HFF : needF (ws.length - n) .ahead < F := by simp only [needF] at HF ⊢; omega
    rw [unhide HR]
    clear hp h5 hl1 hl6 HR
    go_enter Tryz.func70, Tryz.ntmps70
    go_wp2_with fail
    refine (HH _ rb a c _ (unhide P0) HFF).mono ?_
    intro e w2 hr
    have HX := hide hr
    rcases hr.form with ⟨k, rfl⟩ | ⟨ty, u, rfl⟩
    · exact ⟨rfl, unhide HX⟩
    · clear hr
      go_wp2_with fail
      go_ret
      exact unhide HX
  have hw1 : IntKind.i64.wrap ((lv : Int) + 1) = ((lv + 1 : Nat) : Int) := by rw [IntKind.wrap_i64]; omega
  have h6i : ((lv : Int) == 6) = false := by rw [beq_eq_false_iff_ne]; omega
  have P0 := hide hp
  have HFF : needF (ws.length - n) (.level (lv + 1)) < F := by simp only [needF] at HF ⊢; omega
  have HF2 := hide (show 10 * (ws.length - n) + 4 ≤ F by simp only [needF] at HF; omega)
  have hl5 : lv ≤ 5 := by omega
  have R0 := hide (show parse ws (F + 1) (.level lv) n = _ from by rw [parse, if_neg h5])
  clear HF h5
  generalize parse ws (F + 1) (.level lv) n = R at *
  go_enter Tryz.func70, Tryz.ntmps70
  go_wp2_with fail
  refine (HL F (Nat.le_refl _) (lv + 1) _ rb a c _ (by omega) (by omega) (unhide P0) HFF).mono ?_
  rintro e w1 (⟨k1, hp1, rfl, t1⟩ | ⟨x1, k1, y1, u1, hp1, rfl, p1, t1, f1⟩)
  · exact ⟨rfl, .inl ⟨k1, by rw [unhide R0, hp1]; rfl, rfl, t1⟩⟩
  have G1 := hide (good_level (unhide P0).pr.le (by omega) (by omega) HFF hp1)
  have R1 := unhide R0
  rw [hp1, ok_then] at R1
  replace R1 := hide R1
  clear hp1 R0
  go_wp2_with fail
  go_loopw [5] (fun av wr => ∃ (ty : TypeId) (u : Value) (t : TreeV) (k f' : Nat), av = .iface ty u ∧ Hid (PrK ws sz wr rb a c k) ∧ Hid (Turn [rb] w wr) ∧ Hid (FormsAre w.heap.size wr t.f [.iface ty u]) ∧ Hid (R = parse ws f' (.loop lv t) k ∧ f' ≤ F ∧ 10 * (ws.length - k) < f')) (fun _ wr => ws.length - (match wr.cell? ⟨rb, 1, none⟩ with | some (.int _ x) => x.toNat | _ => 0))
  case atStart => exact ⟨y1, u1, x1, k1, F, rfl, p1, t1, f1, hide ⟨unhide R1, Nat.le_refl _, by have := unhide G1; have := unhide HF2; omega⟩⟩
  case round =>
    clear R1 G1 f1 p1 t1
    obtain ⟨ty, u, t, k, f', rfl, PK, TK, FK, RK⟩ := hrel
    have c1 := (unhide PK).pr.box.triR.1.2.1
    have HC := hide c1
    obtain ⟨f2, rfl⟩ : ∃ f2, f' = f2 + 1 := ⟨f' - 1, by have := (unhide RK).2.2; omega⟩
    have KA := hide (kindAt_any ws hw sz wr rb a c k lv (by omega) (unhide PK))
    have RE := (unhide RK).1
    rw [parse] at RE
    have hkl := kindG_L (lv := lv) ⟨hl1, hl5⟩ (txt ws k)
    by_cases hz : kindG lv (txt ws k) = 0
    · have hz2 : kindL lv (txt ws k) = 0 := by rw [← hkl, hz]; rfl
      rw [if_pos hz2] at RE
      replace RE := hide RE
      clear hkl hz2 c1
      go_wp2_with fail
      refine (unhide KA).mono ?_
      intro e w2 hr
      obtain ⟨rfl, P2, T2⟩ := hr.zero hz
      have TT := hide ((unhide TK).trans (unhide T2))
      have FF := hide ((unhide FK).turnR (unhide T2) HRB)
      clear hr KA hz
      go_wp2_with fail
      go_ret
      exact .inr ⟨_, _, _, _, unhide RE, rfl, P2, TT, FF⟩
    · have hz2 : ¬ kindL lv (txt ws k) = 0 := by rw [← hkl]; omega
      rw [if_neg hz2] at RE
      have HLT := hide (kindG_lt hz)
      obtain ⟨kd, hkd⟩ : ∃ kd, kindG lv (txt ws k) = kd := ⟨_, rfl⟩
      have h0 : kd ≠ 0 := by rw [← hkd]; exact hz
      rw [← hkl, hkd] at RE
      have hkf : 5 ≤ (kd : Int) ∧ (kd : Int) ≤ 17 := by
        rcases kindL_fit lv (txt ws k) with e | e
        · exact absurd e hz2
        · rw [← hkl, hkd] at e; exact e
      have z1 : ((kd : Int) == 0) = false := by rw [beq_eq_false_iff_ne]; omega
      have HKF := hide hkf
      have HF3 : needF (ws.length - (k + 1)) (.level (lv + 1)) < f2 := by
        have := unhide HLT; have := (unhide RK).2.2
        simp only [needF]; omega
      have HLF := hide (HL f2 (by have := (unhide RK).2.1; omega))
      have HFl := hide (unhide RK).2
      replace RE := hide RE
      clear hkl hz2 hz c1 RK hkf
      go_wp2_with fail
      refine (unhide KA).mono ?_
      intro e w2 hr
      obtain ⟨rfl, P2, T2⟩ := hr.hit hkd h0
      have TT := hide ((unhide TK).trans (unhide T2))
      have FF := hide ((unhide FK).turnR (unhide T2) HRB)
      clear hr KA hkd T2 FK TK
      go_wp2_with fail
      refine (unhide HLF (lv + 1) _ rb a c _ (by omega) (by omega) (unhide P2) HF3).mono ?_
      rintro e w3 (⟨k3, hp3, rfl, t3⟩ | ⟨x3, k3, y3, u3, hp3, rfl, p3, t3, f3⟩)
      · exact ⟨rfl, .inl ⟨k3, by rw [unhide RE, hp3]; rfl, rfl, hide ((unhide TT).trans (unhide t3))⟩⟩
      have G3 := hide (good_level (unhide P2).pr.le (by omega) (by omega) HF3 hp3)
      have R3 := unhide RE
      rw [hp3, ok_then] at R3
      have T3 := hide ((unhide TT).trans (unhide t3))
      have F2 := hide ((unhide f3).mono (unhide TT).size)
      have F3 := hide ((unhide FF).turnR (unhide t3) HRB)
      have FN := hide (fun W (h1 : FormsAre w.heap.size W t.f [.iface ty u]) (h2 : FormsAre w.heap.size W x3.f [.iface y3 u3]) => show FormsAre w.heap.size W (node2 (kd : Int) ⟨#[]⟩ t x3).f [.iface 145 (.agg #[.int .i64 (kd : Int), .iface ty u, .iface y3 u3])] from forms_node (h1.app h2) (.inr (.inr (.inr (.inl ⟨_, _, unhide HKF, rfl, rfl⟩)))))
      clear hp3 t3 FF TT RE P2
      by_cases h3 : lv = 3
      · have q3 : ((lv : Int) == 3) = true := by rw [h3]; rfl
        rw [if_pos h3] at R3
        replace R3 := hide R3
        clear h3
        go_wp2_with fail
        go_ret
        exact .inr ⟨_, _, _, _, unhide R3, rfl, p3, T3, hide (unhide FN _ (unhide F3) (unhide F2))⟩
      · have q3 : ((lv : Int) == 3) = false := by rw [beq_eq_false_iff_ne]; omega
        rw [if_neg h3] at R3
        replace R3 := hide R3
        clear h3
        go_wp2_with fail
        go_roundw
        case rel => exact ⟨_, _, _, k3, f2, rfl, p3, T3, hide (unhide FN _ (unhide F3) (unhide F2)), hide ⟨unhide R3, by have := (unhide HFl).1; omega, by have := unhide G3; have := (unhide HFl).2; have := unhide HLT; omega⟩⟩
        case measure =>
          have m1 := (unhide p3).pr.box.triR.1.2.1
          have m2 := unhide HLT
          have m3 := (unhide p3).pr.le
          have m4 := unhide G3
          rw [unhide HC, m1]
          simp only [Int.toNat_natCast]
          omega
end Go.Proofs.YtjfebnplffpmoaaGreatDoor

namespace Go.Proofs
open Go.Shelf
def Tryz.lays172_ren : Go.Shelf.Ren := ⟨fun | 172 => 82 | 244 => 83 | 245 => 84 | 247 => 85 | 279 => 86 | 280 => 87 | 281 => 88 | 282 => 89 | 287 => 90 | 316 => 91 | 171 => 93 | 205 => 92 | 321 => 94 | 322 => 95 | 243 => 96 | 246 => 97 | 283 => 98 | 284 => 99 | 285 => 100 | 286 => 101 | 129 => 103 | 317 => 102 | 318 => 104 | 319 => 105 | 320 => 106 | 337 => 107 | 338 => 108 | n => n, fun | 9 => 9 | 3 => 3 | 75 => 40 | 76 => 153 | 4 => 4 | 5 => 5 | 167 => 158 | 37 => 22 | 0 => 0 | 85 => 159 | 2 => 2 | 168 => 161 | 53 => 164 | 175 => 165 | 46 => 167 | 210 => 169 | 127 => 172 | 145 => 175 | 143 => 173 | 21 => 21 | 171 => 177 | 173 => 180 | 212 => 183 | 51 => 184 | 20 => 20 | 213 => 185 | 232 => 188 | 233 => 189 | 80 => 190 | n => n, fun | 15 => 2 | 16 => 3 | 17 => 4 | 18 => 5 | 19 => 6 | n => n⟩
theorem Tryz.lays172 : Go.Proofs.Lays.n172 Tryz.prog Tryz.lays172_ren := {
  mixed := by kernel_rfl
  f129 := Tryz.func103.trans (congrArg some (by kernel_rfl))
  f171 := Tryz.func93.trans (congrArg some (by kernel_rfl))
  f172 := Tryz.func82.trans (congrArg some (by kernel_rfl))
  f205 := Tryz.func92.trans (congrArg some (by kernel_rfl))
  f243 := Tryz.func96.trans (congrArg some (by kernel_rfl))
  f244 := Tryz.func83.trans (congrArg some (by kernel_rfl))
  f245 := Tryz.func84.trans (congrArg some (by kernel_rfl))
  f246 := Tryz.func97.trans (congrArg some (by kernel_rfl))
  f247 := Tryz.func85.trans (congrArg some (by kernel_rfl))
  f279 := Tryz.func86.trans (congrArg some (by kernel_rfl))
  f280 := Tryz.func87.trans (congrArg some (by kernel_rfl))
  f281 := Tryz.func88.trans (congrArg some (by kernel_rfl))
  f282 := Tryz.func89.trans (congrArg some (by kernel_rfl))
  f283 := Tryz.func98.trans (congrArg some (by kernel_rfl))
  f284 := Tryz.func99.trans (congrArg some (by kernel_rfl))
  f285 := Tryz.func100.trans (congrArg some (by kernel_rfl))
  f286 := Tryz.func101.trans (congrArg some (by kernel_rfl))
  f287 := Tryz.func90.trans (congrArg some (by kernel_rfl))
  f316 := Tryz.func91.trans (congrArg some (by kernel_rfl))
  f317 := Tryz.func102.trans (congrArg some (by kernel_rfl))
  f318 := Tryz.func104.trans (congrArg some (by kernel_rfl))
  f319 := Tryz.func105.trans (congrArg some (by kernel_rfl))
  f320 := Tryz.func106.trans (congrArg some (by kernel_rfl))
  f321 := Tryz.func94.trans (congrArg some (by kernel_rfl))
  f322 := Tryz.func95.trans (congrArg some (by kernel_rfl))
  f337 := Tryz.func107.trans (congrArg some (by kernel_rfl))
  f338 := Tryz.func108.trans (congrArg some (by kernel_rfl))
  t0 := Tryz.underlying0
  a0 := Tryz.isAgg0
  z0 := Tryz.sizeOf0
  v0 := Tryz.zeroValue0
  t2 := Tryz.underlying2
  a2 := Tryz.isAgg2
  z2 := Tryz.sizeOf2
  v2 := Tryz.zeroValue2
  t3 := Tryz.underlying3
  a3 := Tryz.isAgg3
  z3 := Tryz.sizeOf3
  v3 := Tryz.zeroValue3
  t4 := Tryz.underlying4
  a4 := Tryz.isAgg4
  z4 := Tryz.sizeOf4
  v4 := Tryz.zeroValue4
  t5 := Tryz.underlying5
  a5 := Tryz.isAgg5
  z5 := Tryz.sizeOf5
  v5 := Tryz.zeroValue5
  t9 := Tryz.underlying9
  a9 := Tryz.isAgg9
  z9 := Tryz.sizeOf9
  v9 := Tryz.zeroValue9
  t20 := Tryz.underlying20
  a20 := Tryz.isAgg20
  z20 := Tryz.sizeOf20
  v20 := Tryz.zeroValue20
  t21 := Tryz.underlying21
  a21 := Tryz.isAgg21
  z21 := Tryz.sizeOf21
  v21 := Tryz.zeroValue21
  t37 := Tryz.underlying22
  a37 := Tryz.isAgg22
  z37 := Tryz.sizeOf22
  v37 := Tryz.zeroValue22
  t46 := Tryz.underlying167
  a46 := Tryz.isAgg167
  z46 := Tryz.sizeOf167
  v46 := Tryz.zeroValue167
  t51 := Tryz.underlying184
  a51 := Tryz.isAgg184
  z51 := Tryz.sizeOf184
  v51 := Tryz.zeroValue184
  t53 := Tryz.underlying164
  a53 := Tryz.isAgg164
  z53 := Tryz.sizeOf164
  v53 := Tryz.zeroValue164
  t75 := Tryz.underlying40
  a75 := Tryz.isAgg40
  z75 := Tryz.sizeOf40
  v75 := Tryz.zeroValue40
  t76 := Tryz.underlying153
  a76 := Tryz.isAgg153
  z76 := Tryz.sizeOf153
  v76 := Tryz.zeroValue153
  t85 := Tryz.underlying159
  a85 := Tryz.isAgg159
  z85 := Tryz.sizeOf159
  v85 := Tryz.zeroValue159
  t127 := Tryz.underlying172
  a127 := Tryz.isAgg172
  z127 := Tryz.sizeOf172
  v127 := Tryz.zeroValue172
  t143 := Tryz.underlying173
  a143 := Tryz.isAgg173
  z143 := Tryz.sizeOf173
  v143 := Tryz.zeroValue173
  t145 := Tryz.underlying175
  a145 := Tryz.isAgg175
  z145 := Tryz.sizeOf175
  v145 := Tryz.zeroValue175
  t167 := Tryz.underlying158
  a167 := Tryz.isAgg158
  z167 := Tryz.sizeOf158
  v167 := Tryz.zeroValue158
  t168 := Tryz.underlying161
  a168 := Tryz.isAgg161
  z168 := Tryz.sizeOf161
  v168 := Tryz.zeroValue161
  t171 := Tryz.underlying177
  a171 := Tryz.isAgg177
  z171 := Tryz.sizeOf177
  v171 := Tryz.zeroValue177
  t173 := Tryz.underlying180
  a173 := Tryz.isAgg180
  z173 := Tryz.sizeOf180
  v173 := Tryz.zeroValue180
  t175 := Tryz.underlying165
  a175 := Tryz.isAgg165
  z175 := Tryz.sizeOf165
  v175 := Tryz.zeroValue165
  t210 := Tryz.underlying169
  a210 := Tryz.isAgg169
  z210 := Tryz.sizeOf169
  v210 := Tryz.zeroValue169
  t212 := Tryz.underlying183
  a212 := Tryz.isAgg183
  z212 := Tryz.sizeOf183
  v212 := Tryz.zeroValue183
  t213 := Tryz.underlying185
  a213 := Tryz.isAgg185
  z213 := Tryz.sizeOf185
  t232 := Tryz.underlying188
  a232 := Tryz.isAgg188
  z232 := Tryz.sizeOf188
  v232 := Tryz.zeroValue188
  t233 := Tryz.underlying189
  a233 := Tryz.isAgg189
  z233 := Tryz.sizeOf189
  v233 := Tryz.zeroValue189
  g15 := by kernel_rfl
  g16 := by kernel_rfl
  g17 := by kernel_rfl
  g18 := by kernel_rfl
  g19 := by kernel_rfl }
open Go.RowKit in
/-- strconv.Atoi: "Atoi is equivalent to ParseInt(s, 10, 0), converted to type int.": AT A DECIMAL NUMERAL OF AT MOST 18 BYTES: its value, and a nil error. The world behind the call: the one new row that the library's '[]byte(s)' lays. (LAID: no walk: one application.) -/
theorem Tryz.strconv_Atoi (s : ByteArray) (n : Int) (hl : s.size ≤ 18) (h : Lib.atoi s.data.toList = some n) (w : World) :
    Calls Tryz.prog 82 #[.string s] w fun e w' => e = .returned (.tuple #[.int .i64 n, .nilIface]) ∧ ∃ t, w' = Lib.bytesWorld w 5 t := Any.strconv_Atoi Tryz.lays172 s n hl h w
end Go.Proofs
