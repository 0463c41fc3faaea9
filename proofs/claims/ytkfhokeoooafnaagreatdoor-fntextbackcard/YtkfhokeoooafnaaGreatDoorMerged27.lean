/-
  DERIVED: THE SHELF's CONTRACTS AT THIS DUMP, IN PLAIN WORDS (tools/lay-plain.mjs out of 'TryzShelf.lean', which tools/lay-shelf.mjs wrote): THE SAME DECLARATIONS UNDER THE SAME NAMES: 'import', 'namespace', 'open', 'def', 'theorem' AND NOTHING ELSE: no command of the shelf's: FOR A HAND-IN. Each laying: the table of numbers ('.._ren') and one theorem, a field a fact of the dump's own or the kernel's comparison; each contract: ONE APPLICATION.
-/
/-
  The program's text of a form: bareText, textAt and what they call write what 'bareT' says.
-/
/-
  The program's textAt, form by form.
-/
import Derived.Shelf.Strings.Builder1
import Derived.Shelf.Strings.Builder2
import Derived.Shelf.Strings.OnBuilder
import Derived.Shelf.Strconv.Atoi
import Derived.Shelf.Strconv.Itoa0
import Derived.Shelf.Strconv.Itoa1
import Derived.Shelf.LaysM
import Derived.Shelf.Strconv.Itoa2
import Derived.Shelf.Strconv.Itoa3
import Derived.Shelf.Strconv.AtoiErrFast
import Derived.Shelf.Strconv.ParseIntEmpty
import Derived.Shelf.Strconv.AtoiFail
import Derived.Shelf.Strconv.Clone
import Derived.Shelf.Strconv.SyntaxError
import Derived.Shelf.LaysC
import Derived.Shelf.Strconv.ToError
import Derived.Shelf.Strconv.Lower
import Derived.Shelf.Strconv.ParseUint10
import Derived.Shelf.Strconv.ParseUint10Empty
import Derived.Shelf.Strconv.ParseUint10Any
import Derived.Shelf.Strconv.ParseInt10
import Derived.Shelf.Strconv.AtoiLong
import Derived.Shelf.Strconv.AtoiInnerAll
import Derived.Shelf.Strconv.RangeError
import Derived.Shelf.Strconv.ToErrorRange
import Derived.Shelf.Strconv.AtoiAll
import Derived.Shelf.Strconv.ErrVarAll
import Derived.Test.YtkfhokeoooafnaaGreatDoorProg
import Derived.Test.YtkfhokeoooafnaaGreatDoorSpecShowTwo
import Derived.Test.YtkfhokeoooafnaaGreatDoorFormDeep
import Derived.Deep.RegionHeld3
namespace Go.Proofs
open Go.Shelf
def Tryz.lays156_ren : Go.Shelf.Ren := ⟨fun | 156 => 63 | 165 => 86 | 166 => 87 | 169 => 88 | 240 => 111 | 241 => 112 | 276 => 123 | 277 => 124 | n => n, fun | 31 => 67 | 9 => 9 | 3 => 3 | 4 => 4 | 0 => 0 | 20 => 20 | 72 => 158 | 76 => 160 | 70 => 156 | 37 => 22 | 75 => 45 | 127 => 187 | 164 => 136 | 5 => 5 | 80 => 110 | n => n, fun | n => n⟩
theorem Tryz.lays156 : Go.Proofs.Lays.n156 Tryz.prog Tryz.lays156_ren := {
  mixed := by kernel_rfl
  f156 := Tryz.func63.trans (congrArg some (by kernel_rfl))
  f165 := Tryz.func86.trans (congrArg some (by kernel_rfl))
  f166 := Tryz.func87.trans (congrArg some (by kernel_rfl))
  f169 := Tryz.func88.trans (congrArg some (by kernel_rfl))
  f240 := Tryz.func111.trans (congrArg some (by kernel_rfl))
  f241 := Tryz.func112.trans (congrArg some (by kernel_rfl))
  f276 := Tryz.func123.trans (congrArg some (by kernel_rfl))
  f277 := Tryz.func124.trans (congrArg some (by kernel_rfl))
  t0 := Tryz.underlying0
  a0 := Tryz.isAgg0
  z0 := Tryz.sizeOf0
  v0 := Tryz.zeroValue0
  t3 := Tryz.underlying3
  a3 := Tryz.isAgg3
  z3 := Tryz.sizeOf3
  v3 := Tryz.zeroValue3
  t4 := Tryz.underlying4
  a4 := Tryz.isAgg4
  z4 := Tryz.sizeOf4
  v4 := Tryz.zeroValue4
  t9 := Tryz.underlying9
  a9 := Tryz.isAgg9
  z9 := Tryz.sizeOf9
  v9 := Tryz.zeroValue9
  t20 := Tryz.underlying20
  a20 := Tryz.isAgg20
  z20 := Tryz.sizeOf20
  v20 := Tryz.zeroValue20
  t31 := Tryz.underlying67
  a31 := Tryz.isAgg67
  z31 := Tryz.sizeOf67
  v31 := Tryz.zeroValue67
  t37 := Tryz.underlying22
  a37 := Tryz.isAgg22
  z37 := Tryz.sizeOf22
  v37 := Tryz.zeroValue22
  t70 := Tryz.underlying156
  a70 := Tryz.isAgg156
  z70 := Tryz.sizeOf156
  v70 := Tryz.zeroValue156
  t72 := Tryz.underlying158
  a72 := Tryz.isAgg158
  z72 := Tryz.sizeOf158
  v72 := Tryz.zeroValue158
  t75 := Tryz.underlying45
  a75 := Tryz.isAgg45
  z75 := Tryz.sizeOf45
  v75 := Tryz.zeroValue45
  t76 := Tryz.underlying160
  a76 := Tryz.isAgg160
  z76 := Tryz.sizeOf160
  v76 := Tryz.zeroValue160
  t127 := Tryz.underlying187
  a127 := Tryz.isAgg187
  z127 := Tryz.sizeOf187
  v127 := Tryz.zeroValue187
  t164 := Tryz.underlying136
  a164 := Tryz.isAgg136
  z164 := Tryz.sizeOf136
  v164 := Tryz.zeroValue136 }
theorem Tryz.Builder_Extra_156 : Builder.Extra Tryz.prog Tryz.lays156_ren := {
  sizeBuilder := by kernel_rfl
  liesBuilder := by kernel_rfl
  t5 := Tryz.underlying5
  a5 := Tryz.isAgg5
  z5 := Tryz.sizeOf5
  v5 := Tryz.zeroValue5
  infoByte := by kernel_rfl
  cellsByte := by kernel_rfl
  sizeByte := by kernel_rfl
  neB5 := by decide }
open Go.RowKit in
/-- strings.Join: "Join concatenates the elements of its first argument to create a single string. The separator string sep is placed between elements in the resulting string.": HOWEVER MANY ELEMENTS. Below the heap's end the world is as it was. (LAID: no walk: one application.) -/
theorem Tryz.strings_Join (bk o c : Nat) (xs : List ByteArray) (sep : ByteArray) (w : World) (hcells : ∀ (j : Nat) x, xs[j]? = some x → w.cell? ⟨bk, o + j, none⟩ = some (.string x)) (hbk : bk < w.heap.size) (hN : xs.length ≤ 140737488355328) (hcap : xs.length ≤ c) (hlen : (Lib.join (xs.map (·.data.toList)) sep.data.toList).length ≤ 140737488355328) :
    Calls Tryz.prog 63 #[.slice (some ⟨bk, o, none⟩) xs.length c, .string sep] w fun e w' => e = .returned (.string ⟨(Lib.join (xs.map (·.data.toList)) sep.data.toList).toArray⟩) ∧ Below w.heap.size w w' := Any.strings_Join Tryz.lays156 Tryz.Builder_Extra_156 bk o c xs sep w hcells hbk hN hcap hlen
def Tryz.laysM171_ren : Go.Shelf.Ren := ⟨fun | 171 => 36 | 243 => 61 | 246 => 85 | 283 => 107 | 284 => 108 | 285 => 109 | 286 => 110 | 129 => 119 | 317 => 118 | 318 => 120 | 319 => 121 | 320 => 122 | 337 => 128 | 338 => 129 | n => n, fun | 3 => 3 | 9 => 9 | 2 => 2 | 4 => 4 | 171 => 181 | 0 => 0 | 53 => 182 | 37 => 22 | 5 => 5 | 173 => 185 | 212 => 190 | 51 => 191 | 20 => 20 | 213 => 192 | 46 => 194 | 232 => 199 | 233 => 200 | n => n, fun | 17 => 2 | 18 => 4 | 19 => 5 | n => n⟩
theorem Tryz.laysM171 : Go.Proofs.LaysM.n171 Tryz.prog Tryz.laysM171_ren := {
  mixed := by kernel_rfl
  f129 := Tryz.func119.trans (congrArg some (by kernel_rfl))
  f171 := Tryz.func36.trans (congrArg some (by kernel_rfl))
  f243 := Tryz.func61.trans (congrArg some (by kernel_rfl))
  f246 := Tryz.func85.trans (congrArg some (by kernel_rfl))
  f283 := Tryz.func107.trans (congrArg some (by kernel_rfl))
  f284 := Tryz.func108.trans (congrArg some (by kernel_rfl))
  f285 := Tryz.func109.trans (congrArg some (by kernel_rfl))
  f286 := Tryz.func110.trans (congrArg some (by kernel_rfl))
  f317 := Tryz.func118.trans (congrArg some (by kernel_rfl))
  f318 := Tryz.func120.trans (congrArg some (by kernel_rfl))
  f319 := Tryz.func121.trans (congrArg some (by kernel_rfl))
  f320 := Tryz.func122.trans (congrArg some (by kernel_rfl))
  f337 := Tryz.func128.trans (congrArg some (by kernel_rfl))
  f338 := Tryz.func129.trans (congrArg some (by kernel_rfl))
  t0 := Tryz.underlying0
  a0 := Tryz.isAgg0
  z0 := Tryz.sizeOf0
  v0 := Tryz.zeroValue0
  t2 := Tryz.underlying2
  a2 := Tryz.isAgg2
  z2 := Tryz.sizeOf2
  v2 := Tryz.zeroValue2
  t3 := Tryz.underlying3
  a3 := Tryz.isAgg3
  z3 := Tryz.sizeOf3
  v3 := Tryz.zeroValue3
  t4 := Tryz.underlying4
  a4 := Tryz.isAgg4
  z4 := Tryz.sizeOf4
  v4 := Tryz.zeroValue4
  t5 := Tryz.underlying5
  a5 := Tryz.isAgg5
  z5 := Tryz.sizeOf5
  v5 := Tryz.zeroValue5
  t9 := Tryz.underlying9
  a9 := Tryz.isAgg9
  z9 := Tryz.sizeOf9
  v9 := Tryz.zeroValue9
  t20 := Tryz.underlying20
  a20 := Tryz.isAgg20
  z20 := Tryz.sizeOf20
  v20 := Tryz.zeroValue20
  t37 := Tryz.underlying22
  a37 := Tryz.isAgg22
  z37 := Tryz.sizeOf22
  v37 := Tryz.zeroValue22
  t46 := Tryz.underlying194
  a46 := Tryz.isAgg194
  z46 := Tryz.sizeOf194
  v46 := Tryz.zeroValue194
  t51 := Tryz.underlying191
  a51 := Tryz.isAgg191
  z51 := Tryz.sizeOf191
  v51 := Tryz.zeroValue191
  t53 := Tryz.underlying182
  a53 := Tryz.isAgg182
  z53 := Tryz.sizeOf182
  v53 := Tryz.zeroValue182
  t171 := Tryz.underlying181
  a171 := Tryz.isAgg181
  z171 := Tryz.sizeOf181
  v171 := Tryz.zeroValue181
  t173 := Tryz.underlying185
  a173 := Tryz.isAgg185
  z173 := Tryz.sizeOf185
  v173 := Tryz.zeroValue185
  t212 := Tryz.underlying190
  a212 := Tryz.isAgg190
  z212 := Tryz.sizeOf190
  v212 := Tryz.zeroValue190
  t213 := Tryz.underlying192
  a213 := Tryz.isAgg192
  z213 := Tryz.sizeOf192
  t232 := Tryz.underlying199
  a232 := Tryz.isAgg199
  z232 := Tryz.sizeOf199
  v232 := Tryz.zeroValue199
  t233 := Tryz.underlying200
  a233 := Tryz.isAgg200
  z233 := Tryz.sizeOf200
  v233 := Tryz.zeroValue200
  g17 := by kernel_rfl
  g18 := by kernel_rfl
  g19 := by kernel_rfl
  i0 := by kernel_rfl
  i2 := by kernel_rfl
  i3 := by kernel_rfl
  i4 := by kernel_rfl
  i5 := by kernel_rfl
  i9 := by kernel_rfl
  i20 := by kernel_rfl
  i37 := by kernel_rfl
  i46 := by kernel_rfl
  i51 := by kernel_rfl
  i53 := by kernel_rfl
  i171 := by kernel_rfl
  i173 := by kernel_rfl
  i212 := by kernel_rfl
  i232 := by kernel_rfl
  i233 := by kernel_rfl
  m17 := by kernel_rfl
  m18 := by kernel_rfl
  m19 := by kernel_rfl }
open Go.RowKit Go.Sort Go.Lib in
/-- strconv.Itoa: "Itoa is equivalent to FormatInt(int64(i), 10).": i's DECIMAL NUMERAL ('Lib.itoa': a '-' where i is negative, then the digits), FOR EVERY int. The world behind the call: the world before it, new blocks behind the heap (the library's 'var a [24]byte'), draws. (LAID: no walk: one application.) -/
theorem Tryz.strconv_Itoa (n : Int) (h0 : -9223372036854775808 ≤ n) (h1 : n ≤ 9223372036854775807) (w : World) (htab : Lib.TabIs Tryz.prog w "internal/strconv.uint64pow10" .u64 Lib.pow10Tab) :
    Calls Tryz.prog 36 #[.int .i64 n] w fun e w' => e = .returned (.string ⟨(Lib.itoa n).toArray⟩) ∧ ∃ k os, w' = grow (w.drewN k) os := Any.strconv_Itoa Tryz.laysM171 n h0 h1 w htab
end Go.Proofs

namespace Go.Proofs.YtkfhokeoooafnaaGreatDoor
open Go.RowKit Go.Maps Go.Deep
set_option linter.unusedVariables false

/-- a node comes back, of this kind -/
def RetKind (k : Int) (e : Ending) : Prop := ∃ a b c, e = .returned (.agg #[.int .i64 k, .int .i64 a, .string b, .int .i64 c])

theorem node_num (n : Int) (w : World) : Calls Tryz.prog 162 #[.agg #[.int .i64 n]] w fun e w' => RetKind 1 e ∧ Below w.heap.size w w' := by
  go_enter Tryz.func162, Tryz.ntmps162
  go_wp2
  exact bodyPost_ret (v := .agg #[.int .i64 1, .int .i64 n, .string ⟨#[]⟩, .int .i64 0]) (by simp [results, Tryz.results162, go_sem]) rfl ⟨⟨_, _, _, rfl⟩, by first | exact ((Below.refl _ _).alloc (Nat.le_refl _) _).alloc (by simp) _ | exact (((Below.refl _ _).alloc (Nat.le_refl _) _).alloc (by simp) _).alloc (by simp; omega) _⟩
theorem node_name (s : ByteArray) (w : World) : Calls Tryz.prog 164 #[.agg #[.string s]] w fun e w' => RetKind 2 e ∧ Below w.heap.size w w' := by
  go_enter Tryz.func164, Tryz.ntmps164
  go_wp2
  exact bodyPost_ret (v := .agg #[.int .i64 2, .int .i64 0, .string s, .int .i64 0]) (by simp [results, Tryz.results164, go_sem]) rfl ⟨⟨_, _, _, rfl⟩, by first | exact ((Below.refl _ _).alloc (Nat.le_refl _) _).alloc (by simp) _ | exact (((Below.refl _ _).alloc (Nat.le_refl _) _).alloc (by simp) _).alloc (by simp; omega) _⟩
theorem node_ahead (k : Int) (t0 : TypeId) (u0 : Value) (w : World) : Calls Tryz.prog 166 #[.agg #[.int .i64 k, .iface t0 u0]] w fun e w' => RetKind k e ∧ Below w.heap.size w w' := by
  go_enter Tryz.func166, Tryz.ntmps166
  go_wp2
  exact bodyPost_ret (v := .agg #[.int .i64 k, .int .i64 0, .string ⟨#[]⟩, .int .i64 1]) (by simp [results, Tryz.results166, go_sem]) rfl ⟨⟨_, _, _, rfl⟩, by first | exact ((Below.refl _ _).alloc (Nat.le_refl _) _).alloc (by simp) _ | exact (((Below.refl _ _).alloc (Nat.le_refl _) _).alloc (by simp) _).alloc (by simp; omega) _⟩
theorem node_sign (k : Int) (t0 t1 : TypeId) (u0 u1 : Value) (w : World) : Calls Tryz.prog 168 #[.agg #[.int .i64 k, .iface t0 u0, .iface t1 u1]] w fun e w' => RetKind k e ∧ Below w.heap.size w w' := by
  go_enter Tryz.func168, Tryz.ntmps168
  go_wp2
  exact bodyPost_ret (v := .agg #[.int .i64 k, .int .i64 0, .string ⟨#[]⟩, .int .i64 2]) (by simp [results, Tryz.results168, go_sem]) rfl ⟨⟨_, _, _, rfl⟩, by first | exact ((Below.refl _ _).alloc (Nat.le_refl _) _).alloc (by simp) _ | exact (((Below.refl _ _).alloc (Nat.le_refl _) _).alloc (by simp) _).alloc (by simp; omega) _⟩
theorem node_call (k : Int) (a : Option Addr) (n cap : Nat) (w : World) : Calls Tryz.prog 170 #[.agg #[.int .i64 k, .slice a n cap]] w fun e w' => RetKind k e ∧ Below w.heap.size w w' := by
  go_enter Tryz.func170, Tryz.ntmps170
  go_wp2
  exact bodyPost_ret (v := .agg #[.int .i64 k, .int .i64 0, .string ⟨#[]⟩, .int .i64 n]) (by simp [results, Tryz.results170, go_sem]) rfl ⟨⟨_, _, _, rfl⟩, by first | exact ((Below.refl _ _).alloc (Nat.le_refl _) _).alloc (by simp) _ | exact (((Below.refl _ _).alloc (Nat.le_refl _) _).alloc (by simp) _).alloc (by simp; omega) _⟩
theorem node_if (t0 t1 t2 : TypeId) (u0 u1 u2 : Value) (w : World) : Calls Tryz.prog 172 #[.agg #[.iface t0 u0, .iface t1 u1, .iface t2 u2]] w fun e w' => RetKind 21 e ∧ Below w.heap.size w w' := by
  go_enter Tryz.func172, Tryz.ntmps172
  go_wp2
  exact bodyPost_ret (v := .agg #[.int .i64 21, .int .i64 0, .string ⟨#[]⟩, .int .i64 3]) (by simp [results, Tryz.results172, go_sem]) rfl ⟨⟨_, _, _, rfl⟩, by first | exact ((Below.refl _ _).alloc (Nat.le_refl _) _).alloc (by simp) _ | exact (((Below.refl _ _).alloc (Nat.le_refl _) _).alloc (by simp) _).alloc (by simp; omega) _⟩
theorem node_let (s : ByteArray) (t0 t1 : TypeId) (u0 u1 : Value) (w : World) : Calls Tryz.prog 174 #[.agg #[.string s, .iface t0 u0, .iface t1 u1]] w fun e w' => RetKind 22 e ∧ Below w.heap.size w w' := by
  go_enter Tryz.func174, Tryz.ntmps174
  go_wp2
  exact bodyPost_ret (v := .agg #[.int .i64 22, .int .i64 0, .string s, .int .i64 2]) (by simp [results, Tryz.results174, go_sem]) rfl ⟨⟨_, _, _, rfl⟩, by first | exact ((Below.refl _ _).alloc (Nat.le_refl _) _).alloc (by simp) _ | exact (((Below.refl _ _).alloc (Nat.le_refl _) _).alloc (by simp) _).alloc (by simp; omega) _⟩
theorem node_rep (s : ByteArray) (t0 t1 t2 : TypeId) (u0 u1 u2 : Value) (w : World) : Calls Tryz.prog 176 #[.agg #[.string s, .iface t0 u0, .iface t1 u1, .iface t2 u2]] w fun e w' => RetKind 23 e ∧ Below w.heap.size w w' := by
  go_enter Tryz.func176, Tryz.ntmps176
  go_wp2
  exact bodyPost_ret (v := .agg #[.int .i64 23, .int .i64 0, .string s, .int .i64 3]) (by simp [results, Tryz.results176, go_sem]) rfl ⟨⟨_, _, _, rfl⟩, by first | exact ((Below.refl _ _).alloc (Nat.le_refl _) _).alloc (by simp) _ | exact (((Below.refl _ _).alloc (Nat.le_refl _) _).alloc (by simp) _).alloc (by simp; omega) _⟩

/-- a form's text, from any world above one -/
def TextSaid (W : World) (v : Value) (T : ByteArray) : Prop := ∀ w, Below W.heap.size W w → Calls Tryz.prog 17 #[v] w fun e w' => e = .returned (.string T) ∧ Below W.heap.size W w'
def TextAtSaid (W : World) (v : Value) (least : Int) (T : ByteArray) : Prop := ∀ w, Below W.heap.size W w → Calls Tryz.prog 62 #[v, .int .i64 least] w fun e w' => e = .returned (.string T) ∧ Below W.heap.size W w'

theorem shapes_level (k : Nat) (h1 : 1 ≤ k) (h : k < shapesL.length) : shapesL[k].2.1 = levelN (k : Int) := by
  rw [shapes_len] at h
  match k, h1, h with
  | 1, _, _ | 2, _, _ | 3, _, _ | 4, _, _ | 5, _, _ | 6, _, _ | 7, _, _ | 8, _, _ | 9, _, _ | 10, _, _ | 11, _, _ | 12, _, _ | 13, _, _ | 14, _, _ | 15, _, _ | 16, _, _ | 17, _, _ | 18, _, _ | 19, _, _ | 20, _, _ | 21, _, _ | 22, _, _ | 23, _, _ => rfl
  | n + 24, _, h => exact absurd h (by omega)
theorem shapes_sign (k : Nat) (h5 : 5 ≤ k) (h : k ≤ 17) (hl : k < shapesL.length) : shapesL[k].2.2 = signN (k : Int) := by
  match k, h5, h with
  | 5, _, _ | 6, _, _ | 7, _, _ | 8, _, _ | 9, _, _ | 10, _, _ | 11, _, _ | 12, _, _ | 13, _, _ | 14, _, _ | 15, _, _ | 16, _, _ | 17, _, _ => rfl
  | n + 18, _, h => exact absurd h (by omega)
theorem ShapesIn.level {w : World} (h : ShapesIn w) (k : Nat) (h1 : 1 ≤ k) (h23 : k ≤ 23) : w.cell? ⟨0, k * 3 + 1, none⟩ = some (.int .i64 (levelN (k : Int))) := by
  rw [← shapes_level k h1 (by rw [shapes_len]; omega)]
  exact (h.2 k (by rw [shapes_len]; omega)).2.1
theorem ShapesIn.sign {w : World} (h : ShapesIn w) (k : Nat) (h5 : 5 ≤ k) (h17 : k ≤ 17) : w.cell? ⟨0, k * 3 + 2, none⟩ = some (.string (signN (k : Int))) := by
  rw [← shapes_sign k h5 h17 (by rw [shapes_len]; omega)]
  exact (h.2 k (by rw [shapes_len]; omega)).2.2

end Go.Proofs.YtkfhokeoooafnaaGreatDoor

namespace Go.Proofs.YtkfhokeoooafnaaGreatDoor
open Go.RowKit Go.Maps Go.Deep
set_option linter.unusedVariables false

/-- what textAt makes of a text -/
theorem field_kind (k a : Int) (b : ByteArray) (c : Int) (w : World) : (Instr.field 51 (.agg #[.int .i64 k, .int .i64 a, .string b, .int .i64 c]) 0).run Tryz.prog w = .ok (.int .i64 k) w := by kernel_rfl
def atT (lv least : Int) (T : ByteArray) : ByteArray := if lv < least then ⟨#[40]⟩ ++ T ++ ⟨#[41]⟩ else T
set_option maxRecDepth 100000 in
set_option maxHeartbeats 1600000 in
theorem textAt_num (n : Int) (least : Int) (W : World) (hsh : ShapesIn W) (T : ByteArray) (hT : (T.size : Int) ≤ 24000) (h : TextSaid W (.iface 74 (.agg #[.int .i64 n])) T) :
    TextAtSaid W (.iface 74 (.agg #[.int .i64 n])) least (atT (levelN (1 : Nat)) least T) := by
  intro w hw
  have hsw := hsh.below hw (Nat.le_refl _)
  have hg := hsw.1
  have hcell := hsw.level 1 (by omega) (by omega)
  replace hcell : w.cell? ⟨0, 4, none⟩ = some (.int .i64 7) := hcell
  have hlv : levelN ((1 : Nat) : Int) = 7 := rfl
  rw [hlv]
  clear hlv
  have HT := hide h
  clear h hsh hsw
  by_cases hle : (7 : Int) < least
  · have hA : atT 7 least T = ⟨#[40]⟩ ++ T ++ ⟨#[41]⟩ := by unfold atT; rw [if_pos hle]
    rw [hA]
    clear hA
    go_enter Tryz.func62, Tryz.ntmps62
    go_wp2_with fail
    refine (node_num _ _).mono ?_
    rintro e w1 ⟨⟨a, b, c, rfl⟩, hb1⟩
    have hc1 := (hb1.cell (by exact hg)).trans hcell
    have hW1 : Below W.heap.size W w1 := hw.trans (hb1.mono hw.size)
    have hs1 := hb1.size
    have hfd := field_kind 1 a b c w1
    go_wp2_with (first
      | (go_at_call 17; refine (unhide HT _ hW1).mono ?_; rintro e w2 ⟨rfl, hb2⟩))
    go_ret
    exact ⟨rfl, hb2⟩
  · have hA : atT 7 least T = T := by unfold atT; rw [if_neg hle]
    rw [hA]
    clear hA
    go_enter Tryz.func62, Tryz.ntmps62
    go_wp2_with fail
    refine (node_num _ _).mono ?_
    rintro e w1 ⟨⟨a, b, c, rfl⟩, hb1⟩
    have hc1 := (hb1.cell (by exact hg)).trans hcell
    have hW1 : Below W.heap.size W w1 := hw.trans (hb1.mono hw.size)
    have hs1 := hb1.size
    have hfd := field_kind 1 a b c w1
    go_wp2_with (first
      | (go_at_call 17; refine (unhide HT _ hW1).mono ?_; rintro e w2 ⟨rfl, hb2⟩))
    go_ret
    exact ⟨rfl, hb2⟩
set_option maxRecDepth 100000 in
set_option maxHeartbeats 1600000 in
theorem textAt_name (s : ByteArray) (least : Int) (W : World) (hsh : ShapesIn W) (T : ByteArray) (hT : (T.size : Int) ≤ 24000) (h : TextSaid W (.iface 77 (.agg #[.string s])) T) :
    TextAtSaid W (.iface 77 (.agg #[.string s])) least (atT (levelN (2 : Nat)) least T) := by
  intro w hw
  have hsw := hsh.below hw (Nat.le_refl _)
  have hg := hsw.1
  have hcell := hsw.level 2 (by omega) (by omega)
  replace hcell : w.cell? ⟨0, 7, none⟩ = some (.int .i64 7) := hcell
  have hlv : levelN ((2 : Nat) : Int) = 7 := rfl
  rw [hlv]
  clear hlv
  have HT := hide h
  clear h hsh hsw
  by_cases hle : (7 : Int) < least
  · have hA : atT 7 least T = ⟨#[40]⟩ ++ T ++ ⟨#[41]⟩ := by unfold atT; rw [if_pos hle]
    rw [hA]
    clear hA
    go_enter Tryz.func62, Tryz.ntmps62
    go_wp2_with fail
    refine (node_name _ _).mono ?_
    rintro e w1 ⟨⟨a, b, c, rfl⟩, hb1⟩
    have hc1 := (hb1.cell (by exact hg)).trans hcell
    have hW1 : Below W.heap.size W w1 := hw.trans (hb1.mono hw.size)
    have hs1 := hb1.size
    have hfd := field_kind 2 a b c w1
    go_wp2_with (first
      | (go_at_call 17; refine (unhide HT _ hW1).mono ?_; rintro e w2 ⟨rfl, hb2⟩))
    go_ret
    exact ⟨rfl, hb2⟩
  · have hA : atT 7 least T = T := by unfold atT; rw [if_neg hle]
    rw [hA]
    clear hA
    go_enter Tryz.func62, Tryz.ntmps62
    go_wp2_with fail
    refine (node_name _ _).mono ?_
    rintro e w1 ⟨⟨a, b, c, rfl⟩, hb1⟩
    have hc1 := (hb1.cell (by exact hg)).trans hcell
    have hW1 : Below W.heap.size W w1 := hw.trans (hb1.mono hw.size)
    have hs1 := hb1.size
    have hfd := field_kind 2 a b c w1
    go_wp2_with (first
      | (go_at_call 17; refine (unhide HT _ hW1).mono ?_; rintro e w2 ⟨rfl, hb2⟩))
    go_ret
    exact ⟨rfl, hb2⟩
set_option maxRecDepth 100000 in
set_option maxHeartbeats 1600000 in
theorem textAt_ahead (kn : Nat) (h1 : 1 ≤ kn) (h23 : kn ≤ 23) (t0 : TypeId) (u0 : Value) (least : Int) (W : World) (hsh : ShapesIn W) (T : ByteArray) (hT : (T.size : Int) ≤ 24000) (h : TextSaid W (.iface 79 (.agg #[.int .i64 (kn : Int), .iface t0 u0])) T) :
    TextAtSaid W (.iface 79 (.agg #[.int .i64 (kn : Int), .iface t0 u0])) least (atT (levelN (kn : Nat)) least T) := by
  intro w hw
  have hsw := hsh.below hw (Nat.le_refl _)
  have hg := hsw.1
  have hcell := hsw.level kn (by omega) (by omega)
  generalize levelN (kn : Nat) = lv at *
  have hi1 : (0 : Int) ≤ kn := by omega
  have hi2 : (kn : Int) < 24 := by omega
  have HT := hide h
  clear h hsh hsw
  by_cases hle : (lv : Int) < least
  · have hA : atT lv least T = ⟨#[40]⟩ ++ T ++ ⟨#[41]⟩ := by unfold atT; rw [if_pos hle]
    rw [hA]
    clear hA
    go_enter Tryz.func62, Tryz.ntmps62
    go_wp2_with fail
    refine (node_ahead _ _ _ _).mono ?_
    rintro e w1 ⟨⟨a, b, c, rfl⟩, hb1⟩
    have hc1 := (hb1.cell (by exact hg)).trans hcell
    have hW1 : Below W.heap.size W w1 := hw.trans (hb1.mono hw.size)
    have hs1 := hb1.size
    have hfd := field_kind (kn : Int) a b c w1
    go_wp2_with (first
      | (go_at_call 17; refine (unhide HT _ hW1).mono ?_; rintro e w2 ⟨rfl, hb2⟩))
    go_ret
    exact ⟨rfl, hb2⟩
  · have hA : atT lv least T = T := by unfold atT; rw [if_neg hle]
    rw [hA]
    clear hA
    go_enter Tryz.func62, Tryz.ntmps62
    go_wp2_with fail
    refine (node_ahead _ _ _ _).mono ?_
    rintro e w1 ⟨⟨a, b, c, rfl⟩, hb1⟩
    have hc1 := (hb1.cell (by exact hg)).trans hcell
    have hW1 : Below W.heap.size W w1 := hw.trans (hb1.mono hw.size)
    have hs1 := hb1.size
    have hfd := field_kind (kn : Int) a b c w1
    go_wp2_with (first
      | (go_at_call 17; refine (unhide HT _ hW1).mono ?_; rintro e w2 ⟨rfl, hb2⟩))
    go_ret
    exact ⟨rfl, hb2⟩
set_option maxRecDepth 100000 in
set_option maxHeartbeats 1600000 in
theorem textAt_sign (kn : Nat) (h1 : 1 ≤ kn) (h23 : kn ≤ 23) (t0 t1 : TypeId) (u0 u1 : Value) (least : Int) (W : World) (hsh : ShapesIn W) (T : ByteArray) (hT : (T.size : Int) ≤ 24000) (h : TextSaid W (.iface 82 (.agg #[.int .i64 (kn : Int), .iface t0 u0, .iface t1 u1])) T) :
    TextAtSaid W (.iface 82 (.agg #[.int .i64 (kn : Int), .iface t0 u0, .iface t1 u1])) least (atT (levelN (kn : Nat)) least T) := by
  intro w hw
  have hsw := hsh.below hw (Nat.le_refl _)
  have hg := hsw.1
  have hcell := hsw.level kn (by omega) (by omega)
  generalize levelN (kn : Nat) = lv at *
  have hi1 : (0 : Int) ≤ kn := by omega
  have hi2 : (kn : Int) < 24 := by omega
  have HT := hide h
  clear h hsh hsw
  by_cases hle : (lv : Int) < least
  · have hA : atT lv least T = ⟨#[40]⟩ ++ T ++ ⟨#[41]⟩ := by unfold atT; rw [if_pos hle]
    rw [hA]
    clear hA
    go_enter Tryz.func62, Tryz.ntmps62
    go_wp2_with fail
    refine (node_sign _ _ _ _ _ _).mono ?_
    rintro e w1 ⟨⟨a, b, c, rfl⟩, hb1⟩
    have hc1 := (hb1.cell (by exact hg)).trans hcell
    have hW1 : Below W.heap.size W w1 := hw.trans (hb1.mono hw.size)
    have hs1 := hb1.size
    have hfd := field_kind (kn : Int) a b c w1
    go_wp2_with (first
      | (go_at_call 17; refine (unhide HT _ hW1).mono ?_; rintro e w2 ⟨rfl, hb2⟩))
    go_ret
    exact ⟨rfl, hb2⟩
  · have hA : atT lv least T = T := by unfold atT; rw [if_neg hle]
    rw [hA]
    clear hA
    go_enter Tryz.func62, Tryz.ntmps62
    go_wp2_with fail
    refine (node_sign _ _ _ _ _ _).mono ?_
    rintro e w1 ⟨⟨a, b, c, rfl⟩, hb1⟩
    have hc1 := (hb1.cell (by exact hg)).trans hcell
    have hW1 : Below W.heap.size W w1 := hw.trans (hb1.mono hw.size)
    have hs1 := hb1.size
    have hfd := field_kind (kn : Int) a b c w1
    go_wp2_with (first
      | (go_at_call 17; refine (unhide HT _ hW1).mono ?_; rintro e w2 ⟨rfl, hb2⟩))
    go_ret
    exact ⟨rfl, hb2⟩
set_option maxRecDepth 100000 in
set_option maxHeartbeats 1600000 in
theorem textAt_call (kn : Nat) (h1 : 1 ≤ kn) (h23 : kn ≤ 23) (ad : Option Addr) (n cap : Nat) (least : Int) (W : World) (hsh : ShapesIn W) (T : ByteArray) (hT : (T.size : Int) ≤ 24000) (h : TextSaid W (.iface 86 (.agg #[.int .i64 (kn : Int), .slice ad n cap])) T) :
    TextAtSaid W (.iface 86 (.agg #[.int .i64 (kn : Int), .slice ad n cap])) least (atT (levelN (kn : Nat)) least T) := by
  intro w hw
  have hsw := hsh.below hw (Nat.le_refl _)
  have hg := hsw.1
  have hcell := hsw.level kn (by omega) (by omega)
  generalize levelN (kn : Nat) = lv at *
  have hi1 : (0 : Int) ≤ kn := by omega
  have hi2 : (kn : Int) < 24 := by omega
  have HT := hide h
  clear h hsh hsw
  by_cases hle : (lv : Int) < least
  · have hA : atT lv least T = ⟨#[40]⟩ ++ T ++ ⟨#[41]⟩ := by unfold atT; rw [if_pos hle]
    rw [hA]
    clear hA
    go_enter Tryz.func62, Tryz.ntmps62
    go_wp2_with fail
    refine (node_call _ _ _ _ _).mono ?_
    rintro e w1 ⟨⟨a, b, c, rfl⟩, hb1⟩
    have hc1 := (hb1.cell (by exact hg)).trans hcell
    have hW1 : Below W.heap.size W w1 := hw.trans (hb1.mono hw.size)
    have hs1 := hb1.size
    have hfd := field_kind (kn : Int) a b c w1
    go_wp2_with (first
      | (go_at_call 17; refine (unhide HT _ hW1).mono ?_; rintro e w2 ⟨rfl, hb2⟩))
    go_ret
    exact ⟨rfl, hb2⟩
  · have hA : atT lv least T = T := by unfold atT; rw [if_neg hle]
    rw [hA]
    clear hA
    go_enter Tryz.func62, Tryz.ntmps62
    go_wp2_with fail
    refine (node_call _ _ _ _ _).mono ?_
    rintro e w1 ⟨⟨a, b, c, rfl⟩, hb1⟩
    have hc1 := (hb1.cell (by exact hg)).trans hcell
    have hW1 : Below W.heap.size W w1 := hw.trans (hb1.mono hw.size)
    have hs1 := hb1.size
    have hfd := field_kind (kn : Int) a b c w1
    go_wp2_with (first
      | (go_at_call 17; refine (unhide HT _ hW1).mono ?_; rintro e w2 ⟨rfl, hb2⟩))
    go_ret
    exact ⟨rfl, hb2⟩
set_option maxRecDepth 100000 in
set_option maxHeartbeats 1600000 in
theorem textAt_if (t0 t1 t2 : TypeId) (u0 u1 u2 : Value) (least : Int) (W : World) (hsh : ShapesIn W) (T : ByteArray) (hT : (T.size : Int) ≤ 24000) (h : TextSaid W (.iface 89 (.agg #[.iface t0 u0, .iface t1 u1, .iface t2 u2])) T) :
    TextAtSaid W (.iface 89 (.agg #[.iface t0 u0, .iface t1 u1, .iface t2 u2])) least (atT (levelN (21 : Nat)) least T) := by
  intro w hw
  have hsw := hsh.below hw (Nat.le_refl _)
  have hg := hsw.1
  have hcell := hsw.level 21 (by omega) (by omega)
  replace hcell : w.cell? ⟨0, 64, none⟩ = some (.int .i64 0) := hcell
  have hlv : levelN ((21 : Nat) : Int) = 0 := rfl
  rw [hlv]
  clear hlv
  have HT := hide h
  clear h hsh hsw
  by_cases hle : (0 : Int) < least
  · have hA : atT 0 least T = ⟨#[40]⟩ ++ T ++ ⟨#[41]⟩ := by unfold atT; rw [if_pos hle]
    rw [hA]
    clear hA
    go_enter Tryz.func62, Tryz.ntmps62
    go_wp2_with fail
    refine (node_if _ _ _ _ _ _ _).mono ?_
    rintro e w1 ⟨⟨a, b, c, rfl⟩, hb1⟩
    have hc1 := (hb1.cell (by exact hg)).trans hcell
    have hW1 : Below W.heap.size W w1 := hw.trans (hb1.mono hw.size)
    have hs1 := hb1.size
    have hfd := field_kind 21 a b c w1
    go_wp2_with (first
      | (go_at_call 17; refine (unhide HT _ hW1).mono ?_; rintro e w2 ⟨rfl, hb2⟩))
    go_ret
    exact ⟨rfl, hb2⟩
  · have hA : atT 0 least T = T := by unfold atT; rw [if_neg hle]
    rw [hA]
    clear hA
    go_enter Tryz.func62, Tryz.ntmps62
    go_wp2_with fail
    refine (node_if _ _ _ _ _ _ _).mono ?_
    rintro e w1 ⟨⟨a, b, c, rfl⟩, hb1⟩
    have hc1 := (hb1.cell (by exact hg)).trans hcell
    have hW1 : Below W.heap.size W w1 := hw.trans (hb1.mono hw.size)
    have hs1 := hb1.size
    have hfd := field_kind 21 a b c w1
    go_wp2_with (first
      | (go_at_call 17; refine (unhide HT _ hW1).mono ?_; rintro e w2 ⟨rfl, hb2⟩))
    go_ret
    exact ⟨rfl, hb2⟩
set_option maxRecDepth 100000 in
set_option maxHeartbeats 1600000 in
theorem textAt_let (s : ByteArray) (t0 t1 : TypeId) (u0 u1 : Value) (least : Int) (W : World) (hsh : ShapesIn W) (T : ByteArray) (hT : (T.size : Int) ≤ 24000) (h : TextSaid W (.iface 91 (.agg #[.string s, .iface t0 u0, .iface t1 u1])) T) :
    TextAtSaid W (.iface 91 (.agg #[.string s, .iface t0 u0, .iface t1 u1])) least (atT (levelN (22 : Nat)) least T) := by
  intro w hw
  have hsw := hsh.below hw (Nat.le_refl _)
  have hg := hsw.1
  have hcell := hsw.level 22 (by omega) (by omega)
  replace hcell : w.cell? ⟨0, 67, none⟩ = some (.int .i64 0) := hcell
  have hlv : levelN ((22 : Nat) : Int) = 0 := rfl
  rw [hlv]
  clear hlv
  have HT := hide h
  clear h hsh hsw
  by_cases hle : (0 : Int) < least
  · have hA : atT 0 least T = ⟨#[40]⟩ ++ T ++ ⟨#[41]⟩ := by unfold atT; rw [if_pos hle]
    rw [hA]
    clear hA
    go_enter Tryz.func62, Tryz.ntmps62
    go_wp2_with fail
    refine (node_let _ _ _ _ _ _).mono ?_
    rintro e w1 ⟨⟨a, b, c, rfl⟩, hb1⟩
    have hc1 := (hb1.cell (by exact hg)).trans hcell
    have hW1 : Below W.heap.size W w1 := hw.trans (hb1.mono hw.size)
    have hs1 := hb1.size
    have hfd := field_kind 22 a b c w1
    go_wp2_with (first
      | (go_at_call 17; refine (unhide HT _ hW1).mono ?_; rintro e w2 ⟨rfl, hb2⟩))
    go_ret
    exact ⟨rfl, hb2⟩
  · have hA : atT 0 least T = T := by unfold atT; rw [if_neg hle]
    rw [hA]
    clear hA
    go_enter Tryz.func62, Tryz.ntmps62
    go_wp2_with fail
    refine (node_let _ _ _ _ _ _).mono ?_
    rintro e w1 ⟨⟨a, b, c, rfl⟩, hb1⟩
    have hc1 := (hb1.cell (by exact hg)).trans hcell
    have hW1 : Below W.heap.size W w1 := hw.trans (hb1.mono hw.size)
    have hs1 := hb1.size
    have hfd := field_kind 22 a b c w1
    go_wp2_with (first
      | (go_at_call 17; refine (unhide HT _ hW1).mono ?_; rintro e w2 ⟨rfl, hb2⟩))
    go_ret
    exact ⟨rfl, hb2⟩
set_option maxRecDepth 100000 in
set_option maxHeartbeats 1600000 in
theorem textAt_rep (s : ByteArray) (t0 t1 t2 : TypeId) (u0 u1 u2 : Value) (least : Int) (W : World) (hsh : ShapesIn W) (T : ByteArray) (hT : (T.size : Int) ≤ 24000) (h : TextSaid W (.iface 93 (.agg #[.string s, .iface t0 u0, .iface t1 u1, .iface t2 u2])) T) :
    TextAtSaid W (.iface 93 (.agg #[.string s, .iface t0 u0, .iface t1 u1, .iface t2 u2])) least (atT (levelN (23 : Nat)) least T) := by
  intro w hw
  have hsw := hsh.below hw (Nat.le_refl _)
  have hg := hsw.1
  have hcell := hsw.level 23 (by omega) (by omega)
  replace hcell : w.cell? ⟨0, 70, none⟩ = some (.int .i64 0) := hcell
  have hlv : levelN ((23 : Nat) : Int) = 0 := rfl
  rw [hlv]
  clear hlv
  have HT := hide h
  clear h hsh hsw
  by_cases hle : (0 : Int) < least
  · have hA : atT 0 least T = ⟨#[40]⟩ ++ T ++ ⟨#[41]⟩ := by unfold atT; rw [if_pos hle]
    rw [hA]
    clear hA
    go_enter Tryz.func62, Tryz.ntmps62
    go_wp2_with fail
    refine (node_rep _ _ _ _ _ _ _ _).mono ?_
    rintro e w1 ⟨⟨a, b, c, rfl⟩, hb1⟩
    have hc1 := (hb1.cell (by exact hg)).trans hcell
    have hW1 : Below W.heap.size W w1 := hw.trans (hb1.mono hw.size)
    have hs1 := hb1.size
    have hfd := field_kind 23 a b c w1
    go_wp2_with (first
      | (go_at_call 17; refine (unhide HT _ hW1).mono ?_; rintro e w2 ⟨rfl, hb2⟩))
    go_ret
    exact ⟨rfl, hb2⟩
  · have hA : atT 0 least T = T := by unfold atT; rw [if_neg hle]
    rw [hA]
    clear hA
    go_enter Tryz.func62, Tryz.ntmps62
    go_wp2_with fail
    refine (node_rep _ _ _ _ _ _ _ _).mono ?_
    rintro e w1 ⟨⟨a, b, c, rfl⟩, hb1⟩
    have hc1 := (hb1.cell (by exact hg)).trans hcell
    have hW1 : Below W.heap.size W w1 := hw.trans (hb1.mono hw.size)
    have hs1 := hb1.size
    have hfd := field_kind 23 a b c w1
    go_wp2_with (first
      | (go_at_call 17; refine (unhide HT _ hW1).mono ?_; rintro e w2 ⟨rfl, hb2⟩))
    go_ret
    exact ⟨rfl, hb2⟩

end Go.Proofs.YtkfhokeoooafnaaGreatDoor
