/-
  What the outcomes make of a gatherer, and what is told of them.
-/
/-
  errors.As where the target is a variable of the struct type feedError: for no error, and for an error of that very type. (After the guide's worked example for a pointer target.)
-/
import Derived.Test.YtknkdbfgfcgkiaaGreatDoorMerged25
import Derived.Test.YtknkdbfgfcgkiaaGreatDoorMerged43
import Derived.BigRegion
import Derived.Test.YtknkdbfgfcgkiaaGreatDoorMerged3
import Derived.WalkKit
import Derived.LaidEql
import Derived.Stop.Asserts
import Derived.RowKitTokens
import Derived.Deep.MidRow
set_option linter.unusedVariables false
namespace Go.Proofs.YtknkdbfgfcgkiaaGreatDoor
open Go.RowKit Go.Maps Go.Deep

theorem staleLeave_any (gT : Nat) (w : World) : Calls Tryz.prog 182 #[.agg #[], .pointer (some ⟨gT, 0, none⟩)] w fun e w' => e = .returned (.tuple #[]) ∧ Below w.heap.size w w' := by
  have b := (Below.refl w.heap.size w).alloc (Nat.le_refl _) (.cells #[] 115)
  go_enter Tryz.func182, Tryz.ntmps182
  go_wp2_with fail
  refine bodyPost_end (results_none rfl _ _ _) rfl ?_
  exact ⟨rfl, b⟩
set_option maxHeartbeats 1600000 in
theorem keptLeave_any (gT gb n c k : Nat) (wv old : Value) (w : World) (hk : k < n) (hn : n ≤ 6) (hgT : gT < w.heap.size) (h1 : w.cell? ⟨gT, 1, none⟩ = some (.slice (some ⟨gb, 0, none⟩) n c)) (hgb : gb < w.heap.size) (h2 : w.cell? ⟨gb, k, none⟩ = some old) (h3 : w.frozen? ⟨gb, k, none⟩ = false) (hwv : ∃ a m c, wv = .slice a m c) :
    Calls Tryz.prog 183 #[.agg #[.int .i64 (k : Int), wv], .pointer (some ⟨gT, 0, none⟩)] w fun e w' => e = .returned (.tuple #[]) ∧ ∃ W, Below w.heap.size w W ∧ w' = W.setCell ⟨gb, k, none⟩ wv := by
  obtain ⟨wa, wn, wc, rfl⟩ := hwv
  have bx := boxF_new w [.int .i64 (k : Int), .slice wa wn wc] 119
  have b := (Below.refl w.heap.size w).alloc (Nat.le_refl _) (.cells #[.int .i64 (k : Int), .slice wa wn wc] 119)
  simp only [List.toArray] at bx
  have e1 := (b.cell (show gT < w.heap.size from hgT)).trans h1
  have e2 := (b.cell (show gb < w.heap.size from hgb)).trans h2
  have e3 := (b.frozen (show gb < w.heap.size from hgb)).trans h3
  go_enter Tryz.func183, Tryz.ntmps183
  go_wp2_with fail
  generalize w.alloc (.cells #[.int .i64 (k : Int), .slice wa wn wc] 119) = W at *
  obtain ⟨x0, x1⟩ := bx.1.two
  have hkn : ((k : Int) < (n : Int)) := by omega
  have HB := hide b
  clear bx b h1 h2 h3
  go_region
  go_wp2_with fail
  refine bodyPost_end (results_none rfl _ _ _) rfl ?_
  exact ⟨rfl, W.drew, (unhide HB).drew, rfl⟩
theorem to_shown_shown (u : Value) (w : World) : (Instr.typeAssert (.iface 134 u) 75 134 true).run Tryz.prog w = .ok (.tuple #[u, .bool true]) w := by kernel_rfl
theorem to_stale_shown (u : Value) (w : World) : (Instr.typeAssert (.iface 115 u) 75 134 true).run Tryz.prog w = .ok (.tuple #[.agg #[.int .i64 0, .slice none 0 0, .slice none 0 0, .slice none 0 0], .bool false]) w := by kernel_rfl
theorem to_stale_stale (u : Value) (w : World) : (Instr.typeAssert (.iface 115 u) 75 115 true).run Tryz.prog w = .ok (.tuple #[u, .bool true]) w := by kernel_rfl
theorem to_tooLarge_shown (u : Value) (w : World) : (Instr.typeAssert (.iface 136 u) 75 134 true).run Tryz.prog w = .ok (.tuple #[.agg #[.int .i64 0, .slice none 0 0, .slice none 0 0, .slice none 0 0], .bool false]) w := by kernel_rfl
theorem to_tooLarge_stale (u : Value) (w : World) : (Instr.typeAssert (.iface 136 u) 75 115 true).run Tryz.prog w = .ok (.tuple #[.agg #[], .bool false]) w := by kernel_rfl
theorem to_tooLarge_tooLarge (u : Value) (w : World) : (Instr.typeAssert (.iface 136 u) 75 136 true).run Tryz.prog w = .ok (.tuple #[u, .bool true]) w := by kernel_rfl
theorem to_kept_shown (u : Value) (w : World) : (Instr.typeAssert (.iface 119 u) 75 134 true).run Tryz.prog w = .ok (.tuple #[.agg #[.int .i64 0, .slice none 0 0, .slice none 0 0, .slice none 0 0], .bool false]) w := by kernel_rfl
theorem to_kept_stale (u : Value) (w : World) : (Instr.typeAssert (.iface 119 u) 75 115 true).run Tryz.prog w = .ok (.tuple #[.agg #[], .bool false]) w := by kernel_rfl
theorem to_kept_tooLarge (u : Value) (w : World) : (Instr.typeAssert (.iface 119 u) 75 136 true).run Tryz.prog w = .ok (.tuple #[.agg #[.int .i64 0, .slice none 0 0], .bool false]) w := by kernel_rfl
set_option maxHeartbeats 1600000 in
theorem tell_stale (w : World) : Calls Tryz.prog 36 #[.iface 115 (.agg #[])] w fun e w' => e = .returned (.tuple #[.agg #[.slice none 0 0, .slice none 0 0], .int .i64 3]) ∧ Below w.heap.size w w' := by
  have t0 := to_stale_shown
  have t1 := to_stale_stale
  have b := (Below.refl w.heap.size w).alloc (Nat.le_refl _) (.cells #[.slice none 0 0, .slice none 0 0] 39)
  go_enter Tryz.func36, Tryz.ntmps36
  go_wp2_with fail
  refine bodyPost_ret (v := .tuple #[.agg #[.slice none 0 0, .slice none 0 0], .int .i64 3]) ?_ rfl ?_
  · simp [results, Tryz.results36, go_sem]
  exact ⟨rfl, by first | exact b | exact b.alloc b.size _ | exact (b.alloc b.size _).alloc (b.alloc b.size _).size _⟩
set_option maxHeartbeats 1600000 in
theorem tell_too (i : Int) (a : Option Addr) (n c : Nat) (w : World) : Calls Tryz.prog 36 #[.iface 136 (.agg #[.int .i64 i, .slice a n c])] w fun e w' => e = .returned (.tuple #[.agg #[.slice none 0 0, .slice none 0 0], .int .i64 4]) ∧ Below w.heap.size w w' := by
  have t0 := to_tooLarge_shown
  have t1 := to_tooLarge_stale
  have t2 := to_tooLarge_tooLarge
  have b := (Below.refl w.heap.size w).alloc (Nat.le_refl _) (.cells #[.slice none 0 0, .slice none 0 0] 39)
  go_enter Tryz.func36, Tryz.ntmps36
  go_wp2_with fail
  refine bodyPost_ret (v := .tuple #[.agg #[.slice none 0 0, .slice none 0 0], .int .i64 4]) ?_ rfl ?_
  · simp [results, Tryz.results36, go_sem]
  exact ⟨rfl, by first | exact b | exact b.alloc b.size _ | exact (b.alloc b.size _).alloc (b.alloc b.size _).size _⟩
set_option maxHeartbeats 1600000 in
theorem tell_kept (i : Int) (a : Option Addr) (n c : Nat) (w : World) : Calls Tryz.prog 36 #[.iface 119 (.agg #[.int .i64 i, .slice a n c])] w fun e w' => e = .returned (.tuple #[.agg #[.slice none 0 0, .slice none 0 0], .int .i64 0]) ∧ Below w.heap.size w w' := by
  have t0 := to_kept_shown
  have t1 := to_kept_stale
  have t2 := to_kept_tooLarge
  have b := (Below.refl w.heap.size w).alloc (Nat.le_refl _) (.cells #[.slice none 0 0, .slice none 0 0] 39)
  go_enter Tryz.func36, Tryz.ntmps36
  go_wp2_with fail
  refine bodyPost_ret (v := .tuple #[.agg #[.slice none 0 0, .slice none 0 0], .int .i64 0]) ?_ rfl ?_
  · simp [results, Tryz.results36, go_sem]
  exact ⟨rfl, by first | exact b | exact b.alloc b.size _ | exact (b.alloc b.size _).alloc (b.alloc b.size _).size _⟩
set_option maxHeartbeats 1600000 in
theorem tell_shown (i : Int) (a ua ja : Option Addr) (n c un uc jn jc : Nat) (w : World) : Calls Tryz.prog 36 #[.iface 134 (.agg #[.int .i64 i, .slice a n c, .slice ua un uc, .slice ja jn jc])] w fun e w' => e = .returned (.tuple #[.agg #[.slice ua un uc, .slice ja jn jc], .int .i64 1]) ∧ Below w.heap.size w w' := by
  have t0 := to_shown_shown
  have b := (Below.refl w.heap.size w).alloc (Nat.le_refl _) (.cells #[.slice ua un uc, .slice ja jn jc] 39)
  go_enter Tryz.func36, Tryz.ntmps36
  go_wp2_with fail
  refine bodyPost_ret (v := .tuple #[.agg #[.slice ua un uc, .slice ja jn jc], .int .i64 1]) ?_ rfl ?_
  · simp [results, Tryz.results36, go_sem]
  exact ⟨rfl, by first | exact b | exact b.alloc b.size _ | exact (b.alloc b.size _).alloc (b.alloc b.size _).size _⟩
set_option maxHeartbeats 1600000 in
theorem shownLeave_any (gT gb n c k : Nat) (u0 old : Value) (a2 : Option Addr) (n2 c2 : Nat) (wa : Option Addr) (wn wc : Nat) (ua : Option Addr) (un uc : Nat) (ja : Option Addr) (jn jc : Nat) (ms : List MarkV) (S : List Nat) (w : World) (hk : k < n) (hn : n ≤ 6) (hT : BoxF w gT [u0, .slice (some ⟨gb, 0, none⟩) n c, .slice a2 n2 c2]) (hgb : gb < w.heap.size) (hne : gT ≠ gb) (h2 : w.cell? ⟨gb, k, none⟩ = some old) (h3 : w.frozen? ⟨gb, k, none⟩ = false) (hs : SmallMarkS ms) (hl : ms.length ≤ 1000000) (hj : MarkSOwn S w (.slice ja jn jc) ms) (hS : ∀ k ∈ S, k ≠ gb) :
    Calls Tryz.prog 187 #[.agg #[.int .i64 (k : Int), .slice wa wn wc, .slice ua un uc, .slice ja jn jc], .pointer (some ⟨gT, 0, none⟩)] w fun e w' => e = .returned (.tuple #[]) ∧ ∃ W W2 ma mc, Hid (Below w.heap.size w W) ∧ Hid (Below W.heap.size (W.setCell ⟨gb, k, none⟩ (.slice wa wn wc)) W2) ∧ Hid (MkRow W.heap.size W2 (.slice ma ms.length mc) ms) ∧ w' = W2.setCell ⟨gT, 2, none⟩ (.slice ma ms.length mc) := by
  have bx := boxF_new w [.int .i64 (k : Int), .slice wa wn wc, .slice ua un uc, .slice ja jn jc] 134
  have b := (Below.refl w.heap.size w).alloc (Nat.le_refl _) (.cells #[.int .i64 (k : Int), .slice wa wn wc, .slice ua un uc, .slice ja jn jc] 134)
  simp only [List.toArray] at bx
  have hTl := hT.1.1
  have HT := hide hT
  have HK := hide (fun (W : World) (bW : Below w.heap.size w W) => keptLeave_any gT gb n c k (.slice wa wn wc) old W hk hn (Nat.lt_of_lt_of_le hTl bW.size) (hT.up bW).three.1.2.1 (Nat.lt_of_lt_of_le hgb bW.size) ((bW.cell (show gb < w.heap.size from hgb)).trans h2) ((bW.frozen (show gb < w.heap.size from hgb)).trans h3) ⟨_, _, _, rfl⟩)
  have HJ := hide hj
  have HS := hide hS
  have HM := hide (fun (W : World) (h : MarkSRd W (.slice ja jn jc) ms) => ownStamp_any ms (.slice ja jn jc) W hs hl h)
  clear hj hS h2 h3 hs
  go_enter Tryz.func187, Tryz.ntmps187
  go_wp2_with fail
  generalize w.alloc (.cells #[.int .i64 (k : Int), .slice wa wn wc, .slice ua un uc, .slice ja jn jc] 134) = W0 at *
  obtain ⟨⟨x0, x1, x2, x3⟩, -⟩ := bx.four
  go_wp2_with fail
  refine (unhide HK _ b).mono ?_
  rintro e w1 ⟨rfl, W, bW, hw1⟩
  have hw := bW.size
  have hx0 := bx.1.1
  have hbw := b.size
  have T1 : Turn [gb] W (W.setCell ⟨gb, k, none⟩ (.slice wa wn wc)) := (Turn.refl _ _).setCell (by simp) k _
  have X1 := hide ((bx.up bW).turn T1 (by simp; omega))
  have B1 := hide (b.trans (bW.mono hbw))
  have J1 := hide (((unhide HJ).up (b.trans (bW.mono hbw))).turn T1 (fun q hq hm => unhide HS q hq (by simpa using hm)))
  have TB1 := hide (((unhide HT).up (b.trans (bW.mono hbw))).turn T1 (by simpa using hne))
  have HZ1 := hide (show (W.setCell ⟨gb, k, none⟩ (.slice wa wn wc)).heap.size = W.heap.size by simp)
  rw [← hw1] at X1 J1 TB1 HZ1
  have HW1 := hide hw1
  clear x0 x1 x2 x3 bx b T1 bW hw1
  obtain ⟨⟨x0, x1, x2, x3⟩, -⟩ := (unhide X1).four
  go_wp2_with fail
  refine (unhide HM _ (unhide J1).rd).mono ?_
  rintro e w2 ⟨mv, rfl, HR, b2⟩
  obtain ⟨ma, mc, rfl⟩ := (unhide HR).slice
  obtain ⟨⟨t0, t1, t2⟩, f0, f1, f2⟩ := ((unhide TB1).up b2).three
  rw [unhide HZ1] at HR b2
  rw [unhide HW1] at b2
  have B2 := hide b2
  clear b2 x0 x1 x2 x3
  go_wp2_with fail
  refine bodyPost_end (results_none rfl _ _ _) rfl ?_
  exact ⟨rfl, W, w2, ma, mc, B1, B2, HR, rfl⟩
end Go.Proofs.YtknkdbfgfcgkiaaGreatDoor

set_option linter.unusedVariables false
namespace Go.Proofs.YtknkdbfgfcgkiaaGreatDoor
open Go.RowKit Go.Extern.Stop Go.Stop Go.Extern

theorem as_nil (t : Value) (w : World) :
    Calls Tryz.prog 34 #[.nilIface, t] w fun e w' => e = .returned (.bool false) ∧ w' = w := by
  go_enter Tryz.func34, Tryz.ntmps34
  go_wp2
  go_ret
  exact ⟨rfl, rfl⟩
theorem as_valueOfP (t : Addr) (w : World) : (ReflectliteValue.unpack (.iface 83 (.pointer (some t)))).run Tryz.prog w
    = .ok (.agg #[.pointer (some ⟨1, 83, none⟩), .pointer (some ⟨w.heap.size, 0, none⟩), .int .u64 150]) (w.alloc (.cells #[.pointer (some t)] 83)) := by kernel_rfl
theorem as_typeP (a : Addr) (w : World) : (ReflectliteValue.methodAny (ReflectliteValue.valueError "reflectlite.Value.Type" 0) (fun t _ _ _ => ReflectliteType.toType t) #[.agg #[.pointer (some ⟨1, 83, none⟩), .pointer (some a), .int .u64 150]]).run Tryz.prog w
    = .ok (.iface 150 (.agg #[.pointer (some ⟨1, 83, none⟩)])) w := by kernel_rfl
theorem as_methodKind (h : Value) (w : World) : (Go.method 366 150 (.agg #[h]) "Kind").run Tryz.prog w = .ok (178, h) w := by kernel_rfl
theorem as_kindP (w : World) : ((ReflectliteType.abiMethod fun t => (fun a : Nat => Value.int IntKind.u8 (a : Int)) <$> Rtype.kind t) #[.pointer (some ⟨1, 83, none⟩)]).run Tryz.prog w = .ok (.int .u8 22) w := by kernel_rfl
theorem as_kindE (w : World) : ((ReflectliteType.abiMethod fun t => (fun a : Nat => Value.int IntKind.u8 (a : Int)) <$> Rtype.kind t) #[.pointer (some ⟨1, 81, none⟩)]).run Tryz.prog w = .ok (.int .u8 25) w := by kernel_rfl
theorem as_rlm (z : Sem Value) (f : TypeId → Addr → Nat → Nat → Sem Value) (v : Value) :
    ReflectliteValue.method z f #[v] = (do match ← ReflectliteValue.parts v with | none => z | some (t, a, fl) => f t a fl (fl % 32)) := rfl
theorem as_partsP (a : Addr) (w : World) : (ReflectliteValue.parts (.agg #[.pointer (some ⟨1, 83, none⟩), .pointer (some a), .int .u64 150])).run Tryz.prog w = .ok (some (83, a, 150)) w := by kernel_rfl
theorem as_isNilP (a p : Addr) (W : World) (ha : W.cell? a = some (.pointer (some p))) :
    (ReflectliteValue.method (ReflectliteValue.valueError "reflectlite.Value.IsNil" 0) ReflectliteValue.isNil #[.agg #[.pointer (some ⟨1, 83, none⟩), .pointer (some a), .int .u64 150]]).run Tryz.prog W = .ok (.bool false) W := by
  rw [as_rlm]
  simp only [Sem.run_bind, as_partsP, Result.andThen]
  simp [ReflectliteValue.isNil, loadVar, isAgg, underlying, Tryz.underlying83, ha, Result.andThen]
theorem as_methodElem (h : Value) (w : World) : (Go.method 366 150 (.agg #[h]) "Elem").run Tryz.prog w = .ok (191, .agg #[h]) w := by kernel_rfl
theorem as_methodImplements (h : Value) (w : World) : (Go.method 366 150 (.agg #[h]) "Implements").run Tryz.prog w = .ok (192, .agg #[h]) w := by kernel_rfl
theorem as_methodAssignableTo (h : Value) (w : World) : (Go.method 366 150 (.agg #[h]) "AssignableTo").run Tryz.prog w = .ok (189, .agg #[h]) w := by kernel_rfl
theorem as_elemP (w : World) : (ReflectliteType.method ReflectliteType.elem #[.agg #[.pointer (some ⟨1, 83, none⟩)]]).run Tryz.prog w = .ok (.iface 150 (.agg #[.pointer (some ⟨1, 81, none⟩)])) w := by kernel_rfl
theorem as_implementsE (w : World) : (ReflectliteType.relation "Implements" ReflectliteType.implements_ #[.agg #[.pointer (some ⟨1, 81, none⟩)], .iface 150 (.agg #[.pointer (some ⟨1, 77, none⟩)])]).run Tryz.prog w = .ok (.bool true) w := by kernel_rfl
theorem as_typeOfE (v : Value) (w : World) : (ReflectliteType.typeOf #[.iface 81 v]).run Tryz.prog w = .ok (.iface 150 (.agg #[.pointer (some ⟨1, 81, none⟩)])) w := by kernel_rfl
theorem as_assignableE (w : World) : (ReflectliteType.relation "AssignableTo" ReflectliteType.assignableTo #[.agg #[.pointer (some ⟨1, 81, none⟩)], .iface 150 (.agg #[.pointer (some ⟨1, 81, none⟩)])]).run Tryz.prog w = .ok (.bool true) w := by kernel_rfl
theorem as_valueOfE (s : ByteArray) (w : World) : (ReflectliteValue.unpack (.iface 81 (.agg #[.string s]))).run Tryz.prog w
    = .ok (.agg #[.pointer (some ⟨1, 81, none⟩), .pointer (some ⟨w.heap.size, 0, none⟩), .int .u64 153]) (w.alloc (.cells #[.string s] 81)) := by kernel_rfl
theorem as_elemOfP (w : World) : (Rtype.elem? 83).run Tryz.prog w = .ok (some 81) w := by kernel_rfl
theorem as_mkE (p : Addr) (w : World) : (ReflectliteValue.mk 81 p ReflectliteValue.flagAddr).run Tryz.prog w = .ok (.agg #[.pointer (some ⟨1, 81, none⟩), .pointer (some p), .int .u64 409]) w := by kernel_rfl
theorem as_elemVP (a p : Addr) (W : World) (ha : W.cell? a = some (.pointer (some p))) :
    (ReflectliteValue.method (ReflectliteValue.valueError "reflectlite.Value.Elem" 0) ReflectliteValue.elem #[.agg #[.pointer (some ⟨1, 83, none⟩), .pointer (some a), .int .u64 150]]).run Tryz.prog W
      = .ok (.agg #[.pointer (some ⟨1, 81, none⟩), .pointer (some p), .int .u64 409]) W := by
  rw [as_rlm]
  simp only [Sem.run_bind, as_partsP, Result.andThen]
  simp [ReflectliteValue.elem, loadVar, isAgg, underlying, Tryz.underlying83, ha, Result.andThen, as_elemOfP, as_mkE]
theorem as_rls (v x : Value) : ReflectliteValue.set #[v, x] = (do
    let (some (dst, a, fl), some (src, b, _)) := (← ReflectliteValue.parts v, ← ReflectliteValue.parts x)
      | unsupported (.noEntry "extern/(internal/reflectlite.Value).Set.zeroValue")
    if fl / ReflectliteValue.flagAddr % 2 == 0 then unsupported (.noEntry "extern/(internal/reflectlite.Value).Set.unaddressable")
    let val ← loadVar src b
    if ← Rtype.directlyAssignable dst src then storeVar dst a val
    else if ← Rtype.implements dst src then
      if (← Rtype.kind src) == 20 then
        match val with
        | .nilIface => unsupported (.noEntry "extern/reflectlite: a nil value of one interface type handed on as a value of another")
        | _ => storeVar dst a val
      else storeVar dst a (.iface src val)
    else panicString ("reflectlite.Set: value of type " ++ (← Rtype.spelt src) ++ " is not assignable to type " ++ (← Rtype.spelt dst))
    pure (.tuple #[])) := rfl
theorem as_partsEa (a : Addr) (w : World) : (ReflectliteValue.parts (.agg #[.pointer (some ⟨1, 81, none⟩), .pointer (some a), .int .u64 409])).run Tryz.prog w = .ok (some (81, a, 409)) w := by kernel_rfl
theorem as_partsE (a : Addr) (w : World) : (ReflectliteValue.parts (.agg #[.pointer (some ⟨1, 81, none⟩), .pointer (some a), .int .u64 153])).run Tryz.prog w = .ok (some (81, a, 153)) w := by kernel_rfl
theorem as_directE (w : World) : (Rtype.directlyAssignable 81 81).run Tryz.prog w = .ok true w := by kernel_rfl
theorem as_loadE (b : Nat) (s : ByteArray) (W : World) (hb : W.cell? ⟨b, 0, none⟩ = some (.string s)) : (loadVar 81 ⟨b, 0, none⟩).run Tryz.prog W = .ok (.agg #[.string s]) W :=
  Go.run_loadVar_mid W b 0 81 [.string s] _ (fun j v hv => by
    match j, hv with
    | 0, hv => simp at hv; subst hv; exact hb) Tryz.underlying81 rfl (by kernel_rfl)
theorem as_storeE (b : Nat) (s : ByteArray) (old : Value) (W : World) (ht : W.cell? ⟨b, 0, none⟩ = some old) (hf : W.frozen? ⟨b, 0, none⟩ = false) : (storeVar 81 ⟨b, 0, none⟩ (.agg #[.string s])).run Tryz.prog W = .ok () (W.setCell ⟨b, 0, none⟩ (.string s)) :=
  Go.run_storeVar_mid W b 0 81 #[.string s] (fun j hj => by
    have e : j = 0 := by simp at hj; omega
    subst e
    exact ⟨by simp [ht], hf⟩) (by kernel_rfl) (by simp [Value.oneCell'])
theorem as_setE (t b : Nat) (s : ByteArray) (old : Value) (W : World) (hb : W.cell? ⟨b, 0, none⟩ = some (.string s)) (ht : W.cell? ⟨t, 0, none⟩ = some old) (hf : W.frozen? ⟨t, 0, none⟩ = false) :
    (ReflectliteValue.set #[.agg #[.pointer (some ⟨1, 81, none⟩), .pointer (some ⟨t, 0, none⟩), .int .u64 409], .agg #[.pointer (some ⟨1, 81, none⟩), .pointer (some ⟨b, 0, none⟩), .int .u64 153]]).run Tryz.prog W
      = .ok (.tuple #[]) (W.setCell ⟨t, 0, none⟩ (.string s)) := by
  have hl := as_loadE b s W hb
  have hs := as_storeE t s old W ht hf
  rw [as_rls]
  simp only [Sem.run_bind, as_partsEa, as_partsE, Result.andThen]
  simp [ReflectliteValue.flagAddr, Result.andThen, as_directE, hl, hs]
set_option maxHeartbeats 4000000 in
theorem as_hit (s : ByteArray) (t : Nat) (old : Value) (w : World) (hg : w.cell? ⟨0, 0, none⟩ = some (.iface 150 (.agg #[.pointer (some ⟨1, 77, none⟩)]))) (ht0 : w.cell? ⟨t, 0, none⟩ = some old) (hf0 : w.frozen? ⟨t, 0, none⟩ = false) :
    Calls Tryz.prog 34 #[.iface 81 (.agg #[.string s]), .iface 83 (.pointer (some ⟨t, 0, none⟩))] w fun ev w' => ev = .returned (.bool true) ∧ w' = ((((w.alloc (.cells #[.pointer (some ⟨t, 0, none⟩)] 83)).alloc (.cells #[.pointer (some ⟨1, 83, none⟩), .pointer (some ⟨w.heap.size, 0, none⟩), .int .u64 150] 123)).alloc (.cells #[.pointer (some ⟨1, 83, none⟩), .pointer (some ⟨w.heap.size, 0, none⟩), .int .u64 150] 123)).alloc (.cells #[.string s] 81)).setCell ⟨t, 0, none⟩ (.string s) := by
  have h6 := @run_callFunc_extern Tryz.prog 69 _ (fun args => ReflectliteValue.unpack (args.getD 0 (.tuple #[]))) Tryz.func69 (by kernel_rfl) (by kernel_rfl) (by kernel_rfl) (by kernel_rfl)
  have h7 := @run_callFunc_extern Tryz.prog 70 _ (ReflectliteValue.methodAny (ReflectliteValue.valueError "reflectlite.Value.Type" 0) (fun t _ _ _ => ReflectliteType.toType t)) Tryz.func70 (by kernel_rfl) (by kernel_rfl) (by kernel_rfl) (by kernel_rfl)
  have h8 := @run_callFunc_extern Tryz.prog 71 _ (ReflectliteValue.method (ReflectliteValue.valueError "reflectlite.Value.IsNil" 0) ReflectliteValue.isNil) Tryz.func71 (by kernel_rfl) (by kernel_rfl) (by kernel_rfl) (by kernel_rfl)
  have h27 := @run_callFunc_extern Tryz.prog 178 _ (ReflectliteType.abiMethod fun t => do pure (.int .u8 (← Rtype.kind t))) Tryz.func178 (by kernel_rfl) (by kernel_rfl) (by kernel_rfl) (by kernel_rfl)
  have h37 := @run_callFunc_extern Tryz.prog 191 _ (ReflectliteType.method ReflectliteType.elem) Tryz.func191 (by kernel_rfl) (by kernel_rfl) (by kernel_rfl) (by kernel_rfl)
  have h38 := @run_callFunc_extern Tryz.prog 192 _ (ReflectliteType.relation "Implements" ReflectliteType.implements_) Tryz.func192 (by kernel_rfl) (by kernel_rfl) (by kernel_rfl) (by kernel_rfl)
  have h10 := @run_callFunc_extern Tryz.prog 95 _ ReflectliteType.typeOf Tryz.func95 (by kernel_rfl) (by kernel_rfl) (by kernel_rfl) (by kernel_rfl)
  have h35 := @run_callFunc_extern Tryz.prog 189 _ (ReflectliteType.relation "AssignableTo" ReflectliteType.assignableTo) Tryz.func189 (by kernel_rfl) (by kernel_rfl) (by kernel_rfl) (by kernel_rfl)
  have h11 := @run_callFunc_extern Tryz.prog 96 _ (ReflectliteValue.method (ReflectliteValue.valueError "reflectlite.Value.Elem" 0) ReflectliteValue.elem) Tryz.func96 (by kernel_rfl) (by kernel_rfl) (by kernel_rfl) (by kernel_rfl)
  have h12 := @run_callFunc_extern Tryz.prog 97 _ ReflectliteValue.set Tryz.func97 (by kernel_rfl) (by kernel_rfl) (by kernel_rfl) (by kernel_rfl)
  have tO := as_typeOfE
  have mA := as_methodAssignableTo
  have aE := as_assignableE
  have vE := as_valueOfE
  have f6 := as_valueOfP
  have f7 := as_typeP
  have mK := as_methodKind
  have mE := as_methodElem
  have mI := as_methodImplements
  have kP := as_kindP
  have kE := as_kindE
  have eP := as_elemP
  have iE := as_implementsE
  have n8 := as_isNilP ⟨w.heap.size, 0, none⟩ ⟨t, 0, none⟩ ((w.alloc (.cells #[.pointer (some ⟨t, 0, none⟩)] 83)).alloc (.cells #[.pointer (some ⟨1, 83, none⟩), .pointer (some ⟨w.heap.size, 0, none⟩), .int .u64 150] 123)) (by simp)
  have hlt : 0 < w.heap.size := by
    rcases Nat.lt_or_ge 0 w.heap.size with h | h
    · exact h
    · simp [World.cell?, Array.getElem?_eq_none h] at hg
  have hg2 : ((w.alloc (.cells #[.pointer (some ⟨t, 0, none⟩)] 83)).alloc (.cells #[.pointer (some ⟨1, 83, none⟩), .pointer (some ⟨w.heap.size, 0, none⟩), .int .u64 150] 123)).cell? ⟨0, 0, none⟩ = some (.iface 150 (.agg #[.pointer (some ⟨1, 77, none⟩)])) := by
    rw [World.cell?_alloc_lt _ _ ⟨0, 0, none⟩ (by simp), World.cell?_alloc_lt _ _ ⟨0, 0, none⟩ hlt]; exact hg
  have htl : t < w.heap.size := by
    rcases Nat.lt_or_ge t w.heap.size with h | h
    · exact h
    · simp [World.cell?, Array.getElem?_eq_none h] at ht0
  have el := as_elemVP ⟨w.heap.size, 0, none⟩ ⟨t, 0, none⟩ (((w.alloc (.cells #[.pointer (some ⟨t, 0, none⟩)] 83)).alloc (.cells #[.pointer (some ⟨1, 83, none⟩), .pointer (some ⟨w.heap.size, 0, none⟩), .int .u64 150] 123)).alloc (.cells #[.pointer (some ⟨1, 83, none⟩), .pointer (some ⟨w.heap.size, 0, none⟩), .int .u64 150] 123)) (by rw [World.cell?_alloc_lt _ _ ⟨w.heap.size, 0, none⟩ (by simp; omega)]; simp)
  have st := as_setE t (w.heap.size + 1 + 1 + 1) s old ((((w.alloc (.cells #[.pointer (some ⟨t, 0, none⟩)] 83)).alloc (.cells #[.pointer (some ⟨1, 83, none⟩), .pointer (some ⟨w.heap.size, 0, none⟩), .int .u64 150] 123)).alloc (.cells #[.pointer (some ⟨1, 83, none⟩), .pointer (some ⟨w.heap.size, 0, none⟩), .int .u64 150] 123)).alloc (.cells #[.string s] 81))
    (by rw [World.cell?_alloc_at _ _ _ _ (by simp)]; rfl)
    (by rw [World.cell?_alloc_lt _ _ ⟨t, 0, none⟩ (by simp; omega), World.cell?_alloc_lt _ _ ⟨t, 0, none⟩ (by simp; omega), World.cell?_alloc_lt _ _ ⟨t, 0, none⟩ (by simp; omega), World.cell?_alloc_lt _ _ ⟨t, 0, none⟩ htl]; exact ht0)
    (by rw [World.frozen?_alloc_old _ _ ⟨t, 0, none⟩ (by simp; omega), World.frozen?_alloc_old _ _ ⟨t, 0, none⟩ (by simp; omega), World.frozen?_alloc_old _ _ ⟨t, 0, none⟩ (by simp; omega), World.frozen?_alloc_old _ _ ⟨t, 0, none⟩ (Nat.ne_of_lt htl)]; exact hf0)
  clear htl hlt
  go_enter Tryz.func34, Tryz.ntmps34
  go_wp2
  refine wp_loop_rounds 1 ?_
  rw [rounds_succ]
  go_wp2
  go_ret
  exact ⟨rfl, rfl⟩
end Go.Proofs.YtknkdbfgfcgkiaaGreatDoor
