/-
  Proved: at every input of bytes the law on what is read and written again (the drawn text is read as the specification reads it; what is written of the tree is, if it is not too long, read as that tree and written the same again) answers true, and the input reads afterwards as before. Condition: the package variables that the row lists hold what the program's text lays (errors.errorType the handle of the type 'error', impl.shapes its table, strconv's table of powers, and the others, of which none is used).
-/
import Derived.Test.YtkfhokeoooafnaaGreatDoorMerged53
import Derived.Test.YtkfhokeoooafnaaGreatDoorBackNm
import Derived.Test.YtkfhokeoooafnaaGreatDoorMerged11
import Derived.Test.YtkfhokeoooafnaaGreatDoorMerged25
import Derived.Test.YtkfhokeoooafnaaGreatDoorImplBare
import Derived.Test.YtkfhokeoooafnaaGreatDoorMerged51
import Derived.Test.YtkfhokeoooafnaaGreatDoorReadT
import Derived.Test.YtkfhokeoooafnaaGreatDoorRows
import Derived.Test.YtkfhokeoooafnaaGreatDoorCards
import Derived.Test.YtkfhokeoooafnaaGreatDoorTie
import Derived.WalkKit
import Derived.ProofKit
import Derived.OpenShut
import Derived.Handy
import Derived.ShutString
import Derived.LaidMore
import Derived.LaidHandle
import Derived.OpenVars
import Derived.SevenTiedAt
import Derived.Stop.Joined
namespace Go.Proofs.YtkfhokeoooafnaaGreatDoor.fnReadShow
open Go.ChangeShapes Go.WideShapes Go.ChangeAt Go.RowKit Go.Deep Go.Maps
open Go.ChangeMaps (open_string shut_string)
set_option linter.unusedVariables false

theorem nd_in {B : Nat} {w : World} {a : Option Addr} {n c : Nat} {ns : List NodeV} (h : NdRow B w (.slice a n c) ns) : n = ns.length ∧ NodesIn w a ns := by
  obtain ⟨a', c', e, hin⟩ := h.rd
  injection e with e1 e2 e3
  subst e1
  exact ⟨e2, hin⟩
theorem nd_len {B : Nat} {w : World} {a : Option Addr} {n c : Nat} (h : NdRow B w (.slice a n c) []) : n = 0 := (nd_in h).1
theorem small_nodes (t : ByteArray) : (trRes t).nodes.length ≤ 1048576 := by
  by_cases h : (trRes t).code = 0
  · have := (read_ok t h)
    obtain ⟨x, l, ok⟩ := this
    have := ok.size
    omega
  · rw [read_not t h]
    exact Nat.zero_le _

theorem bytesIn_tb {w : World} {a : Option Addr} {bs : List UInt8} (h : ByIn w a bs) : BytesIn w a bs.length := by
  rcases h with rfl | ⟨b, off, e, hb, hc⟩
  · exact .inl rfl
  · exact .inr ⟨b, off, e, hb, fun i hi => ⟨bs[i].toNat, by have := bs[i].toNat_lt; omega, hc i hi⟩⟩
def BkG (w : World) : Prop := ErrG w ∧ ShapesIn w ∧ Lib.TabIs Tryz.prog w "internal/strconv.uint64pow10" .u64 Lib.pow10Tab
theorem BkG.below {w w' : World} {B : Nat} (h : BkG w) (hb : Below B w w') (hB : w.heap.size ≤ B) : BkG w' := ⟨h.1.below hb hB, h.2.1.below hb hB, tab_below h.2.2 hb hB⟩
theorem neq_same (s : ByteArray) : (s.toList == s.toList) = true := by simp

theorem cmpFault_same (c a : Int) (w : World) : (Op.equalIn 10000 27 (.agg #[.int .i64 c, .int .i64 a]) (.agg #[.int .i64 c, .int .i64 a])).run Tryz.prog w = .ok true w := by
  rw [run_equalIn_struct w 9999 27 _ _ (by kernel_rfl) (by kernel_rfl)]
  have hf : (Tryz.prog.fieldsOf 27).toList.map (fun f => (f.name, f.type, f.offset)) = [("Code", 3, 0), ("At", 3, 1)] := by kernel_rfl
  have hp : ∀ (T : TypeId) (a b : Value) (k : Nat) (v : Value), (isAgg T).run Tryz.prog w = .ok false w → (#[a, b] : Array Value)[k]? = some v → (part T #[a, b] k).run Tryz.prog w = .ok v w := by
    intro T a b k v ha hv
    unfold part
    simp only [Sem.run_bind, ha, Result.andThen_ok, Bool.false_eq_true, if_false, hv, Sem.run_pure]
  have hi : (isAgg 3).run Tryz.prog w = .ok false w := by kernel_rfl
  generalize (Tryz.prog.fieldsOf 27).toList = fs at hf ⊢
  match fs, hf with
  | [], hf => simp at hf
  | [_], hf => simp at hf
  | _ :: _ :: _ :: _, hf => simp at hf
  | [f0, f1], hf =>
    simp only [List.map_cons, List.map_nil, List.cons.injEq, Prod.mk.injEq, and_true] at hf
    obtain ⟨⟨n0, t0, o0⟩, ⟨n1, t1, o1⟩⟩ := hf
    simp only [Op.eqFields, n0, n1, t0, t1, o0, o1]
    rw [if_pos (by decide), if_pos (by decide)]
    simp only [Sem.run_bind]
    rw [hp _ _ _ 0 (.int .i64 c) hi rfl, Result.andThen_ok, hp _ _ _ 0 (.int .i64 c) hi rfl, Result.andThen_ok, run_equalIn_int w 9998 3 .i64 .i64 c c Tryz.underlying3, Result.andThen_ok]
    simp only [beq_self_eq_true, Bool.not_true, Bool.false_eq_true, if_false, Sem.run_bind]
    rw [hp _ _ _ 1 (.int .i64 a) hi rfl, Result.andThen_ok, hp _ _ _ 1 (.int .i64 a) hi rfl, Result.andThen_ok, run_equalIn_int w 9998 3 .i64 .i64 a a Tryz.underlying3, Result.andThen_ok]
    simp
theorem ok_names {ns : List NodeV} (h : OkTree ns) : NamesOk ns := by
  obtain ⟨x, l, ok⟩ := h
  intro n hn
  obtain ⟨⟨hm, _⟩, h3, _⟩ := own_fit (ok.own n hn)
  by_cases hk : n.kind = 2 ∨ n.kind = 22 ∨ n.kind = 23
  · have := h3 hk
    unfold nameB at this
    simp only [Bool.and_eq_true, decide_eq_true_eq] at this
    unfold maxLen
    omega
  · rw [hm.name (fun e => hk (.inl e)) (fun e => hk (.inr (.inl e))) (fun e => hk (.inr (.inr e)))]
    exact Nat.zero_le _
theorem ok_len {ns : List NodeV} (h : OkTree ns) : ns.length ≤ 400 ∧ ns ≠ [] := by
  obtain ⟨x, l, ok⟩ := h
  exact ⟨ok.size, by rw [ok.eq]; simp⟩
theorem nd_blk {w : World} {a : Option Addr} {ns : List NodeV} (h : NodesIn w a ns) (hne : ns ≠ []) : ∃ b off, a = some ⟨b, off, none⟩ ∧ b < w.heap.size ∧ NodesAt w b off ns := by
  rcases h with h | h
  · exact absurd h hne
  · exact h

set_option maxHeartbeats 12800000 in
theorem walk0 (a : Option Addr) (cap : Nat) (bs : List UInt8) (w : World) (hl : bs.length ≤ maxLen) (hc : bs.length ≤ cap) (hb : ByIn w a bs) (hG : BkG w) :
    Calls Tryz.prog 4 #[.slice a bs.length cap] w fun e w' => e = .returned (.bool true) ∧ Below w.heap.size w w' := by
  by_cases hbs : (bs.length : Int) ≤ 1048576
  rotate_left
  · unfold maxLen at hl
    go_enter Tryz.func4, Tryz.ntmps4
    go_wp2_with fail
    go_ret
    exact ⟨rfl, Below.refl _ _⟩
  have HD := hide (drawTreeRead_any w a bs.length cap hl hc (bytesIn_tb hb))
  have HG := hide (fun (W : World) (b : Below w.heap.size w W) => hG.below b (Nat.le_refl _))
  clear hb hc hl hG
  go_enter Tryz.func4, Tryz.ntmps4
  go_wp2_with fail
  refine (unhide HD).mono ?_
  rintro e w1 ⟨tx, rfl, htx, b1⟩
  have B1 := hide b1
  clear b1 HD
  go_wp2_with fail
  refine (implTree_any tx w1 (by omega) (unhide HG w1 (unhide B1)).2.1 (unhide HG w1 (unhide B1)).1).mono ?_
  rintro e w2 ⟨a2, n2, c2, rfl, R2, b2⟩
  obtain ⟨hn2, hin2⟩ := nd_in (unhide R2)
  have B2 := hide ((unhide B1).trans (b2.mono (unhide B1).size))
  have HOK := hide (fun (h : (trRes tx).code = 0) => read_ok tx h)
  have HNO := hide (fun (h : (trRes tx).code ≠ 0) => read_not tx h)
  have HST := hide (fun (W : World) => specTree_any tx W (by omega))
  unfold RetTr at HST
  have HSM := hide (small_nodes tx)
  have X2 := hide (boxF_new w2 [.int .i64 (trRes tx).code, .int .i64 (trRes tx).at'] 27)
  have bA := (Below.refl _ w2).alloc (Nat.le_refl _) (.cells #[.int .i64 (trRes tx).code, .int .i64 (trRes tx).at'] 27)
  have CA := hide bA
  have BA := hide ((unhide B2).trans (bA.mono (unhide B2).size))
  have IA := hide (hin2.below bA)
  simp only [List.toArray] at X2
  clear b2 bA R2 hin2 B2
  generalize (trRes tx).nodes = us at *
  generalize (trRes tx).code = fc at *
  generalize (trRes tx).at' = fa at *
  subst hn2
  have HCM := fun (X : World) => cmpFault_same fc fa X
  go_wp2_with fail
  have hgz : w2.heap.size < (w2.alloc (.cells #[.int .i64 fc, .int .i64 fa] 27)).heap.size := (unhide X2).1.1
  generalize w2.alloc (.cells #[.int .i64 fc, .int .i64 fa] 27) = WA at *
  refine (unhide HST WA).mono ?_
  rintro e w3 ⟨a3, n3, c3, rfl, R3, b3⟩
  obtain ⟨hn3, hin3⟩ := nd_in (unhide R3)
  have B3 := hide ((unhide BA).trans (b3.mono (unhide BA).size))
  have I3 := hide ((unhide IA).below b3)
  have X3 := hide ((unhide X2).up b3)
  have Y3 := hide (boxF_new w3 [.int .i64 fc, .int .i64 fa] 27)
  have bA := (Below.refl _ w3).alloc (Nat.le_refl _) (.cells #[.int .i64 fc, .int .i64 fa] 27)
  have B4 := hide ((unhide B3).trans (bA.mono (unhide B3).size))
  have I4 := hide ((unhide I3).below bA)
  have J4 := hide (hin3.below bA)
  have X4 := hide ((unhide X3).up bA)
  simp only [List.toArray] at Y3
  clear b3 bA R3 hin3 B3 HST X2 X3 IA I3 BA CA
  subst hn3
  obtain ⟨⟨x0, x1⟩, -⟩ := (unhide X4).duoI
  obtain ⟨⟨y0, y1⟩, -⟩ := (unhide Y3).duoI
  have HQ := hide (fun (W : World) => quTree_same (w3.alloc (.cells #[.int .i64 fc, .int .i64 fa] 27)) a2 a3 c2 c3 us (unhide HSM) (unhide I4) (unhide J4))
  go_wp2_with fail
  generalize w3.alloc (.cells #[.int .i64 fc, .int .i64 fa] 27) = W4 at *
  refine (unhide HQ W4).mono ?_
  rintro e w5 ⟨rfl, b5⟩
  have B5 := hide ((unhide B4).trans (b5.mono (unhide B4).size))
  have I5 := hide ((unhide I4).below b5)
  have X5 := hide ((unhide X4).up b5)
  clear b5 B4 I4 J4 X4 Y3 x0 x1 y0 y1 HQ
  obtain ⟨⟨x0, x1⟩, -⟩ := (unhide X5).duoI
  by_cases hz : fc = 0
  rotate_left
  · obtain rfl := unhide HNO hz
    have hz' : (fc == 0) = false := by rw [beq_eq_false_iff_ne]; exact hz
    go_wp2_with fail
    go_ret
    exact ⟨rfl, unhide B5⟩
  subst hz
  have hok := unhide HOK rfl
  obtain ⟨h400, hne⟩ := ok_len hok
  have HNM := hide (ok_names hok)
  have HO := hide hok
  obtain ⟨b, off, rfl, hb5, hA5⟩ := nd_blk (unhide I5) hne
  have N5 := hide hA5
  clear hok hA5 HOK HNO HCM I5 HSM X5
  go_wp2_with fail
  refine (implShow_any w5 b off c2 us (by omega) (unhide N5) hb5 (unhide HNM) (unhide HG w5 (unhide B5)).2.1 (unhide HG w5 (unhide B5)).2.2).mono ?_
  rintro e w6 ⟨hr, b6⟩
  obtain ⟨s, rfl, hs⟩ := show_open hr
  have hsz := show_size hs
  have HS := hide hs
  have B6 := hide ((unhide B5).trans (b6.mono (unhide B5).size))
  have N6 := hide ((unhide N5).below b6 hb5)
  have hb6 : b < w6.heap.size := by have := b6.size; omega
  clear hr hs b6 x0 x1 N5 B5
  go_wp2_with fail
  refine (implTree_any s w6 (by omega) (unhide HG w6 (unhide B6)).2.1 (unhide HG w6 (unhide B6)).1).mono ?_
  rintro e w7 ⟨a7, n7, c7, rfl, R7, b7⟩
  have B7 := hide ((unhide B6).trans (b7.mono (unhide B6).size))
  have N7 := hide ((unhide N6).below b7 hb6)
  have hb7 : b < w7.heap.size := by have := b7.size; omega
  have HRD := hide (fun (h : (trRes s).nodes = us) => by have r := unhide R7; rw [h] at r; exact nd_in r)
  have HBK := hide (fun (hz : s.size ≤ 1500) => show_read (unhide HO) (unhide HS) hz)
  have X8 := hide (boxF_new w7 [.int .i64 (trRes s).code, .int .i64 (trRes s).at'] 27)
  have bA := (Below.refl _ w7).alloc (Nat.le_refl _) (.cells #[.int .i64 (trRes s).code, .int .i64 (trRes s).at'] 27)
  have CA := hide bA
  have B8 := hide ((unhide B7).trans (bA.mono (unhide B7).size))
  have N8 := hide ((unhide N7).below bA hb7)
  have hb8 : b < (w7.alloc (.cells #[.int .i64 (trRes s).code, .int .i64 (trRes s).at'] 27)).heap.size := by have := bA.size; omega
  simp only [List.toArray] at X8
  clear b7 bA R7 N7 N6 B6 B7
  generalize (trRes s).nodes = vs at *
  generalize (trRes s).code = gc at *
  generalize (trRes s).at' = ga at *
  by_cases hlong : (s.size : Int) ≤ 1500
  rotate_left
  · go_wp2_with fail
    go_ret
    exact ⟨rfl, unhide B8⟩
  obtain ⟨h1, h2⟩ := unhide HBK (by omega)
  obtain ⟨h3, hin⟩ := unhide HRD h2
  subst h1
  subst h3
  have I8 := hide (hin.below (unhide CA))
  obtain ⟨⟨x0, x1⟩, -⟩ := (unhide X8).duoI
  have HQ := hide (quTree_same _ a7 (some ⟨b, off, none⟩) c7 c2 us (by omega) (unhide I8) (.inr ⟨b, off, rfl, hb8, unhide N8⟩))
  clear HRD HBK hin h2 CA
  go_wp2_with fail
  generalize w7.alloc (.cells #[.int .i64 0, .int .i64 ga] 27) = W8 at *
  refine (unhide HQ).mono ?_
  rintro e w9 ⟨rfl, b9⟩
  have B9 := hide ((unhide B8).trans (b9.mono (unhide B8).size))
  obtain ⟨d, doff, rfl, hd9, hA9⟩ := nd_blk ((unhide I8).below b9) hne
  have N9 := hide hA9
  clear b9 B8 I8 X8 x0 x1 HQ hA9 N8
  go_wp2_with fail
  refine (implShow_any w9 d doff c7 us (by omega) (unhide N9) hd9 (unhide HNM) (unhide HG w9 (unhide B9)).2.1 (unhide HG w9 (unhide B9)).2.2).mono ?_
  rintro e wa ⟨hr, ba⟩
  obtain ⟨s2, rfl, hs2⟩ := show_open hr
  obtain rfl := show_same (unhide HS) hs2
  have BA := hide ((unhide B9).trans (ba.mono (unhide B9).size))
  have q0 := neq_same s2
  clear hr ba hs2 HS N9
  go_wp2_with fail
  go_ret
  exact ⟨by simp, unhide BA⟩

theorem own : ownKnob Tryz.prog.godebug = none := by kernel_rfl
theorem laidOut : laidOutB Tryz.prog = true := by kernel_rfl
theorem door_met (os : Os) (args : Array Value) : laidMetH Tryz.prog Rows.fnReadShowRow.laid ((World.doorLaid Tryz.prog 400 os).forCall (fun _ _ => 0) ⟨#[], args, []⟩).memory :=
  laidMetH_of_parts3 (fuel := 8) (laidMet_of_run' 8 (by kernel_rfl) (by kernel_rfl)) (by kernel_rfl) (by kernel_rfl)
theorem et : Tryz.prog.globalNamed "errors.errorType" = some 1 := by kernel_rfl
theorem rt : (Tryz.prog.cutTypes.find? (·.1 == "internal/reflectlite.rtype")).map (·.2) = some 166 := by kernel_rfl
theorem oneRow : ((List.range Tryz.prog.types.size).filter fun t => Tryz.prog.rowNamed t [101, 114, 114, 111, 114]) = [45] := by kernel_rfl
theorem parts {W : World} (h : laidMetH Tryz.prog Rows.fnReadShowRow.laid W) : laidMet Tryz.prog [("math/bits.deBruijn32tab", Rows.laid_math_bits_deBruijn32tab), ("math/bits.deBruijn64tab", Rows.laid_math_bits_deBruijn64tab), ("internal/strconv.uint64pow10", Rows.laid_internal_strconv_uint64pow10), ("strconv.ErrRange", Rows.laid_strconv_ErrRange), ("strconv.ErrSyntax", Rows.laid_strconv_ErrSyntax), ("loop.example/headrace/impl.shapes", Rows.laid_loop_example_headrace_impl_shapes)] W ∧ handlesMet Tryz.prog [("errors.errorType", Rows.laid_errors_errorType)] W := h
theorem shapes {W : World} (h : laidMetH Tryz.prog Rows.fnReadShowRow.laid W) : ShapesIn W := by
  obtain ⟨ps, hv, _⟩ := (parts h).1
  obtain ⟨_, _, _, _, _, _, _, _, _, _, hv, _⟩ := hv
  obtain ⟨_, _, _, _, _, _, _, _, _, _, hv, _⟩ := hv
  obtain ⟨_, _, _, _, _, _, _, _, _, _, hv, _⟩ := hv
  obtain ⟨_, _, _, _, _, _, _, _, _, _, hv, _⟩ := hv
  obtain ⟨_, _, _, _, _, _, _, _, _, _, hv, _⟩ := hv
  exact shapes_of_vars (by kernel_rfl) hv
theorem errs {W : World} (h : laidMetH Tryz.prog Rows.fnReadShowRow.laid W) : ErrG W := by
  have h' := parts h
  obtain ⟨name, u, ty, e1, e2, e3, e4, e5⟩ := h'.2 _ (List.mem_singleton.2 rfl)
  have en : name = [101, 114, 114, 111, 114] := (Option.some.inj e1).symm
  subst en
  obtain rfl := Option.some.inj (rt.symm.trans e2)
  have hm : ty ∈ (List.range Tryz.prog.types.size).filter fun t => Tryz.prog.rowNamed t [101, 114, 114, 111, 114] := List.mem_filter.2 ⟨List.mem_range.2 e3, e4⟩
  rw [oneRow] at hm
  obtain rfl := List.mem_singleton.1 hm
  have hh : typeHandle Tryz.prog 45 = .pointer (some ⟨8, 45, none⟩) := by kernel_rfl
  rw [hh] at e5
  unfold ErrG
  simpa using World.var?_cell et e5 0
theorem laidTailB {P : Program} {x : String × DataW Unit} {rest : List (String × DataW Unit)} {W : World} (h : laidMet P (x :: rest) W) : laidMet P rest W := by
  obtain ⟨ps, ⟨g', t', cs, fuel, p, q, _, _, _, _, hq, rfl⟩, hnd, hc⟩ := h
  exact ⟨q, hq, (List.nodup_append.1 hnd).2.1, fun b off hm => hc b off (List.mem_append_right _ hm)⟩
theorem tabl {W : World} (h : laidMetH Tryz.prog Rows.fnReadShowRow.laid W) : Lib.TabIs Tryz.prog W "internal/strconv.uint64pow10" .u64 Lib.pow10Tab :=
  Lib.tabIs_of_head gPow (t := 190) (by kernel_rfl) Tryz.underlying190 Tryz.underlying182 (by kernel_rfl) (by kernel_rfl) (laidTailB (laidTailB (parts h).1))

set_option maxRecDepth 100000 in
theorem lifted (os : Os) (started : os.Started) (H : Type) (enc : TypeId × Value → H) :
    ReturnsInHanded {} Tryz.checked os 4 .any (fun w args => (Rows.fnReadShowSpec.pre enc Tryz.prog Tryz.f4 [] false w args ∧ laidMetH Tryz.prog Rows.fnReadShowRow.laid w) ∧ sizedMet enc Tryz.prog Tryz.f4 (OpenSpec.ofChange Rows.fnReadShowSpec) false w args)
      (Rows.fnReadShowSpec.post enc Tryz.prog Tryz.f4 false true false false) := by
  refine returnsInHanded_of_change_and (C := Tryz.checked) (X := fun w _ => laidMetH Tryz.prog Rows.fnReadShowRow.laid w) (fun _ _ _ hh h => h.of_heap hh) own started (by kernel_rfl) Tryz.func4
    (ChangeSpec.witness_shaped (enc := enc) (C := Tryz.checked) (os := os) (X := fun w _ => laidMetH Tryz.prog Rows.fnReadShowRow.laid w) false (World.doorLaid Tryz.prog 400 os) #[.slice none 0 0] 8 rfl (World.shaped_of_RefB (by kernel_rfl) (by kernel_rfl)) (by kernel_rfl) (by kernel_rfl) (by kernel_rfl) (door_met os _)) ?_
  intro W base args ds gs before hval0 hW _ _ hL _
  have hval : ∀ (j : Nat) t v, Tryz.f4.params[j]? = some t → args[j]? = some v → Value.okWide Tryz.prog W .any base t v := hval0
  have hW' := hW
  obtain ⟨p, q, hA0, hV, rfl, hfz, hnd⟩ := hW
  have hA : DataW.TrodAll enc Tryz.prog W 0 (fun _ => true) true Tryz.f4.params.toList args.toList ds p := hA0
  rw [Tryz.params4] at hA hval
  obtain ⟨v0, d0, rfl, rfl, h0⟩ := trodAll_one hA
  obtain ⟨gv, tv, cv, fv, dv, pv, rfl, _, _, _, _, _⟩ := trodVars_one hV
  obtain ⟨a0, len0, cap0, rfl⟩ := okWide_slice Tryz.underlying22 (hval 0 22 v0 rfl rfl)
  have k0 := h0
  have lt0 : ∀ x ∈ p, x.block < W.heap.size := by obtain ⟨m, hm⟩ := k0; exact DataW.trod_lt m _ _ _ hm
  obtain ⟨bs0, rfl, hl0, hc0, hb0⟩ := open_byteS h0
  have hE : BkG W := ⟨errs hL, shapes hL, tabl hL⟩
  clear hA0 hval0
  refine (walk0 a0 cap0 bs0 W hl0 hc0 hb0 hE).mono fun e W' ⟨he, bel⟩ => ?_
  subst he
  have hV' := Below.trodVars laidOut bel (by kernel_rfl) hV
  exact ⟨_, rfl, _, _, _, [], _, _, hW', trodAll_mk1 (shut_bool Tryz.underlying4 _), trodAll_mk1 (Below.trod laidOut (by kernel_rfl) (of_decide_eq_true (by kernel_rfl)) k0 bel lt0), hV', bel.frame _, fun h => by cases h⟩

theorem said : Rows.FnReadShowSaid :=
  OpenClaim.holds_of_wide 4 Tryz.f4 rfl rfl rfl rfl rfl rfl rfl ⟨rfl, rfl, rfl, rfl, rfl⟩ rfl rfl rfl rfl rfl (by kernel_rfl) Tryz.func4 (by kernel_rfl)
    (of_decide_eq_true (by kernel_rfl)) (by unfold Func.isWrapper; first | (rw [if_pos (by decide +kernel)]; kernel_rfl) | (rw [if_neg (by decide +kernel)]; exact ⟨rfl, rfl⟩))
    (fun os started H enc _ => lifted os started H enc)

theorem card : Rows.FnReadShowCardSaid :=
  Claim7.holds_tied_plain_at .later [] _ _ _ _ said (fun _ h => by cases h) (by kernel_rfl) (fun _ h => by cases h) fnReadShow_row_tie rfl ⟨rfl, rfl⟩ (by kernel_rfl) rfl
    (fun f fn hf hfn => by
      obtain rfl : f = 4 := Option.some.inj ((show Tryz.prog.funcNamed Rows.fnReadShowRow.func = some 4 by kernel_rfl).symm.trans hf) |>.symm
      obtain rfl : fn = Tryz.f4 := (Option.some.inj (Tryz.func4.symm.trans hfn)).symm
      exact ⟨by kernel_rfl, fun j t ht => by
        rw [Tryz.params4] at ht
        obtain rfl : t = 22 := by simpa using Array.mem_of_getElem? ht
        exact (show Tryz.prog.wantsStandIn 22 = false by kernel_rfl)⟩)
    (by kernel_rfl)

end Go.Proofs.YtkfhokeoooafnaaGreatDoor.fnReadShow

namespace Go.Proofs.YtkfhokeoooafnaaGreatDoor
theorem fnReadShow_holds : Rows.FnReadShowCardSaid :=
  fnReadShow.card
end Go.Proofs.YtkfhokeoooafnaaGreatDoor
