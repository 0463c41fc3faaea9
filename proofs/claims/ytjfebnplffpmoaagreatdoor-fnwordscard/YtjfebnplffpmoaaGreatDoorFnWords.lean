/-
  Proved: at every input of bytes the law on words (the words of the drawn text are the specification's and stand in the text where they are said to stand; put together with blanks they are, where that is not too long, cut into the same words, and read as the same tree) answers true, and the input reads afterwards as before. Condition: the package variables that the row lists hold what the program's text lays (errors.errorType the handle of the type 'error', impl.shapes its table, and those of strconv and math/bits, of which none is used).
-/
import Derived.Test.YtjfebnplffpmoaaGreatDoorMerged29
import Derived.Test.YtjfebnplffpmoaaGreatDoorBackWd
import Derived.Test.YtjfebnplffpmoaaGreatDoorMerged31
import Derived.Test.YtjfebnplffpmoaaGreatDoorBodyI5
import Derived.Test.YtjfebnplffpmoaaGreatDoorMerged21
import Derived.Test.YtjfebnplffpmoaaGreatDoorRdrR
import Derived.Test.YtjfebnplffpmoaaGreatDoorMerged50
import Derived.Test.YtjfebnplffpmoaaGreatDoorMerged19
import Derived.Test.YtjfebnplffpmoaaGreatDoorMerged52
import Derived.Test.YtjfebnplffpmoaaGreatDoorRows
import Derived.Test.YtjfebnplffpmoaaGreatDoorCards
import Derived.Test.YtjfebnplffpmoaaGreatDoorTie
import Derived.WalkKit
import Derived.ProofKit
import Derived.OpenShut
import Derived.Handy
import Derived.ShutString
import Derived.LaidMore
import Derived.LaidHandle
import Derived.OpenVars
import Derived.SevenTiedAt
import Derived.Stop.Joined
namespace Go.Proofs.YtjfebnplffpmoaaGreatDoor.fnWords
open Go.ChangeShapes Go.WideShapes Go.ChangeAt Go.RowKit Go.Deep Go.Maps
open Go.ChangeMaps (open_string shut_string)
set_option linter.unusedVariables false

theorem nd_in {B : Nat} {w : World} {a : Option Addr} {n c : Nat} {ns : List NodeV} (h : NdRow B w (.slice a n c) ns) : n = ns.length ∧ NodesIn w a ns := by
  obtain ⟨a', c', e, hin⟩ := h.rd
  injection e with e1 e2 e3
  subst e1
  exact ⟨e2, hin⟩
theorem nd_len {B : Nat} {w : World} {a : Option Addr} {n c : Nat} (h : NdRow B w (.slice a n c) []) : n = 0 := (nd_in h).1

theorem bytesIn_tb {w : World} {a : Option Addr} {bs : List UInt8} (h : ByIn w a bs) : BytesIn w a bs.length := by
  rcases h with rfl | ⟨b, off, e, hb, hc⟩
  · exact .inl rfl
  · exact .inr ⟨b, off, e, hb, fun i hi => ⟨bs[i].toNat, by have := bs[i].toNat_lt; omega, hc i hi⟩⟩
def TrG (w : World) : Prop := ErrG w ∧ ShapesIn w
theorem TrG.below {w w' : World} {B : Nat} (h : TrG w) (hb : Below B w w') (hB : w.heap.size ≤ B) : TrG w' := ⟨h.1.below hb hB, h.2.below hb hB⟩
theorem neq_same (s : ByteArray) : (s.toList == s.toList) = true := by simp

theorem cmpFault_same (c a : Int) (w : World) : (Op.equalIn 10000 26 (.agg #[.int .i64 c, .int .i64 a]) (.agg #[.int .i64 c, .int .i64 a])).run Tryz.prog w = .ok true w := by
  rw [run_equalIn_struct w 9999 26 _ _ (by kernel_rfl) (by kernel_rfl)]
  have hf : (Tryz.prog.fieldsOf 26).toList.map (fun f => (f.name, f.type, f.offset)) = [("Code", 3, 0), ("At", 3, 1)] := by kernel_rfl
  have hp : ∀ (T : TypeId) (a b : Value) (k : Nat) (v : Value), (isAgg T).run Tryz.prog w = .ok false w → (#[a, b] : Array Value)[k]? = some v → (part T #[a, b] k).run Tryz.prog w = .ok v w := by
    intro T a b k v ha hv
    unfold part
    simp only [Sem.run_bind, ha, Result.andThen_ok, Bool.false_eq_true, if_false, hv, Sem.run_pure]
  have hi : (isAgg 3).run Tryz.prog w = .ok false w := by kernel_rfl
  generalize (Tryz.prog.fieldsOf 26).toList = fs at hf ⊢
  match fs, hf with
  | [], hf => simp at hf
  | [_], hf => simp at hf
  | _ :: _ :: _ :: _, hf => simp at hf
  | [f0, f1], hf =>
    simp only [List.map_cons, List.map_nil, List.cons.injEq, Prod.mk.injEq, and_true] at hf
    obtain ⟨⟨n0, t0, o0⟩, ⟨n1, t1, o1⟩⟩ := hf
    simp only [Op.eqFields, n0, n1, t0, t1, o0, o1]
    rw [if_pos (by decide), if_pos (by decide)]
    simp only [Sem.run_bind]
    rw [hp _ _ _ 0 (.int .i64 c) hi rfl, Result.andThen_ok, hp _ _ _ 0 (.int .i64 c) hi rfl, Result.andThen_ok, run_equalIn_int w 9998 3 .i64 .i64 c c Tryz.underlying3, Result.andThen_ok]
    simp only [beq_self_eq_true, Bool.not_true, Bool.false_eq_true, if_false, Sem.run_bind]
    rw [hp _ _ _ 1 (.int .i64 a) hi rfl, Result.andThen_ok, hp _ _ _ 1 (.int .i64 a) hi rfl, Result.andThen_ok, run_equalIn_int w 9998 3 .i64 .i64 a a Tryz.underlying3, Result.andThen_ok]
    simp
theorem small_nodes (t : ByteArray) : (trRes t).nodes.length ≤ 1048576 := by
  by_cases h : (trRes t).code = 0
  · have := (read_ok t h)
    obtain ⟨x, l, ok⟩ := this
    have := ok.size
    omega
  · rw [read_not t h]
    exact Nat.zero_le _
theorem cmpWord_same (x : WordV) (w : World) : (Op.equalIn 10000 30 (.agg #[.int .i64 x.a0, .string x.a1, .int .i64 x.a2]) (.agg #[.int .i64 x.a0, .string x.a1, .int .i64 x.a2])).run Tryz.prog w = .ok true w := by
  rw [run_equalIn_struct w 9999 30 _ _ (by kernel_rfl) (by kernel_rfl)]
  have hf : (Tryz.prog.fieldsOf 30).toList.map (fun f => (f.name, f.type, f.offset)) = [("Kind", 3, 0), ("Text", 9, 1), ("At", 3, 2)] := by kernel_rfl
  have hp : ∀ (T : TypeId) (a b c : Value) (k : Nat) (v : Value), (isAgg T).run Tryz.prog w = .ok false w → (#[a, b, c] : Array Value)[k]? = some v → (part T #[a, b, c] k).run Tryz.prog w = .ok v w := by
    intro T a b c k v ha hv
    unfold part
    simp only [Sem.run_bind, ha, Result.andThen_ok, Bool.false_eq_true, if_false, hv, Sem.run_pure]
  have hs : (isAgg 9).run Tryz.prog w = .ok false w := by kernel_rfl
  have hi : (isAgg 3).run Tryz.prog w = .ok false w := by kernel_rfl
  generalize (Tryz.prog.fieldsOf 30).toList = fs at hf ⊢
  match fs, hf with
  | [], hf => simp at hf
  | [_], hf => simp at hf
  | [_, _], hf => simp at hf
  | _ :: _ :: _ :: _ :: _, hf => simp at hf
  | [f0, f1, f2], hf =>
    simp only [List.map_cons, List.map_nil, List.cons.injEq, Prod.mk.injEq, and_true] at hf
    obtain ⟨⟨n0, t0, o0⟩, ⟨n1, t1, o1⟩, ⟨n2, t2, o2⟩⟩ := hf
    simp only [Op.eqFields, n0, n1, n2, t0, t1, t2, o0, o1, o2]
    rw [if_pos (by decide), if_pos (by decide), if_pos (by decide)]
    simp only [Sem.run_bind]
    rw [hp _ _ _ _ 0 (.int .i64 x.a0) hi rfl, Result.andThen_ok, hp _ _ _ _ 0 (.int .i64 x.a0) hi rfl, Result.andThen_ok, run_equalIn_int w 9998 3 .i64 .i64 x.a0 x.a0 Tryz.underlying3, Result.andThen_ok]
    simp only [beq_self_eq_true, Bool.not_true, Bool.false_eq_true, if_false, Sem.run_bind]
    rw [hp _ _ _ _ 1 (.string x.a1) hs rfl, Result.andThen_ok, hp _ _ _ _ 1 (.string x.a1) hs rfl, Result.andThen_ok, run_equalIn_string w 9998 9 x.a1 x.a1 Tryz.underlying9, Result.andThen_ok]
    simp only [beq_self_eq_true, Bool.not_true, Bool.false_eq_true, if_false, Sem.run_bind]
    rw [hp _ _ _ _ 2 (.int .i64 x.a2) hi rfl, Result.andThen_ok, hp _ _ _ _ 2 (.int .i64 x.a2) hi rfl, Result.andThen_ok, run_equalIn_int w 9998 3 .i64 .i64 x.a2 x.a2 Tryz.underlying3, Result.andThen_ok]
    simp
theorem wd_blk {w : World} {a : Option Addr} {ns : List WordV} (h : WordIn w a ns) {k : Nat} (hk : k < ns.length) : ∃ b off, a = some ⟨b, off, none⟩ ∧ b < w.heap.size ∧ WordAt w b off ns := by
  rcases h with rfl | h
  · simp at hk
  · exact h
theorem join_step {ws : List WordV} {k : Nat} (h : k < ws.length) : joinT (ws.take k) ++ ws[k].a1 ++ ⟨#[32]⟩ = joinT (ws.take (k + 1)) := by
  rw [List.take_add_one, List.getElem?_eq_getElem h]
  exact (joinT_snoc (ws.take k) ws[k]).symm
theorem join_le {t : ByteArray} (ht : t.size ≤ 30000) (k : Nat) : (joinT ((bwWords t).take k)).size ≤ 50000000 := by
  have h1 := joinT_size ((bwWords t).take k) 30000 (fun x hx => by
    obtain ⟨q, _, h2, _⟩ := (bw_b t x (List.mem_of_mem_take hx)).pos
    omega)
  have h2 : ((bwWords t).take k).length ≤ 1500 := by
    have := (bw_words t).1
    rw [List.length_take]
    omega
  have h3 : ((bwWords t).take k).length * (30000 + 1) ≤ 1500 * 30001 := Nat.mul_le_mul_right _ h2
  omega

set_option maxRecDepth 20000 in
set_option maxHeartbeats 12800000 in
theorem walk0 (a : Option Addr) (cap : Nat) (bs : List UInt8) (w : World) (hl : bs.length ≤ maxLen) (hc : bs.length ≤ cap) (hb : ByIn w a bs) (hG : TrG w) :
    Calls Tryz.prog 3 #[.slice a bs.length cap] w fun e w' => e = .returned (.bool true) ∧ Below w.heap.size w w' := by
  by_cases hbs : (bs.length : Int) ≤ 1048576
  rotate_left
  · unfold maxLen at hl
    go_enter Tryz.func3, Tryz.ntmps3
    go_wp2_with fail
    go_ret
    exact ⟨rfl, Below.refl _ _⟩
  have HD := hide (drawBodyWords_any w a bs.length cap hl hc (bytesIn_tb hb))
  have HG := hide (fun (W : World) (b : Below w.heap.size w W) => hG.below b (Nat.le_refl _))
  clear hb hc hl hG
  go_enter Tryz.func3, Tryz.ntmps3
  go_wp2_with fail
  refine (unhide HD).mono ?_
  rintro e w1 ⟨tx, rfl, htx, b1⟩
  have B1 := hide b1
  clear b1 HD
  go_wp2_with fail
  refine (implWords_any tx w1 (by omega) (unhide HG w1 (unhide B1)).1).mono ?_
  rintro e w2 ⟨a2, n2, c2, rfl, R2, b2⟩
  obtain ⟨hn2, hin2, -⟩ := (unhide R2).words
  have B2 := hide ((unhide B1).trans (b2.mono (unhide B1).size))
  have HBK := hide (words_back tx)
  have HTR := hide (fun (h0 : bwCode tx = 0) (s : ByteArray) (h1 : bwCode s = 0) (h2 : (bwWords s).map tokW = (bwWords tx).map tokW) => tree_tok h0 h1 h2.symm)
  have HPO := hide (fun (x : WordV) (hx : x ∈ bwWords tx) => (bw_b tx x hx).pos)
  have HJN := hide (fun (k : Nat) => join_le htx k)
  have HST := hide (fun (W : World) => specWords_any tx W (by omega))
  unfold RetBw at HST
  have hlen := (bw_words tx).1
  have X2 := hide (boxF_new w2 [.int .i64 (bwCode tx), .int .i64 (bwAt tx)] 26)
  have bA := (Below.refl _ w2).alloc (Nat.le_refl _) (.cells #[.int .i64 (bwCode tx), .int .i64 (bwAt tx)] 26)
  have BA := hide ((unhide B2).trans (bA.mono (unhide B2).size))
  have IA := hide (hin2.below bA)
  simp only [List.toArray] at X2
  clear b2 bA R2 hin2 B2
  generalize bwWords tx = ws at *
  generalize bwCode tx = fc at *
  generalize bwAt tx = fa at *
  subst hn2
  have HCM := fun (X : World) => cmpFault_same fc fa X
  go_wp2_with fail
  have hgz : w2.heap.size < (w2.alloc (.cells #[.int .i64 fc, .int .i64 fa] 26)).heap.size := (unhide X2).1.1
  generalize w2.alloc (.cells #[.int .i64 fc, .int .i64 fa] 26) = WA at *
  refine (unhide HST WA).mono ?_
  rintro e w3 ⟨a3, n3, c3, rfl, R3, b3⟩
  obtain ⟨hn3, hin3, -⟩ := (unhide R3).words
  have B3 := hide ((unhide BA).trans (b3.mono (unhide BA).size))
  have I3 := hide ((unhide IA).below b3)
  have X3 := hide ((unhide X2).up b3)
  have Y3 := hide (boxF_new w3 [.int .i64 fc, .int .i64 fa] 26)
  have bA := (Below.refl _ w3).alloc (Nat.le_refl _) (.cells #[.int .i64 fc, .int .i64 fa] 26)
  have B4 := hide ((unhide B3).trans (bA.mono (unhide B3).size))
  have I4 := hide ((unhide I3).below bA)
  have J4 := hide (hin3.below bA)
  have X4 := hide ((unhide X3).up bA)
  simp only [List.toArray] at Y3
  clear b3 bA R3 hin3 B3 HST X2 X3 IA I3 BA
  subst hn3
  obtain ⟨⟨x0, x1⟩, -⟩ := (unhide X4).duoI
  obtain ⟨⟨y0, y1⟩, -⟩ := (unhide Y3).duoI
  go_wp2_with fail
  clear x0 x1 y0 y1 HCM Y3
  generalize w3.alloc (.cells #[.int .i64 fc, .int .i64 fa] 26) = W4 at *
  go_loopw [8, 9] (fun sv i wr => ∃ k : Nat, k ≤ ws.length ∧ i = .int .i64 k ∧ sv = .string (joinT (ws.take k)) ∧ Hid (Below W4.heap.size W4 wr)) (fun _ i _ => ws.length - (intOf i).toNat)
  case atStart => exact ⟨0, Nat.zero_le _, rfl, rfl, Below.refl _ _⟩
  case round =>
    obtain ⟨k, hk, rfl, rfl, HBr⟩ := hrel
    by_cases hlt : k < ws.length
    · obtain ⟨b, off, rfl, hb4, hA4⟩ := wd_blk (unhide I4) hlt
      obtain ⟨b', off', rfl, hb4', hB4⟩ := wd_blk (unhide J4) hlt
      obtain ⟨c0, c1, c2⟩ := (hA4.below (unhide HBr) hb4) k hlt
      obtain ⟨d0, d1, d2⟩ := (hB4.below (unhide HBr) hb4') k hlt
      have hcmp := fun (X : World) => cmpWord_same ws[k] X
      have hgd : Tryz.prog.eqGuardType Tryz.prog.depth 30 = false := by kernel_rfl
      obtain ⟨q, hq1, hq2, hq3⟩ := unhide HPO ws[k] (List.getElem_mem hlt)
      have hjs := join_step hlt
      have hj1 := unhide HJN k
      have hj2 := unhide HJN (k + 1)
      rw [← hjs] at hj2
      have HJS := hide hjs
      generalize ws[k] = x at *
      obtain ⟨z0, z1, z2⟩ := x
      simp only at c0 c1 c2 d0 d1 d2 hcmp hq1 hq2 hq3 hj2 HJS
      subst hq1
      rw [ByteArray.size_append, ByteArray.size_append] at hj2
      have hse : ((tx.extract q (q + z1.size)).toList == z1.toList) = true := by rw [hq3]; exact neq_same z1
      have g1 : (0 : Int) ≤ (q : Int) := by omega
      have g2 : (q : Int) ≤ (q : Int) + (z1.size : Int) := by omega
      have g3 : (q : Int) + (z1.size : Int) ≤ (tx.size : Int) := by omega
      have g4 : ((q : Int) + (z1.size : Int)).toNat = q + z1.size := by omega
      clear hjs hA4 hB4
      generalize joinT (ws.take k) = J at *
      go_wp2_with fail
      go_quiet (fail)
      go_wp2_with fail
      exact ⟨⟨k + 1, by omega, by go_num, by rw [unhide HJS], hide ((unhide HBr).trans ((belowN _ _).mono (unhide HBr).size))⟩, by simp [intOf]; omega⟩
    · obtain rfl : k = ws.length := by omega
      have hT : ws.take ws.length = ws := List.take_length
      have hjz := unhide HJN ws.length
      rw [hT] at hjz
      rw [hT]
      have HBL := hide ((unhide B4).trans ((unhide HBr).mono (unhide B4).size))
      have XR := hide ((unhide X4).up (unhide HBr))
      have IR := hide ((unhide I4).below (unhide HBr))
      clear X4 I4 J4 HBr B4 HJN HPO hT
      obtain ⟨⟨x0, x1⟩, -⟩ := (unhide XR).duoI
      by_cases hz : fc = 0
      rotate_left
      · have hz' : (fc == 0) = false := by rw [beq_eq_false_iff_ne]; exact hz
        go_wp2_with fail
        go_ret
        exact ⟨rfl, unhide HBL⟩
      subst hz
      by_cases hlong : ((joinT ws).size : Int) ≤ 1500
      rotate_left
      · go_wp2_with fail
        go_ret
        exact ⟨rfl, unhide HBL⟩
      obtain ⟨m1, m2⟩ := unhide HBK (by omega)
      have HT2 := hide (unhide HTR rfl (joinT ws) m1 m2)
      clear HBK HTR
      generalize joinT ws = S at *
      have HW := hide (implWords_any S wr (by omega) (unhide HG wr (unhide HBL)).1)
      unfold RetBw at HW
      have HM2 := hide m2
      have hlv : (bwWords S).length = ws.length := by have := congrArg List.length m2; simpa using this
      clear m2
      generalize bwWords S = vs at *
      generalize bwCode S = gc at *
      generalize bwAt S = ga at *
      subst m1
      go_wp2_with fail
      refine (unhide HW).mono ?_
      rintro e w5 ⟨a5, n5, c5, rfl, R5, b5⟩
      obtain ⟨hn5, hin5, -⟩ := (unhide R5).words
      rw [hlv] at hn5
      subst hn5
      have B5 := hide ((unhide HBL).trans (b5.mono (unhide HBL).size))
      have I5 := hide ((unhide IR).below b5)
      have bA := (Below.refl _ w5).alloc (Nat.le_refl _) (.cells #[.int .i64 0, .int .i64 ga] 26)
      have X6 := hide (boxF_new w5 [.int .i64 0, .int .i64 ga] 26)
      simp only [List.toArray] at X6
      have B6 := hide ((unhide B5).trans (bA.mono (unhide B5).size))
      have I6 := hide ((unhide I5).below bA)
      have J6 := hide (hin5.below bA)
      clear x0 x1 XR b5 R5 hin5 IR I5 HW bA B5 HBL
      obtain ⟨⟨x0, x1⟩, -⟩ := (unhide X6).duoI
      go_wp2_with fail
      clear x0 x1 X6
      generalize w5.alloc (.cells #[.int .i64 0, .int .i64 ga] 26) = W6 at *
      go_loopw [12] (fun i wr => ∃ k : Nat, k ≤ ws.length ∧ i = .int .i64 k ∧ Hid (Below W6.heap.size W6 wr)) (fun i _ => ws.length - (intOf i).toNat)
      case atStart => exact ⟨0, Nat.zero_le _, rfl, Below.refl _ _⟩
      case round =>
        obtain ⟨k, hk, rfl, HBr⟩ := hrel
        by_cases hlt : k < ws.length
        · obtain ⟨b, off, rfl, hb4, hA4⟩ := wd_blk (unhide I6) hlt
          obtain ⟨b', off', rfl, hb4', hB4⟩ := wd_blk (unhide J6) (hlv ▸ hlt)
          obtain ⟨c0, c1, c2⟩ := (hA4.below (unhide HBr) hb4) k hlt
          obtain ⟨d0, d1, d2⟩ := (hB4.below (unhide HBr) hb4') k (hlv ▸ hlt)
          have hmk : tokW vs[k] = tokW ws[k] := by
            have e : (vs.map tokW)[k]'(by simp; omega) = (ws.map tokW)[k]'(by simp; omega) := by simp only [unhide HM2]
            simpa using e
          simp only [tokW, Prod.mk.injEq] at hmk
          obtain ⟨k1, k2⟩ := hmk
          rw [k1] at d0
          rw [k2] at d1
          have hse := neq_same ws[k].a1
          clear k1 k2 d2 c2 hA4 hB4
          generalize ws[k].a0 = z0 at *
          generalize ws[k].a1 = z1 at *
          go_wp2_with fail
          go_quiet (fail)
          go_wp2_with fail
          exact ⟨⟨k + 1, by omega, by go_num, hide ((unhide HBr).trans ((belowN _ _).mono (unhide HBr).size))⟩, by simp [intOf]; omega⟩
        · have HB7 := hide ((unhide B6).trans ((unhide HBr).mono (unhide B6).size))
          clear HBr B6 I6 J6 HM2
          go_wp2_with fail
          refine (implTree_any tx wr (by omega) (unhide HG wr (unhide HB7)).2 (unhide HG wr (unhide HB7)).1).mono ?_
          rintro e w7 ⟨a7, n7, c7, rfl, R7, b7⟩
          obtain ⟨hn7, hin7⟩ := nd_in (unhide R7)
          subst hn7
          have B8 := hide ((unhide HB7).trans (b7.mono (unhide HB7).size))
          have X8 := hide (boxF_new w7 [.int .i64 (trRes tx).code, .int .i64 (trRes tx).at'] 26)
          have bA := (Below.refl _ w7).alloc (Nat.le_refl _) (.cells #[.int .i64 (trRes tx).code, .int .i64 (trRes tx).at'] 26)
          have B9 := hide ((unhide B8).trans (bA.mono (unhide B8).size))
          have I9 := hide (hin7.below bA)
          have HLN := hide (small_nodes tx)
          simp only [List.toArray] at X8
          clear b7 bA R7 hin7 HB7 B8
          go_wp2_with fail
          have hgz9 : w7.heap.size < (w7.alloc (.cells #[.int .i64 (trRes tx).code, .int .i64 (trRes tx).at'] 26)).heap.size := (unhide X8).1.1
          generalize w7.alloc (.cells #[.int .i64 (trRes tx).code, .int .i64 (trRes tx).at'] 26) = W9 at *
          refine (implTree_any S W9 (by omega) (unhide HG W9 (unhide B9)).2 (unhide HG W9 (unhide B9)).1).mono ?_
          rintro e wa ⟨aa, na, ca, rfl, Ra, ba⟩
          obtain ⟨hna, hina⟩ := nd_in (unhide Ra)
          subst hna
          obtain ⟨q1, q2⟩ := unhide HT2
          rw [← q2] at hina
          have hql : (trRes S).nodes.length = (trRes tx).nodes.length := by rw [q2]
          rw [hql, ← q1]
          generalize (trRes tx).nodes = us at *
          generalize (trRes tx).code = tc at *
          generalize (trRes tx).at' = ta at *
          generalize (trRes S).at' = sa at *
          have BB := hide ((unhide B9).trans (ba.mono (unhide B9).size))
          have XB := hide ((unhide X8).up ba)
          have YB := hide (boxF_new wa [.int .i64 tc, .int .i64 sa] 26)
          have bA := (Below.refl _ wa).alloc (Nat.le_refl _) (.cells #[.int .i64 tc, .int .i64 sa] 26)
          have BC := hide ((unhide BB).trans (bA.mono (unhide BB).size))
          have IC := hide (((unhide I9).below ba).below bA)
          have JC := hide (hina.below bA)
          have XC := hide ((unhide XB).up bA)
          simp only [List.toArray] at YB
          obtain ⟨⟨x0, x1⟩, -⟩ := (unhide XC).duoI
          obtain ⟨⟨y0, y1⟩, -⟩ := (unhide YB).duoI
          have HQ := hide (quTree_same (wa.alloc (.cells #[.int .i64 tc, .int .i64 sa] 26)) a7 aa c7 ca us (unhide HLN) (unhide IC) (unhide JC))
          clear ba bA Ra hina B9 BB X8 XB I9 IC JC hql q1 q2
          go_wp2_with fail
          refine (unhide HQ).mono ?_
          rintro e wd ⟨rfl, bd⟩
          have BD := hide ((unhide BC).trans (bd.mono (unhide BC).size))
          clear bd
          go_wp2_with fail
          go_ret
          exact ⟨rfl, unhide BD⟩

theorem own : ownKnob Tryz.prog.godebug = none := by kernel_rfl
theorem laidOut : laidOutB Tryz.prog = true := by kernel_rfl
theorem door_met (os : Os) (args : Array Value) : laidMetH Tryz.prog Rows.fnWordsRow.laid ((World.doorLaid Tryz.prog 400 os).forCall (fun _ _ => 0) ⟨#[], args, []⟩).memory :=
  laidMetH_of_parts3 (fuel := 8) (laidMet_of_run' 8 (by kernel_rfl) (by kernel_rfl)) (by kernel_rfl) (by kernel_rfl)
theorem et : Tryz.prog.globalNamed "errors.errorType" = some 0 := by kernel_rfl
theorem rt : (Tryz.prog.cutTypes.find? (·.1 == "internal/reflectlite.rtype")).map (·.2) = some 117 := by kernel_rfl
theorem oneRow : ((List.range Tryz.prog.types.size).filter fun t => Tryz.prog.rowNamed t [101, 114, 114, 111, 114]) = [40] := by kernel_rfl
theorem parts {W : World} (h : laidMetH Tryz.prog Rows.fnWordsRow.laid W) : laidMet Tryz.prog [("math/bits.deBruijn32tab", Rows.laid_math_bits_deBruijn32tab), ("math/bits.deBruijn64tab", Rows.laid_math_bits_deBruijn64tab), ("internal/strconv.uint64pow10", Rows.laid_internal_strconv_uint64pow10), ("strconv.ErrRange", Rows.laid_strconv_ErrRange), ("strconv.ErrSyntax", Rows.laid_strconv_ErrSyntax), ("loop.example/headrace/impl.shapes", Rows.laid_loop_example_headrace_impl_shapes)] W ∧ handlesMet Tryz.prog [("errors.errorType", Rows.laid_errors_errorType)] W := h
theorem shapes {W : World} (h : laidMetH Tryz.prog Rows.fnWordsRow.laid W) : ShapesIn W := by
  obtain ⟨ps, hv, _⟩ := (parts h).1
  obtain ⟨_, _, _, _, _, _, _, _, _, _, hv, _⟩ := hv
  obtain ⟨_, _, _, _, _, _, _, _, _, _, hv, _⟩ := hv
  obtain ⟨_, _, _, _, _, _, _, _, _, _, hv, _⟩ := hv
  obtain ⟨_, _, _, _, _, _, _, _, _, _, hv, _⟩ := hv
  obtain ⟨_, _, _, _, _, _, _, _, _, _, hv, _⟩ := hv
  exact shapes_of_vars (by kernel_rfl) hv
theorem errs {W : World} (h : laidMetH Tryz.prog Rows.fnWordsRow.laid W) : ErrG W := by
  have h' := parts h
  obtain ⟨name, u, ty, e1, e2, e3, e4, e5⟩ := h'.2 _ (List.mem_singleton.2 rfl)
  have en : name = [101, 114, 114, 111, 114] := (Option.some.inj e1).symm
  subst en
  obtain rfl := Option.some.inj (rt.symm.trans e2)
  have hm : ty ∈ (List.range Tryz.prog.types.size).filter fun t => Tryz.prog.rowNamed t [101, 114, 114, 111, 114] := List.mem_filter.2 ⟨List.mem_range.2 e3, e4⟩
  rw [oneRow] at hm
  obtain rfl := List.mem_singleton.1 hm
  have hh : typeHandle Tryz.prog 40 = .pointer (some ⟨7, 40, none⟩) := by kernel_rfl
  rw [hh] at e5
  unfold ErrG
  simpa using World.var?_cell et e5 0

set_option maxRecDepth 100000 in
theorem lifted (os : Os) (started : os.Started) (H : Type) (enc : TypeId × Value → H) :
    ReturnsInHanded {} Tryz.checked os 3 .any (fun w args => (Rows.fnWordsSpec.pre enc Tryz.prog Tryz.f3 [] false w args ∧ laidMetH Tryz.prog Rows.fnWordsRow.laid w) ∧ sizedMet enc Tryz.prog Tryz.f3 (OpenSpec.ofChange Rows.fnWordsSpec) false w args)
      (Rows.fnWordsSpec.post enc Tryz.prog Tryz.f3 false true false false) := by
  refine returnsInHanded_of_change_and (C := Tryz.checked) (X := fun w _ => laidMetH Tryz.prog Rows.fnWordsRow.laid w) (fun _ _ _ hh h => h.of_heap hh) own started (by kernel_rfl) Tryz.func3
    (ChangeSpec.witness_shaped (enc := enc) (C := Tryz.checked) (os := os) (X := fun w _ => laidMetH Tryz.prog Rows.fnWordsRow.laid w) false (World.doorLaid Tryz.prog 400 os) #[.slice none 0 0] 8 rfl (World.shaped_of_RefB (by kernel_rfl) (by kernel_rfl)) (by kernel_rfl) (by kernel_rfl) (by kernel_rfl) (door_met os _)) ?_
  intro W base args ds gs before hval0 hW _ _ hL _
  have hval : ∀ (j : Nat) t v, Tryz.f3.params[j]? = some t → args[j]? = some v → Value.okWide Tryz.prog W .any base t v := hval0
  have hW' := hW
  obtain ⟨p, q, hA0, hV, rfl, hfz, hnd⟩ := hW
  have hA : DataW.TrodAll enc Tryz.prog W 0 (fun _ => true) true Tryz.f3.params.toList args.toList ds p := hA0
  rw [Tryz.params3] at hA hval
  obtain ⟨v0, d0, rfl, rfl, h0⟩ := trodAll_one hA
  obtain ⟨gv, tv, cv, fv, dv, pv, rfl, _, _, _, _, _⟩ := trodVars_one hV
  obtain ⟨a0, len0, cap0, rfl⟩ := okWide_slice Tryz.underlying22 (hval 0 22 v0 rfl rfl)
  have k0 := h0
  have lt0 : ∀ x ∈ p, x.block < W.heap.size := by obtain ⟨m, hm⟩ := k0; exact DataW.trod_lt m _ _ _ hm
  obtain ⟨bs0, rfl, hl0, hc0, hb0⟩ := open_byteS h0
  have hE : TrG W := ⟨errs hL, shapes hL⟩
  clear hA0 hval0
  refine (walk0 a0 cap0 bs0 W hl0 hc0 hb0 hE).mono fun e W' ⟨he, bel⟩ => ?_
  subst he
  have hV' := Below.trodVars laidOut bel (by kernel_rfl) hV
  exact ⟨_, rfl, _, _, _, [], _, _, hW', trodAll_mk1 (shut_bool Tryz.underlying4 _), trodAll_mk1 (Below.trod laidOut (by kernel_rfl) (of_decide_eq_true (by kernel_rfl)) k0 bel lt0), hV', bel.frame _, fun h => by cases h⟩

theorem said : Rows.FnWordsSaid :=
  OpenClaim.holds_of_wide 3 Tryz.f3 rfl rfl rfl rfl rfl rfl rfl ⟨rfl, rfl, rfl, rfl, rfl⟩ rfl rfl rfl rfl rfl (by kernel_rfl) Tryz.func3 (by kernel_rfl)
    (of_decide_eq_true (by kernel_rfl)) (by unfold Func.isWrapper; first | (rw [if_pos (by decide +kernel)]; kernel_rfl) | (rw [if_neg (by decide +kernel)]; exact ⟨rfl, rfl⟩))
    (fun os started H enc _ => lifted os started H enc)

theorem card : Rows.FnWordsCardSaid :=
  Claim7.holds_tied_plain_at .later [] _ _ _ _ said (fun _ h => by cases h) (by kernel_rfl) (fun _ h => by cases h) fnWords_row_tie rfl ⟨rfl, rfl⟩ (by kernel_rfl) rfl
    (fun f fn hf hfn => by
      obtain rfl : f = 3 := Option.some.inj ((show Tryz.prog.funcNamed Rows.fnWordsRow.func = some 3 by kernel_rfl).symm.trans hf) |>.symm
      obtain rfl : fn = Tryz.f3 := (Option.some.inj (Tryz.func3.symm.trans hfn)).symm
      exact ⟨by kernel_rfl, fun j t ht => by
        rw [Tryz.params3] at ht
        obtain rfl : t = 22 := by simpa using Array.mem_of_getElem? ht
        exact (show Tryz.prog.wantsStandIn 22 = false by kernel_rfl)⟩)
    (by kernel_rfl)

end Go.Proofs.YtjfebnplffpmoaaGreatDoor.fnWords

namespace Go.Proofs.YtjfebnplffpmoaaGreatDoor
theorem fnWords_holds : Rows.FnWordsCardSaid :=
  fnWords.card
end Go.Proofs.YtjfebnplffpmoaaGreatDoor
