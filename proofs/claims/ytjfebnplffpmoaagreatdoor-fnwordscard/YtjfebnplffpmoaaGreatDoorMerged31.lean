/-
  The laws' comparison of two lists of nodes, where they are the same.
-/
/-
  Cutting a text into words: the program's small functions.
-/
import Derived.Test.YtjfebnplffpmoaaGreatDoorMerged5
import Derived.Test.YtjfebnplffpmoaaGreatDoorMerged18
import Derived.Laws.StructEq
import Derived.BigQuiet
import Derived.Deep.QuietTactic
import Derived.Handy
import Derived.Test.YtjfebnplffpmoaaGreatDoorBodyM
import Derived.Test.YtjfebnplffpmoaaGreatDoorMerged19
import Derived.Test.YtjfebnplffpmoaaGreatDoorMerged20
import Derived.Deep.RegionHeld3
set_option linter.unusedVariables false
namespace Go.Proofs.YtjfebnplffpmoaaGreatDoor
open Go.RowKit Go.Maps Go.Deep

theorem cmpNode (x y : NodeV) (w : World) : (Op.equalIn 10000 49 (.agg #[.int .i64 x.kind, .int .i64 x.num, .string x.name, .int .i64 x.kids]) (.agg #[.int .i64 y.kind, .int .i64 y.num, .string y.name, .int .i64 y.kids])).run Tryz.prog w = .ok ((x.kind == y.kind) && ((x.num == y.num) && ((x.name.toList == y.name.toList) && (x.kids == y.kids)))) w := by
  rw [run_equalIn_struct w 9999 49 _ _ (by kernel_rfl) (by kernel_rfl)]
  have hf : (Tryz.prog.fieldsOf 49).toList.map (fun f => (f.name, f.type, f.offset)) = [("Kind", 3, 0), ("Num", 3, 1), ("Name", 9, 2), ("Kids", 3, 3)] := by kernel_rfl
  have hp : ∀ (T : TypeId) (a b c d : Value) (k : Nat) (v : Value), (isAgg T).run Tryz.prog w = .ok false w → (#[a, b, c, d] : Array Value)[k]? = some v → (part T #[a, b, c, d] k).run Tryz.prog w = .ok v w := by
    intro T a b c d k v ha hv
    unfold part
    simp only [Sem.run_bind, ha, Result.andThen_ok, Bool.false_eq_true, if_false, hv, Sem.run_pure]
  have hs : (isAgg 9).run Tryz.prog w = .ok false w := by kernel_rfl
  have hi : (isAgg 3).run Tryz.prog w = .ok false w := by kernel_rfl
  generalize (Tryz.prog.fieldsOf 49).toList = fs at hf ⊢
  match fs, hf with
  | [], hf => simp at hf
  | [_], hf => simp at hf
  | [_, _], hf => simp at hf
  | [_, _, _], hf => simp at hf
  | _ :: _ :: _ :: _ :: _ :: _, hf => simp at hf
  | [f0, f1, f2, f3], hf =>
    simp only [List.map_cons, List.map_nil, List.cons.injEq, Prod.mk.injEq, and_true] at hf
    obtain ⟨⟨n0, t0, o0⟩, ⟨n1, t1, o1⟩, ⟨n2, t2, o2⟩, ⟨n3, t3, o3⟩⟩ := hf
    simp only [Op.eqFields, n0, n1, n2, n3, t0, t1, t2, t3, o0, o1, o2, o3]
    rw [if_pos (by decide), if_pos (by decide), if_pos (by decide), if_pos (by decide)]
    simp only [Sem.run_bind]
    rw [hp _ _ _ _ _ 0 (.int .i64 x.kind) hi rfl, Result.andThen_ok, hp _ _ _ _ _ 0 (.int .i64 y.kind) hi rfl, Result.andThen_ok, run_equalIn_int w 9998 3 .i64 .i64 x.kind y.kind Tryz.underlying3, Result.andThen_ok]
    cases (x.kind == y.kind)
    · simp
    simp only [Bool.not_true, Bool.false_eq_true, if_false, Sem.run_bind]
    rw [hp _ _ _ _ _ 1 (.int .i64 x.num) hi rfl, Result.andThen_ok, hp _ _ _ _ _ 1 (.int .i64 y.num) hi rfl, Result.andThen_ok, run_equalIn_int w 9998 3 .i64 .i64 x.num y.num Tryz.underlying3, Result.andThen_ok]
    cases (x.num == y.num)
    · simp
    simp only [Bool.not_true, Bool.false_eq_true, if_false, Sem.run_bind]
    rw [hp _ _ _ _ _ 2 (.string x.name) hs rfl, Result.andThen_ok, hp _ _ _ _ _ 2 (.string y.name) hs rfl, Result.andThen_ok, run_equalIn_string w 9998 9 x.name y.name Tryz.underlying9, Result.andThen_ok]
    cases (x.name.toList == y.name.toList)
    · simp
    simp only [Bool.not_true, Bool.false_eq_true, if_false, Sem.run_bind]
    rw [hp _ _ _ _ _ 3 (.int .i64 x.kids) hi rfl, Result.andThen_ok, hp _ _ _ _ _ 3 (.int .i64 y.kids) hi rfl, Result.andThen_ok, run_equalIn_int w 9998 3 .i64 .i64 x.kids y.kids Tryz.underlying3, Result.andThen_ok]
    cases (x.kids == y.kids) <;> simp
theorem cmpNode_same (x : NodeV) (w : World) : (Op.equalIn 10000 49 (.agg #[.int .i64 x.kind, .int .i64 x.num, .string x.name, .int .i64 x.kids]) (.agg #[.int .i64 x.kind, .int .i64 x.num, .string x.name, .int .i64 x.kids])).run Tryz.prog w = .ok true w := by
  rw [cmpNode]
  simp
set_option maxHeartbeats 3200000 in
theorem quTree_row (w : World) (b off c b' off' c' : Nat) (ns : List NodeV) (hs : ns.length ≤ 1048576) (hA : NodesAt w b off ns) (hB : NodesAt w b' off' ns) (hb : b < w.heap.size) (hb' : b' < w.heap.size) :
    Calls Tryz.prog 8 #[.slice (some ⟨b, off, none⟩) ns.length c, .slice (some ⟨b', off', none⟩) ns.length c'] w fun e w' => e = .returned (.bool true) ∧ Below w.heap.size w w' := by
  have HA := hide hA
  have HB := hide hB
  clear hA hB
  go_enter Tryz.func8, Tryz.ntmps8
  go_wp2_with fail
  go_loopw [5] (fun i wr => ∃ k : Nat, k ≤ ns.length ∧ i = .int .i64 k ∧ Hid (Below w.heap.size w wr)) (fun i _ => ns.length - (intOf i).toNat)
  case atStart => exact ⟨0, Nat.zero_le _, rfl, Below.refl _ _⟩
  case round =>
    obtain ⟨k, hk, rfl, HBr⟩ := hrel
    by_cases hlt : k < ns.length
    · obtain ⟨c0, c1, c2, c3⟩ := NodesAt.below (unhide HA) (unhide HBr) hb k hlt
      obtain ⟨d0, d1, d2, d3⟩ := NodesAt.below (unhide HB) (unhide HBr) hb' k hlt
      have hcmp := fun (X : World) => cmpNode_same ns[k] X
      have hgd : Tryz.prog.eqGuardType Tryz.prog.depth 49 = false := by kernel_rfl
      generalize ns[k] = x at *
      go_wp2_with fail
      go_quiet (fail)
      go_wp2_with fail
      go_roundw
      case rel => exact ⟨k + 1, by omega, by go_num, hide ((unhide HBr).trans ((belowN _ _).mono (unhide HBr).size))⟩
      case measure => simp [intOf]; omega
    · go_wp2_with fail
      go_ret
      exact ⟨rfl, unhide HBr⟩
theorem quTree_none (w : World) (a a' : Option Addr) (c c' : Nat) :
    Calls Tryz.prog 8 #[.slice a 0 c, .slice a' 0 c'] w fun e w' => e = .returned (.bool true) ∧ Below w.heap.size w w' := by
  go_enter Tryz.func8, Tryz.ntmps8
  go_wp2_with fail
  refine wp_loop_rounds 1 ?_
  rw [rounds_succ]
  go_wp2_with fail
  go_ret
  exact ⟨rfl, Below.refl _ _⟩
/-- two readable lists that hold the same nodes are found the same -/
theorem quTree_same (w : World) (a a' : Option Addr) (c c' : Nat) (ns : List NodeV) (hs : ns.length ≤ 1048576) (hA : NodesIn w a ns) (hB : NodesIn w a' ns) :
    Calls Tryz.prog 8 #[.slice a ns.length c, .slice a' ns.length c'] w fun e w' => e = .returned (.bool true) ∧ Below w.heap.size w w' := by
  rcases hA with rfl | ⟨b, off, rfl, hb, hA⟩
  · exact quTree_none w a a' c c'
  · rcases hB with rfl | ⟨b', off', rfl, hb', hB⟩
    · exact quTree_none w _ a' c c'
    · exact quTree_row w b off c b' off' c' ns hs hA hB hb hb'
end Go.Proofs.YtjfebnplffpmoaaGreatDoor

set_option linter.unusedVariables false
namespace Go.Proofs.YtjfebnplffpmoaaGreatDoor
open Go.RowKit Go.Maps Go.Deep
theorem sgn_any (l : List UInt8) : isSgnL l = ((l == [33,61]) || (l == [60,61]) || (l == [62,61]) || (l == [40]) || (l == [41]) || (l == [44]) || (l == [43]) || (l == [45]) || (l == [42]) || (l == [47]) || (l == [37]) || (l == [61]) || (l == [60]) || (l == [62])) := by
  unfold isSgnL signLs
  simp only [List.any_cons, List.any_nil, Bool.or_false]
  have bc : ∀ a b : List UInt8, (a == b) = (b == a) := fun a b => by rw [Bool.eq_iff_iff, beq_iff_eq, beq_iff_eq]; exact eq_comm
  simp only [bc _ l, Bool.or_assoc]
set_option maxHeartbeats 3200000 in
theorem isSign_any (s : ByteArray) (w : World) : Calls Tryz.prog 40 #[.string s] w fun e w' => e = .returned (.bool (isSgnL s.data.toList)) ∧ w' = w := by
  have hx := sgn_any s.data.toList
  have h0 : (s.toList == [33,61]) = (s.data.toList == [33,61]) := by rw [ByteArray.toList_eq]
  have h1 : (s.toList == [60,61]) = (s.data.toList == [60,61]) := by rw [ByteArray.toList_eq]
  have h2 : (s.toList == [62,61]) = (s.data.toList == [62,61]) := by rw [ByteArray.toList_eq]
  have h3 : (s.toList == [40]) = (s.data.toList == [40]) := by rw [ByteArray.toList_eq]
  have h4 : (s.toList == [41]) = (s.data.toList == [41]) := by rw [ByteArray.toList_eq]
  have h5 : (s.toList == [44]) = (s.data.toList == [44]) := by rw [ByteArray.toList_eq]
  have h6 : (s.toList == [43]) = (s.data.toList == [43]) := by rw [ByteArray.toList_eq]
  have h7 : (s.toList == [45]) = (s.data.toList == [45]) := by rw [ByteArray.toList_eq]
  have h8 : (s.toList == [42]) = (s.data.toList == [42]) := by rw [ByteArray.toList_eq]
  have h9 : (s.toList == [47]) = (s.data.toList == [47]) := by rw [ByteArray.toList_eq]
  have h10 : (s.toList == [37]) = (s.data.toList == [37]) := by rw [ByteArray.toList_eq]
  have h11 : (s.toList == [61]) = (s.data.toList == [61]) := by rw [ByteArray.toList_eq]
  have h12 : (s.toList == [60]) = (s.data.toList == [60]) := by rw [ByteArray.toList_eq]
  have h13 : (s.toList == [62]) = (s.data.toList == [62]) := by rw [ByteArray.toList_eq]
  generalize (s.data.toList == [33,61]) = c0 at *
  generalize (s.data.toList == [60,61]) = c1 at *
  generalize (s.data.toList == [62,61]) = c2 at *
  generalize (s.data.toList == [40]) = c3 at *
  generalize (s.data.toList == [41]) = c4 at *
  generalize (s.data.toList == [44]) = c5 at *
  generalize (s.data.toList == [43]) = c6 at *
  generalize (s.data.toList == [45]) = c7 at *
  generalize (s.data.toList == [42]) = c8 at *
  generalize (s.data.toList == [47]) = c9 at *
  generalize (s.data.toList == [37]) = c10 at *
  generalize (s.data.toList == [61]) = c11 at *
  generalize (s.data.toList == [60]) = c12 at *
  generalize (s.data.toList == [62]) = c13 at *
  generalize isSgnL s.data.toList = r at *
  have HX := hide hx
  clear hx
  cases c0
  rotate_left
  · go_enter Tryz.func40, Tryz.ntmps40
    go_wp2_with fail
    go_ret
    exact ⟨by rw [unhide HX]; simp, rfl⟩
  cases c1
  rotate_left
  · go_enter Tryz.func40, Tryz.ntmps40
    go_wp2_with fail
    go_ret
    exact ⟨by rw [unhide HX]; simp, rfl⟩
  cases c2
  rotate_left
  · go_enter Tryz.func40, Tryz.ntmps40
    go_wp2_with fail
    go_ret
    exact ⟨by rw [unhide HX]; simp, rfl⟩
  cases c3
  rotate_left
  · go_enter Tryz.func40, Tryz.ntmps40
    go_wp2_with fail
    go_ret
    exact ⟨by rw [unhide HX]; simp, rfl⟩
  cases c4
  rotate_left
  · go_enter Tryz.func40, Tryz.ntmps40
    go_wp2_with fail
    go_ret
    exact ⟨by rw [unhide HX]; simp, rfl⟩
  cases c5
  rotate_left
  · go_enter Tryz.func40, Tryz.ntmps40
    go_wp2_with fail
    go_ret
    exact ⟨by rw [unhide HX]; simp, rfl⟩
  cases c6
  rotate_left
  · go_enter Tryz.func40, Tryz.ntmps40
    go_wp2_with fail
    go_ret
    exact ⟨by rw [unhide HX]; simp, rfl⟩
  cases c7
  rotate_left
  · go_enter Tryz.func40, Tryz.ntmps40
    go_wp2_with fail
    go_ret
    exact ⟨by rw [unhide HX]; simp, rfl⟩
  cases c8
  rotate_left
  · go_enter Tryz.func40, Tryz.ntmps40
    go_wp2_with fail
    go_ret
    exact ⟨by rw [unhide HX]; simp, rfl⟩
  cases c9
  rotate_left
  · go_enter Tryz.func40, Tryz.ntmps40
    go_wp2_with fail
    go_ret
    exact ⟨by rw [unhide HX]; simp, rfl⟩
  cases c10
  rotate_left
  · go_enter Tryz.func40, Tryz.ntmps40
    go_wp2_with fail
    go_ret
    exact ⟨by rw [unhide HX]; simp, rfl⟩
  cases c11
  rotate_left
  · go_enter Tryz.func40, Tryz.ntmps40
    go_wp2_with fail
    go_ret
    exact ⟨by rw [unhide HX]; simp, rfl⟩
  cases c12
  rotate_left
  · go_enter Tryz.func40, Tryz.ntmps40
    go_wp2_with fail
    go_ret
    exact ⟨by rw [unhide HX]; simp, rfl⟩
  cases c13
  rotate_left
  · go_enter Tryz.func40, Tryz.ntmps40
    go_wp2_with fail
    go_ret
    exact ⟨by rw [unhide HX]; simp, rfl⟩
  go_enter Tryz.func40, Tryz.ntmps40
  go_wp2_with fail
  go_ret
  exact ⟨by rw [unhide HX]; rfl, rfl⟩
set_option maxHeartbeats 1600000 in
theorem numberOk_any (s : ByteArray) (w : World) (hs : 1 ≤ s.size) : Calls Tryz.prog 41 #[.string s] w fun e w' => e = .returned (.bool (numOkB s)) ∧ w' = w := by
  have hb := byteAt_eq s 0 (by omega)
  have h0 : (0 : Int) < (s.size : Int) := by omega
  have hp : 0 < s.size := by omega
  by_cases h18 : s.size ≤ 18
  · have g18 : (s.size : Int) ≤ 18 := by omega
    by_cases h1 : s.size = 1
    · have g1 : ((s.size : Int) == 1) = true := by rw [beq_iff_eq]; omega
      have HR := hide (show numOkB s = true from by unfold numOkB; simp [h1])
      clear h1 h18 hb
      go_enter Tryz.func41, Tryz.ntmps41
      go_wp2_with fail
      go_ret
      exact ⟨by rw [unhide HR]; rfl, rfl⟩
    · have g1 : ((s.size : Int) == 1) = false := by rw [beq_eq_false_iff_ne]; omega
      by_cases h48 : ((s[0]'(by omega)).toNat : Int) = 48
      · have g48 : (((s[0]'(by omega)).toNat : Int) != 48) = false := by rw [bne_eq_false_iff_eq]; exact h48
        have HR := hide (show numOkB s = false from by unfold numOkB; rw [hb]; simp [h1, h48])
        clear h1 h18 hb h48
        go_enter Tryz.func41, Tryz.ntmps41
        go_wp2_with fail
        go_ret
        exact ⟨by rw [unhide HR]; rfl, rfl⟩
      · have g48 : (((s[0]'(by omega)).toNat : Int) != 48) = true := by rw [bne_iff_ne]; exact h48
        have HR := hide (show numOkB s = true from by unfold numOkB; rw [hb]; simp [h18, h48])
        clear h1 h18 hb h48
        go_enter Tryz.func41, Tryz.ntmps41
        go_wp2_with fail
        go_ret
        exact ⟨by rw [unhide HR]; rfl, rfl⟩
  · have g18 : ¬ (s.size : Int) ≤ 18 := by omega
    have HR := hide (show numOkB s = false from by unfold numOkB; simp [h18])
    clear h18 hb
    go_enter Tryz.func41, Tryz.ntmps41
    go_wp2_with fail
    go_ret
    exact ⟨by rw [unhide HR]; rfl, rfl⟩
def errV (c a : Int) : Value := .iface 67 (.agg #[.int .i64 a, .iface 69 (.agg #[.int .i64 c])])
theorem wrongAt_any (c a : Int) (w : World) : Calls Tryz.prog 19 #[.int .i64 c, .int .i64 a] w fun e w' => e = .returned (errV c a) ∧ w' = w := by
  go_enter Tryz.func19, Tryz.ntmps19
  go_wp2_with fail
  go_ret
  exact ⟨rfl, rfl⟩
theorem BoxF.fiveW {w : World} {g : Nat} {a b c d e : Value} (h : BoxF w g [a, b, c, d, e]) : (w.cell? ⟨g, 0, none⟩ = some a ∧ w.cell? ⟨g, 1, none⟩ = some b ∧ w.cell? ⟨g, 2, none⟩ = some c ∧ w.cell? ⟨g, 3, none⟩ = some d ∧ w.cell? ⟨g, 4, none⟩ = some e) ∧ (w.frozen? ⟨g, 0, none⟩ = false ∧ w.frozen? ⟨g, 1, none⟩ = false ∧ w.frozen? ⟨g, 2, none⟩ = false ∧ w.frozen? ⟨g, 3, none⟩ = false ∧ w.frozen? ⟨g, 4, none⟩ = false) :=
  ⟨⟨h.1.at 0 _ rfl, h.1.at 1 _ rfl, h.1.at 2 _ rfl, h.1.at 3 _ rfl, h.1.at 4 _ rfl⟩, h.2 0 (by simp), h.2 1 (by simp), h.2 2 (by simp), h.2 3 (by simp), h.2 4 (by simp)⟩
/-- the cutter: the text, the keys, the words so far, the open word -/
def cutC (s : ByteArray) (kb : Nat) (row : Value) (opn : Int) (st : Nat) : List Value := [.string s, .map (some kb), row, .int .i64 opn, .int .i64 (st : Int)]
def goR (s : ByteArray) (opn : Int) (st k : Nat) (r : Int) : Bool :=
  if opn = 1 then digB r else if opn = 2 then letB r || digB r
  else if opn = 4 then decide (r = 61) && isSgnL ((s.extract st k).data.toList ++ [61]) else false
set_option maxHeartbeats 3200000 in
theorem goesOn_any (s : ByteArray) (kb cb : Nat) (row : Value) (opn : Int) (st k : Nat) (r : Int) (w : World) (hs : s.size ≤ 1500) (ho : opn = 0 ∨ opn = 1 ∨ opn = 2 ∨ opn = 4) (hk : opn = 4 → st ≤ k ∧ k ≤ s.size) (hb : BoxF w cb (cutC s kb row opn st)) :
    Calls Tryz.prog 21 #[.pointer (some ⟨cb, 0, none⟩), .int .i64 (k : Int), .int .i32 r] w fun e w' => e = .returned (.bool (goR s opn st k r)) ∧ Below w.heap.size w w' := by
  have BX := hide hb
  unfold cutC at hb
  obtain ⟨⟨c0, c1, c2, c3, c4⟩, -⟩ := hb.fiveW
  clear hb
  rcases ho with rfl | rfl | rfl | rfl
  · go_enter Tryz.func21, Tryz.ntmps21
    go_wp2_with fail
    go_ret
    exact ⟨rfl, Below.refl _ _⟩
  · go_enter Tryz.func21, Tryz.ntmps21
    go_wp2_with (first
      | (go_at_call 38; refine (isDigit_any _ _).mono ?_; rintro e w2 ⟨rfl, rfl⟩)
      | fail)
    go_ret
    exact ⟨rfl, Below.refl _ _⟩
  · cases hl : letB r
    · have HR := hide (show goR s 2 st k r = digB r from by unfold goR; rw [if_neg (by decide), if_pos rfl, hl]; rfl)
      go_enter Tryz.func21, Tryz.ntmps21
      go_wp2_with (first
        | (go_at_call 39; refine (isLetter_any _ _).mono ?_; rintro e w2 ⟨rfl, rfl⟩)
        | (go_at_call 38; refine (isDigit_any _ _).mono ?_; rintro e w2 ⟨rfl, rfl⟩)
        | fail)
      go_ret
      exact ⟨by rw [unhide HR]; rfl, Below.refl _ _⟩
    · have HR := hide (show goR s 2 st k r = true from by unfold goR; rw [if_neg (by decide), if_pos rfl, hl]; rfl)
      go_enter Tryz.func21, Tryz.ntmps21
      go_wp2_with (first
        | (go_at_call 39; refine (isLetter_any _ _).mono ?_; rintro e w2 ⟨rfl, rfl⟩)
        | fail)
      go_ret
      exact ⟨by rw [unhide HR]; rfl, Below.refl _ _⟩
  · obtain ⟨q1, q2⟩ := hk rfl
    have p1 : (st : Int) ≤ (k : Int) := by omega
    have p2 : (k : Int) ≤ (s.size : Int) := by omega
    by_cases hr : r = 61
    · have g61 : (r == 61) = true := by rw [beq_iff_eq]; exact hr
      have HR := hide (show goR s 4 st k r = isSgnL ((s.extract st k).data.toList ++ [61]) from by unfold goR; rw [if_neg (by decide), if_neg (by decide), if_pos rfl, decide_eq_true hr]; rfl)
      have hzz : (s.extract st k).size ≤ 1500 := by rw [ByteArray.size_extract]; omega
      have HIS := hide (fun (W : World) => isSign_any (s.extract st k ++ ⟨#[61]⟩) W)
      rw [show (s.extract st k ++ ⟨#[61]⟩ : ByteArray).data.toList = (s.extract st k).data.toList ++ [61] from by simp] at HIS
      generalize (s.extract st k).data.toList ++ [61] = l at *
      generalize hex : s.extract st k = tx at *
      have hsum : ¬ 9223372036854775807 < tx.size + 1 := by omega
      have KP := hide (show ∀ X : World, Below w.heap.size w X → (X.cell? ⟨cb, 0, none⟩ = some (.string s) ∧ X.cell? ⟨cb, 4, none⟩ = some (.int .i64 (st : Int))) ∧ Hid (Below w.heap.size w X) from fun X b => by
        have x := ((unhide BX).up b).1
        exact ⟨⟨x.at 0 _ rfl, x.at 4 _ rfl⟩, hide b⟩)
      have BD := hide ((Below.refl w.heap.size w).drew)
      clear hr
      go_enter Tryz.func21, Tryz.ntmps21
      go_wp2_with fail
      go_region_held3 (fun X : World => (X.cell? ⟨cb, 0, none⟩ = some (.string s) ∧ X.cell? ⟨cb, 4, none⟩ = some (.int .i64 (st : Int))) ∧ Hid (Below w.heap.size w X)) ((refine unhide KP _ ?_; exact unhide (by assumption)))
        (first
          | (go_at_call 40; refine (unhide HIS _).mono ?_; rintro e w2 ⟨rfl, rfl⟩)
          | fail)
      all_goals
        go_wp2_with fail
        go_ret
        exact ⟨by rw [unhide HR]; rfl, unhide BD⟩
    · have g61 : (r == 61) = false := by rw [beq_eq_false_iff_ne]; exact hr
      have HR := hide (show goR s 4 st k r = false from by unfold goR; rw [if_neg (by decide), if_neg (by decide), if_pos rfl, decide_eq_false hr]; rfl)
      clear hr
      go_enter Tryz.func21, Tryz.ntmps21
      go_wp2_with fail
      go_region
      all_goals
        go_wp2_with fail
        go_ret
        exact ⟨by rw [unhide HR]; rfl, (Below.refl _ _).drew⟩
set_option maxHeartbeats 3200000 in
theorem begin_any (s : ByteArray) (kb cb : Nat) (row : Value) (opn : Int) (st k : Nat) (r : Int) (w : World) (hb : BoxF w cb (cutC s kb row opn st)) :
    Calls Tryz.prog 23 #[.pointer (some ⟨cb, 0, none⟩), .int .i64 (k : Int), .int .i32 r] w fun e w' => e = .returned (.tuple #[]) ∧ Hid (BoxF w' cb (cutC s kb row (beginK r) k)) ∧ Hid (Turn [cb] w w') := by
  have KEY := hide (fun (o : Int) => show BoxF ((w.setCell ⟨cb, 4, none⟩ (.int .i64 (k : Int))).setCell ⟨cb, 3, none⟩ (.int .i64 o)) cb (cutC s kb row o k) ∧ Turn [cb] w ((w.setCell ⟨cb, 4, none⟩ (.int .i64 (k : Int))).setCell ⟨cb, 3, none⟩ (.int .i64 o)) from
    ⟨by
      have := (hb.set 4 (.int .i64 (k : Int)) (by simp [cutC])).set 3 (.int .i64 o) (by simp [cutC])
      simpa [cutC] using this, ((Turn.refl [cb] w).setCell (by simp) _ _).setCell (by simp) _ _⟩)
  unfold cutC at hb
  obtain ⟨⟨c0, c1, c2, c3, c4⟩, f0, f1, f2, f3, f4⟩ := hb.fiveW
  clear hb
  by_cases h32 : r = 32
  · have g32 : (r == 32) = true := by rw [beq_iff_eq]; exact h32
    have HB := hide (show beginK r = 0 from by unfold beginK; rw [if_pos h32])
    clear h32
    go_enter Tryz.func23, Tryz.ntmps23
    go_wp2_with fail
    go_end0
    exact ⟨rfl, hide (by rw [unhide HB]; exact (unhide KEY 0).1), hide (unhide KEY 0).2⟩
  have g32 : (r == 32) = false := by rw [beq_eq_false_iff_ne]; exact h32
  cases hd : digB r
  rotate_left
  · have HB := hide (show beginK r = 1 from by unfold beginK; rw [if_neg h32, if_pos hd])
    go_enter Tryz.func23, Tryz.ntmps23
    go_wp2_with (first
      | (go_at_call 38; refine (isDigit_any _ _).mono ?_; rintro e w2 ⟨rfl, rfl⟩)
      | fail)
    go_end0
    exact ⟨rfl, hide (by rw [unhide HB]; exact (unhide KEY 1).1), hide (unhide KEY 1).2⟩
  cases hl : letB r
  rotate_left
  · have HB := hide (show beginK r = 2 from by unfold beginK; rw [if_neg h32, if_neg (by rw [hd]; simp), if_pos hl])
    go_enter Tryz.func23, Tryz.ntmps23
    go_wp2_with (first
      | (go_at_call 38; refine (isDigit_any _ _).mono ?_; rintro e w2 ⟨rfl, rfl⟩)
      | (go_at_call 39; refine (isLetter_any _ _).mono ?_; rintro e w2 ⟨rfl, rfl⟩)
      | fail)
    go_end0
    exact ⟨rfl, hide (by rw [unhide HB]; exact (unhide KEY 2).1), hide (unhide KEY 2).2⟩
  · have HB := hide (show beginK r = 4 from by unfold beginK; rw [if_neg h32, if_neg (by rw [hd]; simp), if_neg (by rw [hl]; simp)])
    go_enter Tryz.func23, Tryz.ntmps23
    go_wp2_with (first
      | (go_at_call 38; refine (isDigit_any _ _).mono ?_; rintro e w2 ⟨rfl, rfl⟩)
      | (go_at_call 39; refine (isLetter_any _ _).mono ?_; rintro e w2 ⟨rfl, rfl⟩)
      | fail)
    go_end0
    exact ⟨rfl, hide (by rw [unhide HB]; exact (unhide KEY 4).1), hide (unhide KEY 4).2⟩
end Go.Proofs.YtjfebnplffpmoaaGreatDoor
