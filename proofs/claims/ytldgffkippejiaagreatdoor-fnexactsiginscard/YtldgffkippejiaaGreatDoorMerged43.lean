/-
  append(nil, make([]T, n)...): an operation of its own in the model.
-/
/-
  slices.Concat of texts: a new slice, the one behind the other.
-/
import Derived.Test.YtldgffkippejiaaGreatDoorMerged3
import Derived.Deep.Slices
import Derived.Test.YtldgffkippejiaaGreatDoorMerged41
set_option linter.unusedVariables false
namespace Go.Proofs.YtldgffkippejiaaGreatDoor
open Go.RowKit Go.Maps Go.Deep

/-- append(nil, make([]T, n)...) -/
theorem run_append_made {P : Program} (w : World) (t u ty e : TypeId) (i : TypeInfo) (z : Value) (ht : P.underlying t = some (.slice e)) (hu : P.underlying u = some (.int .i64)) (hi : P.info? e = some i) (hz : i.zero = some z) (hs : i.size = 1)
    (n : Nat) (h0 : 0 < n) (h63 : n ≤ 1000000) (h48 : i.bytes ≤ 1000) :
    (Builtin.append_ #[t, u] ty #[.slice none 0 0, .int .i64 (n : Int)]).run P w =
      .ok (.slice (some ⟨w.heap.size, 0, none⟩) n (grownCap w n 0 e)) (w.drew.alloc (.cells (Builtin.zeroCells z.cells n ++ Builtin.zeroCells z.cells (grownCap w n 0 e - n)) e)) := by
  have hn : n ≠ 0 := by omega
  have hw : IntKind.i64.wrap (n : Int) = n := wrap_small _ (by omega) (by omega)
  have hm : n * i.bytes ≤ 1000000 * 1000 := Nat.mul_le_mul h63 h48
  have hm' : ¬ (281474976710656 < (n : Int) * (i.bytes : Int)) := by have : ((n * i.bytes : Nat) : Int) ≤ 1000000000 := by omega
                                                                     rw [Int.natCast_mul] at this; omega
  have h63' : ¬ (9223372036854775807 < (n : Int)) := by omega
  have h48' : ¬ (281474976710656 < Builtin.nextslicecap n 0 * i.bytes) := by rw [nextslicecap_zero h0]; omega
  have hneg : ¬ (n : Int) < 0 := by omega

  have hmx : max (n : Int) 0 = n := by omega
  have has : (asIntOf (.int .i64 (n : Int))).run P w = .ok (.i64, (n : Int)) w := rfl
  simp [Builtin.append_, run_underlying ht, run_underlying hu, sizeOf, typeInfo, zeroValue, hi, hz, hs, asInt, has, hw, hneg, hmx, hm', hn, h63', h48', Question.forced, run_firstCells_none, newRow, grownCap]

theorem wpList_append_made {P : Program} {w w1 : World} {ops : Array Oper} {rest : List Oper} {o : Oper} {a : Act} {Q : Exit → Act → World → Prop} (hgd : o.guard = none) (s x : Operand) (t u : TypeId)
    (ho : o.op = .call { callee := .builtin .append, args := #[s, x], argTypes := #[t, u] }) (v y r : Value) (hs : a.eval s = v) (hx : a.eval x = y) (hr : (Builtin.append_ #[t, u] o.type #[v, y]).run P w = .ok r w1)
    (h : wpList P ops Q rest (a.put o.dst r) w1) : wpList P ops Q (o :: rest) a w := by
  refine wpList_plain hgd fun K hK => ?_
  unfold Oper.wp execOp
  simp only [ho, resolve, invoke, builtin, Sem.run_bind, Sem.run_pure, Result.andThen_ok, List.map_toArray, List.map_cons, List.map_nil, hs, hx, hr]
  exact hK _ _ h
end Go.Proofs.YtldgffkippejiaaGreatDoor

set_option linter.unusedVariables false
namespace Go.Proofs.YtldgffkippejiaaGreatDoor
open Go.RowKit Go.Maps Go.Deep

theorem underInt : Tryz.prog.underlying 3 = some (.int .i64) := Tryz.underlying3

set_option maxHeartbeats 800000 in
theorem growNil_any (w : World) (n : Nat) (h1 : 1 ≤ n) (h2 : n ≤ 1000) : Calls Tryz.prog 103 #[.slice none 0 0, .int .i64 n] w fun e w' => ∃ g cap, e = .returned (.slice (some ⟨g, 0, none⟩) 0 cap) ∧ Hid (StrRow w.heap.size w' (.slice (some ⟨g, 0, none⟩) 0 cap) [] ∧ Below w.heap.size w w') := by
  obtain ⟨i0, hi, hz0, hz1, hz2⟩ := info_parts infoStr
  have hrun := fun ty => run_append_made (P := Tryz.prog) w 22 3 ty 9 i0 _ Tryz.underlying22 underInt hi hz0 hz1 n (by omega) (by omega) (by omega)
  have hge := grownCap_ge w n 0 9
  have hcm : grownCap w n 0 9 ≤ maxLen := grownCap_le_maxLen w n 0 9 (by unfold maxLen; omega)
  have HP := hide (show StrRow w.heap.size (w.drew.alloc (.cells (Builtin.zeroCells (Value.cells (.string ByteArray.empty)) n ++ Builtin.zeroCells (Value.cells (.string ByteArray.empty)) (grownCap w n 0 9 - n)) 9)) (.slice (some ⟨w.heap.size, 0, none⟩) 0 (grownCap w n 0 9)) [] ∧ Below w.heap.size w (w.drew.alloc (.cells (Builtin.zeroCells (Value.cells (.string ByteArray.empty)) n ++ Builtin.zeroCells (Value.cells (.string ByteArray.empty)) (grownCap w n 0 9 - n)) 9)) from
    ⟨⟨rfl, .inr ⟨w.heap.size, _, _, rfl, Nat.le_refl _, heap_alloc_new w.drew _, Nat.zero_le _, hcm, by simp only [Array.size_append, size_zeroCells]; simp [Value.cells]; omega, by simp⟩⟩, (Below.refl w.heap.size w).drew.alloc (Nat.le_refl _) _⟩)
  generalize grownCap w n 0 9 = cap at hrun hge hcm HP
  generalize (w.drew.alloc (.cells (Builtin.zeroCells (Value.cells (.string ByteArray.empty)) n ++ Builtin.zeroCells (Value.cells (.string ByteArray.empty)) (cap - n)) 9)) = w1 at hrun HP
  clear hz0 hz1 hz2 hi hcm
  go_enter Tryz.func103, Tryz.ntmps103
  have HR := hide hrun
  clear hrun
  go_wp2_with (first | (at_builtin; refine wpList_append_made rfl _ _ _ _ rfl _ _ _ rfl rfl (unhide HR _) ?_) | fail)
  go_ret
  exact ⟨_, _, rfl, HP⟩

theorem one_cells (ts : List ByteArray) : ∀ u ∈ ts.map Value.string, u.oneCell' = true := by
  intro u hu
  obtain ⟨t, _, rfl⟩ := List.mem_map.1 hu
  rfl
theorem cells_of {w : World} {g : Nat} {ts : List ByteArray} (hc : ∀ j (h : j < ts.length), w.cell? ⟨g, j, none⟩ = some (.string ts[j])) : ∀ j u, (ts.map Value.string)[j]? = some u → w.cell? ((⟨g, 0, none⟩ : Addr).add j) = some u := by
  intro j u hu
  rw [List.getElem?_map] at hu
  obtain ⟨t, ht, rfl⟩ := Option.map_eq_some_iff.1 hu
  obtain ⟨hj, rfl⟩ := List.getElem?_eq_some_iff.1 ht
  have hadd : (⟨g, 0, none⟩ : Addr).add j = ⟨g, j, none⟩ := by unfold Addr.add; split <;> simp_all
  rw [hadd]
  exact hc j hj
theorem row_str {base : Nat} {w : World} {v : Value} {n : Nat} {xs : List Value} {ts : List ByteArray} (h : w.ownsRow base 9 1 v n xs) (hn : n = ts.length) (hx : xs = ts.map .string) : StrRow base w v ts := by subst hn hx; exact h

set_option maxHeartbeats 1600000 in
theorem concat_nil (w : World) (sb nb sc nc : Nat) (nm : ByteArray) (hsb : sb < w.heap.size) (hnb : nb < w.heap.size) (h0 : w.cell? ⟨sb, 0, none⟩ = some (.slice none 0 0)) (h1 : w.cell? ⟨sb, 1, none⟩ = some (.slice (some ⟨nb, 0, none⟩) 1 nc)) (h2 : w.cell? ⟨nb, 0, none⟩ = some (.string nm)) :
    Calls Tryz.prog 87 #[.slice (some ⟨sb, 0, none⟩) 2 sc] w fun e w' => ∃ v, e = .returned v ∧ Hid (BoundAt w' v [nm] ∧ Below w.heap.size w w' ∧ ∀ g, v.ownBlock = some g → w.heap.size ≤ g) := by
  obtain ⟨i0, hi, hz0, hz1, hz2⟩ := info_parts infoStr
  have H2 := hide h2
  go_enter Tryz.func87, Tryz.ntmps87
  go_wp2_with fail
  refine wp_loop_rounds 3 ?_
  rw [rounds_succ]
  go_wp2_with fail
  rw [rounds_succ]
  go_wp2_with fail
  rw [rounds_succ]
  go_wp2_with fail
  refine (growNil_any w 1 (by omega) (by omega)).mono ?_
  rintro e w1 ⟨g, cap, rfl, HP⟩
  have c0 : w1.cell? ⟨sb, 0, none⟩ = some (.slice none 0 0) := ((unhide HP).2.cell (by exact hsb)).trans h0
  have c1 : w1.cell? ⟨sb, 1, none⟩ = some (.slice (some ⟨nb, 0, none⟩) 1 nc) := ((unhide HP).2.cell (by exact hsb)).trans h1
  have C2 := hide (show w1.cell? ⟨nb, 0, none⟩ = some (.string nm) from ((unhide HP).2.cell (by exact hnb)).trans h2)
  have HN := hide (fun ty => run_append_owned_none (P := Tryz.prog) (w := w1) w.heap.size 22 ty 9 i0 1 Tryz.underlying22 hi _ 0 [] (unhide HP).1)
  have HO := hide (show w1.ownsRow w.heap.size 9 1 (.slice (some ⟨g, 0, none⟩) 0 cap) 0 [] from (unhide HP).1)
  have HW := hide (show ∀ j u, [Value.string nm][j]? = some u → w1.cell? ((⟨nb, 0, none⟩ : Addr).add j) = some u from cells_of (ts := [nm]) (fun j hj => by
    obtain rfl : j = 0 := by simpa using hj
    exact unhide C2))
  clear h0 h1 h2
  go_wp2_with fail
  refine wp_loop_rounds 3 ?_
  rw [rounds_succ]
  go_wp2_with (first | (at_builtin; refine wpList_append_made rfl _ _ _ _ rfl _ _ _ rfl rfl (unhide HN _) ?_) | fail)
  rw [rounds_succ]
  go_wp2_with (first | (at_builtin; refine wpList_append_own _ rfl _ _ 22 rfl w.heap.size 9 i0 _ 1 16 Tryz.underlying22 hi hz0 hz1 hz2 rfl (by decide) (.slice (some ⟨g, 0, none⟩) 0 cap) 0 [] rfl (unhide HO) ⟨nb, 0, none⟩ 1 nc [.string nm] rfl rfl (unhide HW) (one_str nm) (by unfold maxLen; omega) (by omega) (unhide HP).2.size ?_; intro v' w2 hown2 hgr2 hiff; clear hiff) | fail)
  have HR2 := hide (row_str (ts := [nm]) hown2 rfl rfl)
  have HB2 := hide (Below.grown (unhide HP).2 hgr2 (unhide HP).2.size (fun y hy => ownBlock_ge (unhide HO) y hy))
  have HBD := hide ((unhide HR2).bound (by simp))
  have HNW := hide (ownBlock_ge (unhide HR2))
  obtain ⟨g2, cap2, rfl, hg2⟩ := (unhide HR2).open (by simp)
  clear hown2 hgr2 hg2 c0 c1
  rw [rounds_succ]
  go_wp2_with fail
  go_ret
  exact ⟨_, rfl, hide ⟨unhide HBD, unhide HB2, unhide HNW⟩⟩

set_option maxRecDepth 20000 in
set_option maxHeartbeats 1600000 in
theorem concat_some (w : World) (sb nb sc nc kb kc : Nat) (nm : ByteArray) (bs : List ByteArray) (hbl : bs.length ≤ 900) (hb1 : 1 ≤ bs.length) (hsb : sb < w.heap.size) (hnb : nb < w.heap.size) (hkb : kb < w.heap.size)
    (h0 : w.cell? ⟨sb, 0, none⟩ = some (.slice (some ⟨kb, 0, none⟩) bs.length kc)) (h1 : w.cell? ⟨sb, 1, none⟩ = some (.slice (some ⟨nb, 0, none⟩) 1 nc)) (h2 : w.cell? ⟨nb, 0, none⟩ = some (.string nm)) (h3 : ∀ j (h : j < bs.length), w.cell? ⟨kb, j, none⟩ = some (.string bs[j])) :
    Calls Tryz.prog 87 #[.slice (some ⟨sb, 0, none⟩) 2 sc] w fun e w' => ∃ v, e = .returned v ∧ Hid (BoundAt w' v (bs ++ [nm]) ∧ Below w.heap.size w w' ∧ ∀ g, v.ownBlock = some g → w.heap.size ≤ g) := by
  obtain ⟨i0, hi, hz0, hz1, hz2⟩ := info_parts infoStr
  have H3 := hide h3
  generalize hq : bs.length = q at hbl hb1 h0
  have HQ := hide hq
  clear h3 hq
  have hq0 : ¬ (q : Int) < 0 := by omega
  have hq1 : ¬ (q : Int) + 1 < 0 := by omega
  go_enter Tryz.func87, Tryz.ntmps87
  go_wp2_with fail
  refine wp_loop_rounds 3 ?_
  rw [rounds_succ]
  go_wp2_with fail
  rw [rounds_succ]
  go_wp2_with fail
  rw [rounds_succ]
  go_wp2_with fail
  refine (growNil_any w (q + 1) (by omega) (by omega)).mono ?_
  rintro e w1 ⟨g, cap, rfl, HP⟩
  have c0 : w1.cell? ⟨sb, 0, none⟩ = some (.slice (some ⟨kb, 0, none⟩) q kc) := ((unhide HP).2.cell (by exact hsb)).trans h0
  have HO := hide (show w1.ownsRow w.heap.size 9 1 (.slice (some ⟨g, 0, none⟩) 0 cap) 0 [] from (unhide HP).1)
  have HW := hide (show ∀ j u, (bs.map Value.string)[j]? = some u → w1.cell? ((⟨kb, 0, none⟩ : Addr).add j) = some u from cells_of (fun j hj => ((unhide HP).2.cell (by exact hkb)).trans (unhide H3 j hj)))
  have hll := hide (show (bs.map Value.string).length = q * 1 by rw [List.length_map, Nat.mul_one]; exact unhide HQ)
  have C1 := hide h1
  have C2 := hide h2
  clear h0 h1 h2
  go_wp2_with fail
  refine wp_loop_rounds 3 ?_
  rw [rounds_succ]
  go_wp2_with (first | (at_builtin; refine wpList_append_own _ rfl _ _ 22 rfl w.heap.size 9 i0 _ 1 16 Tryz.underlying22 hi hz0 hz1 hz2 rfl (by decide) (.slice (some ⟨g, 0, none⟩) 0 cap) 0 [] rfl (unhide HO) ⟨kb, 0, none⟩ q kc (bs.map .string) rfl (unhide hll) (unhide HW) (one_cells bs) (by unfold maxLen; omega) (by omega) (unhide HP).2.size ?_; intro v' w2 hown2 hgr2 hiff; clear hiff) | fail)
  have HR2 := hide (row_str (ts := bs) hown2 (by rw [Nat.zero_add]; exact (unhide HQ).symm) (List.nil_append _))
  have HB2 := hide (Below.grown (unhide HP).2 hgr2 (unhide HP).2.size (fun y hy => ownBlock_ge (unhide HO) y hy))
  obtain ⟨g2, cap2, hv2, hg2⟩ := (unhide HR2).open (by rw [unhide HQ]; exact hb1)
  rw [unhide HQ] at hv2
  subst hv2
  have c1 : w2.cell? ⟨sb, 1, none⟩ = some (.slice (some ⟨nb, 0, none⟩) 1 nc) := ((unhide HB2).cell (by exact hsb)).trans (unhide C1)
  have HO2 := hide (show w2.ownsRow w.heap.size 9 1 (.slice (some ⟨g2, 0, none⟩) q cap2) q (bs.map .string) by have := unhide HR2; unfold StrRow at this; rw [unhide HQ] at this; exact this)
  have HW2 := hide (show ∀ j u, [Value.string nm][j]? = some u → w2.cell? ((⟨nb, 0, none⟩ : Addr).add j) = some u from cells_of (ts := [nm]) (fun j hj => by
    obtain rfl : j = 0 := by simpa using hj
    exact ((unhide HB2).cell (by exact hnb)).trans (unhide C2)))
  clear hown2 hgr2 hg2 c0
  rw [rounds_succ]
  go_wp2_with (first | (at_builtin; refine wpList_append_own _ rfl _ _ 22 rfl w.heap.size 9 i0 _ 1 16 Tryz.underlying22 hi hz0 hz1 hz2 rfl (by decide) (.slice (some ⟨g2, 0, none⟩) q cap2) q (bs.map .string) rfl (unhide HO2) ⟨nb, 0, none⟩ 1 nc [.string nm] rfl rfl (unhide HW2) (one_str nm) (by unfold maxLen; omega) (by omega) (unhide HB2).size ?_; intro v' w3 hown3 hgr3 hiff; clear hiff) | fail)
  have HR3 := hide (row_str (ts := bs ++ [nm]) hown3 (by rw [List.length_append, unhide HQ]; rfl) (by simp))
  have HB3 := hide (Below.grown (unhide HB2) hgr3 (unhide HB2).size (fun y hy => ownBlock_ge (unhide HO2) y hy))
  have HBD := hide ((unhide HR3).bound (by simp))
  have HNW := hide (ownBlock_ge (unhide HR3))
  obtain ⟨g3, cap3, hv3, hg3⟩ := (unhide HR3).open (by simp)
  rw [List.length_append, unhide HQ] at hv3
  subst hv3
  clear hown3 hgr3 hg3 c1
  rw [rounds_succ]
  go_wp2_with fail
  go_ret
  exact ⟨_, rfl, hide ⟨unhide HBD, unhide HB3, unhide HNW⟩⟩

theorem concat_any (w : World) (sb nb sc nc : Nat) (nm : ByteArray) (kv : Value) (bs : List ByteArray) (hbl : bs.length ≤ 900) (hsb : sb < w.heap.size) (hnb : nb < w.heap.size) (hk : BoundAt w kv bs)
    (h0 : w.cell? ⟨sb, 0, none⟩ = some kv) (h1 : w.cell? ⟨sb, 1, none⟩ = some (.slice (some ⟨nb, 0, none⟩) 1 nc)) (h2 : w.cell? ⟨nb, 0, none⟩ = some (.string nm)) :
    Calls Tryz.prog 87 #[.slice (some ⟨sb, 0, none⟩) 2 sc] w fun e w' => ∃ v, e = .returned v ∧ Hid (BoundAt w' v (bs ++ [nm]) ∧ Below w.heap.size w w' ∧ ∀ g, v.ownBlock = some g → w.heap.size ≤ g) := by
  rcases hk with ⟨rfl, rfl⟩ | ⟨hb1, g, cap, rfl, hg, hc⟩
  · exact concat_nil w sb nb sc nc nm hsb hnb h0 h1 h2
  · exact concat_some w sb nb sc nc g cap nm bs hbl hb1 hsb hnb hg h0 h1 h2 hc
end Go.Proofs.YtldgffkippejiaaGreatDoor
