/-
  The specification's side of choices: which windows may be chosen from, and whether the items at some places agree.
-/
/-
  The specification's ChoiceAgrees.
-/
/-
  Rows of ints that one may append to, and rows of lists of ints, of which only the length is told.
-/
import Derived.Test.YtpiapgjiaeddjaaMerged25
import Derived.Test.YtpiapgjiaeddjaaMerged6
import Derived.Handy
import Derived.Deep.AppendLies
set_option linter.unusedVariables false
namespace Go.Proofs.Ytpiapgjiaeddjaa
open Go.RowKit Go.Maps Go.Deep

set_option maxHeartbeats 3200000 in
theorem l15Ok_any (ws : List (List ItemV)) (v : Value) (w : World) (hs : SmallItemSS ws) (h : ItemSSRd w v ws) :
    Calls Try.prog 14 #[v] w fun e w' => e = .returned (.bool (winsB ws)) ∧ Below w.heap.size w w' := by
  obtain ⟨a, c, rfl, h⟩ := h
  have hn := hs.1
  by_cases h1 : ws.length < 1
  · have HE := hide (winsB_no_len (.inl h1))
    rw [unhide HE]
    generalize ws.length = n at *
    clear h hs HE
    have h1' : (n : Int) < 1 := by omega
    go_enter Try.func14, Try.ntmps14
    go_wp2_with fail
    go_ret
    exact ⟨rfl, Below.refl _ _⟩
  by_cases h6 : 6 < ws.length
  · have HE := hide (winsB_no_len (.inr h6))
    rw [unhide HE]
    generalize ws.length = n at *
    clear h hs HE
    have h1' : ¬ (n : Int) < 1 := by omega
    have h6' : 6 < (n : Int) := by omega
    go_enter Try.func14, Try.ntmps14
    go_wp2_with fail
    go_ret
    exact ⟨rfl, Below.refl _ _⟩
  rcases h with rfl | ⟨b, off, rfl, hb, hc⟩
  · simp at h1
  have HC := hide hc
  have HS := hide hs.2
  have h1' : ¬ (ws.length : Int) < 1 := by omega
  have h6' : ¬ 6 < (ws.length : Int) := by omega
  clear hc hs
  go_enter Try.func14, Try.ntmps14
  go_wp2_with fail
  go_loopw [3] (fun i wr => ∃ (k : Nat), k ≤ ws.length ∧ i = .int .i64 k ∧ Hid (∀ j (hj : j < ws.length), j < k → windowB orderOut ws[j] = true) ∧ Hid (Below w.heap.size w wr)) (fun i _ => ws.length - (intOf i).toNat)
  case atStart => exact ⟨0, Nat.zero_le _, rfl, hide (fun j _ hj => absurd hj (Nat.not_lt_zero _)), Below.refl _ _⟩
  case round =>
    obtain ⟨k, hk, rfl, HN, HB⟩ := hrel
    by_cases hlt : k < ws.length
    · obtain ⟨v, c0, hv⟩ := (unhide HC).up hb (unhide HB) k hlt
      have HV := hide (specWindow_ok ws[k] v wr (unhide HS _ (List.getElem_mem hlt)) hv)
      have HNO := hide (fun h => winsB_no hlt h)
      have HYES := hide (show windowB orderOut ws[k] = true → ∀ j (hj : j < ws.length), j < k + 1 → windowB orderOut ws[j] = true from fun h j hj hjk => by
        by_cases e : j = k
        · subst e; exact h
        · exact unhide HN j hj (by omega))
      obtain ⟨va, vn, vc, rfl⟩ := hv.form
      clear hv
      cases hw : windowB orderOut ws[k]
      · rw [hw] at HV
        have HE := hide (unhide HNO hw)
        clear HYES HNO hw
        go_wp2_with fail
        refine (unhide HV).mono ?_
        rintro e w1 ⟨rfl, b1⟩
        have B1 := hide ((unhide HB).trans (b1.mono (unhide HB).size))
        clear b1 c0
        go_wp2_with fail
        go_ret
        exact ⟨ret_bool (unhide HE).symm, unhide B1⟩
      · rw [hw] at HV
        have HY := hide (unhide HYES hw)
        clear HYES HNO hw
        go_wp2_with fail
        refine (unhide HV).mono ?_
        rintro e w1 ⟨rfl, b1⟩
        have B1 := hide ((unhide HB).trans (b1.mono (unhide HB).size))
        clear b1 c0
        go_wp2_with fail
        go_roundw
        case rel => exact ⟨k + 1, by omega, by go_num, HY, B1⟩
        case measure => simp [intOf]; omega
    · have HE := hide (winsB_yes (by omega) (by omega) (fun j hj => unhide HN j hj (by omega)))
      go_wp2_with fail
      go_ret
      exact ⟨ret_bool (unhide HE).symm, unhide HB⟩
set_option maxHeartbeats 6400000 in
theorem l15Agrees_row (w : World) (b off cap b2 off2 cap2 : Nat) (ws : List (List ItemV)) (ps : List Int) (hs : SmallItemSS ws) (hl : ps.length ≤ ws.length) (h6 : ws.length ≤ 6) (hin : inB ws ps = true) (hc : WinsAt w b off ws) (hp : IntsAt w b2 off2 ps) (hb : b < w.heap.size) (hb2 : b2 < w.heap.size) :
    Calls Try.prog 26 #[.slice (some ⟨b, off, none⟩) ws.length cap, .slice (some ⟨b2, off2, none⟩) ps.length cap2] w fun e w' => e = .returned (.bool (agB ws ps)) ∧ Below w.heap.size w w' := by
  have HC := hide hc
  have HP := hide hp
  have HS := hide hs
  have HIN := hide hin
  clear hs hc hp hin
  go_enter Try.func26, Try.ntmps26
  go_wp2_with fail
  go_loopw [5] (fun i wr => ∃ (k : Nat), k ≤ ps.length ∧ i = .int .i64 k ∧ Hid (PairsTo ws ps k 0) ∧ Hid (Below w.heap.size w wr)) (fun i _ => ps.length - (intOf i).toNat)
  case atStart => exact ⟨0, Nat.zero_le _, rfl, hide (pairs_zero ws ps), Below.refl _ _⟩
  case round =>
    obtain ⟨i, hi, rfl, HN, HB⟩ := hrel
    by_cases hlt : i < ps.length
    · go_wp2_with fail
      go_loopw [6] (fun kk w2 => ∃ (k : Nat), k ≤ i ∧ kk = .int .i64 k ∧ Hid (PairsTo ws ps i k) ∧ Hid (Below w.heap.size w w2)) (fun kk _ => i - (intOf kk).toNat)
      case atStart => exact ⟨0, Nat.zero_le _, rfl, HN, HB⟩
      case round =>
        obtain ⟨k, hk, rfl, HN2, HB2⟩ := hrel
        by_cases hki : k < i
        · obtain ⟨q1, bi, oi, ni, ci, ma, mn, mc, e1, hq1, hni, c1, d1, hm1, hsm1, -⟩ := choice_reach (unhide HS) ((unhide HC).up hb (unhide HB2)) hlt hl (unhide HIN)
          obtain ⟨q2, bk, ok, nk, ck, ma2, mn2, mc2, e2, hq2, hnk, c2, d2, hm2, hsm2, -⟩ := choice_reach (unhide HS) ((unhide HC).up hb (unhide HB2)) (show k < ps.length by omega) hl (unhide HIN)
          have p1 := (unhide HP).up hb2 (unhide HB2) i hlt
          have p2 := (unhide HP).up hb2 (unhide HB2) k (by omega)
          rw [e1] at p1
          rw [e2] at p2
          have HA := hide (fun (x : LaterW wr) => specAgree_any (stampAt ws ps i) (.slice ma mn mc) (stampAt ws ps k) (.slice ma2 mn2 mc2) x.to hsm1 hsm2 (hm1.up x.bel) (hm2.up x.bel))
          have r0 : ∀ x : LaterW wr, x.to.cell? ⟨b2, off2 + i, none⟩ = some (.int .i64 (q1 : Int)) := fun x => x.cell p1
          have r1 : ∀ x : LaterW wr, x.to.cell? ⟨b2, off2 + k, none⟩ = some (.int .i64 (q2 : Int)) := fun x => x.cell p2
          have r2 : ∀ x : LaterW wr, x.to.cell? ⟨b, off + i, none⟩ = some (.slice (some ⟨bi, oi, none⟩) ni ci) := fun x => x.cell c1
          have r3 : ∀ x : LaterW wr, x.to.cell? ⟨b, off + k, none⟩ = some (.slice (some ⟨bk, ok, none⟩) nk ck) := fun x => x.cell c2
          have r4 : ∀ x : LaterW wr, x.to.cell? ⟨bi, oi + q1 * 2 + 1, none⟩ = some (.slice ma mn mc) := fun x => x.cell d1
          have r5 : ∀ x : LaterW wr, x.to.cell? ⟨bk, ok + q2 * 2 + 1, none⟩ = some (.slice ma2 mn2 mc2) := fun x => x.cell d2
          have HNO := hide (fun h => pair_no (ws := ws) hlt hki h)
          have HYES := hide (fun h => pairs_step (unhide HN2) h)
          unfold pairB at HNO HYES
          generalize agreeOut (stampAt ws ps i) (stampAt ws ps k) = r at *
          clear hm1 hm2 hsm1 hsm2 c1 c2 d1 d2 p1 p2 e1 e2
          have g1 : i < ws.length := by omega
          have g2 : k < ws.length := by omega
          have g3 : k < ps.length := by omega
          cases r
          · have HE := hide (unhide HNO rfl)
            clear HYES HNO
            go_wp2_with fail
            refine wp_region_later (by kernel_rfl) (by kernel_rfl) ?_
            repeat (go_big_quiet_step ((go_at_call 40; exact quiet_ret (unhide HA _))))
            refine wpQuiet_nil ?_
            rintro _ ⟨x, rfl⟩
            have B3 := hide ((unhide HB2).trans (x.bel.mono (unhide HB2).size))
            go_wp2_with fail
            go_ret
            exact ⟨ret_bool (unhide HE).symm, unhide B3⟩
          · have HY := hide (unhide HYES rfl)
            clear HYES HNO
            go_wp2_with fail
            refine wp_region_later (by kernel_rfl) (by kernel_rfl) ?_
            repeat (go_big_quiet_step ((go_at_call 40; exact quiet_ret (unhide HA _))))
            refine wpQuiet_nil ?_
            rintro _ ⟨x, rfl⟩
            have B3 := hide ((unhide HB2).trans (x.bel.mono (unhide HB2).size))
            go_wp2_with fail
            go_roundw
            case rel => exact ⟨k + 1, by omega, by go_num, HY, B3⟩
            case measure => simp [intOf]; omega
        · obtain rfl : k = i := by omega
          have HY := hide (pairs_next (unhide HN2))
          go_wp2_with fail
          go_roundw
          case rel => exact ⟨k + 1, by omega, by go_num, HY, HB2⟩
          case measure => simp [intOf]; omega
    · have HE := hide (pairs_all (by omega) (unhide HN))
      go_wp2_with fail
      go_ret
      exact ⟨ret_bool (unhide HE).symm, unhide HB⟩
end Go.Proofs.Ytpiapgjiaeddjaa

set_option linter.unusedVariables false
namespace Go.Proofs.Ytpiapgjiaeddjaa
open Go.RowKit Go.Maps Go.Deep

end Go.Proofs.Ytpiapgjiaeddjaa

set_option linter.unusedVariables false
namespace Go.Proofs.Ytpiapgjiaeddjaa
open Go.RowKit Go.Maps Go.Deep

def InRow (B : Nat) (w : World) (v : Value) (ts : List Int) : Prop := w.ownsRow B 3 1 v ts.length (ts.map (.int .i64))
theorem InRow.form {B : Nat} {w : World} {v : Value} {ts : List Int} (h : InRow B w v ts) : ∃ a c, v = .slice a ts.length c := by
  rcases h with ⟨_, ⟨rfl, h0⟩ | ⟨g, cap, cur, rfl, _⟩⟩
  · exact ⟨none, 0, by rw [h0]⟩
  · exact ⟨_, cap, rfl⟩
theorem InRow.ge {B : Nat} {w : World} {v : Value} {ts : List Int} (h : InRow B w v ts) : ∀ g, v.ownBlock = some g → B ≤ g := by
  intro g hg
  rcases h.2 with ⟨rfl, _⟩ | ⟨g', cap, cur, rfl, hB, _⟩
  · simp [Value.ownBlock] at hg
  · simp [Value.ownBlock] at hg; omega
theorem InRow.lt {B : Nat} {w : World} {v : Value} {ts : List Int} (h : InRow B w v ts) : ∀ g, v.ownBlock = some g → g < w.heap.size := by
  intro g hg
  rcases h.2 with ⟨rfl, _⟩ | ⟨g', cap, cur, rfl, hB, hh, _⟩
  · simp [Value.ownBlock] at hg
  · simp [Value.ownBlock] at hg
    subst hg
    exact (Array.getElem?_eq_some_iff.1 hh).1
theorem InRow.keep {B : Nat} {w w' : World} {v : Value} {ts : List Int} (h : InRow B w v ts) (hk : ∀ g, v.ownBlock = some g → w'.heap[g]? = w.heap[g]?) : InRow B w' v ts := by
  rcases h with ⟨hl, h | ⟨g, cap, cur, rfl, hB, hg, hr⟩⟩
  · exact ⟨hl, .inl h⟩
  · exact ⟨hl, .inr ⟨g, cap, cur, rfl, hB, (hk g rfl).trans hg, hr⟩⟩
theorem InRow.up {B : Nat} {w w' : World} {v : Value} {ts : List Int} (h : InRow B w v ts) (hb : Below w.heap.size w w') : InRow B w' v ts := h.keep (fun g hg => hb.block g (h.lt g hg))
theorem InRow.rd {B : Nat} {w : World} {v : Value} {ts : List Int} (h : InRow B w v ts) : IntSRd w v ts := by
  have hh : w.ownsRow B 3 1 v ts.length (ts.map (.int .i64)) := h
  rcases h with ⟨_, ⟨rfl, h0⟩ | ⟨g, cap, cur, rfl, hB, hg, hnc, _⟩⟩
  · have : ts = [] := List.eq_nil_of_length_eq_zero h0
    subst this
    exact ⟨none, 0, rfl, .inl rfl⟩
  · refine ⟨some ⟨g, 0, none⟩, cap, rfl, .inr ⟨g, 0, rfl, (Array.getElem?_eq_some_iff.1 hg).1, fun i hi => ?_⟩⟩
    rw [Nat.zero_add, hh.cellAt _ (by omega)]
    simp [hi]
theorem inLit (w : World) (B : Nat) (hB : B ≤ w.heap.size) : InRow B (w.alloc (.cells #[] 3)) (.slice (some ⟨w.heap.size, 0, none⟩) 0 0) [] :=
  World.ownsRow_lit (size := 1) w #[] 0 hB (by unfold maxLen; omega) rfl
theorem inOne (w : World) (x : Int) : IntSRd (w.alloc (.cells #[.int .i64 x] 3)) (.slice (some ⟨w.heap.size, 0, none⟩) 1 1) [x] := by
  refine ⟨_, 1, rfl, .inr ⟨w.heap.size, 0, rfl, by simp, fun i hi => ?_⟩⟩
  obtain rfl : i = 0 := by simp at hi; omega
  exact World.cell?_alloc_at _ _ _ _ rfl
theorem run_append_none_i {P : Program} {w : World} (base : Nat) (t ty e : TypeId) (i : TypeInfo) (size c : Nat) (ad : Option Addr) (ht : P.underlying t = some (.slice e)) (hi : P.info? e = some i) (v : Value) (n : Nat) (xs : List Value) (hown : w.ownsRow base e size v n xs) :
    (Builtin.append_ #[t, t] ty #[v, .slice ad 0 c]).run P w = .ok v w := by
  rcases hown.2 with ⟨rfl, rfl⟩ | ⟨g, cap, cur, rfl, _, _, hnc, _⟩
  · cases ad <;> simp [Builtin.append_, run_underlying ht, sizeOf, typeInfo, hi, Builtin.lenOf, Builtin.firstCells, loadCells, loadCellsFrom]
  · cases ad <;> simp [Builtin.append_, run_underlying ht, sizeOf, typeInfo, hi, Builtin.lenOf, Builtin.firstCells, hnc, storeCells, loadCells, loadCellsFrom]
theorem inAppend_run (B : Nat) (w : World) (v u : Value) (xs ys : List Int) (hv : InRow B w v xs) (hu : IntSRd w u ys) (hl : xs.length + ys.length ≤ 1000000) (hB : B ≤ w.heap.size) (ty : TypeId) :
    ∃ a c w', (Builtin.append_ #[24, 24] ty #[v, u]).run Try.prog w = .ok (.slice a (xs.length + ys.length) c) w' ∧ InRow B w' (.slice a (xs.length + ys.length) c) (xs ++ ys) ∧ w.grownBy w' v.ownBlock := by
  obtain ⟨i0, hi, hz0, hz1, hz2⟩ := info_parts1 infoInt
  obtain ⟨au, cu, rfl, hin⟩ := hu
  by_cases h0 : ys = []
  · subst h0
    obtain ⟨a, c, rfl⟩ := hv.form
    exact ⟨a, c, w, run_append_none_i B _ ty _ i0 1 cu au Try.underlying24 hi _ _ _ hv, by simpa using hv, ⟨rfl, rfl, rfl, Nat.le_refl _, fun _ _ _ => rfl⟩⟩
  · obtain ⟨b, off, rfl, hb, hc⟩ := hin.resolve_left h0
    have hpos : 0 < ys.length := List.length_pos_iff.2 h0
    obtain ⟨g, cap, w', h1, h2, h3, h4, h5⟩ := run_append_lies (P := Try.prog) (w := w) 24 ty B 3 i0 _ 1 8 Try.underlying24 hi hz0 hz1 hz2 rfl (by decide) v xs.length (xs.map (.int .i64)) hv ⟨b, off, none⟩ ys.length cu (ys.map (.int .i64)) (by simp) (fun j u hu => by
      rw [List.getElem?_map] at hu
      obtain ⟨t, ht, rfl⟩ := Option.map_eq_some_iff.1 hu
      obtain ⟨hj, rfl⟩ := List.getElem?_eq_some_iff.1 ht
      rw [Addr.add_lit]
      exact hc j hj) (fun u hu => by obtain ⟨c, _, rfl⟩ := List.mem_map.1 hu; rfl) hpos (by unfold maxLen; omega) (by omega) hB w.heap.size rfl
    refine ⟨some ⟨g, 0, none⟩, cap, w', h1, ?_, h3⟩
    unfold InRow
    rw [List.length_append, List.map_append]
    exact h2
theorem wpList_inAppend {w : World} {ops : Array Oper} {rest : List Oper} {o : Oper} {a : Act} {Q : Exit → Act → World → Prop} (hgd : o.guard = none) (s x : Operand)
    (ho : o.op = .call { callee := .builtin .append, args := #[s, x], argTypes := #[24, 24] }) (B : Nat) (v u : Value) (xs ys : List Int) (hs : a.eval s = v) (hx : a.eval x = u)
    (hv : InRow B w v xs) (hu : IntSRd w u ys) (hl : xs.length + ys.length ≤ 1000000) (hB : B ≤ w.heap.size)
    (h : ∀ a' c w', InRow B w' (.slice a' (xs.length + ys.length) c) (xs ++ ys) → w.grownBy w' v.ownBlock → wpList Try.prog ops Q rest (a.put o.dst (.slice a' (xs.length + ys.length) c)) w') : wpList Try.prog ops Q (o :: rest) a w := by
  obtain ⟨a', c, w', h1, h2, h3⟩ := inAppend_run B w v u xs ys hv hu hl hB o.type
  refine wpList_plain hgd fun K hK => ?_
  unfold Oper.wp execOp
  simp only [ho, resolve, invoke, builtin, Sem.run_bind, Sem.run_pure, Result.andThen_ok, List.map_toArray, List.map_cons, List.map_nil, hs, hx, h1]
  exact hK _ _ (h a' c w' h2 h3)
/-- a row of lists of numbers that one may append to: how long it is -/
def FdRow (B : Nat) (w : World) (v : Value) (n : Nat) : Prop := ∃ xs, w.ownsRow B 24 1 v n xs
theorem FdRow.nil (B : Nat) (w : World) : FdRow B w (.slice none 0 0) 0 := ⟨[], rfl, .inl ⟨rfl, rfl⟩⟩
theorem FdRow.form {B : Nat} {w : World} {v : Value} {n : Nat} (h : FdRow B w v n) : ∃ a c, v = .slice a n c := by
  obtain ⟨xs, _, ⟨rfl, h0⟩ | ⟨g, cap, cur, rfl, _⟩⟩ := h
  · exact ⟨none, 0, by rw [h0]⟩
  · exact ⟨_, cap, rfl⟩
theorem FdRow.ge {B : Nat} {w : World} {v : Value} {n : Nat} (h : FdRow B w v n) : ∀ g, v.ownBlock = some g → B ≤ g := by
  intro g hg
  obtain ⟨xs, _, ⟨rfl, _⟩ | ⟨g', cap, cur, rfl, hB, _⟩⟩ := h
  · simp [Value.ownBlock] at hg
  · simp [Value.ownBlock] at hg; omega
theorem FdRow.lt {B : Nat} {w : World} {v : Value} {n : Nat} (h : FdRow B w v n) : ∀ g, v.ownBlock = some g → g < w.heap.size := by
  intro g hg
  obtain ⟨xs, _, ⟨rfl, _⟩ | ⟨g', cap, cur, rfl, hB, hh, _⟩⟩ := h
  · simp [Value.ownBlock] at hg
  · simp [Value.ownBlock] at hg
    subst hg
    exact (Array.getElem?_eq_some_iff.1 hh).1
theorem FdRow.keep {B : Nat} {w w' : World} {v : Value} {n : Nat} (h : FdRow B w v n) (hk : ∀ g, v.ownBlock = some g → w'.heap[g]? = w.heap[g]?) : FdRow B w' v n := by
  obtain ⟨xs, hl, h | ⟨g, cap, cur, rfl, hB, hg, hr⟩⟩ := h
  · exact ⟨xs, hl, .inl h⟩
  · exact ⟨xs, hl, .inr ⟨g, cap, cur, rfl, hB, (hk g rfl).trans hg, hr⟩⟩
theorem FdRow.up {B : Nat} {w w' : World} {v : Value} {n : Nat} (h : FdRow B w v n) (hb : Below w.heap.size w w') : FdRow B w' v n := h.keep (fun g hg => hb.block g (h.lt g hg))
theorem infoFd : (Try.prog.info? 24).map (fun i => (i.zero, i.size, i.bytes)) = some (some (.slice none 0 0), 1, 24) := by kernel_rfl
theorem wpList_fdAppend {w : World} {ops : Array Oper} {rest : List Oper} {o : Oper} {a : Act} {Q : Exit → Act → World → Prop} (hgd : o.guard = none) (s x : Operand)
    (ho : o.op = .call { callee := .builtin .append, args := #[s, x], argTypes := #[37, 37] }) (B : Nat) (v : Value) (n : Nat) (ya : Option Addr) (yn yc : Nat) (g : Nat) (hs : a.eval s = v) (hx : a.eval x = .slice (some ⟨g, 0, none⟩) 1 1)
    (hv : FdRow B w v n) (c0 : w.cell? ⟨g, 0, none⟩ = some (.slice ya yn yc)) (hl : n ≤ 1000000) (hB : B ≤ w.heap.size)
    (h : ∀ g' c w', FdRow B w' (.slice (some ⟨g', 0, none⟩) (n + 1) c) (n + 1) → w.grownBy w' v.ownBlock → (v.ownBlock = some g' ∨ g' = w.heap.size) → wpList Try.prog ops Q rest (a.put o.dst (.slice (some ⟨g', 0, none⟩) (n + 1) c)) w') : wpList Try.prog ops Q (o :: rest) a w := by
  obtain ⟨i0, hi, hz0, hz1, hz2⟩ := info_parts1 infoFd
  obtain ⟨xs, hv⟩ := hv
  refine wpList_append_lies w hgd s x 37 ho B 24 i0 _ 1 24 Try.underlying37 hi hz0 hz1 hz2 rfl (by decide) v n xs hs hv ⟨g, 0, none⟩ 1 1 [.slice ya yn yc] hx rfl (fun j u hj => by
    match j, hj with
    | 0, hj => simp at hj; subst hj; simpa [Addr.add] using c0) (by intro u hu; simp at hu; rw [hu]; rfl) (by decide) (by unfold maxLen; omega) (by omega) hB w.heap.size rfl ?_
  intro g' cap w' h2 h3 h4 h5
  exact h g' cap w' ⟨_, h2⟩ h3 h4
end Go.Proofs.Ytpiapgjiaeddjaa
