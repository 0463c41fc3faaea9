/-
  The laws' comparing of items: where both are the same, the answer is true.
-/
/-
  Which sources each input has: one to four numbers from 1 to 15.
-/
import Derived.Test.YtlbhandkpnjgmaaMerged46
import Derived.Test.YtlbhandkpnjgmaaMerged26
import Derived.Test.YtlbhandkpnjgmaaMerged11
import Derived.Test.YtlbhandkpnjgmaaStory
set_option linter.unusedVariables false
namespace Go.Proofs.Ytlbhandkpnjgmaa
open Go.RowKit Go.Maps Go.Deep

set_option maxHeartbeats 3200000 in
theorem bsItem_any (x : ItemV) (va vb : Value) (w : World) (hs : SmallMarkS x.a1) (hA : MarkSRd w va x.a1) (hB : MarkSRd w vb x.a1) :
    Calls Try.prog 10 #[.agg #[.int .i64 x.a0, va], .agg #[.int .i64 x.a0, vb]] w fun e w' => e = .returned (.bool true) ∧ Below w.heap.size w w' := by
  have HS := hide (fun W (bb : Below w.heap.size w W) => by have := bsMarks_any x.a1 va x.a1 vb W hs hs (hA.up bb) (hB.up bb); rw [eqMk_same] at this; exact this)
  obtain ⟨a, n, c, rfl⟩ := hA.form
  obtain ⟨a2, n2, c2, rfl⟩ := hB.form
  clear hA hB hs
  generalize x.a0 = z at *
  go_enter Try.func10, Try.ntmps10
  go_wp2_with fail
  refine (unhide HS _ (by go_grown)).mono ?_
  rintro e w1 ⟨rfl, b1⟩
  have B1 := hide (show Below w.heap.size w w1 from Below.trans (by go_grown) (b1.mono (by simp; omega)))
  clear b1 HS
  go_wp2_with fail
  go_ret
  exact ⟨rfl, unhide B1⟩
set_option maxHeartbeats 3200000 in
theorem bsItems_row (w : World) (b off c b' off' c' : Nat) (ns : List ItemV) (hs : SmallItemS ns) (hA : ItemAt w b off ns) (hB : ItemAt w b' off' ns) (hb : b < w.heap.size) (hb' : b' < w.heap.size) :
    Calls Try.prog 7 #[.slice (some ⟨b, off, none⟩) ns.length c, .slice (some ⟨b', off', none⟩) ns.length c'] w fun e w' => e = .returned (.bool true) ∧ Below w.heap.size w w' := by
  have HA := hide hA
  have HB := hide hB
  have HS := hide hs.2
  have hl := hs.1
  clear hA hB hs
  go_enter Try.func7, Try.ntmps7
  go_wp2_with fail
  go_loopw [5] (fun i wr => ∃ k : Nat, k ≤ ns.length ∧ i = .int .i64 k ∧ Hid (Below w.heap.size w wr)) (fun i _ => ns.length - (intOf i).toNat)
  case atStart => exact ⟨0, Nat.zero_le _, rfl, Below.refl _ _⟩
  case round =>
    obtain ⟨k, hk, rfl, HBr⟩ := hrel
    by_cases hlt : k < ns.length
    · obtain ⟨c0, v, c1, hv⟩ := (unhide HA).up hb (unhide HBr) k hlt
      obtain ⟨d0, v', d1, hv'⟩ := (unhide HB).up hb' (unhide HBr) k hlt
      have HK := hide (fun W (bW : Below wr.heap.size wr W) => bsItem_any ns[k] v v' W (unhide HS _ (List.getElem_mem hlt)).2 (hv.up bW) (hv'.up bW))
      obtain ⟨va, vn, vc, rfl⟩ := hv.form
      obtain ⟨va', vn', vc', rfl⟩ := hv'.form
      clear hv hv'
      generalize ns[k].a0 = z at *
      go_wp2_with fail
      have r0 : ∀ x : LaterW wr, x.to.cell? ⟨b, off + k * 2, none⟩ = some (.int .i64 z) := fun x => x.cell c0
      have r1 : ∀ x : LaterW wr, x.to.cell? ⟨b, off + k * 2 + 1, none⟩ = some (.slice va vn vc) := fun x => x.cell c1
      have r2 : ∀ x : LaterW wr, x.to.cell? ⟨b', off' + k * 2, none⟩ = some (.int .i64 z) := fun x => x.cell d0
      have r3 : ∀ x : LaterW wr, x.to.cell? ⟨b', off' + k * 2 + 1, none⟩ = some (.slice va' vn' vc') := fun x => x.cell d1
      clear c0 c1 d0 d1
      refine wp_region_later (by kernel_rfl) (by kernel_rfl) ?_
      repeat (go_big_quiet_step ((go_at_call 10; exact quiet_ret (unhide HK _ (LaterW.bel _)))))
      refine wpQuiet_nil ?_
      rintro _ ⟨x, rfl⟩
      obtain ⟨w2, BB⟩ := x
      dsimp only
      have B1 := hide ((unhide HBr).trans (BB.mono (unhide HBr).size))
      clear BB r0 r1 r2 r3 HK
      go_wp2_with fail
      go_roundw
      case rel => exact ⟨k + 1, by omega, by go_num, B1⟩
      case measure => simp [intOf]; omega
    · go_wp2_with fail
      go_ret
      exact ⟨rfl, unhide HBr⟩
theorem bsItems_none (w : World) (a a' : Option Addr) (c c' : Nat) :
    Calls Try.prog 7 #[.slice a 0 c, .slice a' 0 c'] w fun e w' => e = .returned (.bool true) ∧ Below w.heap.size w w' := by
  go_enter Try.func7, Try.ntmps7
  go_wp2_with fail
  refine wp_loop_rounds 1 ?_
  rw [rounds_succ]
  go_wp2_with fail
  go_ret
  exact ⟨rfl, Below.refl _ _⟩
theorem bsItems_same (ns : List ItemV) (va vb : Value) (w : World) (hs : SmallItemS ns) (hA : ItemSRd w va ns) (hB : ItemSRd w vb ns) :
    Calls Try.prog 7 #[va, vb] w fun e w' => e = .returned (.bool true) ∧ Below w.heap.size w w' := by
  obtain ⟨a, c, rfl, hA⟩ := hA
  obtain ⟨a', c', rfl, hB⟩ := hB
  rcases hA with rfl | ⟨b, off, rfl, hb, hA⟩
  · exact bsItems_none w a a' c c'
  · rcases hB with rfl | ⟨b', off', rfl, hb', hB⟩
    · exact bsItems_none w _ a' c c'
    · exact bsItems_row w b off c b' off' c' ns hs hA hB hb hb'
end Go.Proofs.Ytlbhandkpnjgmaa

set_option linter.unusedVariables false
namespace Go.Proofs.Ytlbhandkpnjgmaa
open Go.RowKit Go.Maps Go.Deep

def WhichOk (ts : List Int) : Prop := ts.length ≤ 4 ∧ ∀ t ∈ ts, 1 ≤ t ∧ t ≤ 15
def RetWhich (base g N : Nat) (w : World) (e : Ending) (w' : World) : Prop := ∃ a n c ts, e = .returned (.slice a n c) ∧ Hid (n = ts.length ∧ 1 ≤ n) ∧ Hid (WhichOk ts) ∧ Hid (IvRow w.heap.size w' (.slice a n c) ts) ∧ Hid (Rdy base g N w w')
structure WhichMid (base g N : Nat) (w : World) (vo : Value) (k : Nat) (wr : World) : Prop where
  row : ∃ ts, IvRow w.heap.size wr vo ts ∧ ts.length = k ∧ ∀ t ∈ ts, 1 ≤ t ∧ t ≤ 15
  rd : Rdy base g N w wr
theorem ivNil (w : World) (B : Nat) : IvRow B w (.slice none 0 0) [] := ⟨by simp, .inl ⟨rfl, rfl⟩⟩
set_option maxRecDepth 20000 in
set_option maxHeartbeats 6400000 in
theorem l34Which_any (base g N : Nat) (w : World) (hN : N ≤ 10000) (h : Rdy base g N w w) :
    Calls Try.prog 12 #[.pointer (some ⟨g, 0, none⟩)] w fun e w' => RetWhich base g (N + 5) w e w' := by
  have hgl := h.lt
  have R0 := hide h
  clear h
  go_enter Try.func12, Try.ntmps12
  go_wp2_with fail
  refine (pick_rdy base g _ 4 w w (by omega) (by omega) (by omega) (unhide R0)).mono ?_
  rintro e w1 ⟨n, rfl, hn, D1, T1⟩
  have hn4 : n < 4 := by omega
  have M0 := hide (show WhichMid base g (N + 1 + 0) w (.slice none 0 0) 0 w1 from ⟨⟨[], ivNil _ _, rfl, by simp⟩, unhide D1⟩)
  clear D1 T1 R0
  go_wp2_with fail
  go_loopw [3, 5] (fun vo i wr => ∃ (k : Nat) (oa : Option Addr) (on oc : Nat), k ≤ n + 1 ∧ i = .int .i64 (k : Int) ∧ vo = .slice oa on oc ∧ Hid (WhichMid base g (N + 1 + k) w (.slice oa on oc) k wr)) (fun _ i _ => n + 1 - (intOf i).toNat)
  case atStart => exact ⟨0, _, _, _, Nat.zero_le _, rfl, rfl, M0⟩
  case round =>
    obtain ⟨k, oa, on, oc, hk, rfl, rfl, HM⟩ := hrel
    by_cases hlt : k < n + 1
    · have hlt' : (k : Int) < 1 + (n : Int) := by omega
      obtain ⟨⟨ts, hro, htl, htb⟩, hrd⟩ := unhide HM
      have RO := hide hro
      have HTB := hide htb
      have RD := hide hrd
      have hz : w.heap.size ≤ wr.heap.size := hrd.size
      have hgw : g < w.heap.size := hgl
      clear hro htb hrd HM M0
      go_wp2_with fail
      refine (pick_rdy base g _ 15 w wr (by omega) (by omega) (by omega) (unhide RD)).mono ?_
      rintro e w2 ⟨z, rfl, hz15, D2, T2⟩
      have RO2 := hide ((unhide RO).keep (fun y hy => (unhide T2).block y ((unhide RO).lt y hy) (by have := (unhide RO).ge y hy; simp; omega)))
      have hz2 : w.heap.size ≤ w2.heap.size := Nat.le_trans hz (unhide T2).size
      have A3 := hide ((Below.refl _ w2).alloc (Nat.le_refl _) (.cells #[.int .i64 (1 + (z : Int))] 3))
      have RO3 := hide ((unhide RO2).up (unhide A3))
      have C3 := hide (fun i (hi : i < [1 + (z : Int)].length) => show (w2.alloc (.cells #[.int .i64 (1 + (z : Int))] 3)).cell? ⟨w2.heap.size, i, none⟩ = some (.int .i64 [1 + (z : Int)][i]) from by
        simp only [List.length_cons, List.length_nil] at hi
        have : i = 0 := by omega
        subst this
        exact (boxF_new w2 [.int .i64 (1 + (z : Int))] 3).1.at 0 _ rfl)
      have D3 := hide ((unhide D2).up (unhide A3))
      have HZ3 := hide (show w.heap.size ≤ (w2.alloc (.cells #[.int .i64 (1 + (z : Int))] 3)).heap.size by simp; omega)
      have HL := hide (show ts.length + [1 + (z : Int)].length ≤ 1000000 by simp; omega)
      clear RO RD RO2 D2 T2
      go_wp2_with (first
        | (at_builtin; refine wpList_ivAppend rfl _ _ rfl w.heap.size (.slice oa on oc) ts [1 + (z : Int)] w2.heap.size 1 rfl rfl (unhide RO3) (unhide C3) (by simp) (unhide HL) (unhide HZ3) ?_; intro g2 n2 c2 w4 r2 hn2 gr2 hg2; have R2 := hide r2; have D4 := hide ((unhide D3).grown gr2 (fun y hy => (unhide RO3).ge y hy)); clear r2 gr2 hg2)
        | fail)
      go_roundw
      case rel => exact ⟨k + 1, _, n2, c2, by omega, by go_num, rfl, hide ⟨⟨_, unhide R2, by simp; omega, fun t ht => by
        rcases List.mem_append.1 ht with h | h
        · exact unhide HTB t h
        · simp at h; omega⟩, unhide D4⟩⟩
      case measure => simp [intOf]; omega
    · have e : k = n + 1 := by omega
      subst e
      obtain ⟨⟨ts, hro, htl, htb⟩, hrd⟩ := unhide HM
      have hon : on = ts.length := by obtain ⟨_, _, e⟩ := hro.form; simp only [Value.slice.injEq] at e; omega
      have HE := hide (show RetWhich base g (N + 5) w (.returned (.slice oa on oc)) wr from ⟨oa, on, oc, ts, rfl, hide ⟨hon, by omega⟩, hide ⟨by omega, htb⟩, hide hro, hide (hrd.more (by omega))⟩)
      clear hro htb hrd HM hon
      go_wp2_with fail
      go_ret
      exact unhide HE
end Go.Proofs.Ytlbhandkpnjgmaa
