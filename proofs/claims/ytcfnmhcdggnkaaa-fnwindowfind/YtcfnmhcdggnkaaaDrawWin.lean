/-
  The specification's draw of a window. (Made by wip/mkdrawwin.py.)
-/
import Derived.Test.YtcfnmhcdggnkaaaWinQ
import Derived.Deep.RegionHeld3
import Derived.Deep.DeepCutAuto
import Derived.Deep.CutBlock
set_option linter.unusedVariables false
namespace Go.Proofs.Ytcfnmhcdggnkaaa
open Go.RowKit Go.Maps Go.Deep

def WinFit (m : Nat) (ns : List ItemV) : Prop := ns.length ≤ m ∧ ∀ x ∈ ns, (0 ≤ x.a0 ∧ x.a0 ≤ 10000) ∧ Sm 40 x.a1
theorem WinFit.small {m : Nat} {ns : List ItemV} (h : WinFit m ns) (hm : m ≤ 1000) : SmallItemS ns := ⟨by have := h.1; omega, fun x hx => by
  obtain ⟨h1, h2⟩ := h.2 x hx
  exact ⟨by omega, h2.small (by omega)⟩⟩
theorem WinFit.mono {m m' : Nat} {ns : List ItemV} (h : WinFit m ns) (hm : m ≤ m') : WinFit m' ns := ⟨by have := h.1; omega, h.2⟩
theorem put_fit {ns : List ItemV} {it : ItemV} (h : WinFit 4 ns) (hi : (0 ≤ it.a0 ∧ it.a0 ≤ 10000) ∧ Sm 40 it.a1) : WinFit 4 (putV ns it) := by
  have hnil : WinFit 4 [] := ⟨by simp, by simp⟩
  unfold putV
  split
  · split
    · exact hnil
    · split
      · unfold putN
        split
        · refine ⟨by simp; omega, fun x hx => ?_⟩
          rcases List.mem_append.1 hx with hx | hx
          · exact h.2 x hx
          · simp at hx; rw [hx]; exact hi
        · refine ⟨by have := h.1; simp; omega, fun x hx => ?_⟩
          rcases List.mem_append.1 hx with hx | hx
          · exact h.2 x (List.mem_of_mem_drop hx)
          · simp at hx; rw [hx]; exact hi
      · exact h
  · exact hnil
def OffW (B : Nat) (v : Value) (k : Nat) : Prop := B ≤ k ∧ v.ownBlock ≠ some k
/-- a window being drawn -/
structure WinMid (base g N B : Nat) (w : World) (vo : Value) (wr : World) (ns : List ItemV) : Prop where
  out : ∃ xs, ItRow B wr vo xs ∧ ItsQ (OffW B vo) wr xs ns
  rd : Rdy base g N w wr
theorem WinMid.form {base g N B : Nat} {w : World} {vo : Value} {wr : World} {ns : List ItemV} (h : WinMid base g N B w vo wr ns) : ∃ a c, vo = .slice a ns.length c := by
  obtain ⟨xs, h1, h2⟩ := h.out
  obtain ⟨a, c, e⟩ := h1.slice
  exact ⟨a, c, by rw [e, h2.1]⟩
theorem WinMid.rds {base g N B : Nat} {w : World} {vo : Value} {wr : World} {ns : List ItemV} (h : WinMid base g N B w vo wr ns) : ItemSRd wr vo ns := by
  obtain ⟨xs, h1, h2⟩ := h.out
  exact h1.rdQ h2
theorem WinMid.step {base g N N' B : Nat} {w : World} {vo : Value} {wr W : World} {ns : List ItemV} (h : WinMid base g N B w vo wr ns) (hg : g < B) (t : Turn [g] wr W) (hr : Rdy base g N' w W) : WinMid base g N' B w vo W ns := by
  obtain ⟨xs, h1, h2⟩ := h.out
  exact ⟨⟨xs, h1.keep (fun y hy => t.block y (h1.lt y hy) (by have := h1.ge y hy; simp; omega)), h2.turn t (fun k hk hp => by have := hp.1; simp at hk; omega)⟩, hr⟩
theorem StoryIs.at {B : Nat} {w : World} {a : Option Addr} {n c : Nat} {vs : List Value} (h : StoryIs B w (.slice a n c) vs) (k : Nat) (hk : k < vs.length) : ∃ gs ga ca ts, a = some ⟨gs, 0, none⟩ ∧ B ≤ gs ∧ gs < w.heap.size ∧ w.cell? ⟨gs, k, none⟩ = some (.slice (some ⟨ga, 0, none⟩) 4 ca) ∧ B ≤ ga ∧ ga < w.heap.size ∧ Four ts ∧ ∀ i (hi : i < ts.length), w.cell? ⟨ga, i, none⟩ = some (.int .i64 ts[i]) := by
  have hh : w.ownsRow B 47 1 (.slice a n c) vs.length vs := h.row
  rcases h.row.2 with ⟨e, h00⟩ | ⟨g, cap, cur, e, hB, hg, _⟩
  · omega
  · simp only [Value.slice.injEq] at e
    obtain ⟨rfl, rfl, rfl⟩ := e
    obtain ⟨ts, h1, h2⟩ := h.el vs[k] (List.getElem_mem hk)
    obtain ⟨a1, c1, e1⟩ := h1.form
    rw [e1] at h1
    obtain ⟨ga, rfl, _, hga, hgl, hc⟩ := h1.cells (by have := h2.1; omega)
    refine ⟨g, ga, c1, ts, rfl, hB, (Array.getElem?_eq_some_iff.1 hg).1, ?_, hga, hgl, h2, fun i hi => (hc i hi).1⟩
    rw [hh.cellAt _ (by omega), List.getElem?_eq_getElem hk, e1, h2.1]
/-- one more item -/
theorem wpList_itAppend {w : World} {ops : Array Oper} {rest : List Oper} {o : Oper} {a : Act} {Q : Exit → Act → World → Prop} (hgd : o.guard = none) (s x : Operand)
    (ho : o.op = .call { callee := .builtin .append, args := #[s, x], argTypes := #[27, 27] }) (B : Nat) (v : Value) (ns : List (Int × Value)) (z : Int) (ya : Option Addr) (yn yc : Nat) (g : Nat) (hs : a.eval s = v) (hx : a.eval x = .slice (some ⟨g, 0, none⟩) 1 1)
    (hv : ItRow B w v ns) (c0 : w.cell? ⟨g, 0, none⟩ = some (.int .i64 z)) (c1 : w.cell? ⟨g, 1, none⟩ = some (.slice ya yn yc)) (hl : ns.length ≤ 1000000) (hB : B ≤ w.heap.size)
    (h : ∀ g' n c w', ItRow B w' (.slice (some ⟨g', 0, none⟩) n c) (ns ++ [(z, .slice ya yn yc)]) → w.grownBy w' v.ownBlock → (v.ownBlock = some g' ∨ g' = w.heap.size) → wpList Try.prog ops Q rest (a.put o.dst (.slice (some ⟨g', 0, none⟩) n c)) w') : wpList Try.prog ops Q (o :: rest) a w := by
  obtain ⟨i0, hi, hz0, hz1, hz2⟩ := info_parts1 infoItem
  refine wpList_append_lies w hgd s x 27 ho B 30 i0 _ 2 32 Try.underlying27 hi hz0 hz1 hz2 rfl (by decide) v ns.length (itCells ns) hs hv ⟨g, 0, none⟩ 1 1 [.int .i64 z, .slice ya yn yc] hx rfl (news_item c0 c1) (by intro u hu; simp at hu; rcases hu with rfl | rfl <;> rfl) (by decide) (by unfold maxLen; omega) (by omega) hB w.heap.size rfl ?_
  intro g' cap w' h2 h3 h4 h5
  refine h g' _ cap w' ?_ h3 h4
  unfold ItRow
  rw [itCells_snoc, List.length_append]
  exact h2
theorem its_grow {B : Nat} {W w8 : World} {v : Value} {g n c : Nat} {xs : List (Int × Value)} {ns : List ItemV} (Q : ItsQ (OffW B v) W xs ns) (gr : W.grownBy w8 v.ownBlock) (hg : v.ownBlock = some g ∨ g = W.heap.size) : ItsQ (OffW B (.slice (some ⟨g, 0, none⟩) n c)) w8 xs ns := by
  have t8 : Turn v.ownBlock.toList W w8 := Turn.of_grown gr (fun k hk => .inl (by rw [hk]; simp))
  have h1 : ItsQ (fun k => OffW B v k ∧ OffW B (.slice (some ⟨g, 0, none⟩) n c) k) W xs ns := Q.mono (fun k hk hp => ⟨hp, hp.1, fun e => by
    simp [Value.ownBlock] at e
    rcases hg with hg | hg
    · exact hp.2 (by rw [← e]; exact hg)
    · omega⟩)
  exact (h1.turn t8 (fun k hk hp => hp.1.2 (by simpa using hk))).mono (fun k _ hp => hp.2)
theorem pairW {w : World} {g : Nat} {a b : Value} (h : BoxF w g [a, b]) : (w.cell? ⟨g, 0, none⟩ = some a ∧ w.cell? ⟨g, 1, none⟩ = some b) ∧ (w.frozen? ⟨g, 0, none⟩ = false ∧ w.frozen? ⟨g, 1, none⟩ = false) := ⟨⟨h.1.at 0 _ rfl, h.1.at 1 _ rfl⟩, h.2 0 (by simp), h.2 1 (by simp)⟩
def RetWin34 (base g N m : Nat) (w : World) (e : Ending) (w' : World) : Prop := ∃ a n c ns, e = .returned (.slice a n c) ∧ Hid (WinMid base g N w.heap.size w (.slice a n c) w' ns) ∧ Hid (WinFit m ns)
set_option maxRecDepth 20000 in
set_option maxHeartbeats 12800000 in
theorem l34Window_any (base g N : Nat) (which : Int) (w : World) (hN : N ≤ 5000) (h0 : 0 ≤ which) (h1 : which ≤ 100) (h : Rdy base g N w w) :
    Calls Try.prog 32 #[.pointer (some ⟨g, 0, none⟩), .int .i64 which] w fun e w' => RetWin34 base g (N + 300) 6 w e w' := by
  have hgl := h.lt
  have HST := hide (l34Story_any base g N 8 w (by omega) (by omega) (by omega) h)
  clear h
  go_enter Try.func32, Try.ntmps32
  go_wp2_with fail
  refine (unhide HST).mono ?_
  rintro e w1 ⟨sa, sc, vs, rfl, ST1, HVL, D1⟩
  clear HST
  go_wp2_with fail
  refine (pick_rdy base g _ 6 w w1 (by omega) (by omega) (by omega) (unhide D1)).mono ?_
  rintro e w2 ⟨n, rfl, hn, D2, T2⟩
  have ST2 := hide ((unhide ST1).turn (unhide T2) (by simp; omega))
  have M2 := hide (show WinMid base g (N + 102) w.heap.size w (.slice none 0 0) w2 [] from ⟨⟨[], ItRow.nil _ _, ItsQ.nil _ _⟩, (unhide D2).more (by omega)⟩)
  clear ST1 D1 D2 T2
  go_wp2_with fail
  go_loopw [6, 8, 9] (fun vo kv iv wr => ∃ (i kk : Nat) (oa : Option Addr) (on oc : Nat) (ns : List ItemV), i ≤ n ∧ kk ≤ 7 ∧ iv = .int .i64 (i : Int) ∧ kv = .int .i64 (kk : Int) ∧ vo = .slice oa on oc ∧ Hid (WinMid base g (N + 102 + 2 * i) w.heap.size w (.slice oa on oc) wr ns) ∧ Hid (WinFit 4 ns) ∧ Hid (StoryIs w.heap.size wr (.slice sa 8 sc) vs)) (fun _ _ i _ => n - (intOf i).toNat)
  case atStart => exact ⟨0, 0, none, 0, 0, [], Nat.zero_le _, by omega, rfl, rfl, rfl, M2, hide ⟨by simp, by simp⟩, ST2⟩
  case round =>
    obtain ⟨i, kk, oa, on, oc, ns, hi, hkk, rfl, rfl, rfl, HM, HF, HS⟩ := hrel
    by_cases hlt : i < n
    rotate_left
    · clear M2 ST2
      have M3 := hide (show WinMid base g (N + 115) w.heap.size w (.slice oa on oc) wr ns from by obtain ⟨q1, q2⟩ := unhide HM; exact ⟨q1, q2.more (by omega)⟩)
      have hon : on = ns.length := by obtain ⟨_, _, q⟩ := (unhide HM).form; simp only [Value.slice.injEq] at q; exact q.2.1
      have HON := hide hon
      have hon4 : on ≤ 4 := by have := (unhide HF).1; omega
      clear hon HM HS
      go_upto_region 14 with fail
      go_cut [54] (fun s54 wx => ∃ b : Bool, s54 = .bool b ∧ (b = true → 0 < on) ∧ Hid (WinMid base g (N + 116) w.heap.size w (.slice oa on oc) wx ns))
      case first =>
        go_wp2_with fail
        refine (pick_rdy base g _ 20 w wr (by omega) (by omega) (by omega) (unhide M3).rd).mono ?_
        rintro e w4 ⟨z, rfl, hz, D4, T4⟩
        have M4 := hide ((unhide M3).step hgl (unhide T4) (unhide D4))
        clear T4 D4 M3
        by_cases hz0 : z = 0
        · subst hz0
          go_wp2_with fail
          go_meet
          exact ⟨decide (0 < on), rfl, (fun h => by simpa using h), M4⟩
        · have hzb : ((z : Int) == 0) = false := by rw [beq_eq_false_iff_ne]; omega
          go_wp2_with fail
          go_meet
          exact ⟨false, rfl, (fun h => by cases h), M4⟩
      case rest =>
      obtain ⟨b1, rfl, hb1, M4⟩ := hcut
      clear M3
      generalize wc = w4 at *
      go_upto_if 54 with fail
      go_cut [6, 12, 13] (fun vo _ _ wx => ∃ oa2 oc2 ns2, vo = .slice oa2 on oc2 ∧ Hid (WinMid base g (N + 180) w.heap.size w (.slice oa2 on oc2) wx ns2) ∧ Hid (WinFit 4 ns2) ∧ Hid (on = ns2.length))
      case first =>
        cases b1
        · go_wp2_with fail
          go_meet
          exact ⟨oa, oc, ns, rfl, hide (by obtain ⟨q1, q2⟩ := unhide M4; exact ⟨q1, q2.more (by omega)⟩), HF, HON⟩
        · have hop : 0 < on := hb1 rfl
          clear hb1
          have hop2 : (1 : Int) ≤ (on : Int) := by omega
          go_wp2_with fail
          refine (pick_rdy base g _ (on : Int) w w4 (by omega) (by omega) (by omega) (unhide M4).rd).mono ?_
          rintro e w5 ⟨j, rfl, hj, D5, T5⟩
          have M5 := hide ((unhide M4).step hgl (unhide T5) (unhide D5))
          clear T5 D5 M4
          obtain ⟨⟨xs, hrow, hits⟩, hrd⟩ := unhide M5
          have hxl := hits.1
          have hjx : j < xs.length := by have := unhide HON; omega
          have hjn : j < ns.length := by have := unhide HON; omega
          obtain ⟨g6, rfl, hon6, hg6, hg6l, c0, c1, f0, f1, hset⟩ := hrow.at j hjx
          obtain ⟨e0, S0, hm0, _⟩ := hits.2 j hjx hjn
          obtain ⟨ua, uc, hu⟩ := hm0.rd.len
          rw [hu] at c1
          have ROW := hide hrow
          have ITS := hide hits
          have HFJ := hide ((unhide HF).2 _ (List.getElem_mem hjn))
          obtain ⟨p, hp, hpr⟩ := hrd.rd
          have A6 := hide ((Below.refl w5.heap.size w5).alloc (Nat.le_refl _) (.cells #[.int .i64 xs[j].1, .slice ua ns[j].a1.length uc] 30))
          have X6 := hide (boxF_new w5 [.int .i64 xs[j].1, .slice ua ns[j].a1.length uc] 30)
          simp only [List.toArray] at X6
          have RD6 := hide (show RdIn base (w5.alloc (.cells #[.int .i64 xs[j].1, .slice ua ns[j].a1.length uc] 30)) g p from hpr.turn (S := []) (Turn.of_below (unhide A6)) (by simp) (by simp))
          have HMK := hide (l34Marks_any base g p _ (by omega) (unhide RD6))
          have HZ0 := hide (show (0 : Int) ≤ xs[j].1 ∧ xs[j].1 ≤ 10000 by rw [e0]; exact (unhide HFJ).1)
          have RDY5 := hide hrd
          have hg5 : g < w5.heap.size := Nat.lt_of_lt_of_le hgl hrd.size
          have HW5 := hide hrd.size
          clear hrow hits hrd hm0 hu e0 hset M5 hpr hxl hon6
          generalize hz : xs[j].1 = zj at *
          generalize hml : ns[j].a1.length = ml at *
          clear hz hml
          have hj2 : (j : Int) < (on : Int) := hj
          go_wp2_with fail
          generalize hw6 : w5.alloc (.cells #[.int .i64 zj, .slice ua ml uc] 30) = w6 at *
          have HW6 := hide (show w6.heap.size = w5.heap.size + 1 by rw [← hw6]; simp)
          clear hw6
          refine (unhide HMK).mono ?_
          rintro e w7 ⟨v7, ms7, rfl, MK7, SM7, RD7, T7⟩
          obtain ⟨va, vn, vc, rfl⟩ := (unhide MK7).rd.form
          have X7 := hide ((unhide X6).turn (unhide T7) (by simp; omega))
          obtain ⟨⟨y0, y1⟩, z0, z1⟩ := pairW (unhide X7)
          have T57 := hide (show Turn [g] w5 w7 from (Turn.of_below (unhide A6)).trans (unhide T7))
          have ROW7 := hide ((unhide ROW).keep (fun y hy => (unhide T57).block y ((unhide ROW).lt y hy) (by have := (unhide ROW).ge y hy; simp; omega)))
          have TB := hide ((Turn.refl [w5.heap.size] w7).setCell (g := w5.heap.size) (by simp) 1 (.slice va vn vc))
          have ROW8 := hide ((unhide ROW7).keep (fun y hy => (unhide TB).block y ((unhide ROW7).lt y hy) (by have := (unhide ROW).lt y hy; simp; omega)))
          obtain ⟨g6', hg6e, -, -, -, d0, d1, k0, k1, hset⟩ := (unhide ROW8).at j hjx
          simp only [Option.some.injEq, Addr.mk.injEq, and_true] at hg6e
          subst hg6e
          have HSET := hide (hset zj (.slice va vn vc))
          have TA := hide (show Turn [w5.heap.size, g6] w7 (((w7.setCell ⟨w5.heap.size, 1, none⟩ (.slice va vn vc)).setCell ⟨g6, j * 2, none⟩ (.int .i64 zj)).setCell ⟨g6, j * 2 + 1, none⟩ (.slice va vn vc)) from (((Turn.refl _ _).setCell (by simp) _ _).setCell (by simp) _ _).setCell (by simp) _ _)
          have HITS := hide (show ItsQ (OffW w.heap.size (.slice (some ⟨g6, 0, none⟩) on oc)) (((w7.setCell ⟨w5.heap.size, 1, none⟩ (.slice va vn vc)).setCell ⟨g6, j * 2, none⟩ (.int .i64 zj)).setCell ⟨g6, j * 2 + 1, none⟩ (.slice va vn vc)) (xs.set j (zj, .slice va vn vc)) (ns.set j ⟨zj, ms7⟩) from by
            have q1 := (unhide ITS).mono (P' := fun k => OffW w.heap.size (.slice (some ⟨g6, 0, none⟩) on oc) k ∧ k < w5.heap.size) (fun k hk hp => ⟨hp, hk⟩)
            have q2 := (q1.turn (unhide T57) (fun k hk hp => by have := hp.1.1; simp at hk; omega)).turn (unhide TA) (fun k hk hp => by
              have h1 := hp.1.2
              have h2 := hp.2
              simp [Value.ownBlock] at hk h1
              omega)
            refine (q2.mono (fun k _ hp => hp.1)).set j ?_
            obtain ⟨S7, o7, l7⟩ := unhide MK7
            have hw6 := unhide HW6
            have hw5 := unhide HW5
            exact ⟨S7, o7.turn (unhide TA) (fun k hk hm => by have := l7 k hk; simp at hm; omega), fun k hk => ⟨by have := l7 k hk; omega, fun e => by have := l7 k hk; simp [Value.ownBlock] at e; omega⟩⟩)
          have RDY8 := hide (show Rdy base g (N + 180) w (((w7.setCell ⟨w5.heap.size, 1, none⟩ (.slice va vn vc)).setCell ⟨g6, j * 2, none⟩ (.int .i64 zj)).setCell ⟨g6, j * 2 + 1, none⟩ (.slice va vn vc)) from by
            obtain ⟨q, hq, hr⟩ := unhide RD7
            have hw5 := unhide HW5
            have r7 : Rdy base g (N + 180) w w7 := ⟨hgl, ⟨q, by omega, hr⟩, (unhide RDY5).turn.trans (unhide T57)⟩
            exact r7.turns (unhide TA) (by simp; omega))
          have HFS := hide (show WinFit 4 (ns.set j ⟨zj, ms7⟩) from ⟨by rw [List.length_set]; exact (unhide HF).1, fun x hx => by
            rcases List.mem_or_eq_of_mem_set hx with h | h
            · exact (unhide HF).2 x h
            · rw [h]; exact ⟨unhide HZ0, unhide SM7⟩⟩)
          clear c0 c1 f0 f1 X6 X7 A6 RD6 HMK hset ROW ITS ROW7 T7 T57 TB TA
          go_wp2_with fail
          go_meet
          exact ⟨_, oc, _, rfl, hide ⟨⟨_, unhide HSET, unhide HITS⟩, unhide RDY8⟩, HFS, hide (by rw [List.length_set]; exact unhide HON)⟩
      case rest =>
      obtain ⟨oa2, oc2, ns2, rfl, M5, HF2, HON2⟩ := hcut
      clear M4 HF HON
      generalize wc = w5 at *
      go_upto_region 19 with fail
      go_cut [77] (fun s77 wx => ∃ b : Bool, s77 = .bool b ∧ (b = true → 0 < on) ∧ Hid (WinMid base g (N + 181) w.heap.size w (.slice oa2 on oc2) wx ns2))
      case first =>
        go_wp2_with fail
        refine (pick_rdy base g _ 24 w w5 (by omega) (by omega) (by omega) (unhide M5).rd).mono ?_
        rintro e w6 ⟨z, rfl, hz, D6, T6⟩
        have M6 := hide ((unhide M5).step hgl (unhide T6) (unhide D6))
        clear T6 D6 M5
        by_cases hz0 : z = 0
        · subst hz0
          go_wp2_with fail
          go_meet
          exact ⟨decide (0 < on), rfl, (fun h => by simpa using h), M6⟩
        · have hzb : ((z : Int) == 0) = false := by rw [beq_eq_false_iff_ne]; omega
          go_wp2_with fail
          go_meet
          exact ⟨false, rfl, (fun h => by cases h), M6⟩
      case rest =>
      obtain ⟨b2, rfl, hb2, M6⟩ := hcut
      clear M5
      generalize wc = w6 at *
      cases b2
      · have HE := hide (show RetWin34 base g (N + 300) 6 w (.returned (.slice oa2 on oc2)) w6 from ⟨oa2, on, oc2, ns2, rfl, hide (by obtain ⟨q1, q2⟩ := unhide M6; exact ⟨q1, q2.more (by omega)⟩), hide ((unhide HF2).mono (by omega))⟩)
        clear M6 HF2
        go_wp2_with fail
        go_ret
        exact unhide HE
      · have hop : 0 < on := hb2 rfl
        clear hb2
        obtain ⟨⟨xs, hrow, hits⟩, hrd⟩ := unhide M6
        have hxl := hits.1
        have hjx : on - 1 < xs.length := by have := unhide HON2; omega
        have hjn : on - 1 < ns2.length := by have := unhide HON2; omega
        obtain ⟨g6, rfl, -, hg6, hg6l, c0, c1, -, -, -⟩ := hrow.at (on - 1) hjx
        obtain ⟨e0, S0, hm0, hS0⟩ := hits.2 (on - 1) hjx hjn
        obtain ⟨ua, uc, hu⟩ := hm0.rd.len
        rw [hu] at c1
        have ROW := hide hrow
        have ITS := hide hits
        have HFJ := hide ((unhide HF2).2 _ (List.getElem_mem hjn))
        have HSN := hide (fun (W : World) (h : ItsQ (OffW w.heap.size (.slice (some ⟨g6, 0, none⟩) on oc2)) W xs ns2) => show ItsQ (OffW w.heap.size (.slice (some ⟨g6, 0, none⟩) on oc2)) W (xs ++ [(xs[on - 1].1, .slice ua ns2[on - 1].a1.length uc)]) (ns2 ++ [⟨xs[on - 1].1, ns2[on - 1].a1⟩]) from h.snoc (by rw [← hu]; exact (h.2 (on - 1) hjx hjn).2))
        have HFS := hide (show WinFit 6 (ns2 ++ [⟨xs[on - 1].1, ns2[on - 1].a1⟩]) from ⟨by have := (unhide HF2).1; simp; omega, fun x hx => by
          rcases List.mem_append.1 hx with h | h
          · exact (unhide HF2).2 x h
          · simp at h; rw [h, e0]; exact unhide HFJ⟩)
        have RDY := hide hrd
        have HW6 := hide hrd.size
        have HXL := hide (show xs.length ≤ 1000000 by have := unhide HON2; omega)
        clear hrow hits hrd hm0 hu e0 M6 hxl hS0
        generalize xs[on - 1].1 = zj at *
        generalize ns2[on - 1].a1 = mj at *
        generalize hml : mj.length = ml at *
        clear hml
        have A7 := hide ((Below.refl w6.heap.size w6).alloc (Nat.le_refl _) (.cells #[.int .i64 zj, .slice ua ml uc] 30))
        have C7 := hide (show (w6.alloc (.cells #[.int .i64 zj, .slice ua ml uc] 30)).cell? ⟨w6.heap.size, 0, none⟩ = some (.int .i64 zj) ∧ (w6.alloc (.cells #[.int .i64 zj, .slice ua ml uc] 30)).cell? ⟨w6.heap.size, 1, none⟩ = some (.slice ua ml uc) from by have h := (boxF_new w6 [.int .i64 zj, .slice ua ml uc] 30).1; exact ⟨h.at 0 _ rfl, h.at 1 _ rfl⟩)
        have ROW7 := hide ((unhide ROW).up (unhide A7))
        have ITS7 := hide (unhide HSN _ ((unhide ITS).up (unhide A7)))
        have HZ7 := hide (show w.heap.size ≤ (w6.alloc (.cells #[.int .i64 zj, .slice ua ml uc] 30)).heap.size by have := unhide HW6; simp; omega)
        have RDY7 := hide ((unhide RDY).up (unhide A7))
        have ho1 : (0 : Int) ≤ (on : Int) - 1 := by omega
        have ho2 : (on : Int) - 1 < (on : Int) := by omega
        have ho3 : ((on : Int) - 1).toNat = on - 1 := by omega
        have ho4 : (on : Int) - 1 = ((on - 1 : Nat) : Int) := by omega
        go_wp2_with (first
          | (at_builtin; refine wpList_itAppend rfl _ _ rfl w.heap.size (.slice (some ⟨g6, 0, none⟩) on oc2) xs zj ua ml uc w6.heap.size rfl rfl (unhide ROW7) (unhide C7).1 (unhide C7).2 (unhide HXL) (unhide HZ7) ?_; intro g8 n8 c8 w8 r8 gr8 hg8; have K8 := hide (show RetWin34 base g (N + 300) 6 w (.returned (.slice (some ⟨g8, 0, none⟩) n8 c8)) w8 from ⟨_, _, _, _, rfl, hide ⟨⟨_, r8, its_grow (unhide ITS7) gr8 hg8⟩, ((unhide RDY7).grown gr8 (fun y hy => (unhide ROW7).ge y hy)).more (by omega)⟩, HFS⟩); clear r8 gr8 hg8)
          | fail)
        go_ret
        exact unhide K8
    have hil : (i : Int) < (n : Int) := by omega
    have hk8 : (kk : Int) < 8 := by omega
    have hk0 : (0 : Int) ≤ (kk : Int) := by omega
    obtain ⟨gs, ga, ca, ts, rfl, hgs, hgsl, hcs, hga, hgal, h4, hct⟩ := (unhide HS).at kk (by have := unhide HVL; omega)
    have TD := hide (show Turn [g] wr wr.drew from (Turn.of_below (Below.refl _ _).drew))
    have D0 := hide ((unhide HM).rd.up (Below.refl _ _).drew)
    have HVEC := hide (fun (X : World) (t : Turn [g] wr X) => l34Vec_any ga 4 ca ts which X h0 h1 h4 rfl (Nat.lt_of_lt_of_le hgal t.size) (fun i hi => (t.cell hgal (by simp; omega)).trans (hct i hi)))
    have HRD := hide (fun (X : World) (t : Turn [g] wr X) => show ItemSRd X (.slice oa on oc) ns from by obtain ⟨xs, q1, q2⟩ := (unhide HM).out; exact (q1.keep (fun y hy => t.block y (q1.lt y hy) (by have := q1.ge y hy; simp; omega))).rdQ (q2.turn t (fun k hk hp => by have := hp.1; simp at hk; omega)))
    have HPUT := hide (fun (X : World) (t : Turn [g] wr X) (z : Nat) (hz : (z : Int) < 9) (ma : Option Addr) (mn mc : Nat) (ms : List MarkV) (hm : MarkSRd X (.slice ma mn mc) ms) (sm : Sm 4 ms) => specPut_own ns (.slice oa on oc) ⟨(z : Int), ms⟩ (.agg #[.int .i64 (z : Int), .slice ma mn mc]) X ((unhide HF).small (by omega)) ⟨by simp only; omega, sm.small (by omega)⟩ (unhide HRD X t) ⟨_, rfl, hm⟩)
    have KP := hide (show ∀ X : World, Turn [g] wr X → (X.cell? ⟨gs, kk, none⟩ = some (.slice (some ⟨ga, 0, none⟩) 4 ca) ∧ Hid (Turn [g] wr X)) from fun X t => ⟨(t.cell hgsl (by simp; omega)).trans hcs, hide t⟩)
    clear hct h4
    go_wp2_with fail
    go_region_held3 (fun (X : World) => X.cell? ⟨gs, kk, none⟩ = some (.slice (some ⟨ga, 0, none⟩) 4 ca) ∧ Hid (Turn [g] wr X)) ((refine unhide KP _ ?_; exact unhide (by assumption)))
      (first
      | (go_at_call 7; have _t := TT2; refine (unhide HPUT w2' (unhide TT2) z hz ma mn mc ms (unhide MQ2) (unhide SM)).mono ?_; rintro e w3 ⟨v3, xs3, rfl, RQ3, b3⟩; obtain ⟨va3, vc3, hv3⟩ := (unhide RQ3).1.slice; subst hv3; have TT3 := hide ((unhide TT2).trans (Turn.of_below b3)); have D3 := hide ((unhide DD2).up b3); have B3 := hide b3; clear b3)
      | (go_at_call 20; have _t := R1; refine (pick_rdy base g _ 9 w w1' (by omega) (by omega) (by omega) (unhide DD1)).mono ?_; rintro e w2' ⟨z, rfl, hz, DD2, T1⟩; have TT2 := hide ((unhide TT1).trans (unhide T1)); have MQ2 := hide ((unhide R1).turn (unhide T1) (by have := (unhide TT1).size; omega)).rd; clear T1)
      | (go_at_call 38; have _t := T1; refine (unhide HVEC w1' (unhide TT1)).mono ?_; rintro e w2' ⟨ma, mn, mc, ms, rfl, R1, SM, b2⟩; have TT2 := hide ((unhide TT1).trans (Turn.of_below b2)); have MQ2 := hide (unhide R1).rd; have DD2 := hide (((unhide DD1).up b2).more (Nat.le_refl _)); clear b2 T1)
      | (go_at_call 20; (with_reducible show Calls _ _ _ wr.drew _); refine (pick_rdy base g _ 9 w wr.drew (by omega) (by omega) (by omega) (unhide D0)).mono ?_; rintro e w1' ⟨z, rfl, hz, DD1, T1⟩; have TT1 := hide ((unhide TD).trans (unhide T1)))
      | (go_at_call 38; (with_reducible show Calls _ _ _ wr.drew _); refine (unhide HVEC wr.drew (unhide TD)).mono ?_; rintro e w1' ⟨ma, mn, mc, ms, rfl, R1, SM, b1⟩; have TT1 := hide ((unhide TD).trans (Turn.of_below b1)); have DD1 := hide ((unhide D0).up b1); clear b1)
      | fail)
    all_goals
      have FIT3 := hide (put_fit (it := ⟨(z : Int), ms⟩) (unhide HF) ⟨by simp only; omega, (unhide SM).mono (by omega)⟩)
      have ST3 := hide ((unhide HS).turn (unhide TT3) (by simp; omega))
      have M3 := hide ((unhide HM).step hgl (unhide TT3) (unhide D3))
      have HZ2 := hide (show w.heap.size ≤ w2'.heap.size from Nat.le_trans (unhide D0).size (Nat.le_trans (Nat.le_refl _) (unhide TT2).size))
      have N3 := hide (show WinMid base g _ w.heap.size w (.slice va3 xs3.length vc3) w3 (putV ns ⟨(z : Int), ms⟩) from ⟨⟨xs3, (unhide RQ3).1.mono (unhide HZ2), ((unhide RQ3).2.q (unhide RQ3).1).mono (fun k _ hp => ⟨by have := hp.1; have := unhide HZ2; omega, hp.2⟩)⟩, unhide D3⟩)
      clear HPUT HVEC KP TD RQ3 HRD hcs
      generalize xs3.length = n3 at *
      generalize putV ns ⟨(z : Int), ms⟩ = ns3 at *
      generalize putI ns ⟨(z : Int), ms⟩ = pi at *
      by_cases hp : pi = 0
      · subst hp
        go_wp2_with fail
        refine (pick_rdy base g _ 2 w w3 (by omega) (by omega) (by omega) (unhide D3)).mono ?_
        rintro e w4 ⟨y, rfl, hy, D4, T4⟩
        have ST4 := hide ((unhide ST3).turn (unhide T4) (by simp; omega))
        have M4 := hide (((unhide N3).step hgl (unhide T4) (unhide D4)))
        clear T4 D4 ST3 M3 N3
        by_cases hy7 : (7 : Int) < (kk : Int) + 1 + (y : Int)
        · go_wp2_with fail
          go_roundw
          case rel => exact ⟨i + 1, 7, _, _, _, _, by omega, by omega, by go_num, rfl, rfl, hide (by obtain ⟨q1, q2⟩ := unhide M4; exact ⟨q1, q2.more (by omega)⟩), FIT3, ST4⟩
          case measure => simp [intOf]; omega
        · go_wp2_with fail
          go_roundw
          case rel => exact ⟨i + 1, kk + 1 + y, _, _, _, _, by omega, by omega, by go_num, by go_num, rfl, hide (by obtain ⟨q1, q2⟩ := unhide M4; exact ⟨q1, q2.more (by omega)⟩), FIT3, ST4⟩
          case measure => simp [intOf]; omega
      · have hpb : (pi == 0) = false := by simpa using hp
        clear hp
        go_wp2_with fail
        refine (pick_rdy base g _ 2 w w3 (by omega) (by omega) (by omega) (unhide D3)).mono ?_
        rintro e w4 ⟨y, rfl, hy, D4, T4⟩
        have ST4 := hide ((unhide ST3).turn (unhide T4) (by simp; omega))
        have M4 := hide (((unhide M3).step hgl (unhide T4) (unhide D4)))
        clear T4 D4 ST3 M3 N3
        by_cases hy7 : (7 : Int) < (kk : Int) + 1 + (y : Int)
        · go_wp2_with fail
          go_roundw
          case rel => exact ⟨i + 1, 7, _, _, _, _, by omega, by omega, by go_num, rfl, rfl, hide (by obtain ⟨q1, q2⟩ := unhide M4; exact ⟨q1, q2.more (by omega)⟩), HF, ST4⟩
          case measure => simp [intOf]; omega
        · go_wp2_with fail
          go_roundw
          case rel => exact ⟨i + 1, kk + 1 + y, _, _, _, _, by omega, by omega, by go_num, by go_num, rfl, hide (by obtain ⟨q1, q2⟩ := unhide M4; exact ⟨q1, q2.more (by omega)⟩), HF, ST4⟩
          case measure => simp [intOf]; omega
end Go.Proofs.Ytcfnmhcdggnkaaa
