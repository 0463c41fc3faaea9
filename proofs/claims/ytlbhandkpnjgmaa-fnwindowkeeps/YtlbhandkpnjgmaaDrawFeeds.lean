/-
  The specification's draw of feeds.
-/
import Derived.Test.YtlbhandkpnjgmaaFeedRows
import Derived.Test.YtlbhandkpnjgmaaMerged45
import Derived.Test.YtlbhandkpnjgmaaMerged47
set_option linter.unusedVariables false
namespace Go.Proofs.Ytlbhandkpnjgmaa
open Go.RowKit Go.Maps Go.Deep

def FeedFit (n : Nat) (ns : List FeedV) : Prop := ns.length ≤ n ∧ ∀ x ∈ ns, (-1 ≤ x.a0 ∧ x.a0 ≤ 1099511627776) ∧ (0 ≤ x.a1.a0 ∧ x.a1.a0 ≤ 10000) ∧ Sm 40 x.a1.a1
def RetFeeds (base g N n : Nat) (w : World) (e : Ending) (w' : World) : Prop := ∃ a m c ns, e = .returned (.slice a m c) ∧ Hid (∃ xs, FdRow w.heap.size w' (.slice a m c) xs ∧ FdsQ (OffW w.heap.size (.slice a m c)) w' xs ns) ∧ Hid (FeedFit n ns) ∧ Hid (Rdy base g N w w')
theorem FdRow.mono {B B' : Nat} {w : World} {v : Value} {xs : List RawF} (h : FdRow B w v xs) (hB : B' ≤ B) : FdRow B' w v xs := by
  refine ⟨h.1, ?_⟩
  rcases h.2 with h0 | ⟨g, cap, cur, e, hg, r⟩
  · exact .inl h0
  · exact .inr ⟨g, cap, cur, e, by omega, r⟩
/-- where the inputs stand -/
def AtOk (m : Nat) (ts : List Int) : Prop := ts.length = m ∧ ∀ t ∈ ts, 0 ≤ t ∧ t ≤ 11
theorem AtOk.set {m : Nat} {ts : List Int} (h : AtOk m ts) (z : Nat) {v : Int} (h0 : 0 ≤ v) (h1 : v ≤ 11) : AtOk m (ts.set z v) := ⟨by rw [List.length_set]; exact h.1, fun t ht => by
  rcases List.mem_or_eq_of_mem_set ht with q | q
  · exact h.2 t q
  · omega⟩
/-- what stands between the rounds: the inputs' places, the feeds -/
structure FdMid (base g N : Nat) (w1 : World) (m : Nat) (vo : Value) (k : Nat) (ts : List Int) (wr : World) : Prop where
  ats : IvRow w1.heap.size wr (.slice (some ⟨w1.heap.size, 0, none⟩) m m) ts
  out : ∃ xs ns, FdRow (w1.heap.size + 1) wr vo xs ∧ FdsQ (OffW (w1.heap.size + 1) vo) wr xs ns ∧ FeedFit k ns
  rd : Rdy base g N w1 wr
theorem FdMid.step {base g N N' m k : Nat} {w1 wr X : World} {vo : Value} {ts : List Int} (h : FdMid base g N w1 m vo k ts wr) (hg : g < w1.heap.size) (t : Turn [g] wr X) (d : Rdy base g N' w1 X) : FdMid base g N' w1 m vo k ts X := by
  obtain ⟨a1, ⟨xs, ns, b1, b2, b3⟩, c⟩ := h
  exact ⟨a1.keep (fun y hy => t.block y (a1.lt y hy) (by have := a1.ge y hy; simp; omega)), ⟨xs, ns, b1.turn t (fun k hk e => by have := b1.ge k e; simp at hk; omega), b2.turn t (fun k hk hp => by have := hp.1; simp at hk; omega), b3⟩, d⟩
theorem FdMid.more {base g N N' m k : Nat} {w1 wr : World} {vo : Value} {ts : List Int} (h : FdMid base g N w1 m vo k ts wr) (hN : N ≤ N') : FdMid base g N' w1 m vo k ts wr := ⟨h.ats, h.out, h.rd.more hN⟩
/-- one place is written anew -/
theorem FdMid.put {base g N m k : Nat} {w1 wr : World} {vo : Value} {ts : List Int} (h : FdMid base g N w1 m vo k ts wr) (z : Nat) (hz : z < ts.length) (v : Int) : FdMid base g N w1 m vo k (ts.set z v) (wr.setCell ⟨w1.heap.size, z, none⟩ (.int .i64 v)) := by
  obtain ⟨a1, ⟨xs, ns, b1, b2, b3⟩, c⟩ := h
  have t : Turn [w1.heap.size] wr (wr.setCell ⟨w1.heap.size, z, none⟩ (.int .i64 v)) := (Turn.refl _ _).setCell (by simp) _ _
  exact ⟨a1.set z hz v, ⟨xs, ns, b1.turn t (fun k hk e => by have := b1.ge k e; simp at hk; omega), b2.turn t (fun k hk hp => by have := hp.1; simp at hk; omega), b3⟩, c.turns t (by simp)⟩
theorem FdMid.cell {base g N m k : Nat} {w1 wr : World} {vo : Value} {ts : List Int} (h : FdMid base g N w1 m vo k ts wr) (z : Nat) (hz : z < ts.length) : wr.cell? ⟨w1.heap.size, z, none⟩ = some (.int .i64 ts[z]) ∧ wr.frozen? ⟨w1.heap.size, z, none⟩ = false := by
  obtain ⟨gg, e, -, -, -, hc⟩ := h.ats.cells (by omega)
  simp only [Option.some.injEq, Addr.mk.injEq, and_true] at e
  rw [e]
  exact hc z hz
theorem vec_q {B b0 : Nat} {w : World} {u : Value} {ms : List MarkV} (h : MkRow B w u ms) (hB : b0 ≤ B) (x : Nat) (hx : x < B ∨ w.heap.size ≤ x) : MkQ (fun k => b0 ≤ k ∧ k ≠ x) w u ms := by
  obtain ⟨S, o, h1, -⟩ := h.own
  exact ⟨S, o, fun k hk => ⟨by have := h1 k hk; omega, fun e => by have := h1 k hk; have := o.lt k hk; omega⟩⟩
/-- an item in a box of its own, its stamp in blocks of its own -/
structure ItBox (w0 wx : World) (b : Nat) (v : Int) (u : Value) (ms : List MarkV) : Prop where
  ge : w0.heap.size ≤ b
  box : BoxF wx b [.int .i64 v, u]
  own : MkQ (fun k => w0.heap.size ≤ k ∧ k ≠ b) wx u ms
  sm : Sm 40 ms
theorem it_fill {w0 W : World} {b : Nat} {a0 a1 : Value} {u : Value} {ms : List MarkV} (hb : w0.heap.size ≤ b) (hx : BoxF W b [a0, a1]) (hm : MkQ (fun k => w0.heap.size ≤ k ∧ k ≠ b) W u ms) (sm : Sm 40 ms) (v : Int) : ItBox w0 ((W.setCell ⟨b, 0, none⟩ (.int .i64 v)).setCell ⟨b, 1, none⟩ u) b v u ms ∧ Turn [b] W ((W.setCell ⟨b, 0, none⟩ (.int .i64 v)).setCell ⟨b, 1, none⟩ u) := by
  have t : Turn [b] W ((W.setCell ⟨b, 0, none⟩ (.int .i64 v)).setCell ⟨b, 1, none⟩ u) := ((Turn.refl _ _).setCell (by simp) _ _).setCell (by simp) _ _
  exact ⟨⟨hb, (hx.set 0 _ (by simp)).set 1 _ (by simp), hm.turn t (fun k hk hp => by simp at hk; exact hp.2 hk), sm⟩, t⟩
theorem ItBox.turn {w0 wx X : World} {b g : Nat} {v : Int} {u : Value} {ms : List MarkV} (h : ItBox w0 wx b v u ms) (t : Turn [g] wx X) (hg : g < w0.heap.size) : ItBox w0 X b v u ms := ⟨h.ge, h.box.turn t (by have := h.ge; simp; omega), h.own.turn t (fun k hk hp => by have := hp.1; simp at hk; omega), h.sm⟩
/-- its stamp is drawn anew -/
theorem ItBox.stamp {w0 w w' : World} {b g : Nat} {v : Int} {u u' : Value} {ms ms' : List MarkV} (h : ItBox w0 w b v u ms) (hz : w0.heap.size ≤ w.heap.size) (t : Turn [g] w w') (hg : g < w0.heap.size) (hm : MkHi w.heap.size w' u' ms') (sm : Sm 40 ms') : ItBox w0 (w'.setCell ⟨b, 1, none⟩ u') b v u' ms' ∧ Turn [b] w' (w'.setCell ⟨b, 1, none⟩ u') := by
  have h' := h.turn t hg
  have tb : Turn [b] w' (w'.setCell ⟨b, 1, none⟩ u') := (Turn.refl _ _).setCell (by simp) _ _
  obtain ⟨S, o, hS⟩ := hm
  have hb : b < w.heap.size := h.box.1.1
  have q : MkQ (fun k => w0.heap.size ≤ k ∧ k ≠ b) w' u' ms' := ⟨S, o, fun k hk => ⟨by have := hS k hk; omega, fun e => by have := hS k hk; omega⟩⟩
  exact ⟨⟨h.ge, h'.box.set 1 _ (by simp), q.turn tb (fun k hk hp => by simp at hk; exact hp.2 hk), sm⟩, tb⟩
theorem fds_grow {B : Nat} {W w8 : World} {v : Value} {g n c : Nat} {xs : List RawF} {ns : List FeedV} (Q : FdsQ (OffW B v) W xs ns) (gr : W.grownBy w8 v.ownBlock) (hg : v.ownBlock = some g ∨ g = W.heap.size) : FdsQ (OffW B (.slice (some ⟨g, 0, none⟩) n c)) w8 xs ns := by
  have t8 : Turn v.ownBlock.toList W w8 := Turn.of_grown gr (fun k hk => .inl (by rw [hk]; simp))
  have h1 : FdsQ (fun k => OffW B v k ∧ OffW B (.slice (some ⟨g, 0, none⟩) n c) k) W xs ns := Q.mono (fun k hk hp => ⟨hp, hp.1, fun e => by
    simp [Value.ownBlock] at e
    rcases hg with hg | hg
    · exact hp.2 (by rw [← e]; exact hg)
    · omega⟩)
  exact (h1.turn t8 (fun k hk hp => hp.1.2 (by simpa using hk))).mono (fun k _ hp => hp.2)
/-- a feed in a box of its own -/
structure FdBox (w0 wx : World) (b : Nat) (i v : Int) (u : Value) (ms : List MarkV) : Prop where
  ge : w0.heap.size ≤ b
  box : BoxF wx b [.int .i64 i, .int .i64 v, u]
  own : MkQ (fun k => w0.heap.size ≤ k ∧ k ≠ b) wx u ms
  sm : Sm 40 ms
theorem FdBox.turn {w0 wx X : World} {b g : Nat} {i v : Int} {u : Value} {ms : List MarkV} (h : FdBox w0 wx b i v u ms) (t : Turn [g] wx X) (hg : g < w0.heap.size) : FdBox w0 X b i v u ms := ⟨h.ge, h.box.turn t (by have := h.ge; simp; omega), h.own.turn t (fun k hk hp => by have := hp.1; simp at hk; omega), h.sm⟩
theorem ItBox.feed {w0 wx : World} {b : Nat} {v : Int} {u : Value} {ms : List MarkV} (h : ItBox w0 wx b v u ms) (hz : w0.heap.size ≤ wx.heap.size) (i : Int) : FdBox w0 (wx.alloc (.cells #[.int .i64 i, .int .i64 v, u] 32)) wx.heap.size i v u ms :=
  ⟨hz, boxF_new wx [.int .i64 i, .int .i64 v, u] 32, by
    obtain ⟨S, o, hS⟩ := h.own
    exact MkQ.turn ⟨S, o, fun k hk => ⟨(hS k hk).1, fun e => by have := o.lt k hk; omega⟩⟩ (Turn.of_alloc [] wx _) (by simp), h.sm⟩
theorem BoxF.trio {w : World} {g : Nat} {a b c : Value} (h : BoxF w g [a, b, c]) : (w.cell? ⟨g, 0, none⟩ = some a ∧ w.cell? ⟨g, 1, none⟩ = some b ∧ w.cell? ⟨g, 2, none⟩ = some c) ∧ (w.frozen? ⟨g, 0, none⟩ = false ∧ w.frozen? ⟨g, 1, none⟩ = false ∧ w.frozen? ⟨g, 2, none⟩ = false) := ⟨⟨h.1.at 0 _ rfl, h.1.at 1 _ rfl, h.1.at 2 _ rfl⟩, h.2 0 (by simp), h.2 1 (by simp), h.2 2 (by simp)⟩
theorem FdBox.up {w0 wx X : World} {b : Nat} {i v : Int} {u : Value} {ms : List MarkV} (h : FdBox w0 wx b i v u ms) (t : Below wx.heap.size wx X) : FdBox w0 X b i v u ms := ⟨h.ge, h.box.up t, h.own.turn (Turn.of_below (S := []) t) (by simp), h.sm⟩
/-- its input's number is written anew -/
theorem FdBox.put0 {base g N : Nat} {w0 wx : World} {b : Nat} {i v : Int} {u : Value} {ms : List MarkV} (h : FdBox w0 wx b i v u ms) (d : Rdy base g N w0 wx) (y : Int) : FdBox w0 (wx.setCell ⟨b, 0, none⟩ (.int .i64 y)) b y v u ms ∧ Rdy base g N w0 (wx.setCell ⟨b, 0, none⟩ (.int .i64 y)) := by
  have t : Turn [b] wx (wx.setCell ⟨b, 0, none⟩ (.int .i64 y)) := (Turn.refl _ _).setCell (by simp) _ _
  exact ⟨⟨h.ge, h.box.set 0 _ (by simp), h.own.turn t (fun k hk hp => by simp at hk; exact hp.2 hk), h.sm⟩, d.turns t (by have := h.ge; simpa using this)⟩
def triV (m y : Nat) : Int := [-1, (m : Int), 1099511627776].getD y 0
theorem tri_cell (w : World) (m y : Nat) (hy : y < 3) : (w.alloc (.cells #[.int .i64 (-1), .int .i64 (m : Int), .int .i64 1099511627776] 3)).cell? ⟨w.heap.size, y, none⟩ = some (.int .i64 (triV m y)) := by
  have h := (boxF_new w [.int .i64 (-1), .int .i64 (m : Int), .int .i64 1099511627776] 3).1
  match y, hy with
  | 0, _ => exact h.at 0 _ rfl
  | 1, _ => exact h.at 1 _ rfl
  | 2, _ => exact h.at 2 _ rfl
theorem tri_fit (m y : Nat) (hm : m ≤ 4) : -1 ≤ triV m y ∧ triV m y ≤ 1099511627776 := by
  unfold triV
  match y with
  | 0 => simp
  | 1 => simp; omega
  | 2 => simp
  | y + 3 => simp
theorem makeIv (w : World) (m : Nat) (hm : m ≤ 4) : ∃ w', (Instr.makeSlice 43 (.int .i64 (m : Int)) (.int .i64 (m : Int))).run Try.prog w = .ok (.slice (some ⟨w.heap.size, 0, none⟩) m m) w' ∧ IvRow w.heap.size w' (.slice (some ⟨w.heap.size, 0, none⟩) m m) (List.replicate m 0) ∧ Below w.heap.size w w' := by
  obtain ⟨i0, hi, hz0, hz1, hz2⟩ := info_parts1 infoIv
  obtain ⟨w', h1, h2, h3⟩ := run_makeSlice_full (P := Try.prog) w w.heap.size 43 3 i0 _ 1 Try.underlying43 hi hz0 hz1 .i64 .i64 m (by omega) (by rw [hz2]; omega) (by unfold maxLen; omega) (Nat.le_refl _)
  refine ⟨w', h1, ?_, Below.grown (Below.refl _ _) h3 (Nat.le_refl _) (fun y hy => by cases hy)⟩
  unfold IvRow
  have e : (madeCells (Value.int IntKind.i64 0).cells (m * 1)).toList = (List.replicate m (0 : Int)).map ivV := by
    have e1 := toList_madeCells_one (Value.int IntKind.i64 0) m
    rw [Nat.mul_one, List.map_replicate]
    exact e1
  rw [← e, List.length_replicate]
  exact h2
set_option maxRecDepth 20000 in
set_option maxHeartbeats 12800000 in
theorem l34Feeds_any (base g N n gw m cw : Nat) (ws : List Int) (w : World) (hN : N ≤ 5000) (hn : n ≤ 70) (hm : m = ws.length) (hm1 : 1 ≤ m) (hw : WhichOk ws) (hgw : gw < w.heap.size) (hne : gw ≠ g) (hcw : ∀ i (h : i < ws.length), w.cell? ⟨gw, i, none⟩ = some (.int .i64 ws[i])) (h : Rdy base g N w w) :
    Calls Try.prog 14 #[.pointer (some ⟨g, 0, none⟩), .slice (some ⟨gw, 0, none⟩) m cw, .int .i64 (n : Int)] w fun e w' => RetFeeds base g (N + 100 + n * 70) n w e w' := by
  have hgl := h.lt
  have HST := hide (l34Story_any base g N 12 w (by omega) (by omega) (by omega) h)
  have HWS := hide hw
  have HCW := hide hcw
  have hm4 : m ≤ 4 := by have := hw.1; omega
  have HMW := hide hm
  have hmI : (m : Int) ≤ 4 := by omega
  clear h hw hcw hm
  go_enter Try.func14, Try.ntmps14
  go_wp2_with fail
  refine (unhide HST).mono ?_
  rintro e w1 ⟨sa, sc, vs, rfl, ST1, HVL, D1⟩
  clear HST
  obtain ⟨wm, hmk, rm, bm⟩ := makeIv w1 m hm4
  have hg1 : g < w1.heap.size := Nat.lt_of_lt_of_le hgl (unhide D1).size
  have M0 := hide (show FdMid base g (N + 100 + 0 * 70) w1 m (.slice none 0 0) 0 (List.replicate m 0) wm from ⟨rm, ⟨[], [], FdRow.nil _ _, FdsQ.nil _ _, ⟨by simp, by simp⟩⟩, ((unhide D1).self.up bm).more (by omega)⟩)
  have HCW1 := hide (fun i (hi : i < ws.length) => ((unhide D1).turn.cell hgw (by simp; omega)).trans (unhide HCW i hi))
  have hgw1 : gw < w1.heap.size := Nat.lt_of_lt_of_le hgw (unhide D1).size
  clear rm bm HCW
  go_wp2_with fail
  clear hmk
  go_loopw [9, 10] (fun vo iv wr => ∃ (i : Nat) (oa : Option Addr) (on oc : Nat) (ts : List Int), i ≤ n ∧ iv = .int .i64 (i : Int) ∧ vo = .slice oa on oc ∧ Hid (AtOk m ts) ∧ Hid (FdMid base g (N + 100 + i * 70) w1 m (.slice oa on oc) i ts wr)) (fun _ i _ => n - (intOf i).toNat)
  case atStart => exact ⟨0, none, 0, 0, List.replicate m 0, Nat.zero_le _, rfl, rfl, hide ⟨by simp, by simp⟩, M0⟩
  case round =>
    obtain ⟨i, oa, on, oc, ts, hi, rfl, rfl, HA, HM⟩ := hrel
    by_cases hlt : i < n
    rotate_left
    · have e : i = n := by omega
      subst e
      have HE := hide (show RetFeeds base g (N + 100 + i * 70) i w (.returned (.slice oa on oc)) wr from by
        obtain ⟨xs, ns, q1, q2, q3⟩ := (unhide HM).out
        have hz := (unhide D1).size
        exact ⟨oa, on, oc, ns, rfl, hide ⟨xs, q1.mono (by omega), q2.mono (fun k _ hp => ⟨by have := hp.1; omega, hp.2⟩)⟩, hide q3, hide ((unhide D1).on (unhide HM).rd)⟩)
      clear HM
      go_wp2_with fail
      go_ret
      exact unhide HE
    · have hlt' : (i : Int) < (n : Int) := by omega
      clear M0
      go_wp2_with fail
      refine (pick_rdy base g _ (m : Int) w1 wr (by omega) (by omega) (by omega) (unhide HM).rd).mono ?_
      rintro e w2 ⟨z, rfl, hz, D2, T2⟩
      have hzm : z < m := by omega
      have M2 := hide ((unhide HM).step hg1 (unhide T2) (unhide D2))
      clear HM T2 D2
      go_upto_region 8 with fail
      go_cut [] (fun wx => ∃ (t : Int), 0 ≤ t ∧ t ≤ 13 ∧ Hid (FdMid base g (N + 102 + i * 70) w1 m (.slice oa on oc) i (ts.set z t) wx))
      case first =>
        have hzl : z < ts.length := by have := (unhide HA).1; omega
        obtain ⟨c2, f2⟩ := (unhide M2).cell z hzl
        have htz := (unhide HA).2 _ (List.getElem_mem hzl)
        generalize hte : ts[z] = t0 at *
        have TD := hide (show Turn [g] w2 w2.drew from (Turn.of_below (Below.refl _ _).drew))
        have DD := hide ((unhide M2).rd.up (Below.refl _ _).drew)
        go_region_with
          (first
          | (go_at_call 15; refine (pick_rdy base g _ 3 w1 w2.drew (by omega) (by omega) (by omega) (unhide DD)).mono ?_; rintro e w3 ⟨y, rfl, hy, D3, T3⟩; have M3 := hide ((unhide M2).step hg1 ((unhide TD).trans (unhide T3)) (unhide D3)); obtain ⟨c3, f3⟩ := (unhide M3).cell z hzl; rw [hte] at c3; have hwr : IntKind.i64.wrap (t0 + (y : Int)) = t0 + (y : Int) := (by rw [IntKind.wrap_i64]; omega); clear T3 D3)
          | fail)
        all_goals
          go_wp2_with fail
          go_meet
          exact ⟨t0 + (y : Int), by omega, by omega, hide (((unhide M3).put z hzl _).more (by omega))⟩
      case rest =>
      obtain ⟨t, ht0, ht13, M3⟩ := hcut
      clear M2
      generalize wc = w3 at *
      have hzl : z < ts.length := by have := (unhide HA).1; omega
      obtain ⟨c3, f3⟩ := (unhide M3).cell z (by rw [List.length_set]; exact hzl)
      rw [List.getElem_set_self] at c3
      go_upto_if 43 with fail
      go_cut [] (fun wx => ∃ (kk : Nat), kk ≤ 11 ∧ Hid (FdMid base g (N + 102 + i * 70) w1 m (.slice oa on oc) i (ts.set z (kk : Int)) wx))
      case first =>
        by_cases h11 : 11 < t
        · go_wp2_with fail
          go_meet
          exact ⟨11, by omega, hide (by have := (unhide M3).put z (by rw [List.length_set]; exact hzl) 11; rw [List.set_set] at this; exact this)⟩
        · go_wp2_with fail
          go_meet
          exact ⟨t.toNat, by omega, by rw [Int.toNat_of_nonneg ht0]; exact M3⟩
      case rest =>
      obtain ⟨kk, hkk, M4⟩ := hcut
      clear M3 c3 f3
      generalize wc = w4 at *
      have HA4 := hide ((unhide HA).set z (v := (kk : Int)) (by omega) (by omega))
      obtain ⟨c4, f4⟩ := (unhide M4).cell z (by rw [List.length_set]; exact hzl)
      rw [List.getElem_set_self] at c4
      generalize ts.set z (kk : Int) = ts4 at *
      clear HA hzl
      go_wp2_with fail
      refine (pick_rdy base g _ 10 w1 w4 (by omega) (by omega) (by omega) (unhide M4).rd).mono ?_
      rintro e w5 ⟨q, rfl, hq, D5, T5⟩
      have M5 := hide ((unhide M4).step hg1 (unhide T5) (unhide D5))
      clear M4 T5 D5 c4 f4
      go_upto_if 53 with fail
      go_cut [12] (fun kv wx => ∃ (k2 : Nat), k2 ≤ 11 ∧ kv = .int .i64 (k2 : Int) ∧ Hid (FdMid base g (N + 104 + i * 70) w1 m (.slice oa on oc) i ts4 wx))
      case first =>
        by_cases hq0 : q = 0
        · subst hq0
          go_wp2_with fail
          refine (pick_rdy base g _ 12 w1 w5 (by omega) (by omega) (by omega) (unhide M5).rd).mono ?_
          rintro e w6 ⟨x, rfl, hx, D6, T6⟩
          have M6 := hide ((unhide M5).step hg1 (unhide T6) (unhide D6))
          clear T6 D6
          go_wp2_with fail
          go_meet
          exact ⟨x, by omega, rfl, hide ((unhide M6).more (by omega))⟩
        · have hqb : ((q : Int) == 0) = false := by rw [beq_eq_false_iff_ne]; omega
          go_wp2_with fail
          go_meet
          exact ⟨kk, hkk, rfl, hide ((unhide M5).more (by omega))⟩
      case rest =>
      obtain ⟨k2, hk2, rfl, M6⟩ := hcut
      clear M5
      generalize wc = w6 at *
      go_upto_region 14 with fail
      go_cut [13] (fun pv wx => ∃ (b : Nat) (v : Int) (ua : Option Addr) (un uc : Nat) (ms : List MarkV), pv = .pointer (some ⟨b, 0, none⟩) ∧ Hid (0 ≤ v ∧ v ≤ 1000) ∧ Hid (ItBox w6 wx b v (.slice ua un uc) ms) ∧ Hid (Rdy base g (N + 104 + i * 70) w6 wx))
      case first =>
        have hz6 : w1.heap.size ≤ w6.heap.size := (unhide M6).rd.size
        have hzw : z < ws.length := by have := unhide HMW; omega
        obtain ⟨gs, ga, ca, tq, hsa, hgs, hgsl, hcs, hga, hgal, h4, hct⟩ := (unhide ST1).at k2 (by have := unhide HVL; omega)
        subst hsa
        have T6 := (unhide M6).rd.turn
        have hcs6 : w6.cell? ⟨gs, k2, none⟩ = some (.slice (some ⟨ga, 0, none⟩) 4 ca) := (T6.cell hgsl (by simp; omega)).trans hcs
        have hcw6 : w6.cell? ⟨gw, z, none⟩ = some (.int .i64 ws[z]) := (T6.cell hgw1 (by simp; omega)).trans (unhide HCW1 z hzw)
        have hcsA : (w6.alloc (.cells #[.int .i64 0, .slice none 0 0] 30)).cell? ⟨gs, k2, none⟩ = some (.slice (some ⟨ga, 0, none⟩) 4 ca) := (((Below.refl _ w6).alloc (Nat.le_refl _) _).cell (Nat.lt_of_lt_of_le hgsl hz6)).trans hcs6
        have hcwA : (w6.alloc (.cells #[.int .i64 0, .slice none 0 0] 30)).cell? ⟨gw, z, none⟩ = some (.int .i64 ws[z]) := (((Below.refl _ w6).alloc (Nat.le_refl _) _).cell (Nat.lt_of_lt_of_le hgw1 hz6)).trans hcw6
        have hwz := (unhide HWS).2 _ (List.getElem_mem hzw)
        have HVEC := hide (fun (X : World) (t : Turn [g] w6 X) => l34Vec_any ga 4 ca tq ws[z] X (by omega) (by omega) h4 rfl (Nat.lt_of_lt_of_le (Nat.lt_of_lt_of_le hgal hz6) t.size) (fun i hi => ((T6.trans t).cell hgal (by simp; omega)).trans (hct i hi)))
        have TD := hide (show Turn [g] w6 w6.drew from (Turn.of_below (Below.refl _ _).drew))
        have D0 := hide ((unhide M6).rd.self.up (Below.refl _ _).drew)
        have TDA := hide (show Turn [g] w6 (w6.alloc (.cells #[.int .i64 0, .slice none 0 0] 30)).drew from (Turn.of_alloc [g] w6 _).trans (Turn.of_below (Below.refl _ _).drew))
        have DA := hide (((unhide M6).rd.self.alloc (.cells #[.int .i64 0, .slice none 0 0] 30)).up (Below.refl _ _).drew)
        have LTA := hide (show w6.heap.size < (w6.alloc (.cells #[.int .i64 0, .slice none 0 0] 30)).drew.heap.size from by show w6.heap.size < (w6.alloc (.cells #[.int .i64 0, .slice none 0 0] 30)).heap.size; rw [World.size_alloc]; exact Nat.lt_succ_self _)
        have BXA := hide ((boxF_new w6 [.int .i64 0, .slice none 0 0] 30).up (Below.refl _ _).drew)
        have hw1 : IntKind.i64.wrap (100 * (z : Int)) = 100 * (z : Int) := by rw [IntKind.wrap_i64]; omega
        have hw2 : IntKind.i64.wrap (100 * (z : Int) + (k2 : Int)) = 100 * (z : Int) + (k2 : Int) := by rw [IntKind.wrap_i64]; omega
        have hk0 : (0 : Int) ≤ (k2 : Int) := by omega
        have hk12 : (k2 : Int) < 12 := by omega
        generalize ws[z] = wz at *
        clear hct h4 hcs T6
        go_region_with
          (first
          | (go_at_call 28; (with_reducible show Calls _ _ _ w6.drew _); refine (unhide HVEC w6.drew (unhide TD)).mono ?_; rintro e w7 ⟨ma, mn, mc, ms, rfl, R7, SM, b7⟩; have FIT := hide (show ItBox w6 (w7.alloc (.cells #[.int .i64 (100 * (z : Int) + (k2 : Int)), .slice ma mn mc] 30)) w7.heap.size (100 * (z : Int) + (k2 : Int)) (.slice ma mn mc) ms from ⟨b7.size, boxF_new w7 [.int .i64 (100 * (z : Int) + (k2 : Int)), .slice ma mn mc] 30, (vec_q (b0 := w6.heap.size) (unhide R7) (Nat.le_refl _) w7.heap.size (.inr (Nat.le_refl _))).turn (Turn.of_alloc [] w7 (.cells #[.int .i64 (100 * (z : Int) + (k2 : Int)), .slice ma mn mc] 30)) (by simp), (unhide SM).mono (by omega)⟩); have DF := hide (((unhide D0).up b7).alloc (.cells #[.int .i64 (100 * (z : Int) + (k2 : Int)), .slice ma mn mc] 30)); clear b7 R7)
          | (go_at_call 28; (with_reducible show Calls _ _ _ (w6.alloc _).drew _); refine (unhide HVEC (w6.alloc (.cells #[.int .i64 0, .slice none 0 0] 30)).drew (unhide TDA)).mono ?_; rintro e w7 ⟨ma, mn, mc, ms, rfl, R7, SM, b7⟩; have BX7 := hide ((unhide BXA).up b7); have D7 := hide ((unhide DA).up b7); have hb7 : w6.heap.size ≤ w6.heap.size := Nat.le_refl _; have MQ7 := hide (vec_q (b0 := w6.heap.size) (unhide R7) (Nat.le_of_lt (unhide LTA)) w6.heap.size (.inl (unhide LTA))); have FI := it_fill hb7 (unhide BX7) (unhide MQ7) ((unhide SM).mono (by omega)) (100 * (z : Int) + (k2 : Int)); have FIT := hide FI.1; have DF := hide ((unhide D7).turns FI.2 (by simp)); clear FI; obtain ⟨c70, c71, f70, f71⟩ := (unhide BX7).two; clear b7 R7)
          | fail)
        all_goals
          go_wp2_with fail
          go_meet
          exact ⟨_, 100 * (z : Int) + (k2 : Int), ma, mn, mc, ms, rfl, hide ⟨by omega, by omega⟩, FIT, DF⟩
      case rest =>
      obtain ⟨b, v, ua, un, uc, ms, rfl, HV, IB, D7⟩ := hcut
      generalize wc = w7 at *
      have hg6 : g < w6.heap.size := Nat.lt_of_lt_of_le hg1 (unhide M6).rd.size
      go_wp2_with fail
      refine (pick_rdy base g _ 24 w6 w7 (by omega) (by omega) (by omega) (unhide D7)).mono ?_
      rintro e w8 ⟨q2, rfl, hq2, D8, T8⟩
      have IB8 := hide ((unhide IB).turn (unhide T8) hg6)
      clear IB T8 D7
      go_upto_if 72 with fail
      go_cut [] (fun wx => ∃ (ua : Option Addr) (un uc : Nat) (ms : List MarkV), Hid (ItBox w6 wx b v (.slice ua un uc) ms) ∧ Hid (Rdy base g (N + 165 + i * 70) w6 wx))
      case first =>
        by_cases hq0 : q2 = 0
        · subst hq0
          have HMK := hide (show ∃ p, p ≤ N + 105 + i * 70 ∧ RdIn base w8 g p from by obtain ⟨p, h1, h2⟩ := (unhide D8).rd; exact ⟨p, by omega, h2⟩)
          obtain ⟨p, hp, hrp⟩ := unhide HMK
          have HL := hide (l34Marks_any base g p w8 (by omega) hrp)
          have hz8 : w6.heap.size ≤ w8.heap.size := (unhide D8).size
          clear hrp HMK
          go_wp2_with fail
          refine (unhide HL).mono ?_
          rintro e w9 ⟨u9, xs9, rfl, MH9, SM9, RD9, T9⟩
          obtain ⟨ua9, un9, uc9, rfl⟩ := (unhide MH9).rd.form
          have FI := (unhide IB8).stamp hz8 (unhide T9) hg6 (unhide MH9) (unhide SM9)
          have FIT := hide FI.1
          have D9 := hide (show Rdy base g (N + 165 + i * 70) w6 (w9.setCell ⟨b, 1, none⟩ (.slice ua9 un9 uc9)) from (show Rdy base g (N + 165 + i * 70) w6 w9 from ⟨hg6, (by obtain ⟨q, h1, h2⟩ := unhide RD9; exact ⟨q, by omega, h2⟩), (unhide D8).turn.trans (unhide T9)⟩).turns FI.2 (by have := (unhide IB8).ge; simpa using this))
          obtain ⟨c90, c91, f90, f91⟩ := ((unhide IB8).turn (unhide T9) hg6).box.two
          clear FI HL MH9 SM9 RD9 T9
          go_wp2_with fail
          go_meet
          exact ⟨ua9, un9, uc9, xs9, FIT, D9⟩
        · have hqb : ((q2 : Int) == 0) = false := by rw [beq_eq_false_iff_ne]; omega
          go_wp2_with fail
          go_meet
          exact ⟨ua, un, uc, ms, IB8, hide ((unhide D8).more (by omega))⟩
      case rest =>
      obtain ⟨ua2, un2, uc2, ms2, IB9, D9⟩ := hcut
      clear IB8 D8
      generalize wc = w9 at *
      obtain ⟨c90, c91, f90, f91⟩ := (unhide IB9).box.two
      have FB := hide ((unhide IB9).feed (unhide D9).size (z : Int))
      go_wp2_with fail
      refine (pick_rdy base g _ 60 w6 _ (by omega) (by omega) (by omega) ((unhide D9).alloc _)).mono ?_
      rintro e w10 ⟨q3, rfl, hq3, D10, T10⟩
      have FB10 := hide ((unhide FB).turn (unhide T10) hg6)
      clear FB T10 c90 c91 f90 f91 IB9
      generalize w9.heap.size = b2 at *
      go_upto_if 81 with fail
      go_cut [] (fun wx => ∃ (fi : Int), Hid (-1 ≤ fi ∧ fi ≤ 1099511627776) ∧ Hid (FdBox w6 wx b2 fi v (.slice ua2 un2 uc2) ms2) ∧ Hid (Rdy base g (N + 168 + i * 70) w6 wx))
      case first =>
        by_cases hq0 : q3 = 0
        · subst hq0
          have TDA := hide (Turn.of_alloc [g] w10 (.cells #[.int .i64 (-1), .int .i64 (m : Int), .int .i64 1099511627776] 3))
          have DA := hide ((unhide D10).self.alloc (.cells #[.int .i64 (-1), .int .i64 (m : Int), .int .i64 1099511627776] 3))
          have LTA := hide (show w10.heap.size < (w10.alloc (.cells #[.int .i64 (-1), .int .i64 (m : Int), .int .i64 1099511627776] 3)).heap.size from by rw [World.size_alloc]; exact Nat.lt_succ_self _)
          have hg10 : g < w10.heap.size := Nat.lt_of_lt_of_le hg6 (unhide D10).size
          go_wp2_with fail
          refine (pick_rdy base g _ 3 w10 _ (by omega) (by omega) (by omega) (unhide DA)).mono ?_
          rintro e w11 ⟨y, rfl, hy, D11, T11⟩
          have FB11 := hide ((unhide FB10).turn ((unhide TDA).trans (unhide T11)) hg6)
          have DD := hide ((unhide D10).on (unhide D11))
          have c11 := ((unhide T11).cell (unhide LTA) (fun hm => (by have h2 : w10.heap.size = g := List.mem_singleton.1 hm; omega))).trans (tri_cell w10 m y (by omega))
          obtain ⟨⟨ca, -, -⟩, fa, -, -⟩ := (unhide FB11).box.trio
          have hy0 : (0 : Int) ≤ (y : Int) := by omega
          have KS := hide (FdBox.put0 (unhide FB11) (unhide DD) (triV m y))
          clear T11 TDA DA D11 FB10 D10 LTA
          go_wp2_with fail
          go_meet
          exact ⟨triV m y, hide (tri_fit m y (by omega)), (unhide KS).1, hide ((unhide KS).2.more (by omega))⟩
        · have hqb : ((q3 : Int) == 0) = false := by rw [beq_eq_false_iff_ne]; omega
          go_wp2_with fail
          go_meet
          exact ⟨(z : Int), hide ⟨by omega, by omega⟩, FB10, hide ((unhide D10).more (by omega))⟩
      case rest =>
      obtain ⟨fi, HFI, FB11, D11⟩ := hcut
      clear FB10 D10 D9
      generalize wc = w11 at *
      have M11 := hide ((unhide M6).step hg1 (unhide D11).turn ((unhide M6).rd.on (unhide D11)))
      obtain ⟨⟨c110, c111, c112⟩, -⟩ := (unhide FB11).box.trio
      obtain ⟨xs, ns, r1, r2, r3⟩ := (unhide M11).out
      have hvo : ∀ k, (Value.slice oa on oc).ownBlock = some k → k < w6.heap.size := by
        obtain ⟨xs', ns', q1, -, -⟩ := (unhide M6).out
        exact q1.lt
      have hxl : xs.length ≤ 1000000 := by have := r2.1; have := r3.1; omega
      have A12 := hide ((Below.refl _ w11).alloc (Nat.le_refl _) (.cells #[.int .i64 fi, .int .i64 v, .slice ua2 un2 uc2] 32))
      have ROW := hide (r1.up (unhide A12))
      have FDS := hide (r2.up (unhide A12))
      have FIT := hide r3
      have HXL := hide hxl
      have AT12 := hide ((unhide M11).ats.up (unhide A12))
      have D12 := hide ((unhide M11).rd.up (unhide A12))
      have C12 := hide (boxF_new w11 [.int .i64 fi, .int .i64 v, .slice ua2 un2 uc2] 32).trio.1
      have hz6 : w1.heap.size + 1 ≤ w6.heap.size := by
        have := (unhide M6).ats.lt w1.heap.size rfl
        omega
      have MQ := hide (show MkQ (OffW (w1.heap.size + 1) (.slice oa on oc)) (w11.alloc (.cells #[.int .i64 fi, .int .i64 v, .slice ua2 un2 uc2] 32)) (.slice ua2 un2 uc2) ms2 from ((unhide FB11).own.mono (fun k _ hp => ⟨by have := hp.1; omega, fun e => by have := hvo k e; have := hp.1; omega⟩)).turn (Turn.of_alloc [] w11 _) (by simp))
      have HZ12 := hide (show w1.heap.size + 1 ≤ (w11.alloc (.cells #[.int .i64 fi, .int .i64 v, .slice ua2 un2 uc2] 32)).heap.size from by have := (unhide D11).size; rw [World.size_alloc]; omega)
      have FIT2 := hide (show FeedFit (i + 1) (ns ++ [⟨fi, ⟨v, ms2⟩⟩]) from ⟨by have := r3.1; simp; omega, fun x hx => by
        rcases List.mem_append.1 hx with h | h
        · exact r3.2 x h
        · simp at h
          subst h
          have := unhide HV
          exact ⟨unhide HFI, ⟨by simp only; omega, by simp only; omega⟩, (unhide FB11).sm⟩⟩)
      clear r1 r2 r3 hvo hxl M11 M6 D11
      go_wp2_with (first
        | (at_builtin; refine wpList_fdAppend rfl _ _ rfl (w1.heap.size + 1) (.slice oa on oc) xs fi v ua2 un2 uc2 w11.heap.size rfl rfl (unhide ROW) (unhide C12).1 (unhide C12).2.1 (unhide C12).2.2 (unhide HXL) (unhide HZ12) ?_; intro g13 n13 c13 w13 r13 gr13 hg13; have M13 := hide (show FdMid base g (N + 100 + (i + 1) * 70) w1 m (.slice (some ⟨g13, 0, none⟩) n13 c13) (i + 1) ts4 w13 from ⟨(unhide AT12).keep (fun y hy => gr13.block y ((unhide AT12).lt y hy) (fun e => by have h1 := (unhide ROW).ge y e.symm; simp [Value.ownBlock] at hy; omega)), ⟨_, _, r13, fds_grow ((unhide FDS).snoc (unhide MQ)) gr13 hg13, unhide FIT2⟩, ((unhide D12).grown gr13 (fun y hy => by have := (unhide ROW).ge y hy; omega)).more (by omega)⟩); clear r13 gr13 hg13)
        | fail)
      go_roundw
      case rel => exact ⟨i + 1, _, n13, c13, ts4, by omega, by go_num, rfl, HA4, M13⟩
      case measure => simp [intOf]; omega
end Go.Proofs.Ytlbhandkpnjgmaa
