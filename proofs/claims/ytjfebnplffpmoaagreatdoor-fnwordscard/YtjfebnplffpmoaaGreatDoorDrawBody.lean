/-
  The specification's drawing of a body: one of four kinds of lists of nodes.
-/
import Derived.Test.YtjfebnplffpmoaaGreatDoorDrawMore
namespace Go.Proofs.YtjfebnplffpmoaaGreatDoor
open Go.RowKit Go.Maps Go.Deep

theorem empty_short : (⟨#[]⟩ : ByteArray).size ≤ 16 := by decide
theorem x_short : (⟨#[120]⟩ : ByteArray).size ≤ 16 := by decide

set_option maxHeartbeats 3200000 in
theorem l31Wide_any (w : World) (base g p : Nat) (n : Nat) (hn1 : 1 ≤ n) (hn2 : n ≤ 1000) (m : Int) (hm : m = (n : Int)) (hr : RdIn base w g p) :
    Calls Tryz.prog 36 #[.pointer (some ⟨g, 0, none⟩), .int .i64 m] w fun e w' => RetDraw base g p 1010 0 w e w' := by
  have hgw := hr.lt
  have hgb := hr.above
  have HR := hide hr
  have HM := hide hm
  have hm1 : 1 ≤ m := by omega
  have hm2 : m ≤ 1000 := by omega
  clear hr hm
  obtain ⟨i0, hi, hz0, hz1, hz2⟩ := info_parts infoNode4
  go_enter Tryz.func36, Tryz.ntmps36
  go_wp2_with fail
  refine (l31Even_any ((n + 1) / 2) (by omega) (by omega) _ _ (by have := unhide HM; omega)).mono ?_
  rintro e w1 ⟨⟨k, cap, ns, rfl, hrow, hl1, hl2, hsn⟩, ht⟩
  have HROW := hide hrow
  have HT := hide ht
  have hs1 := ht.size
  have HSN := hide hsn
  clear hrow ht hsn
  by_cases he : m % 2 = 0
  · have he' : (m % 2 == 0) = true := by simp [he]
    clear he
    have hA := NodeRow.lit (B := w.heap.size) w1 [⟨3, 0, ⟨#[]⟩, 1⟩] hs1 (by simp)
    have hTA : Turn [] w1 (w1.alloc (.cells #[.int .i64 3, .int .i64 0, .string ⟨#[]⟩, .int .i64 1] 49)) := Turn.of_alloc _ _ _
    have hnews := ((unhide HROW).turn hTA (by simp)).news
    have HTA := hide hTA
    clear hTA
    go_wp2_with (first
      | (at_builtin; refine wpList_append_own _ rfl _ _ 31 rfl w.heap.size 49 i0 _ 4 40 Tryz.underlying31 hi hz0 hz1 hz2 rfl (by decide) (.slice (some ⟨w1.heap.size, 0, none⟩) 1 1) 1 (cellsL [⟨3, 0, ⟨#[]⟩, 1⟩]) rfl hA ⟨k, 0, none⟩ ns.length cap (cellsL ns) rfl (cellsL_len ns) hnews (cellsL_one ns) (by unfold maxLen; omega) (by omega) (by simp; omega) ?_; intro v3 w3 hown3 hgrow3 _))
    obtain ⟨k5, cap5, n5, rfl, hrow5, hn5, hsn5⟩ := NodeRow.join hown3 (by omega) (short_one _ empty_short) (unhide HSN)
    have hg3 : (w1.alloc (.cells #[.int .i64 3, .int .i64 0, .string ⟨#[]⟩, .int .i64 1] 49)).grownBy w3 (some w1.heap.size) := hgrow3
    have hT5 := ((unhide HT).trans (unhide HTA)).grown hg3 (fun x hx => by cases hx; exact .inr hs1)
    have HX := hide (show RetDraw base g p 1010 0 w (.returned (.slice (some ⟨k5, 0, none⟩) n5.length cap5)) w3 from
      ⟨⟨k5, cap5, n5, rfl, hrow5, by simp at hn5; omega, by simp at hn5; omega, hsn5⟩, hT5.mono (by simp), p, by omega, by omega, (unhide HR).turn hT5 (by simp) (by simp)⟩)
    clear hown3 hgrow3 hrow5 hT5 hA hnews hg3
    go_wp2_with fail
    go_ret
    exact unhide HX
  · have he' : (m % 2 == 0) = false := by simp [he]
    clear he
    have HX := hide (show RetDraw base g p 1010 0 w (.returned (.slice (some ⟨k, 0, none⟩) ns.length cap)) w1 from
      ⟨⟨k, cap, ns, rfl, unhide HROW, hl1, by omega, unhide HSN⟩, (unhide HT).mono (by simp), p, by omega, by omega, (unhide HR).turn (unhide HT) (by simp) (by simp)⟩)
    go_wp2_with fail
    go_ret
    exact unhide HX

/-- a block holds one node -/
def NodeCell (w : World) (b : Nat) (x : NodeV) : Prop := b < w.heap.size ∧ NodesAt w b 0 [x]
theorem NodeCell.cells {w : World} {b : Nat} {x : NodeV} (h : NodeCell w b x) : w.cell? ⟨b, 0, none⟩ = some (.int .i64 x.kind) ∧ w.cell? ⟨b, 1, none⟩ = some (.int .i64 x.num) ∧ w.cell? ⟨b, 2, none⟩ = some (.string x.name) ∧ w.cell? ⟨b, 3, none⟩ = some (.int .i64 x.kids) := by
  have := h.2 0 (by simp)
  simpa using this
theorem NodeCell.turn {w w' : World} {b : Nat} {x : NodeV} {S : List Nat} (h : NodeCell w b x) (ht : Turn S w w') (hb : b ∉ S) : NodeCell w' b x := by
  refine ⟨Nat.lt_of_lt_of_le h.1 ht.size, fun i hi => ?_⟩
  obtain ⟨a, b', c, d⟩ := h.2 i hi
  exact ⟨(ht.cell h.1 hb).trans a, (ht.cell h.1 hb).trans b', (ht.cell h.1 hb).trans c, (ht.cell h.1 hb).trans d⟩
theorem NodeCell.new (w : World) (x : NodeV) : NodeCell (w.alloc (.cells #[.int .i64 x.kind, .int .i64 x.num, .string x.name, .int .i64 x.kids] 49)) w.heap.size x :=
  ⟨by simp, (NodeRow.lit (B := 0) w [x] (Nat.zero_le _) (by simp)).nodesAt⟩

theorem NodeCell.new' (n : Nat) (w : World) (x : NodeV) (hn : n = w.heap.size) : NodeCell (w.alloc (.cells #[.int .i64 x.kind, .int .i64 x.num, .string x.name, .int .i64 x.kids] 49)) n x := by
  subst hn; exact NodeCell.new w x
theorem short3 {a b c : NodeV} (ha : a.name.size ≤ 16) (hb : b.name.size ≤ 16) (hc : c.name.size ≤ 16) : ShortNames [a, b, c] := short_app (short_one a ha) (short_app (short_one b hb) (short_one c hc))
def numN (v : Int) : NodeV := ⟨1, 60 + v, ⟨#[]⟩, 0⟩
def oneN : NodeV := ⟨1, 1, ⟨#[]⟩, 0⟩
def xN : NodeV := ⟨2, 0, ⟨#[120]⟩, 0⟩
def addN : NodeV := ⟨8, 0, ⟨#[]⟩, 2⟩
def repN : NodeV := ⟨23, 0, ⟨#[120]⟩, 3⟩
def letN : NodeV := ⟨22, 0, ⟨#[120]⟩, 2⟩

set_option maxHeartbeats 6400000 in
theorem l31Heavy_any (w : World) (base g p : Nat) (hp : p ≤ 900000000000) (hr : RdIn base w g p) :
    Calls Tryz.prog 37 #[.pointer (some ⟨g, 0, none⟩)] w fun e w' => RetDraw base g p 1010 2 w e w' := by
  have hgw := hr.lt
  have hgb := hr.above
  have HR := hide hr
  clear hr
  obtain ⟨i0, hi, hz0, hz1, hz2⟩ := info_parts infoNode4
  go_enter Tryz.func37, Tryz.ntmps37
  go_wp2_with fail
  refine (pick_any _ base g p 8 (by omega) (by omega) (by omega) (unhide HR)).mono ?_
  rintro e w1 ⟨v, rfl, hv0, hv1, hr1, ht1⟩
  have HR1 := hide hr1
  have HT1 := hide ht1
  have hs1 := ht1.size
  clear hr1 ht1
  have t1 : Turn [] w1 (w1.alloc (.cells #[.int .i64 1, .int .i64 (60 + v), .string ⟨#[]⟩, .int .i64 0] 49)) := Turn.of_alloc _ _ _
  have t2 : Turn [] (w1.alloc (.cells #[.int .i64 1, .int .i64 (60 + v), .string ⟨#[]⟩, .int .i64 0] 49)) ((w1.alloc (.cells #[.int .i64 1, .int .i64 (60 + v), .string ⟨#[]⟩, .int .i64 0] 49)).alloc (.cells #[.int .i64 1, .int .i64 1, .string ⟨#[]⟩, .int .i64 0] 49)) := Turn.of_alloc _ _ _
  have t3 : Turn [] ((w1.alloc (.cells #[.int .i64 1, .int .i64 (60 + v), .string ⟨#[]⟩, .int .i64 0] 49)).alloc (.cells #[.int .i64 1, .int .i64 1, .string ⟨#[]⟩, .int .i64 0] 49)) (((w1.alloc (.cells #[.int .i64 1, .int .i64 (60 + v), .string ⟨#[]⟩, .int .i64 0] 49)).alloc (.cells #[.int .i64 1, .int .i64 1, .string ⟨#[]⟩, .int .i64 0] 49)).alloc (.cells #[.int .i64 2, .int .i64 0, .string ⟨#[120]⟩, .int .i64 0] 49)) := Turn.of_alloc _ _ _
  have t4 : Turn [] (((w1.alloc (.cells #[.int .i64 1, .int .i64 (60 + v), .string ⟨#[]⟩, .int .i64 0] 49)).alloc (.cells #[.int .i64 1, .int .i64 1, .string ⟨#[]⟩, .int .i64 0] 49)).alloc (.cells #[.int .i64 2, .int .i64 0, .string ⟨#[120]⟩, .int .i64 0] 49)) ((((w1.alloc (.cells #[.int .i64 1, .int .i64 (60 + v), .string ⟨#[]⟩, .int .i64 0] 49)).alloc (.cells #[.int .i64 1, .int .i64 1, .string ⟨#[]⟩, .int .i64 0] 49)).alloc (.cells #[.int .i64 2, .int .i64 0, .string ⟨#[120]⟩, .int .i64 0] 49)).alloc (.cells #[.int .i64 8, .int .i64 0, .string ⟨#[]⟩, .int .i64 2, .int .i64 2, .int .i64 0, .string ⟨#[120]⟩, .int .i64 0, .int .i64 1, .int .i64 1, .string ⟨#[]⟩, .int .i64 0] 49)) := Turn.of_alloc _ _ _
  have HN1 := hide (((((NodeCell.new' w1.heap.size w1 (numN v) rfl)).turn t2 (by simp)).turn t3 (by simp)).turn t4 (by simp))
  have HN2 := hide ((((NodeCell.new' (w1.heap.size + 1) (w1.alloc (.cells #[.int .i64 1, .int .i64 (60 + v), .string ⟨#[]⟩, .int .i64 0] 49)) oneN (by simp))).turn t3 (by simp)).turn t4 (by simp))
  have HN3 := hide (((NodeCell.new' (w1.heap.size + 1 + 1) ((w1.alloc (.cells #[.int .i64 1, .int .i64 (60 + v), .string ⟨#[]⟩, .int .i64 0] 49)).alloc (.cells #[.int .i64 1, .int .i64 1, .string ⟨#[]⟩, .int .i64 0] 49)) xN (by simp))).turn t4 (by simp))
  have HROW := hide (NodeRow.lit' (B := w.heap.size) (w1.heap.size + 1 + 1 + 1) (((w1.alloc (.cells #[.int .i64 1, .int .i64 (60 + v), .string ⟨#[]⟩, .int .i64 0] 49)).alloc (.cells #[.int .i64 1, .int .i64 1, .string ⟨#[]⟩, .int .i64 0] 49)).alloc (.cells #[.int .i64 2, .int .i64 0, .string ⟨#[120]⟩, .int .i64 0] 49)) [addN, xN, oneN] (by simp) (by simp; omega) (by simp))
  have HT4 := hide ((unhide HT1).trans ((t1.trans (t2.trans (t3.trans t4))).mono (by simp)))
  have HR4 := hide ((unhide HR1).turn (t1.trans (t2.trans (t3.trans t4))) (by simp) (by simp))
  clear t1 t2 t3 t4
  go_wp2_with fail
  refine (pick_any _ base g (p + 1) 3 (by omega) (by omega) (by omega) (unhide HR4)).mono ?_
  rintro e w5 ⟨u, rfl, hu0, hu1, hr5, ht5⟩
  have HR5 := hide hr5
  have HT5 := hide ((unhide HT4).trans ht5)
  have HM1 := hide ((unhide HN1).turn ht5 (by simp; omega))
  have HM2 := hide ((unhide HN2).turn ht5 (by simp; omega))
  have HM3 := hide ((unhide HN3).turn ht5 (by simp; omega))
  have HROW5 := hide ((unhide HROW).turn ht5 (by simp; omega))
  have hs5 := ht5.size
  simp at hs5
  clear hr5 ht5
  go_wp2_with fail
  go_loopw [6, 8] (fun o i wr => ∃ (j k cap : Nat) (ns : List NodeV), (j : Int) ≤ 1 + u ∧ i = .int .i64 j ∧ o = .slice (some ⟨k, 0, none⟩) ns.length cap ∧ 1 ≤ ns.length ∧ ns.length ≤ 3 + 3 * j ∧ Hid (NodeRow w.heap.size wr k cap ns ∧ ShortNames ns ∧ RdIn base wr g (p + 1 + 1) ∧ Turn [g] w wr ∧ NodeCell wr w1.heap.size (numN v) ∧ NodeCell wr (w1.heap.size + 1) oneN ∧ NodeCell wr (w1.heap.size + 1 + 1) xN)) (fun _ i _ => (1 + u - intOf i).toNat)
  case atStart => exact ⟨0, _, _, [addN, xN, oneN], by omega, rfl, rfl, by simp, by simp, unhide HROW5, short3 empty_short x_short empty_short, unhide HR5, unhide HT5, unhide HM1, unhide HM2, unhide HM3⟩
  case round =>
    obtain ⟨j, k, cap, ns, hj, rfl, rfl, hn1, hn2, HP⟩ := hrel
    obtain ⟨hrow, hsn, hrd, htn, m1, m2, m3⟩ := unhide HP
    have hkb := hrow.block
    have hwr := htn.size
    have b1 := m1.1
    have b2 := m2.1
    have b3 := m3.1
    by_cases hlt : (j : Int) < 1 + u
    · obtain ⟨x0, x1, x2, x3⟩ := m1.cells
      obtain ⟨y0, y1, y2, y3⟩ := m3.cells
      simp only [numN, xN] at x0 x1 x2 x3 y0 y1 y2 y3
      have hA := NodeRow.lit (B := w.heap.size) wr [repN, numN v, xN] hwr (by simp)
      have hTA : Turn [] wr (wr.alloc (.cells #[.int .i64 23, .int .i64 0, .string ⟨#[120]⟩, .int .i64 3, .int .i64 1, .int .i64 (60 + v), .string ⟨#[]⟩, .int .i64 0, .int .i64 2, .int .i64 0, .string ⟨#[120]⟩, .int .i64 0] 49)) := Turn.of_alloc _ _ _
      have hnews := (hrow.turn hTA (by simp)).news
      have HTA := hide hTA
      clear hTA hrow hsn hrd htn m1 m2 m3
      go_wp2_with (first
        | (at_builtin; refine wpList_append_own _ rfl _ _ 31 rfl w.heap.size 49 i0 _ 4 40 Tryz.underlying31 hi hz0 hz1 hz2 rfl (by decide) (.slice (some ⟨wr.heap.size, 0, none⟩) 3 3) 3 (cellsL [repN, numN v, xN]) rfl hA ⟨k, 0, none⟩ ns.length cap (cellsL ns) rfl (cellsL_len ns) hnews (cellsL_one ns) (by unfold maxLen; omega) (by omega) (by simp; omega) ?_; intro v3 w3 hown3 hgrow3 _))
      obtain ⟨k5, cap5, n5, rfl, hrow5, hn5, hsn5⟩ := NodeRow.join hown3 (by omega) (short3 x_short empty_short x_short) (unhide HP).2.1
      have hg3 : (wr.alloc (.cells #[.int .i64 23, .int .i64 0, .string ⟨#[120]⟩, .int .i64 3, .int .i64 1, .int .i64 (60 + v), .string ⟨#[]⟩, .int .i64 0, .int .i64 2, .int .i64 0, .string ⟨#[120]⟩, .int .i64 0] 49)).grownBy w3 (some wr.heap.size) := hgrow3
      have hG : Turn [wr.heap.size] (wr.alloc (.cells #[.int .i64 23, .int .i64 0, .string ⟨#[120]⟩, .int .i64 3, .int .i64 1, .int .i64 (60 + v), .string ⟨#[]⟩, .int .i64 0, .int .i64 2, .int .i64 0, .string ⟨#[120]⟩, .int .i64 0] 49)) w3 := Turn.of_grown hg3 (fun x hx => by cases hx; exact .inl (by simp))
      have hT5 := ((unhide HP).2.2.2.1.trans ((unhide HTA).mono (by simp))).grown hg3 (fun x hx => by cases hx; exact .inr hwr)
      have hR5 := ((unhide HP).2.2.1.turn (unhide HTA) (by simp) (by simp)).grown hg3 (fun x hx => by cases hx; exact ⟨by omega, by omega⟩)
      have z1 := ((unhide HP).2.2.2.2.1.turn (unhide HTA) (by simp)).turn hG (by simp; omega)
      have z2 := ((unhide HP).2.2.2.2.2.1.turn (unhide HTA) (by simp)).turn hG (by simp; omega)
      have z3 := ((unhide HP).2.2.2.2.2.2.turn (unhide HTA) (by simp)).turn hG (by simp; omega)
      have HX := hide (And.intro hrow5 (And.intro hsn5 (And.intro hR5 (And.intro hT5 (And.intro z1 (And.intro z2 z3))))))
      have hn5' : n5.length = 3 + ns.length := by simpa using hn5
      clear hown3 hgrow3 hrow5 hT5 hA hnews hg3 hG hR5 z1 z2 z3 hsn5 hn5 x0 x1 x2 x3 y0 y1 y2 y3
      go_roundw
      case rel => exact ⟨j + 1, k5, cap5, n5, by omega, by go_num, rfl, by omega, by omega, unhide HX⟩
      case measure => simp [intOf]; omega
    · obtain ⟨y0, y1, y2, y3⟩ := m2.cells
      simp only [oneN] at y0 y1 y2 y3
      have hA := NodeRow.lit (B := w.heap.size) wr [letN, oneN] hwr (by simp)
      have hTA : Turn [] wr (wr.alloc (.cells #[.int .i64 22, .int .i64 0, .string ⟨#[120]⟩, .int .i64 2, .int .i64 1, .int .i64 1, .string ⟨#[]⟩, .int .i64 0] 49)) := Turn.of_alloc _ _ _
      have hnews := (hrow.turn hTA (by simp)).news
      have HTA := hide hTA
      clear hTA hrow hsn hrd htn m1 m2 m3
      go_wp2_with (first
        | (at_builtin; refine wpList_append_own _ rfl _ _ 31 rfl w.heap.size 49 i0 _ 4 40 Tryz.underlying31 hi hz0 hz1 hz2 rfl (by decide) (.slice (some ⟨wr.heap.size, 0, none⟩) 2 2) 2 (cellsL [letN, oneN]) rfl hA ⟨k, 0, none⟩ ns.length cap (cellsL ns) rfl (cellsL_len ns) hnews (cellsL_one ns) (by unfold maxLen; omega) (by omega) (by simp; omega) ?_; intro v3 w3 hown3 hgrow3 _))
      obtain ⟨k5, cap5, n5, rfl, hrow5, hn5, hsn5⟩ := NodeRow.join hown3 (by omega) (short_app (short_one letN x_short) (short_one oneN empty_short)) (unhide HP).2.1
      have hg3 : (wr.alloc (.cells #[.int .i64 22, .int .i64 0, .string ⟨#[120]⟩, .int .i64 2, .int .i64 1, .int .i64 1, .string ⟨#[]⟩, .int .i64 0] 49)).grownBy w3 (some wr.heap.size) := hgrow3
      have hT5 := ((unhide HP).2.2.2.1.trans ((unhide HTA).mono (by simp))).grown hg3 (fun x hx => by cases hx; exact .inr hwr)
      have hR5 := ((unhide HP).2.2.1.turn (unhide HTA) (by simp) (by simp)).grown hg3 (fun x hx => by cases hx; exact ⟨by omega, by omega⟩)
      have hn5' : n5.length = 2 + ns.length := by simpa using hn5
      have HX := hide (show RetDraw base g p 1010 2 w (.returned (.slice (some ⟨k5, 0, none⟩) n5.length cap5)) w3 from
        ⟨⟨k5, cap5, n5, rfl, hrow5, by omega, by omega, hsn5⟩, hT5, p + 1 + 1, by omega, by omega, hR5⟩)
      clear hown3 hgrow3 hrow5 hT5 hA hnews hg3 hR5 hsn5 hn5 y0 y1 y2 y3
      go_wp2_with fail
      go_ret
      exact unhide HX

end Go.Proofs.YtjfebnplffpmoaaGreatDoor
