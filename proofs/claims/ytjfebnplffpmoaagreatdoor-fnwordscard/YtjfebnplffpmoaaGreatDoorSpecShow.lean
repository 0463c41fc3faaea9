/-
  The specification's text of a tree: l2Bare and l2Show write what 'bareT' says.
-/
import Derived.Test.YtjfebnplffpmoaaGreatDoorMerged9
namespace Go.Proofs.YtjfebnplffpmoaaGreatDoor
open Go.RowKit Go.Maps Go.Deep
set_option linter.unusedVariables false

theorem own_bounds {x : NodeV} (h : ownB x = true) : x.name.size ≤ 16 ∧ 0 ≤ x.num ∧ x.num ≤ 999999999999999999 := by
  unfold ownB at h
  simp only [Bool.and_eq_true] at h
  obtain ⟨_, h⟩ := h
  split at h
  · simp only [Bool.and_eq_true, decide_eq_true_eq, nameB] at h
    omega
  · simp only [Bool.and_eq_true, decide_eq_true_eq] at h
    obtain ⟨h1, h2⟩ := h
    split at h2
    · simp only [Bool.and_eq_true, decide_eq_true_eq] at h2; omega
    · simp only [decide_eq_true_eq] at h2; omega
theorem bare_small {x : NodeV} {l : BT NodeV} {ns : List NodeV} (ho : OwnAll ns) {p : Nat} (h : StandsAt ns p x l) : (bareT x l).size ≤ 24000 := by
  have hlt := h.lt
  have h4 := ho.1
  have := bare_size x l (fun n hn => by
    obtain ⟨pre, post, e, _⟩ := h
    have hm : n ∈ ns := by rw [e]; simp only [List.mem_append, List.mem_cons, List.cons_append] at hn ⊢; rcases hn with h | h <;> simp [h]
    have := own_bounds (ho.2 n hm)
    exact ⟨this.1, this.2.2⟩)
  omega
theorem cnt_zero {l : BT NodeV} (h : cnt l = 0) : l = .nil := by cases l with
  | nil => rfl
  | node b o x m r => simp [cnt] at h
theorem cnt_one {l : BT NodeV} (h : cnt l = 1) : ∃ b o y m, l = .node b o y m .nil := by cases l with
  | nil => simp [cnt] at h
  | node b o x m r => exact ⟨b, o, x, m, by rw [cnt_zero (l := r) (by simp [cnt] at h; exact h)]⟩
theorem cnt_two {l : BT NodeV} (h : cnt l = 2) : ∃ b o y m b' o' z n, l = .node b o y m (.node b' o' z n .nil) := by cases l with
  | nil => simp [cnt] at h
  | node b o x m r =>
    obtain ⟨b', o', z, n, e⟩ := cnt_one (l := r) (by simp [cnt] at h; exact h)
    exact ⟨b, o, x, m, b', o', z, n, by rw [e]⟩
theorem cnt_three {l : BT NodeV} (h : cnt l = 3) : ∃ b o y m b' o' z n b'' o'' u k, l = .node b o y m (.node b' o' z n (.node b'' o'' u k .nil)) := by cases l with
  | nil => simp [cnt] at h
  | node b o x m r =>
    obtain ⟨b', o', z, n, b'', o'', u, k, e⟩ := cnt_two (l := r) (by simp [cnt] at h; exact h)
    exact ⟨b, o, x, m, b', o', z, n, b'', o'', u, k, by rw [e]⟩

def BareSaid (x : NodeV) (l : BT NodeV) : Prop := ∀ (w : World) (b off cap : Nat) (ns : List NodeV) (p : Nat), StandsAt ns p x l → NodesAt w b off ns → b < w.heap.size → OwnAll ns →
  Calls Tryz.prog 57 #[.slice (some ⟨b, off, none⟩) ns.length cap, .int .i64 (p : Int)] w fun e w' => e = .returned (.string (bareT x l)) ∧ Below w.heap.size w w'
/-- a kid's text in brackets where it must be, from any world above one -/
def ShowSaid (W : World) (b off cap : Nat) (ns : List NodeV) (x : NodeV) (l : BT NodeV) (i : Int) : Prop := ∀ (w : World) (least : Int), Below W.heap.size W w →
  Calls Tryz.prog 33 #[.slice (some ⟨b, off, none⟩) ns.length cap, .int .i64 i, .int .i64 least] w fun e w' => e = .returned (.string (wrapT least x (bareT x l))) ∧ Below W.heap.size W w'

/-- what an allocated node's block holds -/
theorem box_cells (w : World) (t : TypeId) (k n : Int) (s : ByteArray) (c : Int) (W : World) (hW : W = w.alloc (.cells #[.int .i64 k, .int .i64 n, .string s, .int .i64 c] t)) :
    W.cell? ⟨w.heap.size, 0, none⟩ = some (.int .i64 k) ∧ W.cell? ⟨w.heap.size, 1, none⟩ = some (.int .i64 n) ∧ W.cell? ⟨w.heap.size, 2, none⟩ = some (.string s) ∧ W.cell? ⟨w.heap.size, 3, none⟩ = some (.int .i64 c) ∧ w.heap.size < W.heap.size ∧ Below w.heap.size w W := by
  subst hW
  refine ⟨?_, ?_, ?_, ?_, by simp, (Below.refl _ _).alloc (Nat.le_refl _) _⟩
  all_goals exact World.cell?_alloc_at _ _ _ _ rfl
set_option maxRecDepth 20000 in
set_option maxHeartbeats 1600000 in
theorem l2Show_one (x : NodeV) (l : BT NodeV) (h : BareSaid x l) (W : World) (b off cap : Nat) (ns : List NodeV) (p : Nat) (hst : StandsAt ns p x l) (hn : NodesAt W b off ns) (hb : b < W.heap.size) (ho : OwnAll ns) : ShowSaid W b off cap ns x l (p : Int) := by
  intro w least hW
  have hs : ((bareT x l).size : Int) ≤ 24000 := by have := bare_small ho hst; omega
  obtain ⟨hk1, hk23, -⟩ := own_parts (ho.2 x hst.mem)
  have hlt := hst.lt
  have h400 := ho.1
  have hnw := hn.below hW hb
  obtain ⟨c0, c1, c2, c3⟩ := hnw p (by omega)
  rw [hst.node (by omega)] at c0 c1 c2 c3
  have hbw : b < w.heap.size := Nat.lt_of_lt_of_le hb hW.size
  have HB := hide (fun w' (hw' : Below w.heap.size w w') => h w' b off cap ns p hst (hnw.below hw' hbw) (Nat.lt_of_lt_of_le hbw hw'.size) ho)
  have HL := hide (l2Level_any x.kind hk1 hk23)
  have hT := hide (show wrapT least x (bareT x l) = if levelN x.kind < least then ⟨#[40]⟩ ++ bareT x l ++ ⟨#[41]⟩ else bareT x l from rfl)
  have hwW := hW.size
  clear h hst hn ho hnw hk1 hk23
  generalize wrapT least x (bareT x l) = T at *
  generalize bareT x l = s at *
  by_cases hle : levelN x.kind < least
  · go_enter Tryz.func33, Tryz.ntmps33
    go_wp2_with fail
    generalize hW1 : w.alloc (.cells #[.int .i64 x.kind, .int .i64 x.num, .string x.name, .int .i64 x.kids] 49) = W1
    obtain ⟨d0, d1, d2, d3, hnb, hbw1⟩ := box_cells w _ _ _ _ _ W1 hW1.symm
    clear hW1
    refine (unhide HB W1 hbw1).mono ?_
    rintro e w1 ⟨rfl, hb1⟩
    rw [← hb1.cell (by exact hnb)] at d0 d1 d2 d3
    go_wp2_with (first
      | (go_at_call 58; refine (unhide HL _).mono ?_; rintro e w2 ⟨rfl, rfl⟩))
    go_ret
    exact ⟨by rw [unhide hT, if_pos hle]; rfl, hW.trans ((hbw1.trans (hb1.mono (Nat.le_of_lt hnb))).mono hwW)⟩
  · go_enter Tryz.func33, Tryz.ntmps33
    go_wp2_with fail
    generalize hW1 : w.alloc (.cells #[.int .i64 x.kind, .int .i64 x.num, .string x.name, .int .i64 x.kids] 49) = W1
    obtain ⟨d0, d1, d2, d3, hnb, hbw1⟩ := box_cells w _ _ _ _ _ W1 hW1.symm
    clear hW1
    refine (unhide HB W1 hbw1).mono ?_
    rintro e w1 ⟨rfl, hb1⟩
    rw [← hb1.cell (by exact hnb)] at d0 d1 d2 d3
    go_wp2_with (first
      | (go_at_call 58; refine (unhide HL _).mono ?_; rintro e w2 ⟨rfl, rfl⟩))
    go_ret
    exact ⟨by rw [unhide hT, if_neg (by omega)]; rfl, hW.trans ((hbw1.trans (hb1.mono (Nat.le_of_lt hnb))).mono hwW)⟩

def EndSaid (W : World) (b off cap : Nat) (ns : List NodeV) (i j : Int) : Prop := ∀ w, Below W.heap.size W w →
  Calls Tryz.prog 55 #[.slice (some ⟨b, off, none⟩) ns.length cap, .int .i64 i] w fun e w' => e = .returned (.int .i64 j) ∧ w' = w
theorem end_said {W : World} {b off cap : Nat} {ns : List NodeV} (hn : NodesAt W b off ns) (hb : b < W.heap.size) (hl : ns.length ≤ 1048576) {q : Nat} {y : NodeV} {m : BT NodeV} (hs : StandsAt ns q y m) (hk : y.kids = cnt m) (hm : kok m) : EndSaid W b off cap ns (q : Int) ((q + 1 + (fl m).length : Nat) : Int) := fun w hw => by
  have := specEnd_any w b off cap ns q (by omega) (by have := hs.lt; omega) hl (hn.below hw hb)
  rw [hs.end' hk hm] at this
  exact this

set_option maxRecDepth 100000 in
set_option maxHeartbeats 3200000 in
theorem bare_leaf (k n : Int) (s : ByteArray) (w : World) (b off cap : Nat) (ns : List NodeV) (p : Nat) (hp : p < ns.length) (h400 : ns.length ≤ 400) (hb : b < w.heap.size)
    (c0 : w.cell? ⟨b, off + p * 4, none⟩ = some (.int .i64 k)) (c1 : w.cell? ⟨b, off + p * 4 + 1, none⟩ = some (.int .i64 n)) (c2 : w.cell? ⟨b, off + p * 4 + 2, none⟩ = some (.string s)) (c3 : w.cell? ⟨b, off + p * 4 + 3, none⟩ = some (.int .i64 0)) (hn0 : 0 ≤ n) (hn1 : n ≤ 999999999999999999) (hk : k = 1 ∨ k = 2) :
    Calls Tryz.prog 57 #[.slice (some ⟨b, off, none⟩) ns.length cap, .int .i64 (p : Int)] w fun e w' => e = .returned (.string (if k = 1 then decN n else s)) ∧ Below w.heap.size w w' := by
  rcases hk with rfl | rfl
  · go_enter Tryz.func57, Tryz.ntmps57
    go_wp2_with (first
      | (go_at_call 58; refine (l2Level_any 1 (by omega) (by omega) _).mono ?_; rintro e w1 ⟨rfl, rfl⟩)
      | (go_at_call 72; refine (l2Dec_any n hn0 hn1 _).mono ?_; rintro e w2 ⟨rfl, hb2⟩))
    go_ret
    exact ⟨rfl, ((Below.refl _ _).alloc (Nat.le_refl _) _).trans (hb2.mono (by simp))⟩
  · go_enter Tryz.func57, Tryz.ntmps57
    go_wp2_with (first
      | (go_at_call 58; refine (l2Level_any 2 (by omega) (by omega) _).mono ?_; rintro e w1 ⟨rfl, rfl⟩))
    go_ret
    exact ⟨rfl, (Below.refl _ _).alloc (Nat.le_refl _) _⟩

/-- a kid's text with so tight a place, from any world above one -/
def KidSaid (W : World) (b off cap : Nat) (ns : List NodeV) (i least : Int) (T : ByteArray) : Prop := ∀ w, Below W.heap.size W w →
  Calls Tryz.prog 33 #[.slice (some ⟨b, off, none⟩) ns.length cap, .int .i64 i, .int .i64 least] w fun e w' => e = .returned (.string T) ∧ Below W.heap.size W w'
theorem ShowSaid.kid {W : World} {b off cap : Nat} {ns : List NodeV} {x : NodeV} {l : BT NodeV} {i : Int} (h : ShowSaid W b off cap ns x l i) (least : Int) : KidSaid W b off cap ns i least (wrapT least x (bareT x l)) := fun w hw => h w least hw
theorem ShowSaid.kid0 {W : World} {b off cap : Nat} {ns : List NodeV} {x : NodeV} {l : BT NodeV} {i : Int} (h : ShowSaid W b off cap ns x l i) : KidSaid W b off cap ns i 0 (bareT x l) := fun w hw => by
  have := h w 0 hw
  rwa [wrapT_zero] at this
theorem keepB {W1 w' : World} {nb j : Nat} {v : Value} (hnb : nb < W1.heap.size) (hc : W1.cell? ⟨nb, j, none⟩ = some v) (h : Below W1.heap.size W1 w') : w'.cell? ⟨nb, j, none⟩ = some v ∧ Below W1.heap.size W1 w' := ⟨(h.cell hnb).trans hc, h⟩

set_option maxRecDepth 100000 in
set_option maxHeartbeats 3200000 in
theorem bare_neg
    (w : World) (b off cap : Nat) (ns : List NodeV) (p : Nat) (n : Int) (s : ByteArray) (hp : p < ns.length) (h400 : ns.length ≤ 400) (hb : b < w.heap.size)
    (c0 : w.cell? ⟨b, off + p * 4, none⟩ = some (.int .i64 3)) (c1 : w.cell? ⟨b, off + p * 4 + 1, none⟩ = some (.int .i64 n)) (c2 : w.cell? ⟨b, off + p * 4 + 2, none⟩ = some (.string s)) (c3 : w.cell? ⟨b, off + p * 4 + 3, none⟩ = some (.int .i64 1))
    (T : ByteArray) (hT : (T.size : Int) ≤ 24002) (hY : ∀ W, Below w.heap.size w W → KidSaid W b off cap ns ((p : Int) + 1) 6 T) :
    Calls Tryz.prog 57 #[.slice (some ⟨b, off, none⟩) ns.length cap, .int .i64 (p : Int)] w fun e w' => e = .returned (.string (⟨#[45]⟩ ++ T)) ∧ Below w.heap.size w w' := by
  go_enter Tryz.func57, Tryz.ntmps57
  go_wp2_with fail
  generalize hW1 : w.alloc (.cells #[.int .i64 3, .int .i64 n, .string s, .int .i64 1] 49) = W1
  obtain ⟨d0, d1, d2, d3, hnb, hbw⟩ := box_cells w _ _ _ _ _ W1 hW1.symm
  have HY := hide (hY W1 hbw)
  have HBW := hide (And.intro hbw (Nat.le_of_lt hnb))
  clear hY hW1 hbw
  generalize w.heap.size = nb at hnb d0 d1 d2 d3 ⊢
  go_wp2_with (first
    | (go_at_call 58; refine (l2Level_any 3 (by omega) (by omega) _).mono ?_; rintro e wl ⟨rfl, rfl⟩)
    | (go_at_call 33; refine (unhide HY _ (Below.refl _ _)).mono ?_; rintro e w2 ⟨rfl, hb2⟩))
  go_ret
  exact ⟨rfl, (unhide HBW).1.trans (hb2.mono (unhide HBW).2)⟩

set_option maxRecDepth 100000 in
set_option maxHeartbeats 3200000 in
theorem bare_not
    (w : World) (b off cap : Nat) (ns : List NodeV) (p : Nat) (n : Int) (s : ByteArray) (hp : p < ns.length) (h400 : ns.length ≤ 400) (hb : b < w.heap.size)
    (c0 : w.cell? ⟨b, off + p * 4, none⟩ = some (.int .i64 4)) (c1 : w.cell? ⟨b, off + p * 4 + 1, none⟩ = some (.int .i64 n)) (c2 : w.cell? ⟨b, off + p * 4 + 2, none⟩ = some (.string s)) (c3 : w.cell? ⟨b, off + p * 4 + 3, none⟩ = some (.int .i64 1))
    (T : ByteArray) (hT : (T.size : Int) ≤ 24002) (hY : ∀ W, Below w.heap.size w W → KidSaid W b off cap ns ((p : Int) + 1) 6 T) :
    Calls Tryz.prog 57 #[.slice (some ⟨b, off, none⟩) ns.length cap, .int .i64 (p : Int)] w fun e w' => e = .returned (.string (⟨#[110, 111, 116, 32]⟩ ++ T)) ∧ Below w.heap.size w w' := by
  go_enter Tryz.func57, Tryz.ntmps57
  go_wp2_with fail
  generalize hW1 : w.alloc (.cells #[.int .i64 4, .int .i64 n, .string s, .int .i64 1] 49) = W1
  obtain ⟨d0, d1, d2, d3, hnb, hbw⟩ := box_cells w _ _ _ _ _ W1 hW1.symm
  have HY := hide (hY W1 hbw)
  have HBW := hide (And.intro hbw (Nat.le_of_lt hnb))
  clear hY hW1 hbw
  generalize w.heap.size = nb at hnb d0 d1 d2 d3 ⊢
  go_wp2_with (first
    | (go_at_call 58; refine (l2Level_any 4 (by omega) (by omega) _).mono ?_; rintro e wl ⟨rfl, rfl⟩)
    | (go_at_call 33; refine (unhide HY _ (Below.refl _ _)).mono ?_; rintro e w2 ⟨rfl, hb2⟩))
  go_ret
  exact ⟨rfl, (unhide HBW).1.trans (hb2.mono (unhide HBW).2)⟩

set_option maxRecDepth 100000 in
set_option maxHeartbeats 3200000 in
theorem bare_abs
    (w : World) (b off cap : Nat) (ns : List NodeV) (p : Nat) (n : Int) (s : ByteArray) (hp : p < ns.length) (h400 : ns.length ≤ 400) (hb : b < w.heap.size)
    (c0 : w.cell? ⟨b, off + p * 4, none⟩ = some (.int .i64 20)) (c1 : w.cell? ⟨b, off + p * 4 + 1, none⟩ = some (.int .i64 n)) (c2 : w.cell? ⟨b, off + p * 4 + 2, none⟩ = some (.string s)) (c3 : w.cell? ⟨b, off + p * 4 + 3, none⟩ = some (.int .i64 1))
    (T : ByteArray) (hT : (T.size : Int) ≤ 24002) (hY : ∀ W, Below w.heap.size w W → KidSaid W b off cap ns ((p : Int) + 1) 0 T) :
    Calls Tryz.prog 57 #[.slice (some ⟨b, off, none⟩) ns.length cap, .int .i64 (p : Int)] w fun e w' => e = .returned (.string (⟨#[97, 98, 115, 40]⟩ ++ T ++ ⟨#[41]⟩)) ∧ Below w.heap.size w w' := by
  go_enter Tryz.func57, Tryz.ntmps57
  go_wp2_with fail
  generalize hW1 : w.alloc (.cells #[.int .i64 20, .int .i64 n, .string s, .int .i64 1] 49) = W1
  obtain ⟨d0, d1, d2, d3, hnb, hbw⟩ := box_cells w _ _ _ _ _ W1 hW1.symm
  have HY := hide (hY W1 hbw)
  have HBW := hide (And.intro hbw (Nat.le_of_lt hnb))
  clear hY hW1 hbw
  generalize w.heap.size = nb at hnb d0 d1 d2 d3 ⊢
  go_wp2_with (first
    | (go_at_call 58; refine (l2Level_any 20 (by omega) (by omega) _).mono ?_; rintro e wl ⟨rfl, rfl⟩)
    | (go_at_call 33; refine (unhide HY _ (Below.refl _ _)).mono ?_; rintro e w2 ⟨rfl, hb2⟩))
  go_ret
  exact ⟨rfl, (unhide HBW).1.trans (hb2.mono (unhide HBW).2)⟩

set_option maxRecDepth 100000 in
set_option maxHeartbeats 3200000 in
theorem bare_min
    (w : World) (b off cap : Nat) (ns : List NodeV) (p : Nat) (n : Int) (s : ByteArray) (hp : p < ns.length) (h400 : ns.length ≤ 400) (hb : b < w.heap.size)
    (c0 : w.cell? ⟨b, off + p * 4, none⟩ = some (.int .i64 18)) (c1 : w.cell? ⟨b, off + p * 4 + 1, none⟩ = some (.int .i64 n)) (c2 : w.cell? ⟨b, off + p * 4 + 2, none⟩ = some (.string s)) (c3 : w.cell? ⟨b, off + p * 4 + 3, none⟩ = some (.int .i64 2))
    (q : Int) (T U : ByteArray) (hT : (T.size : Int) ≤ 24002) (hU : (U.size : Int) ≤ 24002) (hE : ∀ W, Below w.heap.size w W → EndSaid W b off cap ns ((p : Int) + 1) q) (hY : ∀ W, Below w.heap.size w W → KidSaid W b off cap ns ((p : Int) + 1) 0 T) (hZ : ∀ W, Below w.heap.size w W → KidSaid W b off cap ns q 0 U) :
    Calls Tryz.prog 57 #[.slice (some ⟨b, off, none⟩) ns.length cap, .int .i64 (p : Int)] w fun e w' => e = .returned (.string (⟨#[109, 105, 110, 40]⟩ ++ T ++ ⟨#[44, 32]⟩ ++ U ++ ⟨#[41]⟩)) ∧ Below w.heap.size w w' := by
  go_enter Tryz.func57, Tryz.ntmps57
  go_wp2_with fail
  generalize hW1 : w.alloc (.cells #[.int .i64 18, .int .i64 n, .string s, .int .i64 2] 49) = W1
  obtain ⟨d0, d1, d2, d3, hnb, hbw⟩ := box_cells w _ _ _ _ _ W1 hW1.symm
  have HE := hide (hE W1 hbw)
  have HY := hide (hY W1 hbw)
  have HZ := hide (hZ W1 hbw)
  have HBW := hide (And.intro hbw (Nat.le_of_lt hnb))
  clear hE hY hZ hW1 hbw
  generalize w.heap.size = nb at hnb d0 d1 d2 d3 ⊢
  generalize (p : Int) + 1 = ia at *
  go_wp2_with (first
    | (go_at_call 55; refine (unhide HE _ (Below.refl _ _)).mono ?_; rintro e we ⟨rfl, rfl⟩)
    | (go_at_call 58; refine (l2Level_any 18 (by omega) (by omega) _).mono ?_; rintro e wl ⟨rfl, rfl⟩)
    | (go_at_call 33; refine (unhide HZ _ hb2).mono ?_; rintro e w3 ⟨rfl, hb3⟩)
    | (go_at_call 33; refine (unhide HY _ (Below.refl _ _)).mono ?_; rintro e w2 ⟨rfl, hb2⟩))
  go_ret
  exact ⟨rfl, (unhide HBW).1.trans (hb3.mono (unhide HBW).2)⟩

set_option maxRecDepth 100000 in
set_option maxHeartbeats 3200000 in
theorem bare_max
    (w : World) (b off cap : Nat) (ns : List NodeV) (p : Nat) (n : Int) (s : ByteArray) (hp : p < ns.length) (h400 : ns.length ≤ 400) (hb : b < w.heap.size)
    (c0 : w.cell? ⟨b, off + p * 4, none⟩ = some (.int .i64 19)) (c1 : w.cell? ⟨b, off + p * 4 + 1, none⟩ = some (.int .i64 n)) (c2 : w.cell? ⟨b, off + p * 4 + 2, none⟩ = some (.string s)) (c3 : w.cell? ⟨b, off + p * 4 + 3, none⟩ = some (.int .i64 2))
    (q : Int) (T U : ByteArray) (hT : (T.size : Int) ≤ 24002) (hU : (U.size : Int) ≤ 24002) (hE : ∀ W, Below w.heap.size w W → EndSaid W b off cap ns ((p : Int) + 1) q) (hY : ∀ W, Below w.heap.size w W → KidSaid W b off cap ns ((p : Int) + 1) 0 T) (hZ : ∀ W, Below w.heap.size w W → KidSaid W b off cap ns q 0 U) :
    Calls Tryz.prog 57 #[.slice (some ⟨b, off, none⟩) ns.length cap, .int .i64 (p : Int)] w fun e w' => e = .returned (.string (⟨#[109, 97, 120, 40]⟩ ++ T ++ ⟨#[44, 32]⟩ ++ U ++ ⟨#[41]⟩)) ∧ Below w.heap.size w w' := by
  go_enter Tryz.func57, Tryz.ntmps57
  go_wp2_with fail
  generalize hW1 : w.alloc (.cells #[.int .i64 19, .int .i64 n, .string s, .int .i64 2] 49) = W1
  obtain ⟨d0, d1, d2, d3, hnb, hbw⟩ := box_cells w _ _ _ _ _ W1 hW1.symm
  have HE := hide (hE W1 hbw)
  have HY := hide (hY W1 hbw)
  have HZ := hide (hZ W1 hbw)
  have HBW := hide (And.intro hbw (Nat.le_of_lt hnb))
  clear hE hY hZ hW1 hbw
  generalize w.heap.size = nb at hnb d0 d1 d2 d3 ⊢
  generalize (p : Int) + 1 = ia at *
  go_wp2_with (first
    | (go_at_call 55; refine (unhide HE _ (Below.refl _ _)).mono ?_; rintro e we ⟨rfl, rfl⟩)
    | (go_at_call 58; refine (l2Level_any 19 (by omega) (by omega) _).mono ?_; rintro e wl ⟨rfl, rfl⟩)
    | (go_at_call 33; refine (unhide HZ _ hb2).mono ?_; rintro e w3 ⟨rfl, hb3⟩)
    | (go_at_call 33; refine (unhide HY _ (Below.refl _ _)).mono ?_; rintro e w2 ⟨rfl, hb2⟩))
  go_ret
  exact ⟨rfl, (unhide HBW).1.trans (hb3.mono (unhide HBW).2)⟩

set_option maxRecDepth 100000 in
set_option maxHeartbeats 3200000 in
theorem bare_if
    (w : World) (b off cap : Nat) (ns : List NodeV) (p : Nat) (n : Int) (s : ByteArray) (hp : p < ns.length) (h400 : ns.length ≤ 400) (hb : b < w.heap.size)
    (c0 : w.cell? ⟨b, off + p * 4, none⟩ = some (.int .i64 21)) (c1 : w.cell? ⟨b, off + p * 4 + 1, none⟩ = some (.int .i64 n)) (c2 : w.cell? ⟨b, off + p * 4 + 2, none⟩ = some (.string s)) (c3 : w.cell? ⟨b, off + p * 4 + 3, none⟩ = some (.int .i64 3))
    (q r : Int) (T U V : ByteArray) (hT : (T.size : Int) ≤ 24002) (hU : (U.size : Int) ≤ 24002) (hV : (V.size : Int) ≤ 24002) (hE : ∀ W, Below w.heap.size w W → EndSaid W b off cap ns ((p : Int) + 1) q) (hF : ∀ W, Below w.heap.size w W → EndSaid W b off cap ns q r) (hY : ∀ W, Below w.heap.size w W → KidSaid W b off cap ns ((p : Int) + 1) 0 T) (hZ : ∀ W, Below w.heap.size w W → KidSaid W b off cap ns q 0 U) (hX : ∀ W, Below w.heap.size w W → KidSaid W b off cap ns r 0 V) :
    Calls Tryz.prog 57 #[.slice (some ⟨b, off, none⟩) ns.length cap, .int .i64 (p : Int)] w fun e w' => e = .returned (.string (⟨#[105, 102, 32]⟩ ++ T ++ ⟨#[32, 116, 104, 101, 110, 32]⟩ ++ U ++ ⟨#[32, 101, 108, 115, 101, 32]⟩ ++ V)) ∧ Below w.heap.size w w' := by
  go_enter Tryz.func57, Tryz.ntmps57
  go_wp2_with fail
  generalize hW1 : w.alloc (.cells #[.int .i64 21, .int .i64 n, .string s, .int .i64 3] 49) = W1
  obtain ⟨d0, d1, d2, d3, hnb, hbw⟩ := box_cells w _ _ _ _ _ W1 hW1.symm
  have HE := hide (hE W1 hbw)
  have HF := hide (hF W1 hbw)
  have HY := hide (hY W1 hbw)
  have HZ := hide (hZ W1 hbw)
  have HX := hide (hX W1 hbw)
  have HBW := hide (And.intro hbw (Nat.le_of_lt hnb))
  clear hE hF hY hZ hX hW1 hbw
  generalize w.heap.size = nb at hnb d0 d1 d2 d3 ⊢
  generalize (p : Int) + 1 = ia at *
  go_wp2_with (first
    | (go_at_call 55; have := hE1; refine (unhide HF _ (Below.refl _ _)).mono ?_; rintro e we ⟨rfl, rfl⟩)
    | (go_at_call 55; refine (unhide HE _ (Below.refl _ _)).mono ?_; rintro e we ⟨rfl, rfl⟩; have hE1 := True.intro)
    | (go_at_call 58; refine (l2Level_any 21 (by omega) (by omega) _).mono ?_; rintro e wl ⟨rfl, rfl⟩)
    | (go_at_call 33; refine (unhide HX _ hb3).mono ?_; rintro e w4 ⟨rfl, hb4⟩)
    | (go_at_call 33; refine (unhide HZ _ hb2).mono ?_; rintro e w3 ⟨rfl, hb3⟩)
    | (go_at_call 33; refine (unhide HY _ (Below.refl _ _)).mono ?_; rintro e w2 ⟨rfl, hb2⟩))
  go_ret
  exact ⟨rfl, (unhide HBW).1.trans (hb4.mono (unhide HBW).2)⟩

end Go.Proofs.YtjfebnplffpmoaaGreatDoor
