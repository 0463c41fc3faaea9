/-
  The specification's text of a tree, the rest: let, rep, the signs between two; and all kinds together.
-/
import Derived.Test.YtjfebnplffpmoaaGreatDoorSpecShow
import Derived.Deep.RegionHeld3
namespace Go.Proofs.YtjfebnplffpmoaaGreatDoor
open Go.RowKit Go.Maps Go.Deep
set_option linter.unusedVariables false

set_option maxRecDepth 100000 in
set_option maxHeartbeats 3200000 in
theorem bare_let
    (w : World) (b off cap : Nat) (ns : List NodeV) (p : Nat) (n : Int) (s : ByteArray) (hp : p < ns.length) (h400 : ns.length ≤ 400) (hb : b < w.heap.size)
    (c0 : w.cell? ⟨b, off + p * 4, none⟩ = some (.int .i64 22)) (c1 : w.cell? ⟨b, off + p * 4 + 1, none⟩ = some (.int .i64 n)) (c2 : w.cell? ⟨b, off + p * 4 + 2, none⟩ = some (.string s)) (c3 : w.cell? ⟨b, off + p * 4 + 3, none⟩ = some (.int .i64 2))
    (q : Int) (T U : ByteArray) (hs : (s.size : Int) ≤ 16) (hT : (T.size : Int) ≤ 24002) (hU : (U.size : Int) ≤ 24002) (hE : ∀ W, Below w.heap.size w W → EndSaid W b off cap ns ((p : Int) + 1) q) (hY : ∀ W, Below w.heap.size w W → KidSaid W b off cap ns ((p : Int) + 1) 0 T) (hZ : ∀ W, Below w.heap.size w W → KidSaid W b off cap ns q 0 U) :
    Calls Tryz.prog 57 #[.slice (some ⟨b, off, none⟩) ns.length cap, .int .i64 (p : Int)] w fun e w' => e = .returned (.string (⟨#[108, 101, 116, 32]⟩ ++ s ++ ⟨#[32, 61, 32]⟩ ++ T ++ ⟨#[32, 105, 110, 32]⟩ ++ U)) ∧ Below w.heap.size w w' := by
  have ha0 : ¬ 9223372036854775807 < 4 + s.size := by omega
  have ha1 : ¬ 9223372036854775807 < 4 + s.size + 3 := by omega
  have ha2 : ¬ 9223372036854775807 < 4 + s.size + 3 + T.size := by omega
  have ha3 : ¬ 9223372036854775807 < 4 + s.size + 3 + T.size + 4 := by omega
  have ha4 : ¬ 9223372036854775807 < 4 + s.size + 3 + T.size + 4 + U.size := by omega
  go_enter Tryz.func57, Tryz.ntmps57
  go_wp2_with fail
  generalize hW1 : w.alloc (.cells #[.int .i64 22, .int .i64 n, .string s, .int .i64 2] 49) = W1
  obtain ⟨d0, d1, d2, d3, hnb, hbw⟩ := box_cells w _ _ _ _ _ W1 hW1.symm
  have HE := hide (hE W1 hbw)
  have HY := hide (hY W1 hbw)
  have HZ := hide (hZ W1 hbw)
  have HBW := hide (And.intro hbw (Nat.le_of_lt hnb))
  clear hE hY hZ hW1 hbw
  generalize w.heap.size = nb at hnb d0 d1 d2 d3 ⊢
  generalize (p : Int) + 1 = ia at *
  go_wp2_with (first
    | (go_at_call 55; refine (unhide HE _ (Below.refl _ _)).mono ?_; rintro e we ⟨rfl, rfl⟩)
    | (go_at_call 58; refine (l2Level_any 22 (by omega) (by omega) _).mono ?_; rintro e wl ⟨rfl, rfl⟩))
  go_region_held3 (fun w' => w'.cell? ⟨nb, 2, none⟩ = some (.string s) ∧ Below wl.heap.size wl w') ((refine keepB hnb d2 ?_; first | assumption | exact below_dn (Below.refl _ _) 1))
    (first
      | (go_at_call 33; have := hY1; refine (unhide HZ _ (And.right (by assumption))).mono ?_; rintro e w3 ⟨rfl, hb3⟩; have hZ1 := True.intro)
      | (go_at_call 33; refine (unhide HY _ (And.right (by assumption))).mono ?_; rintro e w2 ⟨rfl, hb2⟩; have hY1 := True.intro))
  go_wp2_with fail
  go_ret
  exact ⟨rfl, (unhide HBW).1.trans (hb3.mono (unhide HBW).2)⟩

set_option maxRecDepth 100000 in
set_option maxHeartbeats 3200000 in
theorem bare_rep
    (w : World) (b off cap : Nat) (ns : List NodeV) (p : Nat) (n : Int) (s : ByteArray) (hp : p < ns.length) (h400 : ns.length ≤ 400) (hb : b < w.heap.size)
    (c0 : w.cell? ⟨b, off + p * 4, none⟩ = some (.int .i64 23)) (c1 : w.cell? ⟨b, off + p * 4 + 1, none⟩ = some (.int .i64 n)) (c2 : w.cell? ⟨b, off + p * 4 + 2, none⟩ = some (.string s)) (c3 : w.cell? ⟨b, off + p * 4 + 3, none⟩ = some (.int .i64 3))
    (q r : Int) (T U V : ByteArray) (hs : (s.size : Int) ≤ 16) (hT : (T.size : Int) ≤ 24002) (hU : (U.size : Int) ≤ 24002) (hV : (V.size : Int) ≤ 24002) (hE : ∀ W, Below w.heap.size w W → EndSaid W b off cap ns ((p : Int) + 1) q) (hF : ∀ W, Below w.heap.size w W → EndSaid W b off cap ns q r) (hY : ∀ W, Below w.heap.size w W → KidSaid W b off cap ns ((p : Int) + 1) 0 T) (hZ : ∀ W, Below w.heap.size w W → KidSaid W b off cap ns q 0 U) (hX : ∀ W, Below w.heap.size w W → KidSaid W b off cap ns r 0 V) :
    Calls Tryz.prog 57 #[.slice (some ⟨b, off, none⟩) ns.length cap, .int .i64 (p : Int)] w fun e w' => e = .returned (.string (⟨#[114, 101, 112, 32]⟩ ++ T ++ ⟨#[32, 97, 115, 32]⟩ ++ s ++ ⟨#[32, 102, 114, 111, 109, 32]⟩ ++ U ++ ⟨#[32, 98, 121, 32]⟩ ++ V)) ∧ Below w.heap.size w w' := by
  have ha0 : ¬ 9223372036854775807 < 4 + T.size := by omega
  have ha1 : ¬ 9223372036854775807 < 4 + T.size + 4 := by omega
  have ha2 : ¬ 9223372036854775807 < 4 + T.size + 4 + s.size := by omega
  have ha3 : ¬ 9223372036854775807 < 4 + T.size + 4 + s.size + 6 := by omega
  have ha4 : ¬ 9223372036854775807 < 4 + T.size + 4 + s.size + 6 + U.size := by omega
  have ha5 : ¬ 9223372036854775807 < 4 + T.size + 4 + s.size + 6 + U.size + 4 := by omega
  have ha6 : ¬ 9223372036854775807 < 4 + T.size + 4 + s.size + 6 + U.size + 4 + V.size := by omega
  go_enter Tryz.func57, Tryz.ntmps57
  go_wp2_with fail
  generalize hW1 : w.alloc (.cells #[.int .i64 23, .int .i64 n, .string s, .int .i64 3] 49) = W1
  obtain ⟨d0, d1, d2, d3, hnb, hbw⟩ := box_cells w _ _ _ _ _ W1 hW1.symm
  have HE := hide (hE W1 hbw)
  have HF := hide (hF W1 hbw)
  have HY := hide (hY W1 hbw)
  have HZ := hide (hZ W1 hbw)
  have HX := hide (hX W1 hbw)
  have HBW := hide (And.intro hbw (Nat.le_of_lt hnb))
  clear hE hF hY hZ hX hW1 hbw
  generalize w.heap.size = nb at hnb d0 d1 d2 d3 ⊢
  generalize (p : Int) + 1 = ia at *
  go_wp2_with (first
    | (go_at_call 55; have := hE1; refine (unhide HF _ (Below.refl _ _)).mono ?_; rintro e we ⟨rfl, rfl⟩)
    | (go_at_call 55; refine (unhide HE _ (Below.refl _ _)).mono ?_; rintro e we ⟨rfl, rfl⟩; have hE1 := True.intro)
    | (go_at_call 58; refine (l2Level_any 23 (by omega) (by omega) _).mono ?_; rintro e wl ⟨rfl, rfl⟩))
  go_region_held3 (fun w' => w'.cell? ⟨nb, 2, none⟩ = some (.string s) ∧ Below wl.heap.size wl w') ((refine keepB hnb d2 ?_; first | assumption | exact below_dn (Below.refl _ _) 1))
    (first
      | (go_at_call 33; have := hZ1; refine (unhide HX _ (And.right (by assumption))).mono ?_; rintro e w4 ⟨rfl, hb4⟩)
      | (go_at_call 33; have := hY1; refine (unhide HZ _ (And.right (by assumption))).mono ?_; rintro e w3 ⟨rfl, hb3⟩; have hZ1 := True.intro)
      | (go_at_call 33; refine (unhide HY _ (And.right (by assumption))).mono ?_; rintro e w2 ⟨rfl, hb2⟩; have hY1 := True.intro))
  go_wp2_with fail
  go_ret
  exact ⟨rfl, (unhide HBW).1.trans (hb4.mono (unhide HBW).2)⟩

def SignSaid (W : World) (k : Int) (G : ByteArray) : Prop := ∀ w, Below W.heap.size W w → Calls Tryz.prog 73 #[.int .i64 k] w fun e w' => e = .returned (.string G) ∧ Below W.heap.size W w'
theorem sign_said (k : Int) (h5 : 5 ≤ k) (h17 : k ≤ 17) (W : World) : SignSaid W k (signN k) := fun w hw => by
  refine (l2Sign_any k h5 h17 w).mono ?_
  rintro e w' ⟨rfl, hb⟩
  exact ⟨rfl, hw.trans (hb.mono hw.size)⟩
def LevSaid (k lv : Int) : Prop := ∀ w, Calls Tryz.prog 58 #[.int .i64 k] w fun e w' => e = .returned (.int .i64 lv) ∧ w' = w
set_option maxRecDepth 100000 in
set_option maxHeartbeats 3200000 in
theorem bare_cmp
    (k : Int) (hk5 : 5 ≤ k) (hk17 : k ≤ 17)
    (w : World) (b off cap : Nat) (ns : List NodeV) (p : Nat) (n : Int) (s : ByteArray) (hp : p < ns.length) (h400 : ns.length ≤ 400) (hb : b < w.heap.size)
    (c0 : w.cell? ⟨b, off + p * 4, none⟩ = some (.int .i64 k)) (c1 : w.cell? ⟨b, off + p * 4 + 1, none⟩ = some (.int .i64 n)) (c2 : w.cell? ⟨b, off + p * 4 + 2, none⟩ = some (.string s)) (c3 : w.cell? ⟨b, off + p * 4 + 3, none⟩ = some (.int .i64 2))
    (q : Int) (T U G : ByteArray) (hL : LevSaid k 3) (hT : (T.size : Int) ≤ 24002) (hU : (U.size : Int) ≤ 24002) (hG : (G.size : Int) ≤ 3) (hS : ∀ W, SignSaid W k G) (hE : ∀ W, Below w.heap.size w W → EndSaid W b off cap ns ((p : Int) + 1) q) (hY : ∀ W, Below w.heap.size w W → KidSaid W b off cap ns ((p : Int) + 1) 4 T) (hZ : ∀ W, Below w.heap.size w W → KidSaid W b off cap ns q 4 U) :
    Calls Tryz.prog 57 #[.slice (some ⟨b, off, none⟩) ns.length cap, .int .i64 (p : Int)] w fun e w' => e = .returned (.string (T ++ ⟨#[32]⟩ ++ G ++ ⟨#[32]⟩ ++ U)) ∧ Below w.heap.size w w' := by
  have e1 : (k == 1) = false := by simp; omega
  have e2 : (k == 2) = false := by simp; omega
  have e3 : (k == 3) = false := by simp; omega
  have e4 : (k == 4) = false := by simp; omega
  have e18 : (k == 18) = false := by simp; omega
  have e19 : (k == 19) = false := by simp; omega
  have e20 : (k == 20) = false := by simp; omega
  have e21 : (k == 21) = false := by simp; omega
  have e22 : (k == 22) = false := by simp; omega
  have e23 : (k == 23) = false := by simp; omega
  have ha0 : ¬ 9223372036854775807 < T.size + 1 := by omega
  have ha1 : ¬ 9223372036854775807 < T.size + 1 + G.size := by omega
  have ha2 : ¬ 9223372036854775807 < T.size + 1 + G.size + 1 := by omega
  have ha3 : ¬ 9223372036854775807 < T.size + 1 + G.size + 1 + U.size := by omega
  have HL := hide hL
  go_enter Tryz.func57, Tryz.ntmps57
  go_wp2_with fail
  generalize hW1 : w.alloc (.cells #[.int .i64 k, .int .i64 n, .string s, .int .i64 2] 49) = W1
  obtain ⟨d0, d1, d2, d3, hnb, hbw⟩ := box_cells w _ _ _ _ _ W1 hW1.symm
  have HE := hide (hE W1 hbw)
  have HY := hide (hY W1 hbw)
  have HZ := hide (hZ W1 hbw)
  have HG := hide (hS W1)
  have HBW := hide (And.intro hbw (Nat.le_of_lt hnb))
  clear hE hY hZ hS hL hW1 hbw
  generalize w.heap.size = nb at hnb d0 d1 d2 d3 ⊢
  generalize (p : Int) + 1 = ia at *
  go_wp2_with (first
    | (go_at_call 55; refine (unhide HE _ (Below.refl _ _)).mono ?_; rintro e we ⟨rfl, rfl⟩)
    | (go_at_call 58; refine (unhide HL _).mono ?_; rintro e wl ⟨rfl, rfl⟩))
  go_region_held3 (fun w' => w'.cell? ⟨nb, 0, none⟩ = some (.int .i64 k) ∧ Below wl.heap.size wl w') ((refine keepB hnb d0 ?_; first | assumption | exact below_dn (Below.refl _ _) 1))
    (first
      | (go_at_call 33; have := hY1; refine (unhide HZ _ (And.right (by assumption))).mono ?_; rintro e w3 ⟨rfl, hb3⟩; have hZ1 := True.intro)
      | (go_at_call 33; refine (unhide HY _ (And.right (by assumption))).mono ?_; rintro e w2 ⟨rfl, hb2⟩; have hY1 := True.intro)
      | (go_at_call 73; refine (unhide HG _ (And.right (by assumption))).mono ?_; rintro e w5 ⟨rfl, hb5⟩))
  go_wp2_with fail
  go_ret
  exact ⟨rfl, (unhide HBW).1.trans (hb3.mono (unhide HBW).2)⟩

set_option maxRecDepth 100000 in
set_option maxHeartbeats 3200000 in
theorem bare_bin
    (k : Int) (hk5 : 5 ≤ k) (hk17 : k ≤ 17)
    (w : World) (b off cap : Nat) (ns : List NodeV) (p : Nat) (n : Int) (s : ByteArray) (hp : p < ns.length) (h400 : ns.length ≤ 400) (hb : b < w.heap.size)
    (c0 : w.cell? ⟨b, off + p * 4, none⟩ = some (.int .i64 k)) (c1 : w.cell? ⟨b, off + p * 4 + 1, none⟩ = some (.int .i64 n)) (c2 : w.cell? ⟨b, off + p * 4 + 2, none⟩ = some (.string s)) (c3 : w.cell? ⟨b, off + p * 4 + 3, none⟩ = some (.int .i64 2))
    (q : Int) (T U G : ByteArray) (lv : Int) (hl0 : 0 ≤ lv) (hl7 : lv ≤ 7) (hl3 : lv ≠ 3) (hL : LevSaid k lv) (hT : (T.size : Int) ≤ 24002) (hU : (U.size : Int) ≤ 24002) (hG : (G.size : Int) ≤ 3) (hS : ∀ W, SignSaid W k G) (hE : ∀ W, Below w.heap.size w W → EndSaid W b off cap ns ((p : Int) + 1) q) (hY : ∀ W, Below w.heap.size w W → KidSaid W b off cap ns ((p : Int) + 1) lv T) (hZ : ∀ W, Below w.heap.size w W → KidSaid W b off cap ns q (lv + 1) U) :
    Calls Tryz.prog 57 #[.slice (some ⟨b, off, none⟩) ns.length cap, .int .i64 (p : Int)] w fun e w' => e = .returned (.string (T ++ ⟨#[32]⟩ ++ G ++ ⟨#[32]⟩ ++ U)) ∧ Below w.heap.size w w' := by
  have e1 : (k == 1) = false := by simp; omega
  have e2 : (k == 2) = false := by simp; omega
  have e3 : (k == 3) = false := by simp; omega
  have e4 : (k == 4) = false := by simp; omega
  have e18 : (k == 18) = false := by simp; omega
  have e19 : (k == 19) = false := by simp; omega
  have e20 : (k == 20) = false := by simp; omega
  have e21 : (k == 21) = false := by simp; omega
  have e22 : (k == 22) = false := by simp; omega
  have e23 : (k == 23) = false := by simp; omega
  have el : (lv == 3) = false := by simp [hl3]
  have hw : IntKind.i64.wrap (lv + 1) = lv + 1 := by rw [IntKind.wrap_i64]; omega
  clear hl3
  have ha0 : ¬ 9223372036854775807 < T.size + 1 := by omega
  have ha1 : ¬ 9223372036854775807 < T.size + 1 + G.size := by omega
  have ha2 : ¬ 9223372036854775807 < T.size + 1 + G.size + 1 := by omega
  have ha3 : ¬ 9223372036854775807 < T.size + 1 + G.size + 1 + U.size := by omega
  have HL := hide hL
  go_enter Tryz.func57, Tryz.ntmps57
  go_wp2_with fail
  generalize hW1 : w.alloc (.cells #[.int .i64 k, .int .i64 n, .string s, .int .i64 2] 49) = W1
  obtain ⟨d0, d1, d2, d3, hnb, hbw⟩ := box_cells w _ _ _ _ _ W1 hW1.symm
  have HE := hide (hE W1 hbw)
  have HY := hide (hY W1 hbw)
  have HZ := hide (hZ W1 hbw)
  have HG := hide (hS W1)
  have HBW := hide (And.intro hbw (Nat.le_of_lt hnb))
  clear hE hY hZ hS hL hW1 hbw
  generalize w.heap.size = nb at hnb d0 d1 d2 d3 ⊢
  generalize (p : Int) + 1 = ia at *
  go_wp2_with (first
    | (go_at_call 55; refine (unhide HE _ (Below.refl _ _)).mono ?_; rintro e we ⟨rfl, rfl⟩)
    | (go_at_call 58; refine (unhide HL _).mono ?_; rintro e wl ⟨rfl, rfl⟩))
  go_region_held3 (fun w' => w'.cell? ⟨nb, 0, none⟩ = some (.int .i64 k) ∧ Below wl.heap.size wl w') ((refine keepB hnb d0 ?_; first | assumption | exact below_dn (Below.refl _ _) 1))
    (first
      | (go_at_call 33; have := hY1; refine (unhide HZ _ (And.right (by assumption))).mono ?_; rintro e w3 ⟨rfl, hb3⟩; have hZ1 := True.intro)
      | (go_at_call 33; refine (unhide HY _ (And.right (by assumption))).mono ?_; rintro e w2 ⟨rfl, hb2⟩; have hY1 := True.intro)
      | (go_at_call 73; refine (unhide HG _ (And.right (by assumption))).mono ?_; rintro e w5 ⟨rfl, hb5⟩))
  go_wp2_with fail
  go_ret
  exact ⟨rfl, (unhide HBW).1.trans (hb3.mono (unhide HBW).2)⟩


theorem kid_one {ns : List NodeV} {p : Nat} {x : NodeV} {b o : Nat} {y : NodeV} {m r : BT NodeV} (h : StandsAt ns p x (.node b o y m r)) : StandsAt ns (p + 1) y m := by
  have := StandsAt.kid (d := .nil) h
  simpa [fl] using this
theorem kid_two {ns : List NodeV} {p : Nat} {x : NodeV} {b o : Nat} {y : NodeV} {m : BT NodeV} {b' o' : Nat} {z : NodeV} {n r : BT NodeV} (h : StandsAt ns p x (.node b o y m (.node b' o' z n r))) : StandsAt ns (p + 1 + 1 + (fl m).length) z n := by
  have := StandsAt.kid (d := .node b o y m .nil) h
  have e : p + 1 + (fl (.node b o y m .nil)).length = p + 1 + 1 + (fl m).length := by simp [fl]; omega
  rwa [e] at this
theorem kid_three {ns : List NodeV} {p : Nat} {x : NodeV} {b o : Nat} {y : NodeV} {m : BT NodeV} {b' o' : Nat} {z : NodeV} {n : BT NodeV} {b'' o'' : Nat} {u : NodeV} {k r : BT NodeV} (h : StandsAt ns p x (.node b o y m (.node b' o' z n (.node b'' o'' u k r)))) : StandsAt ns (p + 1 + 1 + (fl m).length + 1 + (fl n).length) u k := by
  have := StandsAt.kid (d := .node b o y m (.node b' o' z n .nil)) h
  have e : p + 1 + (fl (.node b o y m (.node b' o' z n .nil))).length = p + 1 + 1 + (fl m).length + 1 + (fl n).length := by simp [fl]; omega
  rwa [e] at this
theorem wrap_small' {ns : List NodeV} (ho : OwnAll ns) {p : Nat} {y : NodeV} {m : BT NodeV} (h : StandsAt ns p y m) (least : Int) : ((wrapT least y (bareT y m)).size : Int) ≤ 24002 := by
  have h1 := bare_small ho h
  have h2 := wrap_size least y (bareT y m)
  omega
theorem bare_small' {ns : List NodeV} (ho : OwnAll ns) {p : Nat} {y : NodeV} {m : BT NodeV} (h : StandsAt ns p y m) : ((bareT y m).size : Int) ≤ 24002 := by
  have h1 := bare_small ho h
  omega
theorem level_cmp {k : Int} (h : 10 ≤ k ∧ k ≤ 15) : levelN k = 3 := by
  unfold levelN
  rw [if_neg (by omega), if_neg (by omega), if_neg (by omega), if_pos h]
theorem level_not_cmp {k : Int} (h5 : 5 ≤ k) (h17 : k ≤ 17) (h : ¬ (10 ≤ k ∧ k ≤ 15)) : levelN k ≠ 3 := by
  unfold levelN
  repeat' split
  all_goals omega

theorem l2Bare_one (x : NodeV) (l : BT NodeV) (hx : x.kids = cnt l) (hl : kok l) (ih : ∀ y m, InF y m l → BareSaid y m) : BareSaid x l := by
  intro w b off cap ns p hst hn hb ho
  have h400 := ho.1
  have hlt := hst.lt
  have hp : p < ns.length := by omega
  have h20 : ns.length ≤ 1048576 := by omega
  obtain ⟨c0, c1, c2, c3⟩ := hn p hp
  rw [hst.node hp] at c0 c1 c2 c3
  obtain ⟨hk1, hk23, hka⟩ := own_parts (ho.2 x hst.mem)
  obtain ⟨hs16, hn0, hn1⟩ := own_bounds (ho.2 x hst.mem)
  have hc : (cnt l : Int) = arity x.kind := by rw [← hx]; exact hka
  have hs : (x.name.size : Int) ≤ 16 := by omega
  have show' : ∀ {q : Nat} {y : NodeV} {m : BT NodeV}, StandsAt ns q y m → InF y m l → ∀ W, Below w.heap.size w W → ShowSaid W b off cap ns y m (q : Int) := fun hs hi W hW =>
    l2Show_one _ _ (ih _ _ hi) W b off cap ns _ hs (hn.below hW hb) (Nat.lt_of_lt_of_le hb hW.size) ho
  have end' : ∀ {q : Nat} {y : NodeV} {m : BT NodeV}, StandsAt ns q y m → y.kids = cnt m → kok m → ∀ W, Below w.heap.size w W → EndSaid W b off cap ns (q : Int) ((q + 1 + (fl m).length : Nat) : Int) := fun hs hk hm W hW =>
    end_said (hn.below hW hb) (Nat.lt_of_lt_of_le hb hW.size) h20 hs hk hm
  have ep : ((p + 1 : Nat) : Int) = (p : Int) + 1 := rfl
  obtain ⟨k, n, s, c⟩ := x
  simp only at c0 c1 c2 c3 hk1 hk23 hka hn0 hn1 hc hs
  by_cases k12 : k = 1 ∨ k = 2
  · have hA : arity k = 0 := by simp only [arity, if_pos k12]
    rw [hA] at hka hc
    rw [hka] at c3
    obtain rfl := cnt_zero (l := l) (by omega)
    refine (bare_leaf k n s w b off cap ns p hp h400 hb c0 c1 c2 c3 hn0 hn1 k12).mono ?_
    rintro e w' ⟨rfl, h⟩
    exact ⟨rfl, h⟩
  · by_cases k1 : k = 3 ∨ k = 4 ∨ k = 20
    · have hA : arity k = 1 := by simp only [arity, if_neg k12, if_pos k1]
      rw [hA] at hka hc
      rw [hka] at c3
      obtain ⟨b1, o1, y, m, rfl⟩ := cnt_one (l := l) (by omega)
      have sy := kid_one hst
      have Y := show' sy (.inl ⟨rfl, rfl⟩)
      rw [ep] at Y
      rcases k1 with rfl | rfl | rfl
      · refine (bare_neg w b off cap ns p n s hp h400 hb c0 c1 c2 c3 _ (wrap_small' ho sy 6) (fun W hW => (Y W hW).kid 6)).mono ?_
        rintro e w' ⟨rfl, h⟩
        exact ⟨rfl, h⟩
      · refine (bare_not w b off cap ns p n s hp h400 hb c0 c1 c2 c3 _ (wrap_small' ho sy 6) (fun W hW => (Y W hW).kid 6)).mono ?_
        rintro e w' ⟨rfl, h⟩
        exact ⟨rfl, h⟩
      · refine (bare_abs w b off cap ns p n s hp h400 hb c0 c1 c2 c3 _ (bare_small' ho sy) (fun W hW => (Y W hW).kid0)).mono ?_
        rintro e w' ⟨rfl, h⟩
        exact ⟨rfl, h⟩
    · by_cases k3 : k = 21 ∨ k = 23
      · have hA : arity k = 3 := by simp only [arity, if_neg k12, if_neg k1, if_neg (show ¬ (5 ≤ k ∧ k ≤ 19) by omega), if_neg (show ¬ k = 22 by omega), if_pos k3]
        rw [hA] at hka hc
        rw [hka] at c3
        obtain ⟨b1, o1, y, m, b2, o2, z, m2, b3, o3, u, m3, rfl⟩ := cnt_three (l := l) (by omega)
        obtain ⟨ky, my, kz, mz, ku, mu, -⟩ := hl
        have sy := kid_one hst
        have sz := kid_two hst
        have su := kid_three hst
        have Y := show' sy (.inl ⟨rfl, rfl⟩)
        have Z := show' sz (.inr (.inl ⟨rfl, rfl⟩))
        have U := show' su (.inr (.inr (.inl ⟨rfl, rfl⟩)))
        have E := end' sy ky my
        have F := end' sz kz mz
        rw [ep] at Y E
        rcases k3 with rfl | rfl
        · refine (bare_if w b off cap ns p n s hp h400 hb c0 c1 c2 c3 _ _ _ _ _ (bare_small' ho sy) (bare_small' ho sz) (bare_small' ho su) E F (fun W hW => (Y W hW).kid0) (fun W hW => (Z W hW).kid0) (fun W hW => (U W hW).kid0)).mono ?_
          rintro e w' ⟨rfl, h⟩
          exact ⟨rfl, h⟩
        · refine (bare_rep w b off cap ns p n s hp h400 hb c0 c1 c2 c3 _ _ _ _ _ hs (bare_small' ho sy) (bare_small' ho sz) (bare_small' ho su) E F (fun W hW => (Y W hW).kid0) (fun W hW => (Z W hW).kid0) (fun W hW => (U W hW).kid0)).mono ?_
          rintro e w' ⟨rfl, h⟩
          exact ⟨rfl, h⟩
      · have hA : arity k = 2 := by
          by_cases h22 : k = 22
          · simp only [arity, if_neg k12, if_neg k1, if_neg (show ¬ (5 ≤ k ∧ k ≤ 19) by omega), if_pos h22]
          · simp only [arity, if_neg k12, if_neg k1, if_pos (show 5 ≤ k ∧ k ≤ 19 by omega)]
        rw [hA] at hka hc
        rw [hka] at c3
        obtain ⟨b1, o1, y, m, b2, o2, z, m2, rfl⟩ := cnt_two (l := l) (by omega)
        obtain ⟨ky, my, -⟩ := hl
        have sy := kid_one hst
        have sz := kid_two hst
        have Y := show' sy (.inl ⟨rfl, rfl⟩)
        have Z := show' sz (.inr (.inl ⟨rfl, rfl⟩))
        have E := end' sy ky my
        rw [ep] at Y E
        by_cases k22 : k = 22
        · subst k22
          refine (bare_let w b off cap ns p n s hp h400 hb c0 c1 c2 c3 _ _ _ hs (bare_small' ho sy) (bare_small' ho sz) E (fun W hW => (Y W hW).kid0) (fun W hW => (Z W hW).kid0)).mono ?_
          rintro e w' ⟨rfl, h⟩
          exact ⟨rfl, h⟩
        · by_cases k18 : k = 18
          · subst k18
            refine (bare_min w b off cap ns p n s hp h400 hb c0 c1 c2 c3 _ _ _ (bare_small' ho sy) (bare_small' ho sz) E (fun W hW => (Y W hW).kid0) (fun W hW => (Z W hW).kid0)).mono ?_
            rintro e w' ⟨rfl, h⟩
            exact ⟨rfl, h⟩
          · by_cases k19 : k = 19
            · subst k19
              refine (bare_max w b off cap ns p n s hp h400 hb c0 c1 c2 c3 _ _ _ (bare_small' ho sy) (bare_small' ho sz) E (fun W hW => (Y W hW).kid0) (fun W hW => (Z W hW).kid0)).mono ?_
              rintro e w' ⟨rfl, h⟩
              exact ⟨rfl, h⟩
            · have h5 : 5 ≤ k := by omega
              have h17 : k ≤ 17 := by omega
              have hT : bareT ⟨k, n, s, c⟩ (.node b1 o1 y m (.node b2 o2 z m2 .nil)) = wrapT (firstN k) y (bareT y m) ++ ⟨#[32]⟩ ++ signN k ++ ⟨#[32]⟩ ++ wrapT (levelN k + 1) z (bareT z m2) := by
                show textN ⟨k, n, s, c⟩ [(y, bareT y m), (z, bareT z m2)] = _
                simp only [textN]
                rw [if_neg k18, if_neg k19, if_neg k22]
              have hg : ((signN k).size : Int) ≤ 3 := by have := sign_size k; omega
              have hL : LevSaid k (levelN k) := fun w => l2Level_any k hk1 hk23 w
              by_cases hcmp : 10 ≤ k ∧ k ≤ 15
              · have h3 := level_cmp hcmp
                rw [h3] at hL
                have hf : firstN k = 4 := by unfold firstN; rw [if_pos h3]
                rw [hf, h3] at hT
                refine (bare_cmp k h5 h17 w b off cap ns p n s hp h400 hb c0 c1 c2 c3 _ _ _ _ hL (wrap_small' ho sy 4) (wrap_small' ho sz 4) hg (sign_said k h5 h17) E (fun W hW => (Y W hW).kid 4) (fun W hW => (Z W hW).kid 4)).mono ?_
                rintro e w' ⟨rfl, h⟩
                exact ⟨by rw [hT]; rfl, h⟩
              · have h3 := level_not_cmp h5 h17 hcmp
                have hf : firstN k = levelN k := by unfold firstN; rw [if_neg h3]
                rw [hf] at hT
                refine (bare_bin k h5 h17 w b off cap ns p n s hp h400 hb c0 c1 c2 c3 _ _ _ _ (levelN k) (level_lo k) (level_hi k) h3 hL (wrap_small' ho sy _) (wrap_small' ho sz _) hg (sign_said k h5 h17) E (fun W hW => (Y W hW).kid _) (fun W hW => (Z W hW).kid _)).mono ?_
                rintro e w' ⟨rfl, h⟩
                exact ⟨by rw [hT], h⟩

theorem l2Bare_all (f : BT NodeV) : kok f → ∀ y m, InF y m f → BareSaid y m := by
  induction f with
  | nil => intro _ y m h; exact h.elim
  | node b o x l r ihl ihr =>
    intro hk y m h
    rcases h with ⟨rfl, rfl⟩ | h
    · exact l2Bare_one y m hk.1 hk.2.1 (ihl hk.2.1)
    · exact ihr hk.2.2 y m h
theorem l2Bare_any (x : NodeV) (l : BT NodeV) (hx : x.kids = cnt l) (hl : kok l) : BareSaid x l := l2Bare_one x l hx hl (l2Bare_all l hl)

/-- the text is the tree's, or empty where there is none -/
def RetShow (ns : List NodeV) (e : Ending) : Prop := (∃ x l, OkAt ns x l ∧ e = .returned (.string (bareT x l))) ∨ (¬ OkTree ns ∧ e = .returned (.string ⟨#[]⟩))

set_option maxHeartbeats 800000 in
theorem specShow_any (w : World) (b off cap : Nat) (ns : List NodeV) (hl : ns.length ≤ 1048576) (hc : NodesAt w b off ns) (hb : b < w.heap.size) (hs : NamesOk ns) :
    Calls Tryz.prog 15 #[.slice (some ⟨b, off, none⟩) ns.length cap] w fun e w' => RetShow ns e ∧ Below w.heap.size w w' := by
  have HC := hide hc
  clear hc
  go_enter Tryz.func15, Tryz.ntmps15
  go_wp2_with fail
  refine (specOk_any w b off cap ns hl (unhide HC) hb hs).mono ?_
  rintro e w1 ⟨⟨r, rfl, hr⟩, hb1⟩
  cases r with
  | true =>
    obtain ⟨x, l, hok⟩ := hr.1 rfl
    have HK := hide hok
    have HS := hide (l2Show_one x l (l2Bare_any x l hok.kids hok.kok) w1 b off cap ns 0 hok.stands ((unhide HC).below hb1 hb) (Nat.lt_of_lt_of_le hb hb1.size) ⟨hok.size, hok.own⟩).kid0
    clear hr hok
    go_wp2_with (first
      | (go_at_call 33; refine (unhide HS _ (Below.refl _ _)).mono ?_; rintro e w2 ⟨rfl, hb2⟩))
    go_ret
    exact ⟨.inl ⟨x, l, unhide HK, rfl⟩, hb1.trans (hb2.mono hb1.size)⟩
  | false =>
    have hf := hide (show ¬ OkTree ns from fun h => Bool.noConfusion (hr.2 h))
    clear hr
    go_wp2_with fail
    go_ret
    exact ⟨.inr ⟨unhide hf, rfl⟩, hb1⟩

end Go.Proofs.YtjfebnplffpmoaaGreatDoor
