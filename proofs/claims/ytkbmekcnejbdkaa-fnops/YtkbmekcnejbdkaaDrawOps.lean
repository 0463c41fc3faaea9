/-
  What the law on quotient, rest and comparisons draws and asks.
-/
import Derived.Test.YtkbmekcnejbdkaaReader
import Derived.Test.YtkbmekcnejbdkaaSpecOps
import Derived.Deep.RegionHeld3
set_option linter.unusedVariables false
namespace Go.Proofs.Ytkbmekcnejbdkaa
open Go.RowKit Go.Maps Go.Deep
def drawVals : List Int := [0, 1, -1, 2, -7, 9223372036854775807, -9223372036854775808, 3037000500]
theorem drawVals_ranged (j : Nat) : ranged (drawVals.getD j 0) := by
  match j with
  | 0 | 1 | 2 | 3 | 4 | 5 | 6 | 7 => unfold ranged; decide
  | n + 8 => unfold ranged; simp [drawVals]
/-- the values lie at block B, the reader at its q-th byte -/
def HeldVals (vf : Nat → Int) (w0 : World) (g B q : Nat) (w' : World) : Prop := (∀ j, j < 8 → w'.cell? ⟨B, j, none⟩ = some (.int .i64 (vf j))) ∧ RdIn w0.heap.size w' g q ∧ Below w0.heap.size w0 w' ∧ B < w'.heap.size ∧ B ≠ g
theorem held_pick {vf : Nat → Int} {w0 w w' : World} {g B p q : Nat} (h : HeldVals vf w0 g B q w) (hr : RdIn w0.heap.size w' g p) (ht : Turn [g] w w') : HeldVals vf w0 g B p w' := by
  obtain ⟨h1, hr', h3, h4, h5⟩ := h
  exact ⟨fun j hj => (ht.cell h4 (by simpa using h5)).trans (h1 j hj), hr, h3.trans (ht.below h3.size (by simp; exact hr'.above)), by have := ht.size; omega, h5⟩
theorem held_drew {vf : Nat → Int} {w0 w : World} {g B q : Nat} (h : HeldVals vf w0 g B q w) : HeldVals vf w0 g B q w.drew := by
  obtain ⟨h1, hr', h3, h4, h5⟩ := h
  exact ⟨fun j hj => h1 j hj, hr'.turn ((Turn.refl [] _).dn 1) (by simp) (by simp), h3.drew, h4, h5⟩
def AnyVals (vf : Nat → Int) (w0 : World) (g B : Nat) (w' : World) : Prop := ∃ q, HeldVals vf w0 g B q w'
def RetOp (w : World) (e : Ending) (w' : World) : Prop := ∃ k x y : Int, e = .returned (.tuple #[.int .i64 k, .int .i64 x, .int .i64 y]) ∧ ranged x ∧ ranged y ∧ Below w.heap.size w w'
set_option maxHeartbeats 1600000 in
set_option maxRecDepth 20000 in
theorem drawMeanOp_any (w : World) (a : Option Addr) (n cap : Nat) (hn : n ≤ maxLen) (hc : n ≤ cap) (hb : BytesIn w a n) :
    Calls Try.prog 6 #[.slice a n cap] w fun e w' => RetOp w e w' := by
  have HB := hide (l1Open_any w a n cap hn hc hb)
  clear hb
  go_enter Try.func6, Try.ntmps6
  go_wp2_with fail
  refine (unhide HB).mono ?_
  rintro e w1 ⟨g, rfl, hr1, ht1⟩
  have HR1 := hide hr1
  have HT1 := hide ht1
  clear hr1 ht1
  go_wp2_with fail
  refine (pick_any w1 w.heap.size g 0 26 (by omega) (by omega) (by omega) (unhide HR1)).mono ?_
  rintro e w2 ⟨k, rfl, hk0, hk1, hr2, ht2⟩
  have HS : HeldVals (fun j => drawVals.getD j 0) w g w2.heap.size 1 (w2.alloc (.cells #[.int .i64 0, .int .i64 1, .int .i64 (-1), .int .i64 2, .int .i64 (-7), .int .i64 9223372036854775807, .int .i64 (-9223372036854775808), .int .i64 3037000500] 3)) := by
    refine ⟨fun j hj => ?_, hr2.turn (Turn.of_alloc [] _ _) (by simp) (by simp), ?_, by simp, ?_⟩
    · rw [World.cell?_alloc_at _ _ _ _ rfl]
      match j, hj with
      | 0, _ | 1, _ | 2, _ | 3, _ | 4, _ | 5, _ | 6, _ | 7, _ => rfl
    · exact (((unhide HT1).below (Nat.le_refl _) (by simp)).trans (ht2.below (unhide HT1).size (by simp; exact hr2.above))).alloc (by have := (unhide HT1).size; have := ht2.size; omega) _
    · have := hr2.lt; omega
  have HS0 := hide HS
  clear hr2 ht2 HS HT1 HR1 HB
  go_wp2_with fail
  generalize (w2.alloc (.cells #[.int .i64 0, .int .i64 1, .int .i64 (-1), .int .i64 2, .int .i64 (-7), .int .i64 9223372036854775807, .int .i64 (-9223372036854775808), .int .i64 3037000500] 3)) = W3 at HS0 ⊢
  generalize w2.heap.size = B at HS0 ⊢
  have hvf : ∀ j, ranged ((fun j => drawVals.getD j 0) j) := drawVals_ranged
  have HVF := hide hvf
  clear hvf
  generalize (fun j => drawVals.getD j 0) = vf at HS0 HVF
  have HSD := hide (held_drew (unhide HS0))
  have KEEP : ∀ w', AnyVals vf w g B w' → (∀ j, j < 8 → w'.cell? ⟨B, j, none⟩ = some (.int .i64 (vf j))) ∧ Hid (AnyVals vf w g B w') := fun w' h => ⟨by obtain ⟨q, h⟩ := h; exact h.1, hide h⟩
  have HAN := hide (show AnyVals vf w g B W3.drew from ⟨1, unhide HSD⟩)
  go_region_held3 (fun w' => (∀ j, j < 8 → w'.cell? ⟨B, j, none⟩ = some (.int .i64 (vf j))) ∧ Hid (AnyVals vf w g B w')) ((refine KEEP _ ?_; first | exact unhide (by assumption)))
    (first
      | (go_at_call 15; have := m1; refine (pick_any _ w.heap.size g 2 8 (by omega) (by omega) (by omega) (unhide HSP).2.1).mono ?_; rintro e w5 ⟨v2, rfl, hv2, hv3, hr5, ht5⟩; have hv2' : v2.toNat < 8 := by omega
         have HSQ := hide (held_pick (unhide HSP) hr5 ht5); have HAQ := hide (show AnyVals vf w g B w5 from ⟨_, unhide HSQ⟩); clear hr5 ht5)
      | (go_at_call 15; refine (pick_any _ w.heap.size g 1 8 (by omega) (by omega) (by omega) (unhide HSD).2.1).mono ?_; rintro e w4 ⟨v1, rfl, hv0, hv1, hr4, ht4⟩; have hv1' : v1.toNat < 8 := by omega
         have m1 := True.intro; have HSP := hide (held_pick (unhide HSD) hr4 ht4); have HAP := hide (show AnyVals vf w g B w4 from ⟨_, unhide HSP⟩); clear hr4 ht4))
  have HP := hide (show RetOp w (.returned (.tuple #[.int .i64 (k - 1), .int .i64 (vf v1.toNat), .int .i64 (vf v2.toNat)])) w5 from ⟨_, _, _, rfl, unhide HVF _, unhide HVF _, (unhide HSQ).2.2.1⟩)
  clear HAQ HSQ HAP HSP HVF HS0 HSD HAN KEEP
  go_wp2_with fail
  refine bodyPost_ret (v := .tuple #[.int .i64 (k - 1), .int .i64 (vf v1.toNat), .int .i64 (vf v2.toNat)]) (by simp [results, Try.f6]) rfl ?_
  exact unhide HP

theorem op_back (a b : Int) (ha : ranged a) (hb : b ≠ 0) : opVal 8 (opVal 5 (opVal 6 a b) b) (opVal 7 a b) = a := by
  have h6 : opVal 6 a b = wrap64 (a.tdiv b) := by simp [opVal, hb]
  have h7 : opVal 7 a b = a.tmod b := by simp [opVal, hb]
  have h8 : ∀ x y, opVal 8 x y = wrap64 (x + y) := fun _ _ => rfl
  have h5 : ∀ x y, opVal 5 x y = wrap64 (x * y) := fun _ _ => rfl
  rw [h8, h5, h6, h7]
  have hq := Int.mul_tdiv_add_tmod a b
  rw [Int.mul_comm] at hq
  have hw : ∃ t, wrap64 (a.tdiv b) = a.tdiv b + 18446744073709551616 * t := ⟨-((a.tdiv b + 9223372036854775808) / 18446744073709551616), by unfold wrap64; omega⟩
  obtain ⟨t, ht⟩ := hw
  rw [ht, Int.add_mul, Int.mul_assoc]
  generalize t * b = tb
  unfold ranged at ha
  unfold wrap64
  omega
theorem op_less (a b : Int) : opVal 12 a b = opVal 14 b a := rfl
theorem op_or (a b : Int) : opVal 13 a b = 1 - opVal 14 a b := by
  have h1 : opVal 13 a b = bi (decide (a ≤ b)) := rfl
  have h2 : opVal 14 a b = bi (decide (b < a)) := rfl
  rw [h1, h2]
  unfold bi
  by_cases h : a ≤ b
  · rw [decide_eq_true h, decide_eq_false (by omega)]; rfl
  · rw [decide_eq_false h, decide_eq_true (by omega)]; rfl
theorem op_min (a b : Int) : opVal 18 a b = opVal 18 b a := by
  have h1 : ∀ a b, opVal 18 a b = (if b < a then b else a) := fun _ _ => rfl
  rw [h1, h1]
  split <;> split <;> omega

/-- a MeanOp that is F, wherever it is asked above W -/
def OpIs (f : Nat) (F : Int → Int → Int → Int) (W : World) : Prop := ∀ w k a b, Below W.heap.size W w → ranged k → ranged a → Calls Try.prog f #[.int .i64 k, .int .i64 a, .int .i64 b] w fun e w' => e = .returned (.int .i64 (F k a b)) ∧ Below W.heap.size W w'
theorem implOp_is (W : World) : OpIs 7 opVal W := fun w k a b hb hk ha => (implOp_any w k a b hk ha).mono fun e w' ⟨h1, h2⟩ => ⟨h1, hb.trans (h2.mono hb.size)⟩
theorem specOp_is (W : World) : OpIs 8 opVal W := fun w k a b hb hk ha => (specOp_any w k a b).mono fun e w' ⟨h1, h2⟩ => ⟨h1, by rw [h2]; exact hb⟩
theorem ranged_lit (k : Nat) (h : k ≤ 1000) : ranged (k : Int) := by unfold ranged; omega

set_option maxHeartbeats 1600000 in
theorem fnOps_walk (F : Int → Int → Int → Int) (a : Option Addr) (n cap : Nat) (w : World) (hn : n ≤ maxLen) (hc : n ≤ cap) (hb : BytesIn w a n)
    (hI : OpIs 7 F w) (hS : OpIs 8 F w) (hfit : ∀ k a b, ranged a → ranged b → ranged (F k a b)) (hback : ∀ a b, ranged a → b ≠ 0 → F 8 (F 5 (F 6 a b) b) (F 7 a b) = a) (hless : ∀ a b, F 12 a b = F 14 b a) (hor : ∀ a b, ranged a → ranged b → F 13 a b = wrap64 (1 - F 14 a b)) (hmin : ∀ a b, F 18 a b = F 18 b a) :
    Calls Try.prog 3 #[.slice a n cap] w fun e w' => e = .returned (.bool true) ∧ Below w.heap.size w w' := by
  have HD := hide (drawMeanOp_any w a n cap hn hc hb)
  have HI := hide hI
  have HS := hide hS
  have HFIT := hide hfit
  have hn' : (n : Int) ≤ 9223372036854775807 := by unfold maxLen at hn; omega
  clear hb hn hI hS hfit
  by_cases hbig : (1048576 : Int) < (n : Int)
  · clear hback hless hor hmin
    go_enter Try.func3, Try.ntmps3
    go_wp2_with fail
    go_ret
    exact ⟨rfl, Below.refl _ _⟩
  · have HBK := hide hback
    have HLS := hide hless
    have HOR := hide hor
    have HMN := hide hmin
    clear hback hless hor hmin
    go_enter Try.func3, Try.ntmps3
    go_wp2_with fail
    refine (unhide HD).mono ?_
    rintro e w1 ⟨k0, x, y, rfl, hx, hy, hb1⟩
    have HX := hide hx
    have HY := hide hy
    have HB := hide hb1
    have e1 : (F 12 x y == F 14 y x) = true := by rw [unhide HLS]; simp
    have e2 : (F 13 x y == wrap64 (1 - F 14 x y)) = true := by rw [unhide HOR x y hx hy]; simp
    have e3 : (F 18 x y == F 18 y x) = true := by rw [unhide HMN x y]; simp
    clear hx hy hb1
    go_wp2_with fail
    go_loopw [6] (fun kv wr => ∃ j : Nat, 1 ≤ j ∧ j ≤ 24 ∧ kv = .int .i64 j ∧ Hid (Below w.heap.size w wr)) (fun kv _ => 24 - (intOf kv).toNat)
    case atStart => exact ⟨1, by omega, by omega, rfl, HB⟩
    case round =>
      obtain ⟨j, hj1, hj2, rfl, HBr⟩ := hrel
      by_cases hj : (j : Int) ≤ 23
      · obtain ⟨r, hr⟩ : ∃ r, F j x y = r := ⟨_, rfl⟩
        have cI := hide (unhide HI wr j x y (unhide HBr) (ranged_lit j (by omega)) (unhide HX))
        have cS := hide (fun w' hb => unhide HS w' j x y hb (ranged_lit j (by omega)) (unhide HX))
        rw [hr] at cI cS
        clear hr e1 e2 e3
        go_wp2_with (first
          | (go_at_call 7; refine (unhide cI).mono ?_; rintro e w2 ⟨rfl, hb2⟩; have HB2 := hide hb2; clear hb2)
          | (go_at_call 8; refine (unhide cS _ (unhide HB2)).mono ?_; rintro e w3 ⟨rfl, hb3⟩; have HB3 := hide hb3; clear hb3)
          | go_in)
        go_roundw
        case rel => exact ⟨j + 1, by omega, by omega, by go_num, HB3⟩
        case measure => simp [intOf]; omega
      · clear HB
        have HB := HBr
        have e0 : (y != 0) = true → (F 8 (F 5 (F 6 x y) y) (F 7 x y) != x) = false := fun h => by rw [unhide HBK x y (unhide HX) (by simpa using h)]; simp
        have HQ := hide (unhide HFIT 6 x y (unhide HX) (unhide HY))
        have HM := hide (unhide HFIT 5 _ y (unhide HQ) (unhide HY))
        by_cases hy0 : (y != 0) = true
        · have e00 := e0 hy0
          clear e0
          go_wp2_with (first
            | (go_at_call 7; refine (unhide HI _ _ _ _ (unhide HB) (by unfold ranged; decide) (by first | exact unhide HX | exact unhide HY | exact unhide HQ | exact unhide HM)).mono ?_; rintro e w2 ⟨rfl, hb2⟩; clear HB; have HB := hide hb2; clear hb2)
            | go_in)
          go_ret
          exact ⟨rfl, unhide HB⟩
        · have hy0 : (y != 0) = false := by simpa using hy0
          clear e0
          go_wp2_with (first
            | (go_at_call 7; refine (unhide HI _ _ _ _ (unhide HB) (by unfold ranged; decide) (by first | exact unhide HX | exact unhide HY | exact unhide HQ | exact unhide HM)).mono ?_; rintro e w2 ⟨rfl, hb2⟩; clear HB; have HB := hide hb2; clear hb2)
            | go_in)
          go_ret
          exact ⟨rfl, unhide HB⟩
end Go.Proofs.Ytkbmekcnejbdkaa
