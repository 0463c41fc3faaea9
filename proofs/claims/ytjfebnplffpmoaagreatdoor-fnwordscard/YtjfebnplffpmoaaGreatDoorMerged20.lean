/-
  Boxed variables in memory: what a block of cells holds, kept from world to world.
-/
/-
  Cutting a text into words: the specification.
-/
import Derived.Test.YtjfebnplffpmoaaGreatDoorMerged18
import Derived.Test.YtjfebnplffpmoaaGreatDoorBodyM
import Derived.Test.YtjfebnplffpmoaaGreatDoorMerged19
set_option linter.unusedVariables false
namespace Go.Proofs.YtjfebnplffpmoaaGreatDoor
open Go.RowKit Go.Maps

def BoxIs (w : World) (g : Nat) (xs : List Value) : Prop := g < w.heap.size ∧ ∀ i v, xs[i]? = some v → w.cell? ⟨g, i, none⟩ = some v
theorem BoxIs.up {w w' : World} {g : Nat} {xs : List Value} (h : BoxIs w g xs) (hb : Below w.heap.size w w') : BoxIs w' g xs :=
  ⟨Nat.lt_of_lt_of_le h.1 hb.size, fun i v hv => (hb.cell (by exact h.1)).trans (h.2 i v hv)⟩
theorem BoxIs.turn {S : List Nat} {w w' : World} {g : Nat} {xs : List Value} (h : BoxIs w g xs) (ht : Turn S w w') (hS : g ∉ S) : BoxIs w' g xs :=
  ⟨Nat.lt_of_lt_of_le h.1 ht.size, fun i v hv => (ht.cell h.1 hS).trans (h.2 i v hv)⟩
theorem BoxIs.at {w : World} {g : Nat} {xs : List Value} (h : BoxIs w g xs) (i : Nat) (v : Value) (hv : xs[i]? = some v) : w.cell? ⟨g, i, none⟩ = some v := h.2 i v hv
theorem BoxIs.four {w : World} {g : Nat} {a b c d : Value} (h : BoxIs w g [a, b, c, d]) : w.cell? ⟨g, 0, none⟩ = some a ∧ w.cell? ⟨g, 1, none⟩ = some b ∧ w.cell? ⟨g, 2, none⟩ = some c ∧ w.cell? ⟨g, 3, none⟩ = some d :=
  ⟨h.2 0 _ rfl, h.2 1 _ rfl, h.2 2 _ rfl, h.2 3 _ rfl⟩
theorem boxMade (w : World) (xs : List Value) (T : TypeId) : BoxIs (w.alloc (.cells xs.toArray T)) w.heap.size xs :=
  ⟨by simp, fun i v hv => by rw [World.cell?_alloc_at _ _ _ _ rfl]; simpa using hv⟩
theorem boxMade4 (w : World) (a b c d : Value) (T : TypeId) : BoxIs (w.alloc (.cells #[a, b, c, d] T)) w.heap.size [a, b, c, d] := boxMade w [a, b, c, d] T
/-- a new variable, filled cell by cell -/
theorem boxStored4 (w : World) (z0 z1 z2 z3 a b c d : Value) (T : TypeId) :
    BoxIs (((((w.alloc (.cells #[z0, z1, z2, z3] T)).setCell ⟨w.heap.size, 0, none⟩ a).setCell ⟨w.heap.size, 1, none⟩ b).setCell ⟨w.heap.size, 2, none⟩ c).setCell ⟨w.heap.size, 3, none⟩ d) w.heap.size [a, b, c, d] ∧
    Below w.heap.size w (((((w.alloc (.cells #[z0, z1, z2, z3] T)).setCell ⟨w.heap.size, 0, none⟩ a).setCell ⟨w.heap.size, 1, none⟩ b).setCell ⟨w.heap.size, 2, none⟩ c).setCell ⟨w.heap.size, 3, none⟩ d) := by
  obtain ⟨_, hc⟩ := boxMade4 w z0 z1 z2 z3 T
  have c0 := hc 0 _ rfl
  have c1 := hc 1 _ rfl
  have c2 := hc 2 _ rfl
  have c3 := hc 3 _ rfl
  refine ⟨⟨by simp, ?_⟩, (((((Below.refl _ _).alloc (Nat.le_refl _) _).setCell (Nat.le_refl _) _).setCell (Nat.le_refl _) _).setCell (Nat.le_refl _) _).setCell (Nat.le_refl _) _⟩
  generalize w.alloc (.cells #[z0, z1, z2, z3] T) = W at *
  generalize w.heap.size = g at *
  have ne : ∀ (X : World) (i j : Nat) (v : Value), i ≠ j → (X.setCell ⟨g, j, none⟩ v).cell? ⟨g, i, none⟩ = X.cell? ⟨g, i, none⟩ := fun X i j v h => World.cell?_setCell_other _ _ _ _ (by intro e; have := congrArg Addr.off e; simp only at this; omega)
  intro i v hv
  match i, hv with
  | 0, hv =>
    simp at hv; subst hv
    rw [ne _ 0 3 _ (by omega), ne _ 0 2 _ (by omega), ne _ 0 1 _ (by omega)]
    exact World.cell?_setCell_same _ _ _ c0
  | 1, hv =>
    simp at hv; subst hv
    rw [ne _ 1 3 _ (by omega), ne _ 1 2 _ (by omega)]
    exact World.cell?_setCell_same _ _ _ (by rw [ne _ 1 0 _ (by omega)]; exact c1)
  | 2, hv =>
    simp at hv; subst hv
    rw [ne _ 2 3 _ (by omega)]
    exact World.cell?_setCell_same _ _ _ (by rw [ne _ 2 1 _ (by omega), ne _ 2 0 _ (by omega)]; exact c2)
  | 3, hv =>
    simp at hv; subst hv
    exact World.cell?_setCell_same _ _ _ (by rw [ne _ 3 2 _ (by omega), ne _ 3 1 _ (by omega), ne _ 3 0 _ (by omega)]; exact c3)
  | i + 4, hv => simp at hv
theorem boxNew4 (w : World) (a b c d : Value) (T : TypeId) : BoxIs (w.alloc (.cells #[a, b, c, d] T)) w.heap.size [a, b, c, d] ∧ Below w.heap.size w (w.alloc (.cells #[a, b, c, d] T)) ∧ w.heap.size < (w.alloc (.cells #[a, b, c, d] T)).heap.size :=
  ⟨boxMade4 w a b c d T, (Below.refl _ _).alloc (Nat.le_refl _) _, by simp⟩
theorem boxFill4 (w : World) (z0 z1 z2 z3 a b c d : Value) (T : TypeId) :
    BoxIs (((((w.alloc (.cells #[z0, z1, z2, z3] T)).setCell ⟨w.heap.size, 0, none⟩ a).setCell ⟨w.heap.size, 1, none⟩ b).setCell ⟨w.heap.size, 2, none⟩ c).setCell ⟨w.heap.size, 3, none⟩ d) w.heap.size [a, b, c, d] ∧
    Below w.heap.size w (((((w.alloc (.cells #[z0, z1, z2, z3] T)).setCell ⟨w.heap.size, 0, none⟩ a).setCell ⟨w.heap.size, 1, none⟩ b).setCell ⟨w.heap.size, 2, none⟩ c).setCell ⟨w.heap.size, 3, none⟩ d) ∧
    w.heap.size < (((((w.alloc (.cells #[z0, z1, z2, z3] T)).setCell ⟨w.heap.size, 0, none⟩ a).setCell ⟨w.heap.size, 1, none⟩ b).setCell ⟨w.heap.size, 2, none⟩ c).setCell ⟨w.heap.size, 3, none⟩ d).heap.size := by
  obtain ⟨h1, h2⟩ := boxStored4 w z0 z1 z2 z3 a b c d T
  exact ⟨h1, h2, h1.1⟩
theorem BoxIs.two {w : World} {g : Nat} {a b : Value} (h : BoxIs w g [a, b]) : w.cell? ⟨g, 0, none⟩ = some a ∧ w.cell? ⟨g, 1, none⟩ = some b := ⟨h.2 0 _ rfl, h.2 1 _ rfl⟩
theorem BoxIs.six {w : World} {g : Nat} {a b c d e f : Value} (h : BoxIs w g [a, b, c, d, e, f]) : w.cell? ⟨g, 0, none⟩ = some a ∧ w.cell? ⟨g, 1, none⟩ = some b ∧ w.cell? ⟨g, 2, none⟩ = some c ∧ w.cell? ⟨g, 3, none⟩ = some d ∧ w.cell? ⟨g, 4, none⟩ = some e ∧ w.cell? ⟨g, 5, none⟩ = some f :=
  ⟨h.2 0 _ rfl, h.2 1 _ rfl, h.2 2 _ rfl, h.2 3 _ rfl, h.2 4 _ rfl, h.2 5 _ rfl⟩
theorem boxNew2 (w : World) (a b : Value) (T : TypeId) : BoxIs (w.alloc (.cells #[a, b] T)) w.heap.size [a, b] ∧ Below w.heap.size w (w.alloc (.cells #[a, b] T)) ∧ w.heap.size < (w.alloc (.cells #[a, b] T)).heap.size :=
  ⟨boxMade w [a, b] T, (Below.refl _ _).alloc (Nat.le_refl _) _, by simp⟩
theorem boxNew6 (w : World) (a b c d e f : Value) (T : TypeId) : BoxIs (w.alloc (.cells #[a, b, c, d, e, f] T)) w.heap.size [a, b, c, d, e, f] ∧ Below w.heap.size w (w.alloc (.cells #[a, b, c, d, e, f] T)) ∧ w.heap.size < (w.alloc (.cells #[a, b, c, d, e, f] T)).heap.size :=
  ⟨boxMade w [a, b, c, d, e, f] T, (Below.refl _ _).alloc (Nat.le_refl _) _, by simp⟩
def IntFit (n : Int) : Prop := -9223372036854775808 ≤ n ∧ n ≤ 9223372036854775807
/-- four cells of a block, filled -/
theorem fill4 (w : World) (g : Nat) (a b c d : Value) (hc : ∀ i, i < 4 → ∃ x, w.cell? ⟨g, i, none⟩ = some x) :
    let W := (((w.setCell ⟨g, 0, none⟩ a).setCell ⟨g, 1, none⟩ b).setCell ⟨g, 2, none⟩ c).setCell ⟨g, 3, none⟩ d
    W.cell? ⟨g, 0, none⟩ = some a ∧ W.cell? ⟨g, 1, none⟩ = some b ∧ W.cell? ⟨g, 2, none⟩ = some c ∧ W.cell? ⟨g, 3, none⟩ = some d ∧ (∀ i, W.frozen? ⟨g, i, none⟩ = w.frozen? ⟨g, i, none⟩) ∧ Turn [g] w W := by
  obtain ⟨x0, c0⟩ := hc 0 (by omega)
  obtain ⟨x1, c1⟩ := hc 1 (by omega)
  obtain ⟨x2, c2⟩ := hc 2 (by omega)
  obtain ⟨x3, c3⟩ := hc 3 (by omega)
  have ne : ∀ (X : World) (i j : Nat) (v : Value), i ≠ j → (X.setCell ⟨g, j, none⟩ v).cell? ⟨g, i, none⟩ = X.cell? ⟨g, i, none⟩ := fun X i j v h => World.cell?_setCell_other _ _ _ _ (by intro e; have := congrArg Addr.off e; simp only at this; omega)
  refine ⟨?_, ?_, ?_, ?_, fun i => ?_, ((((Turn.refl _ _).setCell (by simp) _ _).setCell (by simp) _ _).setCell (by simp) _ _).setCell (by simp) _ _⟩
  · rw [ne _ 0 3 _ (by omega), ne _ 0 2 _ (by omega), ne _ 0 1 _ (by omega)]
    exact World.cell?_setCell_same _ _ _ c0
  · rw [ne _ 1 3 _ (by omega), ne _ 1 2 _ (by omega)]
    exact World.cell?_setCell_same _ _ _ (by rw [ne _ 1 0 _ (by omega)]; exact c1)
  · rw [ne _ 2 3 _ (by omega)]
    exact World.cell?_setCell_same _ _ _ (by rw [ne _ 2 1 _ (by omega), ne _ 2 0 _ (by omega)]; exact c2)
  · exact World.cell?_setCell_same _ _ _ (by rw [ne _ 3 2 _ (by omega), ne _ 3 1 _ (by omega), ne _ 3 0 _ (by omega)]; exact c3)
  · rw [World.frozen?_setCell, World.frozen?_setCell, World.frozen?_setCell, World.frozen?_setCell]
/-- a block of cells that may be written -/
def BoxF (w : World) (g : Nat) (xs : List Value) : Prop := BoxIs w g xs ∧ ∀ i, i < xs.length → w.frozen? ⟨g, i, none⟩ = false
theorem BoxF.up {w w' : World} {g : Nat} {xs : List Value} (h : BoxF w g xs) (hb : Below w.heap.size w w') : BoxF w' g xs := ⟨h.1.up hb, fun i hi => (hb.frozen (by exact h.1.1)).trans (h.2 i hi)⟩
theorem BoxF.turn {S : List Nat} {w w' : World} {g : Nat} {xs : List Value} (h : BoxF w g xs) (ht : Turn S w w') (hS : g ∉ S) : BoxF w' g xs := ⟨h.1.turn ht hS, fun i hi => (ht.frozen h.1.1 hS).trans (h.2 i hi)⟩
theorem BoxF.set {w : World} {g : Nat} {xs : List Value} (h : BoxF w g xs) (i : Nat) (v : Value) (hi : i < xs.length) : BoxF (w.setCell ⟨g, i, none⟩ v) g (xs.set i v) := by
  refine ⟨⟨by simpa using h.1.1, fun j x hx => ?_⟩, fun j hj => ?_⟩
  · by_cases e : j = i
    · subst e
      rw [List.getElem?_set_self hi] at hx
      cases hx
      exact World.cell?_setCell_same _ _ _ (h.1.2 j _ (List.getElem?_eq_getElem hi))
    · rw [List.getElem?_set_ne (fun q => e q.symm)] at hx
      rw [World.cell?_setCell_other _ _ _ _ (by intro q; have := congrArg Addr.off q; simp only at this; omega)]
      exact h.1.2 j x hx
  · rw [World.frozen?_setCell]
    exact h.2 j (by simpa using hj)
theorem BoxF.far {w : World} {g g' : Nat} {xs : List Value} (h : BoxF w g xs) (i : Nat) (v : Value) (hg : g ≠ g') : BoxF (w.setCell ⟨g', i, none⟩ v) g xs := h.turn ((Turn.refl [g'] w).setCell (by simp) i v) (by simpa using hg)
theorem boxF_new (w : World) (xs : List Value) (T : TypeId) : BoxF (w.alloc (.cells xs.toArray T)) w.heap.size xs := by
  refine ⟨boxMade w xs T, fun i hi => ?_⟩
  simp
theorem boxF_new4 (w : World) (a b c d : Value) (T : TypeId) : BoxF (w.alloc (.cells #[a, b, c, d] T)) w.heap.size [a, b, c, d] := boxF_new w [a, b, c, d] T
theorem BoxF.four {w : World} {g : Nat} {a b c d : Value} (h : BoxF w g [a, b, c, d]) : (w.cell? ⟨g, 0, none⟩ = some a ∧ w.cell? ⟨g, 1, none⟩ = some b ∧ w.cell? ⟨g, 2, none⟩ = some c ∧ w.cell? ⟨g, 3, none⟩ = some d) ∧ (w.frozen? ⟨g, 0, none⟩ = false ∧ w.frozen? ⟨g, 1, none⟩ = false ∧ w.frozen? ⟨g, 2, none⟩ = false ∧ w.frozen? ⟨g, 3, none⟩ = false) :=
  ⟨h.1.four, h.2 0 (by simp), h.2 1 (by simp), h.2 2 (by simp), h.2 3 (by simp)⟩
end Go.Proofs.YtjfebnplffpmoaaGreatDoor

set_option linter.unusedVariables false
namespace Go.Proofs.YtjfebnplffpmoaaGreatDoor
open Go.RowKit Go.Maps Go.Deep

theorem run_go {s : ByteArray} {ls : Bool} {j : Nat} (h : j < s.size) (hd : (digB (byteAt s j) || (ls && letB (byteAt s j))) = true) : runEnd s ls j = runEnd s ls (j + 1) := by
  conv => lhs; rw [runEnd, dif_pos h, if_pos hd]
theorem run_stop {s : ByteArray} {ls : Bool} {j : Nat} (h : j < s.size) (hd : (digB (byteAt s j) || (ls && letB (byteAt s j))) = false) : runEnd s ls j = j := by
  rw [runEnd, dif_pos h, if_neg (by rw [hd]; simp)]
theorem run_end {s : ByteArray} {ls : Bool} {j : Nat} (h : ¬ j < s.size) : runEnd s ls j = j := by
  rw [runEnd, dif_neg h]
theorem run_le (s : ByteArray) (ls : Bool) : ∀ n j, s.size - j = n → j ≤ s.size → j ≤ runEnd s ls j ∧ runEnd s ls j ≤ s.size := by
  intro n
  induction n with
  | zero => intro j h1 h2; rw [run_end (by omega)]; omega
  | succ n ih =>
    intro j h1 h2
    cases hd : (digB (byteAt s j) || (ls && letB (byteAt s j)))
    · rw [run_stop (by omega) hd]; omega
    · rw [run_go (by omega) hd]
      have := ih (j + 1) (by omega) (by omega)
      omega
set_option maxHeartbeats 1600000 in
theorem l1Run_any (s : ByteArray) (k : Nat) (ls : Bool) (w : World) (hs : s.size ≤ 1500) (hk : k ≤ s.size) :
    Calls Tryz.prog 26 #[.string s, .int .i64 (k : Int), .bool ls] w fun e w' => e = .returned (.int .i64 (runEnd s ls k : Int)) ∧ w' = w := by
  go_enter Tryz.func26, Tryz.ntmps26
  go_wp2_with fail
  go_loopw [1] (fun av wr => ∃ j : Nat, j ≤ s.size ∧ av = .int .i64 (j : Int) ∧ Hid (runEnd s ls k = runEnd s ls j) ∧ wr = w) (fun av _ => s.size - (intOf av).toNat)
  case atStart => exact ⟨k, hk, rfl, hide rfl, rfl⟩
  case round =>
    obtain ⟨j, hj, rfl, HR, rfl⟩ := hrel
    by_cases hlt : j < s.size
    · have hbk := hide (byteAt_eq s j hlt)
      cases hd : digB (s[j]'hlt).toNat
      · cases ls
        · have HX := hide ((unhide HR).trans (run_stop hlt (by rw [unhide hbk, hd]; rfl)))
          go_wp2_with (first
            | (go_at_call 25; refine (l1Digit_any _ _).mono ?_; rintro e w1 ⟨rfl, rfl⟩)
            | go_in)
          go_ret
          exact ⟨by rw [unhide HX]; rfl, rfl⟩
        · cases hl : letB (s[j]'hlt).toNat
          · have HX := hide ((unhide HR).trans (run_stop hlt (by rw [unhide hbk, hd, hl]; rfl)))
            go_wp2_with (first
              | (go_at_call 25; refine (l1Digit_any _ _).mono ?_; rintro e w1 ⟨rfl, rfl⟩)
              | (go_at_call 27; refine (l1Letter_any _ _).mono ?_; rintro e w1 ⟨rfl, rfl⟩)
              | go_in)
            go_ret
            exact ⟨by rw [unhide HX]; rfl, rfl⟩
          · have HX := hide ((unhide HR).trans (run_go hlt (by rw [unhide hbk, hd, hl]; rfl)))
            go_wp2_with (first
              | (go_at_call 25; refine (l1Digit_any _ _).mono ?_; rintro e w1 ⟨rfl, rfl⟩)
              | (go_at_call 27; refine (l1Letter_any _ _).mono ?_; rintro e w1 ⟨rfl, rfl⟩)
              | go_in)
            go_roundw
            case rel => exact ⟨j + 1, by omega, by go_num, HX, trivial⟩
            case measure => simp [intOf]; omega
      · have HX := hide ((unhide HR).trans (run_go hlt (by rw [unhide hbk, hd]; rfl)))
        go_wp2_with (first
          | (go_at_call 25; refine (l1Digit_any _ _).mono ?_; rintro e w1 ⟨rfl, rfl⟩)
          | go_in)
        go_roundw
        case rel => exact ⟨j + 1, by omega, by go_num, HX, trivial⟩
        case measure => simp [intOf]; omega
    · have HX := hide ((unhide HR).trans (run_end hlt))
      go_wp2_with go_in
      go_ret
      exact ⟨by rw [unhide HX]; rfl, rfl⟩

def signStrs : List ByteArray := signLs.map fun l => ⟨l.toArray⟩
theorem l1Signs_any (w : World) : Calls Tryz.prog 49 #[] w fun e w' => e = .returned (.slice (some ⟨w.heap.size, 0, none⟩) 14 14) ∧ w' = w.alloc (.cells (signStrs.map Value.string).toArray 9) := by
  go_enter Tryz.func49, Tryz.ntmps49
  go_wp2
  go_ret
  exact ⟨rfl, rfl⟩
theorem pick_at (l : List UInt8) (k : Nat) (hk : k < signLs.length) (no : ∀ j (h : j < signLs.length), j < k → signLs[j].isPrefixOf l = false) (yes : signLs[k].isPrefixOf l = true) : signPreL l = signLs[k] := by
  unfold signPreL
  have : (signLs.find? fun g => g.isPrefixOf l) = some signLs[k] := by
    rw [List.find?_eq_some_iff_getElem]
    exact ⟨yes, k, hk, rfl, fun j hj => by rw [no j (by omega) hj]; rfl⟩
  rw [this]
  rfl
theorem pick_no (l : List UInt8) (no : ∀ j (h : j < signLs.length), signLs[j].isPrefixOf l = false) : signPreL l = [] := by
  unfold signPreL
  have : (signLs.find? fun g => g.isPrefixOf l) = none := by
    rw [List.find?_eq_none]
    intro g hg
    obtain ⟨j, hj, rfl⟩ := List.getElem_of_mem hg
    rw [no j hj]
    simp
  rw [this]
  rfl
theorem pre_same (t g : ByteArray) (h : g.size ≤ t.size) : ((t.extract 0 g.size).toList == g.toList) = g.data.toList.isPrefixOf t.data.toList := by
  rw [ByteArray.toList_eq, ByteArray.toList_eq, ext_lst, Bool.eq_iff_iff]
  simp only [Nat.sub_zero, List.drop_zero, beq_iff_eq, List.isPrefixOf_iff_prefix]
  constructor
  · intro e
    rw [← e]
    exact List.take_prefix _ _
  · intro e
    rw [List.prefix_iff_eq_take] at e
    rw [Array.length_toList] at e
    exact e.symm
theorem pre_long (t g : ByteArray) (h : ¬ g.size ≤ t.size) : g.data.toList.isPrefixOf t.data.toList = false := by
  cases hq : g.data.toList.isPrefixOf t.data.toList
  · rfl
  · rw [List.isPrefixOf_iff_prefix] at hq
    have := hq.length_le
    rw [Array.length_toList, Array.length_toList] at this
    exact absurd this h
set_option maxHeartbeats 1600000 in
theorem l1Sign_any (t : ByteArray) (w : World) (ht : t.size ≤ 1500) :
    Calls Tryz.prog 29 #[.string t] w fun e w' => e = .returned (.string ⟨(signPreL t.data.toList).toArray⟩) ∧ Below w.heap.size w w' := by
  have hcell : ∀ j (h : j < signLs.length), (w.alloc (.cells (signStrs.map Value.string).toArray 9)).cell? ⟨w.heap.size, j, none⟩ = some (.string ⟨signLs[j].toArray⟩) := by
    intro j hj
    rw [World.cell?_alloc_at _ _ _ _ rfl]
    simp [signStrs, hj]
  have HC := hide hcell
  have A0 := hide ((Below.refl w.heap.size w).alloc (Nat.le_refl _) (.cells (signStrs.map Value.string).toArray 9))
  have H14 := hide (show signLs.length = 14 from rfl)
  clear hcell
  go_enter Tryz.func29, Tryz.ntmps29
  go_wp2_with (first
    | (go_at_call 49; refine (l1Signs_any _).mono ?_; rintro e w1 ⟨rfl, rfl⟩)
    | go_in)
  generalize w.alloc (.cells (signStrs.map Value.string).toArray 9) = W at *
  go_loopw [4] (fun iv wr => ∃ k : Nat, k ≤ 14 ∧ iv = .int .i64 (k : Int) ∧ Hid (∀ j (h : j < signLs.length), j < k → signLs[j].isPrefixOf t.data.toList = false) ∧ Hid (Below W.heap.size W wr)) (fun iv _ => 14 - (intOf iv).toNat)
  case atStart => exact ⟨0, by omega, rfl, hide (fun j _ h => absurd h (Nat.not_lt_zero _)), hide (Below.refl _ _)⟩
  case round =>
    obtain ⟨k, hk, rfl, HN, HB⟩ := hrel
    have hwl : w.heap.size < W.heap.size := by
      have := unhide HC 0 (by decide)
      exact lt_of_cell0 this
    by_cases hlt : k < 14
    · have hlt2 : (k : Int) < 14 := by omega
      have hkl : k < signLs.length := by rw [unhide H14]; exact hlt
      have c0 := ((unhide HB).cell (p := ⟨w.heap.size, k, none⟩) hwl).trans (unhide HC k hkl)
      have c1 := ((unhide HB).drew.cell (p := ⟨w.heap.size, k, none⟩) hwl).trans (unhide HC k hkl)
      have BD := hide (unhide HB).drew
      have PK := hide (fun (h : signLs[k].isPrefixOf t.data.toList = true) => pick_at t.data.toList k hkl (fun j h1 h2 => unhide HN j h1 h2) h)
      have NX := hide (fun (h : signLs[k].isPrefixOf t.data.toList = false) => show ∀ j (h : j < signLs.length), j < k + 1 → signLs[j].isPrefixOf t.data.toList = false from fun j h1 h2 => by
        by_cases e : j = k
        · subst e; exact h
        · exact unhide HN j h1 (by omega))
      obtain ⟨g, hg⟩ : ∃ g : ByteArray, Hid (g = ⟨signLs[k].toArray⟩) := ⟨_, hide rfl⟩
      have HGL := hide (show signLs[k] = g.data.toList from by rw [unhide hg])
      rw [← unhide hg] at c0 c1
      rw [unhide HGL] at PK NX
      by_cases hz : g.size ≤ t.size
      · have hz2 : (g.size : Int) ≤ (t.size : Int) := by omega
        have hq := pre_same t g hz
        cases hp : g.data.toList.isPrefixOf t.data.toList
        · rw [hp] at hq
          have NX2 := hide (unhide NX hp)
          clear hp PK NX hg HGL
          go_wp2_with fail
          go_region_held3 (fun X : World => X.cell? ⟨w.heap.size, k, none⟩ = some (.string g) ∧ X = wr.drew) ((exact ⟨c1, rfl⟩)) (fail)
          all_goals
            go_wp2_with fail
            go_roundw
            case rel => exact ⟨k + 1, by omega, by go_num, NX2, BD⟩
            case measure => simp [intOf]; omega
        · rw [hp] at hq
          have PK2 := hide (unhide PK hp)
          clear hp PK NX
          go_wp2_with fail
          go_region_held3 (fun X : World => X.cell? ⟨w.heap.size, k, none⟩ = some (.string g) ∧ X = wr.drew) ((exact ⟨c1, rfl⟩)) (fail)
          all_goals
            go_wp2_with fail
            go_ret
            exact ⟨by rw [unhide PK2]; rfl, (unhide A0).trans ((unhide BD).mono (unhide A0).size)⟩
      · have hz2 : ¬ (g.size : Int) ≤ (t.size : Int) := by omega
        have NX2 := hide (unhide NX (pre_long t g hz))
        clear PK NX hg HGL
        go_wp2_with fail
        go_region
        all_goals
          go_wp2_with fail
          go_roundw
          case rel => exact ⟨k + 1, by omega, by go_num, NX2, BD⟩
          case measure => simp [intOf]; omega
    · have HE := hide (pick_no t.data.toList (fun j h => unhide HN j h (by rw [unhide H14] at h; omega)))
      have hnl : ¬ (k : Int) < 14 := by omega
      go_wp2_with fail
      go_ret
      exact ⟨by rw [unhide HE]; rfl, (unhide A0).trans ((unhide HB).mono (unhide A0).size)⟩
end Go.Proofs.YtjfebnplffpmoaaGreatDoor
