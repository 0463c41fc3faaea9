/-
  Lists of nodes in memory, and the law's own helpers over them: how much they hold, how they are copied, how two lists are compared.
-/
/-
  The two sides of TreeEnd: both go by Kids alone, and answer 'treeEnd' at every list of nodes and every place.
-/
import Derived.Test.YtaonajalokhngaaGreatDoorMerged3
import Derived.Deep.RegionWith
namespace Go.Proofs.YtaonajalokhngaaGreatDoor
open Go.RowKit Go.Maps

structure NodeV where
  kind : Int
  num : Int
  name : ByteArray
  kids : Int

/-- the nodes lie one behind the other, from a place of a block on -/
def NodesAt (w : World) (b off : Nat) (ns : List NodeV) : Prop :=
  ∀ i (h : i < ns.length), w.cell? ⟨b, off + i * 4, none⟩ = some (.int .i64 ns[i].kind) ∧ w.cell? ⟨b, off + i * 4 + 1, none⟩ = some (.int .i64 ns[i].num) ∧
    w.cell? ⟨b, off + i * 4 + 2, none⟩ = some (.string ns[i].name) ∧ w.cell? ⟨b, off + i * 4 + 3, none⟩ = some (.int .i64 ns[i].kids)

/-- what the bound gives where it is not passed -/
def Small (ns : List NodeV) : Prop := ns.length ≤ 1048576 ∧ ∀ n ∈ ns, n.name.size ≤ 1048576

theorem infoNode : (Tryz.prog.info? 47).map (fun i => (i.zero, i.size, i.bytes)) = some (some (.agg #[.int .i64 0, .int .i64 0, .string ByteArray.empty, .int .i64 0]), 4, 40) := by kernel_rfl

/-- a list of cells that holds the first k nodes -/
def HoldsTo (xs : List Value) (ns : List NodeV) (k : Nat) : Prop :=
  ∀ i (h : i < ns.length), i < k → xs[i * 4]? = some (.int .i64 ns[i].kind) ∧ xs[i * 4 + 1]? = some (.int .i64 ns[i].num) ∧ xs[i * 4 + 2]? = some (.string ns[i].name) ∧ xs[i * 4 + 3]? = some (.int .i64 ns[i].kids)

theorem holdsTo_step (xs : List Value) (ns : List NodeV) (k : Nat) (hk : k < ns.length) (hx : xs.length = ns.length * 4) (h : HoldsTo xs ns k) :
    HoldsTo ((((xs.set (k * 4) (.int .i64 ns[k].kind)).set (k * 4 + 1) (.int .i64 ns[k].num)).set (k * 4 + 2) (.string ns[k].name)).set (k * 4 + 3) (.int .i64 ns[k].kids)) ns (k + 1) := by
  intro i hi hik
  by_cases e : i = k
  · subst e
    simp [List.getElem?_set, hx]
    omega
  · obtain ⟨a, b, c, d⟩ := h i hi (by omega)
    refine ⟨?_, ?_, ?_, ?_⟩ <;> (repeat rw [List.getElem?_set_ne (by omega)]) <;> assumption

theorem ownsRow_below {w w' : World} {base B : Nat} {e : TypeId} {size : Nat} {g n cap : Nat} {xs : List Value} (h : w.ownsRow base e size (.slice (some ⟨g, 0, none⟩) n cap) n xs) (hb : Below B w w') (hg : g < B) :
    w'.ownsRow base e size (.slice (some ⟨g, 0, none⟩) n cap) n xs := by
  refine ⟨h.1, ?_⟩
  rcases h.2 with ⟨h', _⟩ | ⟨g', cap', cur, h', h1, h2, h3⟩
  · simp at h'
  · refine .inr ⟨g', cap', cur, h', h1, ?_, h3⟩
    simp only [Value.slice.injEq, Option.some.injEq, Addr.mk.injEq, and_true, true_and] at h'
    obtain ⟨rfl, rfl⟩ := h'
    rw [hb.block g hg]; exact h2

theorem rowFour {w : World} {base : Nat} {e : TypeId} {g n cap : Nat} {xs : List Value} (h : w.ownsRow base e 4 (.slice (some ⟨g, 0, none⟩) n cap) n xs) (k : Nat) (hk : k < n) :
    ∃ v0 v1 v2 v3, w.cell? ⟨g, k * 4, none⟩ = some v0 ∧ w.cell? ⟨g, k * 4 + 1, none⟩ = some v1 ∧ w.cell? ⟨g, k * 4 + 2, none⟩ = some v2 ∧ w.cell? ⟨g, k * 4 + 3, none⟩ = some v3 ∧
      w.frozen? ⟨g, k * 4, none⟩ = false ∧ w.frozen? ⟨g, k * 4 + 1, none⟩ = false ∧ w.frozen? ⟨g, k * 4 + 2, none⟩ = false ∧ w.frozen? ⟨g, k * 4 + 3, none⟩ = false := by
  have hx := h.1
  refine ⟨xs[k * 4]'(by omega), xs[k * 4 + 1]'(by omega), xs[k * 4 + 2]'(by omega), xs[k * 4 + 3]'(by omega), ?_, ?_, ?_, ?_, h.frozenAt _, h.frozenAt _, h.frozenAt _, h.frozenAt _⟩
  all_goals
    rw [h.cellAt _ (by omega)]
    exact List.getElem?_eq_getElem _

theorem storeFour {w : World} {base : Nat} {e : TypeId} {g n cap : Nat} {xs : List Value} (h : w.ownsRow base e 4 (.slice (some ⟨g, 0, none⟩) n cap) n xs) (k : Nat) (a b c d : Value) :
    ((((w.setCell ⟨g, k * 4, none⟩ a).setCell ⟨g, k * 4 + 1, none⟩ b).setCell ⟨g, k * 4 + 2, none⟩ c).setCell ⟨g, k * 4 + 3, none⟩ d).ownsRow base e 4 (.slice (some ⟨g, 0, none⟩) n cap) n ((((xs.set (k * 4) a).set (k * 4 + 1) b).set (k * 4 + 2) c).set (k * 4 + 3) d) :=
  ((((h.stored (k * 4) a).1.stored (k * 4 + 1) b).1.stored (k * 4 + 2) c).1.stored (k * 4 + 3) d).1

theorem nodes_of_row {w : World} {base : Nat} {e : TypeId} {g n cap : Nat} {xs : List Value} {ns : List NodeV} (h : w.ownsRow base e 4 (.slice (some ⟨g, 0, none⟩) n cap) n xs) (hn : ns.length = n) (ht : HoldsTo xs ns n) : NodesAt w g 0 ns := by
  intro i hi
  obtain ⟨a, b, c, d⟩ := ht i hi (by omega)
  refine ⟨?_, ?_, ?_, ?_⟩
  all_goals
    rw [Nat.zero_add, h.cellAt _ (by omega)]
    assumption

set_option maxHeartbeats 800000 in
theorem eqNode_same (k n : Int) (s : ByteArray) (c : Int) (w : World) :
    Calls Tryz.prog 15 #[.agg #[.int .i64 k, .int .i64 n, .string s, .int .i64 c], .agg #[.int .i64 k, .int .i64 n, .string s, .int .i64 c]] w fun e w' => e = .returned (.bool true) ∧ Below w.heap.size w w' := by
  go_enter Tryz.func15, Tryz.ntmps15
  go_wp2
  go_ret
  exact ⟨rfl, ((Below.refl _ _).alloc (Nat.le_refl _) _).alloc (by simp) _⟩

set_option maxHeartbeats 1600000 in
theorem eqNodeS_same (w : World) (b off cap b' off' cap' : Nat) (ns : List NodeV) (hl : ns.length ≤ 281474976710656) (hc : NodesAt w b off ns) (hc' : NodesAt w b' off' ns) (hb : b < w.heap.size) (hb' : b' < w.heap.size) :
    Calls Tryz.prog 6 #[.slice (some ⟨b, off, none⟩) ns.length cap, .slice (some ⟨b', off', none⟩) ns.length cap'] w fun e w' => e = .returned (.bool true) ∧ Below w.heap.size w w' := by
  go_enter Tryz.func6, Tryz.ntmps6
  go_wp2
  go_loopw [5] (fun i wr => ∃ (k : Nat), k ≤ ns.length ∧ i = .int .i64 k ∧ Below w.heap.size w wr) (fun i _ => ns.length - (intOf i).toNat)
  case atStart => exact ⟨0, Nat.zero_le _, rfl, Below.refl _ _⟩
  case round =>
    obtain ⟨k, hk, rfl, hbel⟩ := hrel
    by_cases hlt : k < ns.length
    · obtain ⟨c0, c1, c2, c3⟩ := hc k hlt
      obtain ⟨d0, d1, d2, d3⟩ := hc' k hlt
      rw [← hbel.cell (by exact hb)] at c0 c1 c2 c3
      rw [← hbel.cell (by exact hb')] at d0 d1 d2 d3
      go_wp2
      go_region_with (go_at_call 15; refine (eqNode_same _ _ _ _ _).mono ?_; rintro e w2 ⟨rfl, hb2⟩)
      all_goals
        have hb3 : Below w.heap.size w w2 := hbel.drew.trans (hb2.mono hbel.size)
        clear c0 c1 c2 c3 d0 d1 d2 d3
        go_wp2
        go_roundw
        case rel => exact ⟨k + 1, by omega, by go_num, hb3⟩
        case measure => simp [intOf]; omega
    · go_wp2
      go_ret
      exact ⟨rfl, hbel⟩

end Go.Proofs.YtaonajalokhngaaGreatDoor

namespace Go.Proofs.YtaonajalokhngaaGreatDoor
open Go.RowKit Go.Maps

/-- nodes are counted off until none is owed: what is left, how many are owed, the place -/
def endL (L : Int) : List Int → Int → Int → Int
  | [], owed, at' => if 0 < owed then -1 else at'
  | k :: r, owed, at' => if 0 < owed then (if k < 0 ∨ L < k then -1 else endL L r (owed - 1 + k) (at' + 1)) else at'
def kidsOf (ns : List NodeV) : List Int := ns.map NodeV.kids
def treeEnd (ns : List NodeV) (i : Int) : Int := if 0 ≤ i ∧ i < ns.length then endL ns.length ((kidsOf ns).drop i.toNat) 1 i else -1

theorem endL_zero (L : Int) (l : List Int) (a : Int) : endL L l 0 a = a := by
  cases l <;> simp [endL]
theorem endL_many (L : Int) : ∀ (l : List Int) (owed a : Int), (l.length : Int) < owed → endL L l owed a = -1
  | [], owed, a, h => by
    have : 0 < owed := by simpa using h
    simp [endL, this]
  | k :: r, owed, a, h => by
    have h' : (r.length : Int) + 1 < owed := by simpa using h
    have h0 : 0 < owed := by omega
    by_cases hk : k < 0 ∨ L < k
    · simp [endL, h0, hk]
    · simp only [endL, h0, hk, if_true, if_false]
      exact endL_many L r _ _ (by omega)
theorem kids_drop (ns : List NodeV) (k : Nat) (h : k < ns.length) : (kidsOf ns).drop k = ns[k].kids :: (kidsOf ns).drop (k + 1) := by
  have h' : k < (kidsOf ns).length := by simpa [kidsOf] using h
  rw [List.drop_eq_getElem_cons h']
  simp [kidsOf]
theorem kids_end (ns : List NodeV) (k : Nat) (h : ¬ k < ns.length) : (kidsOf ns).drop k = [] := by
  apply List.drop_eq_nil_of_le
  simp [kidsOf]; omega
theorem endL_bad (L : Int) (ns : List NodeV) (k : Nat) (owed : Int) (h0 : 0 < owed) (h : k < ns.length) (hb : ns[k].kids < 0 ∨ L < ns[k].kids) : endL L ((kidsOf ns).drop k) owed k = -1 := by
  rw [kids_drop ns k h]; simp [endL, h0, hb]
theorem endL_step (L : Int) (ns : List NodeV) (k : Nat) (owed : Int) (h0 : 0 < owed) (h : k < ns.length) (h1 : ¬ ns[k].kids < 0) (h2 : ¬ L < ns[k].kids) :
    endL L ((kidsOf ns).drop k) owed k = endL L ((kidsOf ns).drop (k + 1)) (owed - 1 + ns[k].kids) ((k + 1 : Nat) : Int) := by
  rw [kids_drop ns k h]; simp [endL, h0, h1, h2]
theorem endL_out (L : Int) (ns : List NodeV) (k : Nat) (owed : Int) (h0 : 0 < owed) (h : ¬ k < ns.length) : endL L ((kidsOf ns).drop k) owed k = -1 := by
  rw [kids_end ns k h]; simp [endL, h0]
theorem endL_done (L : Int) (l : List Int) (owed a : Int) (h0 : ¬ 0 < owed) : endL L l owed a = a := by
  cases l <;> simp [endL, h0]
theorem ret_i64 {a b : Int} (h : a = b) : Ending.returned (.int .i64 a) = .returned (.int .i64 b) := by rw [h]

set_option maxHeartbeats 1600000 in
theorem specEnd_any (w : World) (b off cap : Nat) (ns : List NodeV) (i : Int) (hi0 : -9223372036854775808 ≤ i) (hi1 : i ≤ 9223372036854775807) (hl : ns.length ≤ 1048576) (hc : NodesAt w b off ns) :
    Calls Tryz.prog 23 #[.slice (some ⟨b, off, none⟩) ns.length cap, .int .i64 i] w fun e w' => e = .returned (.int .i64 (treeEnd ns i)) ∧ w' = w := by
  by_cases hin : 0 ≤ i ∧ i < ns.length
  · obtain ⟨h0, h1⟩ := hin
    obtain ⟨k0, rfl⟩ := Int.eq_ofNat_of_zero_le h0
    have hT := hide (show treeEnd ns (k0 : Int) = endL ns.length ((kidsOf ns).drop k0) 1 k0 by unfold treeEnd; rw [if_pos ⟨h0, h1⟩, Int.toNat_natCast])
    have h2 : ¬ ((k0 : Int) < 0) := by omega
    have h3 : ¬ ((ns.length : Int) ≤ (k0 : Int)) := by omega
    go_enter Tryz.func23, Tryz.ntmps23
    go_wp2
    clear h2 h3
    go_loop [1, 5] (fun a o => ∃ (k : Nat) (owed : Int), k ≤ ns.length ∧ a = .int .i64 k ∧ o = .int .i64 owed ∧ 0 ≤ owed ∧ owed ≤ 1 + (k : Int) * 1048576 ∧ endL ns.length ((kidsOf ns).drop k) owed k = treeEnd ns (k0 : Int)) (fun a _ => ns.length + 1 - (intOf a).toNat)
    case atStart => exact ⟨k0, 1, by omega, rfl, rfl, by omega, by omega, (unhide hT).symm⟩
    case round =>
      obtain ⟨k, owed, hk, rfl, rfl, ho0, ho1, hend⟩ := hrel
      have HE := hide hend
      clear hend
      by_cases hpos : 0 < owed
      · by_cases hlt : k < ns.length
        · obtain ⟨_, _, _, c3⟩ := hc k hlt
          by_cases hn : ns[k].kids < 0
          · have hf := hide ((endL_bad _ ns k owed hpos hlt (.inl hn)).symm.trans (unhide HE))
            go_wp2
            go_ret
            exact ⟨ret_i64 (unhide hf), rfl⟩
          · by_cases hm : (ns.length : Int) < ns[k].kids
            · have hf := hide ((endL_bad _ ns k owed hpos hlt (.inr hm)).symm.trans (unhide HE))
              go_wp2
              go_ret
              exact ⟨ret_i64 (unhide hf), rfl⟩
            · have hf := hide ((endL_step _ ns k owed hpos hlt hn hm).symm.trans (unhide HE))
              go_wp2
              go_round
              case rel => exact ⟨k + 1, _, by omega, by go_num, rfl, by omega, by omega, unhide hf⟩
              case measure => simp [intOf]; omega
        · have hf := hide ((endL_out _ ns k owed hpos hlt).symm.trans (unhide HE))
          go_wp2
          go_ret
          exact ⟨ret_i64 (unhide hf), rfl⟩
      · have hf := hide ((endL_done ns.length ((kidsOf ns).drop k) owed k hpos).symm.trans (unhide HE))
        go_wp2
        go_ret
        exact ⟨ret_i64 (unhide hf), rfl⟩
  · have hT := hide (show treeEnd ns i = -1 by unfold treeEnd; rw [if_neg hin])
    by_cases h2 : i < 0
    · clear hin
      go_enter Tryz.func23, Tryz.ntmps23
      go_wp2
      go_ret
      exact ⟨ret_i64 (unhide hT).symm, rfl⟩
    · have h3 : (ns.length : Int) ≤ i := by omega
      clear hin
      go_enter Tryz.func23, Tryz.ntmps23
      go_wp2
      go_ret
      exact ⟨ret_i64 (unhide hT).symm, rfl⟩

theorem endL_many_at (L : Int) (ns : List NodeV) (k : Nat) (owed : Int) (h : (ns.length : Int) < owed) : endL L ((kidsOf ns).drop k) owed k = -1 := by
  apply endL_many
  have : ((kidsOf ns).drop k).length ≤ ns.length := by simp [kidsOf]
  omega

end Go.Proofs.YtaonajalokhngaaGreatDoor
