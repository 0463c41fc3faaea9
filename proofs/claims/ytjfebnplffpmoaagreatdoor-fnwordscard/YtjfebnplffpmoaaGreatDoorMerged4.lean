/-
  Lists of nodes in memory, and the law's own helpers over them: how much they hold, how they are copied, how two lists are compared.
-/
/-
  The two sides of TreeEnd: both go by Kids alone, and answer 'treeEnd' at every list of nodes and every place.
-/
/-
  Lists of nodes as forests: a node, what is beneath it, what stands behind it. Plain mathematics: no program is named here.
-/
import Derived.Test.YtjfebnplffpmoaaGreatDoorMerged3
import Derived.Deep.RegionWith
import Derived.Deep.Trees
namespace Go.Proofs.YtjfebnplffpmoaaGreatDoor
open Go.RowKit Go.Maps

structure NodeV where
  kind : Int
  num : Int
  name : ByteArray
  kids : Int

/-- the nodes lie one behind the other, from a place of a block on -/
def NodesAt (w : World) (b off : Nat) (ns : List NodeV) : Prop :=
  ∀ i (h : i < ns.length), w.cell? ⟨b, off + i * 4, none⟩ = some (.int .i64 ns[i].kind) ∧ w.cell? ⟨b, off + i * 4 + 1, none⟩ = some (.int .i64 ns[i].num) ∧
    w.cell? ⟨b, off + i * 4 + 2, none⟩ = some (.string ns[i].name) ∧ w.cell? ⟨b, off + i * 4 + 3, none⟩ = some (.int .i64 ns[i].kids)

/-- what the bound gives where it is not passed -/
def Small (ns : List NodeV) : Prop := ns.length ≤ 1048576 ∧ ∀ n ∈ ns, n.name.size ≤ 1048576

theorem infoNode : (Tryz.prog.info? 49).map (fun i => (i.zero, i.size, i.bytes)) = some (some (.agg #[.int .i64 0, .int .i64 0, .string ByteArray.empty, .int .i64 0]), 4, 40) := by kernel_rfl

/-- a list of cells that holds the first k nodes -/
def HoldsTo (xs : List Value) (ns : List NodeV) (k : Nat) : Prop :=
  ∀ i (h : i < ns.length), i < k → xs[i * 4]? = some (.int .i64 ns[i].kind) ∧ xs[i * 4 + 1]? = some (.int .i64 ns[i].num) ∧ xs[i * 4 + 2]? = some (.string ns[i].name) ∧ xs[i * 4 + 3]? = some (.int .i64 ns[i].kids)

theorem holdsTo_step (xs : List Value) (ns : List NodeV) (k : Nat) (hk : k < ns.length) (hx : xs.length = ns.length * 4) (h : HoldsTo xs ns k) :
    HoldsTo ((((xs.set (k * 4) (.int .i64 ns[k].kind)).set (k * 4 + 1) (.int .i64 ns[k].num)).set (k * 4 + 2) (.string ns[k].name)).set (k * 4 + 3) (.int .i64 ns[k].kids)) ns (k + 1) := by
  intro i hi hik
  by_cases e : i = k
  · subst e
    simp [List.getElem?_set, hx]
    omega
  · obtain ⟨a, b, c, d⟩ := h i hi (by omega)
    refine ⟨?_, ?_, ?_, ?_⟩ <;> (repeat rw [List.getElem?_set_ne (by omega)]) <;> assumption

theorem ownsRow_below {w w' : World} {base B : Nat} {e : TypeId} {size : Nat} {g n cap : Nat} {xs : List Value} (h : w.ownsRow base e size (.slice (some ⟨g, 0, none⟩) n cap) n xs) (hb : Below B w w') (hg : g < B) :
    w'.ownsRow base e size (.slice (some ⟨g, 0, none⟩) n cap) n xs := by
  refine ⟨h.1, ?_⟩
  rcases h.2 with ⟨h', _⟩ | ⟨g', cap', cur, h', h1, h2, h3⟩
  · simp at h'
  · refine .inr ⟨g', cap', cur, h', h1, ?_, h3⟩
    simp only [Value.slice.injEq, Option.some.injEq, Addr.mk.injEq, and_true, true_and] at h'
    obtain ⟨rfl, rfl⟩ := h'
    rw [hb.block g hg]; exact h2

theorem rowFour {w : World} {base : Nat} {e : TypeId} {g n cap : Nat} {xs : List Value} (h : w.ownsRow base e 4 (.slice (some ⟨g, 0, none⟩) n cap) n xs) (k : Nat) (hk : k < n) :
    ∃ v0 v1 v2 v3, w.cell? ⟨g, k * 4, none⟩ = some v0 ∧ w.cell? ⟨g, k * 4 + 1, none⟩ = some v1 ∧ w.cell? ⟨g, k * 4 + 2, none⟩ = some v2 ∧ w.cell? ⟨g, k * 4 + 3, none⟩ = some v3 ∧
      w.frozen? ⟨g, k * 4, none⟩ = false ∧ w.frozen? ⟨g, k * 4 + 1, none⟩ = false ∧ w.frozen? ⟨g, k * 4 + 2, none⟩ = false ∧ w.frozen? ⟨g, k * 4 + 3, none⟩ = false := by
  have hx := h.1
  refine ⟨xs[k * 4]'(by omega), xs[k * 4 + 1]'(by omega), xs[k * 4 + 2]'(by omega), xs[k * 4 + 3]'(by omega), ?_, ?_, ?_, ?_, h.frozenAt _, h.frozenAt _, h.frozenAt _, h.frozenAt _⟩
  all_goals
    rw [h.cellAt _ (by omega)]
    exact List.getElem?_eq_getElem _

theorem storeFour {w : World} {base : Nat} {e : TypeId} {g n cap : Nat} {xs : List Value} (h : w.ownsRow base e 4 (.slice (some ⟨g, 0, none⟩) n cap) n xs) (k : Nat) (a b c d : Value) :
    ((((w.setCell ⟨g, k * 4, none⟩ a).setCell ⟨g, k * 4 + 1, none⟩ b).setCell ⟨g, k * 4 + 2, none⟩ c).setCell ⟨g, k * 4 + 3, none⟩ d).ownsRow base e 4 (.slice (some ⟨g, 0, none⟩) n cap) n ((((xs.set (k * 4) a).set (k * 4 + 1) b).set (k * 4 + 2) c).set (k * 4 + 3) d) :=
  ((((h.stored (k * 4) a).1.stored (k * 4 + 1) b).1.stored (k * 4 + 2) c).1.stored (k * 4 + 3) d).1

theorem nodes_of_row {w : World} {base : Nat} {e : TypeId} {g n cap : Nat} {xs : List Value} {ns : List NodeV} (h : w.ownsRow base e 4 (.slice (some ⟨g, 0, none⟩) n cap) n xs) (hn : ns.length = n) (ht : HoldsTo xs ns n) : NodesAt w g 0 ns := by
  intro i hi
  obtain ⟨a, b, c, d⟩ := ht i hi (by omega)
  refine ⟨?_, ?_, ?_, ?_⟩
  all_goals
    rw [Nat.zero_add, h.cellAt _ (by omega)]
    assumption

end Go.Proofs.YtjfebnplffpmoaaGreatDoor

namespace Go.Proofs.YtjfebnplffpmoaaGreatDoor
open Go.RowKit Go.Maps

/-- nodes are counted off until none is owed: what is left, how many are owed, the place -/
def endL (L : Int) : List Int → Int → Int → Int
  | [], owed, at' => if 0 < owed then -1 else at'
  | k :: r, owed, at' => if 0 < owed then (if k < 0 ∨ L < k then -1 else endL L r (owed - 1 + k) (at' + 1)) else at'
def kidsOf (ns : List NodeV) : List Int := ns.map NodeV.kids
def treeEnd (ns : List NodeV) (i : Int) : Int := if 0 ≤ i ∧ i < ns.length then endL ns.length ((kidsOf ns).drop i.toNat) 1 i else -1

theorem endL_zero (L : Int) (l : List Int) (a : Int) : endL L l 0 a = a := by
  cases l <;> simp [endL]
theorem endL_many (L : Int) : ∀ (l : List Int) (owed a : Int), (l.length : Int) < owed → endL L l owed a = -1
  | [], owed, a, h => by
    have : 0 < owed := by simpa using h
    simp [endL, this]
  | k :: r, owed, a, h => by
    have h' : (r.length : Int) + 1 < owed := by simpa using h
    have h0 : 0 < owed := by omega
    by_cases hk : k < 0 ∨ L < k
    · simp [endL, h0, hk]
    · simp only [endL, h0, hk, if_true, if_false]
      exact endL_many L r _ _ (by omega)
theorem kids_drop (ns : List NodeV) (k : Nat) (h : k < ns.length) : (kidsOf ns).drop k = ns[k].kids :: (kidsOf ns).drop (k + 1) := by
  have h' : k < (kidsOf ns).length := by simpa [kidsOf] using h
  rw [List.drop_eq_getElem_cons h']
  simp [kidsOf]
theorem kids_end (ns : List NodeV) (k : Nat) (h : ¬ k < ns.length) : (kidsOf ns).drop k = [] := by
  apply List.drop_eq_nil_of_le
  simp [kidsOf]; omega
theorem endL_bad (L : Int) (ns : List NodeV) (k : Nat) (owed : Int) (h0 : 0 < owed) (h : k < ns.length) (hb : ns[k].kids < 0 ∨ L < ns[k].kids) : endL L ((kidsOf ns).drop k) owed k = -1 := by
  rw [kids_drop ns k h]; simp [endL, h0, hb]
theorem endL_step (L : Int) (ns : List NodeV) (k : Nat) (owed : Int) (h0 : 0 < owed) (h : k < ns.length) (h1 : ¬ ns[k].kids < 0) (h2 : ¬ L < ns[k].kids) :
    endL L ((kidsOf ns).drop k) owed k = endL L ((kidsOf ns).drop (k + 1)) (owed - 1 + ns[k].kids) ((k + 1 : Nat) : Int) := by
  rw [kids_drop ns k h]; simp [endL, h0, h1, h2]
theorem endL_out (L : Int) (ns : List NodeV) (k : Nat) (owed : Int) (h0 : 0 < owed) (h : ¬ k < ns.length) : endL L ((kidsOf ns).drop k) owed k = -1 := by
  rw [kids_end ns k h]; simp [endL, h0]
theorem endL_done (L : Int) (l : List Int) (owed a : Int) (h0 : ¬ 0 < owed) : endL L l owed a = a := by
  cases l <;> simp [endL, h0]
theorem ret_i64 {a b : Int} (h : a = b) : Ending.returned (.int .i64 a) = .returned (.int .i64 b) := by rw [h]

set_option maxHeartbeats 1600000 in
theorem specEnd_any (w : World) (b off cap : Nat) (ns : List NodeV) (i : Int) (hi0 : -9223372036854775808 ≤ i) (hi1 : i ≤ 9223372036854775807) (hl : ns.length ≤ 1048576) (hc : NodesAt w b off ns) :
    Calls Tryz.prog 55 #[.slice (some ⟨b, off, none⟩) ns.length cap, .int .i64 i] w fun e w' => e = .returned (.int .i64 (treeEnd ns i)) ∧ w' = w := by
  by_cases hin : 0 ≤ i ∧ i < ns.length
  · obtain ⟨h0, h1⟩ := hin
    obtain ⟨k0, rfl⟩ := Int.eq_ofNat_of_zero_le h0
    have hT := hide (show treeEnd ns (k0 : Int) = endL ns.length ((kidsOf ns).drop k0) 1 k0 by unfold treeEnd; rw [if_pos ⟨h0, h1⟩, Int.toNat_natCast])
    have h2 : ¬ ((k0 : Int) < 0) := by omega
    have h3 : ¬ ((ns.length : Int) ≤ (k0 : Int)) := by omega
    go_enter Tryz.func55, Tryz.ntmps55
    go_wp2
    clear h2 h3
    go_loop [1, 5] (fun a o => ∃ (k : Nat) (owed : Int), k ≤ ns.length ∧ a = .int .i64 k ∧ o = .int .i64 owed ∧ 0 ≤ owed ∧ owed ≤ 1 + (k : Int) * 1048576 ∧ endL ns.length ((kidsOf ns).drop k) owed k = treeEnd ns (k0 : Int)) (fun a _ => ns.length + 1 - (intOf a).toNat)
    case atStart => exact ⟨k0, 1, by omega, rfl, rfl, by omega, by omega, (unhide hT).symm⟩
    case round =>
      obtain ⟨k, owed, hk, rfl, rfl, ho0, ho1, hend⟩ := hrel
      have HE := hide hend
      clear hend
      by_cases hpos : 0 < owed
      · by_cases hlt : k < ns.length
        · obtain ⟨_, _, _, c3⟩ := hc k hlt
          by_cases hn : ns[k].kids < 0
          · have hf := hide ((endL_bad _ ns k owed hpos hlt (.inl hn)).symm.trans (unhide HE))
            go_wp2
            go_ret
            exact ⟨ret_i64 (unhide hf), rfl⟩
          · by_cases hm : (ns.length : Int) < ns[k].kids
            · have hf := hide ((endL_bad _ ns k owed hpos hlt (.inr hm)).symm.trans (unhide HE))
              go_wp2
              go_ret
              exact ⟨ret_i64 (unhide hf), rfl⟩
            · have hf := hide ((endL_step _ ns k owed hpos hlt hn hm).symm.trans (unhide HE))
              go_wp2
              go_round
              case rel => exact ⟨k + 1, _, by omega, by go_num, rfl, by omega, by omega, unhide hf⟩
              case measure => simp [intOf]; omega
        · have hf := hide ((endL_out _ ns k owed hpos hlt).symm.trans (unhide HE))
          go_wp2
          go_ret
          exact ⟨ret_i64 (unhide hf), rfl⟩
      · have hf := hide ((endL_done ns.length ((kidsOf ns).drop k) owed k hpos).symm.trans (unhide HE))
        go_wp2
        go_ret
        exact ⟨ret_i64 (unhide hf), rfl⟩
  · have hT := hide (show treeEnd ns i = -1 by unfold treeEnd; rw [if_neg hin])
    by_cases h2 : i < 0
    · clear hin
      go_enter Tryz.func55, Tryz.ntmps55
      go_wp2
      go_ret
      exact ⟨ret_i64 (unhide hT).symm, rfl⟩
    · have h3 : (ns.length : Int) ≤ i := by omega
      clear hin
      go_enter Tryz.func55, Tryz.ntmps55
      go_wp2
      go_ret
      exact ⟨ret_i64 (unhide hT).symm, rfl⟩

theorem endL_many_at (L : Int) (ns : List NodeV) (k : Nat) (owed : Int) (h : (ns.length : Int) < owed) : endL L ((kidsOf ns).drop k) owed k = -1 := by
  apply endL_many
  have : ((kidsOf ns).drop k).length ≤ ns.length := by simp [kidsOf]
  omega

end Go.Proofs.YtjfebnplffpmoaaGreatDoor

namespace Go.Proofs.YtjfebnplffpmoaaGreatDoor
open Go.RowKit Go.Maps Go.Deep

/-- the nodes of a forest, each ahead of all that is beneath it -/
def fl : BT NodeV → List NodeV
  | .nil => []
  | .node _ _ x l r => x :: (fl l ++ fl r)
/-- how many trees a forest has -/
def cnt : BT NodeV → Nat
  | .nil => 0
  | .node _ _ _ _ r => cnt r + 1
/-- how deep it is -/
def dp : BT NodeV → Nat
  | .nil => 0
  | .node _ _ _ l r => max (dp l + 1) (dp r)
/-- each node has as many kids as it says -/
def kok : BT NodeV → Prop
  | .nil => True
  | .node _ _ x l r => x.kids = cnt l ∧ kok l ∧ kok r
def app : BT NodeV → BT NodeV → BT NodeV
  | .nil, g => g
  | .node b o x l r, g => .node b o x l (app r g)

theorem fl_app (f g : BT NodeV) : fl (app f g) = fl f ++ fl g := by
  induction f with
  | nil => rfl
  | node b o x l r _ ih => simp [app, fl, ih]
theorem cnt_app (f g : BT NodeV) : cnt (app f g) = cnt f + cnt g := by
  induction f with
  | nil => simp [app, cnt]
  | node b o x l r _ ih => simp only [app, cnt, ih]; omega
theorem dp_app (f g : BT NodeV) : dp (app f g) = max (dp f) (dp g) := by
  induction f with
  | nil => simp [app, dp]
  | node b o x l r _ ih => simp only [app, dp, ih]; omega
theorem kok_app (f g : BT NodeV) : kok (app f g) ↔ kok f ∧ kok g := by
  induction f with
  | nil => simp [app, kok]
  | node b o x l r _ ih => simp [app, kok, ih, and_assoc]
theorem app_nil (f : BT NodeV) : app f .nil = f := by
  induction f with
  | nil => rfl
  | node b o x l r _ ih => simp [app, ih]
theorem app_assoc (f g h : BT NodeV) : app (app f g) h = app f (app g h) := by
  induction f with
  | nil => rfl
  | node b o x l r _ ih => simp [app, ih]
theorem cnt_le (f : BT NodeV) : cnt f ≤ (fl f).length := by
  induction f with
  | nil => simp [cnt, fl]
  | node b o x l r _ ih => simp [cnt, fl]; omega
theorem split_at (f : BT NodeV) : ∀ c m : Nat, cnt f = c + m → ∃ f1 f2, f = app f1 f2 ∧ cnt f1 = c ∧ cnt f2 = m := by
  induction f with
  | nil =>
    intro c m h
    simp only [cnt] at h
    exact ⟨.nil, .nil, rfl, by simp only [cnt]; omega, by simp only [cnt]; omega⟩
  | node b o x l r _ ih =>
    intro c m h
    cases c with
    | zero => exact ⟨.nil, .node b o x l r, rfl, rfl, by omega⟩
    | succ c =>
      obtain ⟨f1, f2, e, h1, h2⟩ := ih c m (by simp [cnt] at h; omega)
      exact ⟨.node b o x l f1, f2, by simp [app, e], by simp [cnt, h1], h2⟩

theorem kidsOf_app (a b : List NodeV) : kidsOf (a ++ b) = kidsOf a ++ kidsOf b := by simp [kidsOf]
theorem kidsOf_cons (x : NodeV) (b : List NodeV) : kidsOf (x :: b) = x.kids :: kidsOf b := rfl

theorem endL_forest (L : Int) (f : BT NodeV) : ∀ (rest : List NodeV) (m : Nat) (a : Int), kok f → ((fl f).length : Int) ≤ L →
    endL L (kidsOf (fl f ++ rest)) ((cnt f + m : Nat) : Int) a = endL L (kidsOf rest) m (a + (fl f).length) := by
  induction f with
  | nil => intro rest m a _ _; simp [fl, cnt]
  | node b o x l r ihl ihr =>
    intro rest m a hk hL
    obtain ⟨hx, hl, hr⟩ := hk
    have hll := cnt_le l
    simp only [fl, List.length_cons, List.length_append] at hL ⊢
    rw [List.cons_append, kidsOf_cons, List.append_assoc]
    have h0 : (0 : Int) < ((cnt (.node b o x l r) + m : Nat) : Int) := by simp [cnt]; omega
    have h1 : ¬ (x.kids < 0 ∨ L < x.kids) := by rw [hx]; omega
    rw [endL, if_pos h0, if_neg h1, hx]
    have e : ((cnt (.node b o x l r) + m : Nat) : Int) - 1 + (cnt l : Int) = ((cnt l + (cnt r + m) : Nat) : Int) := by simp [cnt]; omega
    rw [e, ihl _ _ _ hl (by omega), ihr _ _ _ hr (by omega)]
    congr 1
    omega

theorem forest_of (L : Int) : ∀ (ns : List NodeV) (m : Nat) (a : Int), 0 ≤ a → endL L (kidsOf ns) m a ≠ -1 → ∃ f rest, ns = fl f ++ rest ∧ cnt f = m ∧ kok f := by
  intro ns
  induction ns with
  | nil =>
    intro m a ha h
    cases m with
    | zero => exact ⟨.nil, [], rfl, rfl, trivial⟩
    | succ m =>
      exfalso
      apply h
      have : (0 : Int) < ((m + 1 : Nat) : Int) := by omega
      simp only [kidsOf, List.map_nil, endL, if_pos this]
  | cons x t ih =>
    intro m a ha h
    cases m with
    | zero => exact ⟨.nil, x :: t, rfl, rfl, trivial⟩
    | succ m =>
      have h0 : (0 : Int) < ((m + 1 : Nat) : Int) := by omega
      rw [kidsOf_cons, endL, if_pos h0] at h
      by_cases hb : x.kids < 0 ∨ L < x.kids
      · rw [if_pos hb] at h; exact absurd rfl h
      · rw [if_neg hb] at h
        obtain ⟨c, hc⟩ := Int.eq_ofNat_of_zero_le (show 0 ≤ x.kids by omega)
        have e : ((m + 1 : Nat) : Int) - 1 + x.kids = ((c + m : Nat) : Int) := by rw [hc]; omega
        rw [e] at h
        obtain ⟨f, rest, rfl, hcf, hk⟩ := ih (c + m) (a + 1) (by omega) h
        obtain ⟨f1, f2, rfl, h1, h2⟩ := split_at f c m hcf
        rw [kok_app] at hk
        refine ⟨.node 0 0 x f1 f2, rest, ?_, by simp [cnt, h2], ?_⟩
        · simp [fl, fl_app]
        · exact ⟨by rw [hc, h1], hk.1, hk.2⟩

/-- a tree stands in a list of nodes, from a place on -/
theorem treeEnd_at (pre post : List NodeV) (x : NodeV) (l : BT NodeV) (hk : x.kids = cnt l) (hl : kok l) :
    treeEnd (pre ++ (x :: fl l ++ post)) pre.length = ((pre.length + 1 + (fl l).length : Nat) : Int) := by
  unfold treeEnd
  rw [if_pos ⟨by omega, by simp; omega⟩, Int.toNat_natCast]
  have e1 : (kidsOf (pre ++ (x :: fl l ++ post))).drop pre.length = kidsOf (fl (.node 0 0 x l .nil) ++ post) := by
    rw [kidsOf_app, List.drop_append_of_le_length (by simp [kidsOf])]
    simp [kidsOf, fl]
  rw [e1]
  have := endL_forest ((pre ++ (x :: fl l ++ post)).length : Int) (.node 0 0 x l .nil) post 0 (pre.length : Int) ⟨hk, hl, trivial⟩ (by simp [fl]; omega)
  rw [show ((cnt (.node 0 0 x l .nil) + 0 : Nat) : Int) = 1 from rfl] at this
  rw [this]
  have ez : ((0 : Nat) : Int) = 0 := rfl
  rw [ez, endL_zero]
  simp [fl]
  omega

/-- a list that ends where its first tree ends is that tree -/
theorem tree_of (ns : List NodeV) (h : treeEnd ns 0 = ns.length) (h0 : ns ≠ []) : ∃ x l, ns = x :: fl l ∧ x.kids = cnt l ∧ kok l := by
  have hlen : 0 < ns.length := List.length_pos_iff.2 h0
  have hE : endL ns.length (kidsOf ns) 1 0 = ns.length := by
    unfold treeEnd at h
    rw [if_pos ⟨by omega, by omega⟩] at h
    simpa using h
  obtain ⟨f, rest, e, hc, hk⟩ := forest_of ns.length ns 1 0 (by omega) (by
    have e1 : ((1 : Nat) : Int) = 1 := rfl
    rw [e1, hE]; omega)
  have hE2 := endL_forest (ns.length : Int) f rest 0 0 hk (by rw [e]; simp; omega)
  rw [← e] at hE2
  have e1 : ((cnt f + 0 : Nat) : Int) = 1 := by rw [hc]; rfl
  have ez : ((0 : Nat) : Int) = 0 := rfl
  rw [e1, hE, ez, endL_zero] at hE2
  have hr : rest = [] := by
    have : (fl f).length = ns.length := by omega
    rw [e] at this
    simp at this
    exact this
  subst hr
  match f, hc, hk with
  | .node b o x l .nil, _, hk =>
    refine ⟨x, l, by rw [e]; simp [fl], hk.1, hk.2.1⟩
  | .node b o x l (.node b' o' x' l' r'), hc, _ => simp [cnt] at hc
  | .nil, hc, _ => simp [cnt] at hc

end Go.Proofs.YtjfebnplffpmoaaGreatDoor
