/-
  Lists of nodes as forests: a node, what is beneath it, what stands behind it. Plain mathematics: no program is named here.
-/
import Derived.Test.YtaonajalokhngaaGreatDoorMerged5
import Derived.Deep.Trees
namespace Go.Proofs.YtaonajalokhngaaGreatDoor
open Go.RowKit Go.Maps Go.Deep

/-- the nodes of a forest, each ahead of all that is beneath it -/
def fl : BT NodeV → List NodeV
  | .nil => []
  | .node _ _ x l r => x :: (fl l ++ fl r)
/-- how many trees a forest has -/
def cnt : BT NodeV → Nat
  | .nil => 0
  | .node _ _ _ _ r => cnt r + 1
/-- how deep it is -/
def dp : BT NodeV → Nat
  | .nil => 0
  | .node _ _ _ l r => max (dp l + 1) (dp r)
/-- each node has as many kids as it says -/
def kok : BT NodeV → Prop
  | .nil => True
  | .node _ _ x l r => x.kids = cnt l ∧ kok l ∧ kok r
def app : BT NodeV → BT NodeV → BT NodeV
  | .nil, g => g
  | .node b o x l r, g => .node b o x l (app r g)

theorem fl_app (f g : BT NodeV) : fl (app f g) = fl f ++ fl g := by
  induction f with
  | nil => rfl
  | node b o x l r _ ih => simp [app, fl, ih]
theorem cnt_app (f g : BT NodeV) : cnt (app f g) = cnt f + cnt g := by
  induction f with
  | nil => simp [app, cnt]
  | node b o x l r _ ih => simp only [app, cnt, ih]; omega
theorem dp_app (f g : BT NodeV) : dp (app f g) = max (dp f) (dp g) := by
  induction f with
  | nil => simp [app, dp]
  | node b o x l r _ ih => simp only [app, dp, ih]; omega
theorem kok_app (f g : BT NodeV) : kok (app f g) ↔ kok f ∧ kok g := by
  induction f with
  | nil => simp [app, kok]
  | node b o x l r _ ih => simp [app, kok, ih, and_assoc]
theorem app_nil (f : BT NodeV) : app f .nil = f := by
  induction f with
  | nil => rfl
  | node b o x l r _ ih => simp [app, ih]
theorem app_assoc (f g h : BT NodeV) : app (app f g) h = app f (app g h) := by
  induction f with
  | nil => rfl
  | node b o x l r _ ih => simp [app, ih]
theorem cnt_le (f : BT NodeV) : cnt f ≤ (fl f).length := by
  induction f with
  | nil => simp [cnt, fl]
  | node b o x l r _ ih => simp [cnt, fl]; omega
theorem split_at (f : BT NodeV) : ∀ c m : Nat, cnt f = c + m → ∃ f1 f2, f = app f1 f2 ∧ cnt f1 = c ∧ cnt f2 = m := by
  induction f with
  | nil =>
    intro c m h
    simp only [cnt] at h
    exact ⟨.nil, .nil, rfl, by simp only [cnt]; omega, by simp only [cnt]; omega⟩
  | node b o x l r _ ih =>
    intro c m h
    cases c with
    | zero => exact ⟨.nil, .node b o x l r, rfl, rfl, by omega⟩
    | succ c =>
      obtain ⟨f1, f2, e, h1, h2⟩ := ih c m (by simp [cnt] at h; omega)
      exact ⟨.node b o x l f1, f2, by simp [app, e], by simp [cnt, h1], h2⟩

theorem kidsOf_app (a b : List NodeV) : kidsOf (a ++ b) = kidsOf a ++ kidsOf b := by simp [kidsOf]
theorem kidsOf_cons (x : NodeV) (b : List NodeV) : kidsOf (x :: b) = x.kids :: kidsOf b := rfl

theorem endL_forest (L : Int) (f : BT NodeV) : ∀ (rest : List NodeV) (m : Nat) (a : Int), kok f → ((fl f).length : Int) ≤ L →
    endL L (kidsOf (fl f ++ rest)) ((cnt f + m : Nat) : Int) a = endL L (kidsOf rest) m (a + (fl f).length) := by
  induction f with
  | nil => intro rest m a _ _; simp [fl, cnt]
  | node b o x l r ihl ihr =>
    intro rest m a hk hL
    obtain ⟨hx, hl, hr⟩ := hk
    have hll := cnt_le l
    simp only [fl, List.length_cons, List.length_append] at hL ⊢
    rw [List.cons_append, kidsOf_cons, List.append_assoc]
    have h0 : (0 : Int) < ((cnt (.node b o x l r) + m : Nat) : Int) := by simp [cnt]; omega
    have h1 : ¬ (x.kids < 0 ∨ L < x.kids) := by rw [hx]; omega
    rw [endL, if_pos h0, if_neg h1, hx]
    have e : ((cnt (.node b o x l r) + m : Nat) : Int) - 1 + (cnt l : Int) = ((cnt l + (cnt r + m) : Nat) : Int) := by simp [cnt]; omega
    rw [e, ihl _ _ _ hl (by omega), ihr _ _ _ hr (by omega)]
    congr 1
    omega

theorem forest_of (L : Int) : ∀ (ns : List NodeV) (m : Nat) (a : Int), 0 ≤ a → endL L (kidsOf ns) m a ≠ -1 → ∃ f rest, ns = fl f ++ rest ∧ cnt f = m ∧ kok f := by
  intro ns
  induction ns with
  | nil =>
    intro m a ha h
    cases m with
    | zero => exact ⟨.nil, [], rfl, rfl, trivial⟩
    | succ m =>
      exfalso
      apply h
      have : (0 : Int) < ((m + 1 : Nat) : Int) := by omega
      simp only [kidsOf, List.map_nil, endL, if_pos this]
  | cons x t ih =>
    intro m a ha h
    cases m with
    | zero => exact ⟨.nil, x :: t, rfl, rfl, trivial⟩
    | succ m =>
      have h0 : (0 : Int) < ((m + 1 : Nat) : Int) := by omega
      rw [kidsOf_cons, endL, if_pos h0] at h
      by_cases hb : x.kids < 0 ∨ L < x.kids
      · rw [if_pos hb] at h; exact absurd rfl h
      · rw [if_neg hb] at h
        obtain ⟨c, hc⟩ := Int.eq_ofNat_of_zero_le (show 0 ≤ x.kids by omega)
        have e : ((m + 1 : Nat) : Int) - 1 + x.kids = ((c + m : Nat) : Int) := by rw [hc]; omega
        rw [e] at h
        obtain ⟨f, rest, rfl, hcf, hk⟩ := ih (c + m) (a + 1) (by omega) h
        obtain ⟨f1, f2, rfl, h1, h2⟩ := split_at f c m hcf
        rw [kok_app] at hk
        refine ⟨.node 0 0 x f1 f2, rest, ?_, by simp [cnt, h2], ?_⟩
        · simp [fl, fl_app]
        · exact ⟨by rw [hc, h1], hk.1, hk.2⟩

/-- a tree stands in a list of nodes, from a place on -/
theorem treeEnd_at (pre post : List NodeV) (x : NodeV) (l : BT NodeV) (hk : x.kids = cnt l) (hl : kok l) :
    treeEnd (pre ++ (x :: fl l ++ post)) pre.length = ((pre.length + 1 + (fl l).length : Nat) : Int) := by
  unfold treeEnd
  rw [if_pos ⟨by omega, by simp; omega⟩, Int.toNat_natCast]
  have e1 : (kidsOf (pre ++ (x :: fl l ++ post))).drop pre.length = kidsOf (fl (.node 0 0 x l .nil) ++ post) := by
    rw [kidsOf_app, List.drop_append_of_le_length (by simp [kidsOf])]
    simp [kidsOf, fl]
  rw [e1]
  have := endL_forest ((pre ++ (x :: fl l ++ post)).length : Int) (.node 0 0 x l .nil) post 0 (pre.length : Int) ⟨hk, hl, trivial⟩ (by simp [fl]; omega)
  rw [show ((cnt (.node 0 0 x l .nil) + 0 : Nat) : Int) = 1 from rfl] at this
  rw [this]
  have ez : ((0 : Nat) : Int) = 0 := rfl
  rw [ez, endL_zero]
  simp [fl]
  omega

/-- a list that ends where its first tree ends is that tree -/
theorem tree_of (ns : List NodeV) (h : treeEnd ns 0 = ns.length) (h0 : ns ≠ []) : ∃ x l, ns = x :: fl l ∧ x.kids = cnt l ∧ kok l := by
  have hlen : 0 < ns.length := List.length_pos_iff.2 h0
  have hE : endL ns.length (kidsOf ns) 1 0 = ns.length := by
    unfold treeEnd at h
    rw [if_pos ⟨by omega, by omega⟩] at h
    simpa using h
  obtain ⟨f, rest, e, hc, hk⟩ := forest_of ns.length ns 1 0 (by omega) (by
    have e1 : ((1 : Nat) : Int) = 1 := rfl
    rw [e1, hE]; omega)
  have hE2 := endL_forest (ns.length : Int) f rest 0 0 hk (by rw [e]; simp; omega)
  rw [← e] at hE2
  have e1 : ((cnt f + 0 : Nat) : Int) = 1 := by rw [hc]; rfl
  have ez : ((0 : Nat) : Int) = 0 := rfl
  rw [e1, hE, ez, endL_zero] at hE2
  have hr : rest = [] := by
    have : (fl f).length = ns.length := by omega
    rw [e] at this
    simp at this
    exact this
  subst hr
  match f, hc, hk with
  | .node b o x l .nil, _, hk =>
    refine ⟨x, l, by rw [e]; simp [fl], hk.1, hk.2.1⟩
  | .node b o x l (.node b' o' x' l' r'), hc, _ => simp [cnt] at hc
  | .nil, hc, _ => simp [cnt] at hc

end Go.Proofs.YtaonajalokhngaaGreatDoor
