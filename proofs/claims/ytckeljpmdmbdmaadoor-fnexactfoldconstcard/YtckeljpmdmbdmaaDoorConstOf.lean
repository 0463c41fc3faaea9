/-
  The number of a constant: what both sides answer at a tree, and at any list.
-/
import Derived.Test.YtckeljpmdmbdmaaDoorFormDeep
import Derived.Test.YtckeljpmdmbdmaaDoorAssertAll
set_option linter.unusedVariables false
namespace Go.Proofs.YtckeljpmdmbdmaaDoor
open Go.RowKit Go.Maps Go.Deep

/-- the number of a constant: a number, or one that is not 0 with a sign ahead -/
def constT (x : NodeV) (l : BT NodeV) : Option Int :=
  if x.kind = 1 then some x.num
  else if x.kind = 3 then
    match l with
    | .node _ _ y _ _ => if y.kind = 1 ∧ ¬ y.num = 0 then some (-y.num) else none
    | .nil => none
  else none
def constRet (c : Option Int) : Value := .tuple #[.int .i64 (c.getD 0), .bool c.isSome]
theorem const_num {x : NodeV} {l : BT NodeV} (h : x.kind = 1) : constT x l = some x.num := by unfold constT; rw [if_pos h]
theorem const_other {x : NodeV} {l : BT NodeV} (h1 : ¬ x.kind = 1) (h3 : ¬ x.kind = 3) : constT x l = none := by unfold constT; rw [if_neg h1, if_neg h3]
theorem const_neg {x y : NodeV} {b o : Nat} {m r : BT NodeV} (h : x.kind = 3) (hy : y.kind = 1) (hn : ¬ y.num = 0) : constT x (.node b o y m r) = some (-y.num) := by
  unfold constT; rw [if_neg (by omega), if_pos h]; simp [hy, hn]
theorem const_negno {x y : NodeV} {b o : Nat} {m r : BT NodeV} (h : x.kind = 3) (hy : ¬ (y.kind = 1 ∧ ¬ y.num = 0)) : constT x (.node b o y m r) = none := by
  unfold constT; rw [if_neg (by omega), if_pos h]; simp only; rw [if_neg hy]
theorem const_negnil {x : NodeV} (h : x.kind = 3) : constT x .nil = none := by unfold constT; rw [if_neg (by omega), if_pos h]

def ConstSaid (w : World) (v : Value) (c : Option Int) : Prop := Calls Tryd.prog 24 #[v] w fun e w' => Hid (e = .returned (constRet c)) ∧ Below w.heap.size w w'

set_option maxHeartbeats 800000 in
theorem constOf_num (n : Int) (w : World) : ConstSaid w (.iface 74 (.agg #[.int .i64 n])) (some n) := by
  unfold ConstSaid
  have q0 := is_num_num (.agg #[.int .i64 n])
  go_enter Tryd.func24, Tryd.ntmps24
  go_wp2
  go_ret2
  exact ⟨rfl, (Below.refl _ _).alloc (Nat.le_refl _) _⟩

/-- a form that is neither a number nor one with a sign ahead -/
def isPlain (t : TypeId) : Prop := t = 99 ∨ t = 102 ∨ t = 123 ∨ t = 105 ∨ t = 108 ∨ t = 111
theorem plain_num {t : TypeId} (h : isPlain t ∨ t = 77) (u : Value) (w : World) : (Instr.typeAssert (.iface t u) 44 74 true).run Tryd.prog w = .ok (.tuple #[.agg #[.int .i64 0], .bool false]) w := by
  rcases h with (rfl | rfl | rfl | rfl | rfl | rfl) | rfl
  · exact is_num_name u w
  · exact is_num_sign u w
  · exact is_num_call u w
  · exact is_num_if u w
  · exact is_num_let u w
  · exact is_num_rep u w
  · exact is_num_ahead u w
theorem plain_ahead {t : TypeId} (h : isPlain t) (u : Value) (w : World) : (Instr.typeAssert (.iface t u) 44 77 true).run Tryd.prog w = .ok (.tuple #[.agg #[.int .i64 0, .nilIface], .bool false]) w := by
  rcases h with rfl | rfl | rfl | rfl | rfl | rfl
  · exact is_ahead_name u w
  · exact is_ahead_sign u w
  · exact is_ahead_call u w
  · exact is_ahead_if u w
  · exact is_ahead_let u w
  · exact is_ahead_rep u w

set_option maxHeartbeats 800000 in
theorem constOf_plain (t : TypeId) (u : Value) (w : World) (h : isPlain t) : ConstSaid w (.iface t u) none := by
  unfold ConstSaid
  have q0 := plain_num (.inl h) u
  have q1 := plain_ahead h u
  clear h
  go_enter Tryd.func24, Tryd.ntmps24
  go_wp2
  go_ret2
  exact ⟨rfl, ((Below.refl _ _).alloc (Nat.le_refl _) _).alloc (by simp) _⟩
set_option maxHeartbeats 800000 in
theorem constOf_not (t : TypeId) (u : Value) (w : World) : ConstSaid w (.iface 77 (.agg #[.int .i64 4, .iface t u])) none := by
  unfold ConstSaid
  have q0 := is_num_ahead (.agg #[.int .i64 4, .iface t u])
  have q1 := is_ahead_ahead (.agg #[.int .i64 4, .iface t u])
  go_enter Tryd.func24, Tryd.ntmps24
  go_wp2
  go_ret2
  exact ⟨rfl, ((Below.refl _ _).alloc (Nat.le_refl _) _).alloc (by simp) _⟩
set_option maxHeartbeats 800000 in
theorem constOf_negother (t : TypeId) (u : Value) (w : World) (h : isPlain t ∨ t = 77) : ConstSaid w (.iface 77 (.agg #[.int .i64 3, .iface t u])) none := by
  unfold ConstSaid
  have q0 := is_num_ahead (.agg #[.int .i64 3, .iface t u])
  have q1 := is_ahead_ahead (.agg #[.int .i64 3, .iface t u])
  have q2 := plain_num h u
  clear h
  go_enter Tryd.func24, Tryd.ntmps24
  go_wp2
  go_ret2
  exact ⟨rfl, (((Below.refl _ _).alloc (Nat.le_refl _) _).alloc (by simp) _).alloc (by simp; omega) _⟩
set_option maxHeartbeats 800000 in
theorem constOf_negnum (n : Int) (w : World) (h0 : 0 ≤ n) (h1 : n ≤ 999999999999999999) : ConstSaid w (.iface 77 (.agg #[.int .i64 3, .iface 74 (.agg #[.int .i64 n])])) (if n = 0 then none else some (-n)) := by
  unfold ConstSaid
  have q0 := is_num_ahead (.agg #[.int .i64 3, .iface 74 (.agg #[.int .i64 n])])
  have q1 := is_ahead_ahead (.agg #[.int .i64 3, .iface 74 (.agg #[.int .i64 n])])
  have q2 := is_num_num (.agg #[.int .i64 n])
  by_cases hz : n = 0
  · subst hz
    go_enter Tryd.func24, Tryd.ntmps24
    go_wp2
    go_ret2
    exact ⟨rfl, (((Below.refl _ _).alloc (Nat.le_refl _) _).alloc (by simp) _).alloc (by simp; omega) _⟩
  · have e0 : (n == 0) = false := by simpa using hz
    rw [if_neg hz]
    clear hz
    go_enter Tryd.func24, Tryd.ntmps24
    go_wp2
    go_ret2
    exact ⟨rfl, (((Below.refl _ _).alloc (Nat.le_refl _) _).alloc (by simp) _).alloc (by simp; omega) _⟩

theorem own_num {x : NodeV} (h : ownB x = true) (hk : x.kind = 1) : 0 ≤ x.num ∧ x.num ≤ 999999999999999999 := by
  obtain ⟨k, n, s, c⟩ := x
  simp only at hk
  subst hk
  simp [ownB, arity, namedB] at h
  show 0 ≤ n ∧ n ≤ 999999999999999999
  omega

theorem constOf_any (w : World) (B : Nat) (x : NodeV) (l : BT NodeV) (ws : List Value) (v : Value) (hf : FormsAre B w l ws) (hn : IsNode B w x ws v) (hown : ∀ n ∈ fl l, ownB n = true) : ConstSaid w v (constT x l) := by
  rcases hn with ⟨hk, rfl, rfl⟩ | ⟨hk, rfl, rfl⟩ | ⟨a, hk, rfl, rfl⟩ | ⟨a, b, hk, rfl, rfl⟩ | ⟨g, cap, hk, _, _, _, _, rfl⟩ | ⟨a, b, c, hk, rfl, rfl⟩ | ⟨a, b, hk, rfl, rfl⟩ | ⟨a, b, c, hk, rfl, rfl⟩
  · rw [const_num hk]; exact constOf_num _ _
  · rw [const_other (by omega) (by omega)]; exact constOf_plain _ _ _ (.inl rfl)
  · cases l with
    | nil => simp [FormsAre] at hf
    | node b' o' y m r =>
      obtain ⟨v', rest, ws', he, h1, h2, h3⟩ := hf
      simp only [List.cons.injEq] at he
      obtain ⟨rfl, rfl⟩ := he
      rcases hk with hk | hk
      · rw [hk]
        rcases h2 with ⟨hy, rfl, rfl⟩ | ⟨hy, rfl, rfl⟩ | ⟨_, hy, rfl, rfl⟩ | ⟨_, _, hy, rfl, rfl⟩ | ⟨_, _, hy, _, _, _, _, rfl⟩ | ⟨_, _, _, hy, rfl, rfl⟩ | ⟨_, _, hy, rfl, rfl⟩ | ⟨_, _, _, hy, rfl, rfl⟩
        · obtain ⟨n0, n1⟩ := own_num (hown y (by simp [fl])) hy
          have := constOf_negnum y.num w n0 n1
          by_cases hz : y.num = 0
          · rw [const_negno hk (by omega)]; rw [if_pos hz] at this; exact this
          · rw [const_neg hk hy hz]; rw [if_neg hz] at this; exact this
        all_goals
          rw [const_negno hk (by omega)]
          exact constOf_negother _ _ _ (by simp [isPlain])
      · rw [hk, const_other (by omega) (by omega)]
        obtain ⟨t, u, rfl⟩ := h2.iface
        exact constOf_not _ _ _
  · rw [const_other (by omega) (by omega)]; exact constOf_plain _ _ _ (by simp [isPlain])
  · rw [const_other (by omega) (by omega)]; exact constOf_plain _ _ _ (by simp [isPlain])
  · rw [const_other (by omega) (by omega)]; exact constOf_plain _ _ _ (by simp [isPlain])
  · rw [const_other (by omega) (by omega)]; exact constOf_plain _ _ _ (by simp [isPlain])
  · rw [const_other (by omega) (by omega)]; exact constOf_plain _ _ _ (by simp [isPlain])

end Go.Proofs.YtckeljpmdmbdmaaDoor
