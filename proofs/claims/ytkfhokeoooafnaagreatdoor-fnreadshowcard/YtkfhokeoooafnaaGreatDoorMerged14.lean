/-
  The program's forms: values behind its own interface, one type a form; which form stands for which tree.
-/
/-
  The program makes the form of a tree out of its nodes, and tells how deep it is.
-/
import Derived.Test.YtkfhokeoooafnaaGreatDoorImplNode
namespace Go.Proofs.YtkfhokeoooafnaaGreatDoor
open Go.RowKit Go.Maps Go.Deep

/-- values lie one behind the other in a block -/
def RowAt (w : World) (g : Nat) (ws : List Value) : Prop := ∀ i (h : i < ws.length), w.cell? ⟨g, i, none⟩ = some ws[i]
/-- v is the form of a node over these forms; what it holds in memory lies in blocks from B on -/
def IsNode (B : Nat) (w : World) (x : NodeV) (ws : List Value) (v : Value) : Prop :=
  (x.kind = 1 ∧ ws = [] ∧ v = .iface 74 (.agg #[.int .i64 x.num])) ∨
  (x.kind = 2 ∧ ws = [] ∧ v = .iface 77 (.agg #[.string x.name])) ∨
  (∃ a, (x.kind = 3 ∨ x.kind = 4) ∧ ws = [a] ∧ v = .iface 79 (.agg #[.int .i64 x.kind, a])) ∨
  (∃ a b, (5 ≤ x.kind ∧ x.kind ≤ 17) ∧ ws = [a, b] ∧ v = .iface 82 (.agg #[.int .i64 x.kind, a, b])) ∨
  (∃ g cap, (18 ≤ x.kind ∧ x.kind ≤ 20) ∧ (ws.length : Int) = arity x.kind ∧ B ≤ g ∧ g < w.heap.size ∧ RowAt w g ws ∧ v = .iface 86 (.agg #[.int .i64 x.kind, .slice (some ⟨g, 0, none⟩) ws.length cap])) ∨
  (∃ a b c, x.kind = 21 ∧ ws = [a, b, c] ∧ v = .iface 89 (.agg #[a, b, c])) ∨
  (∃ a b, x.kind = 22 ∧ ws = [a, b] ∧ v = .iface 91 (.agg #[.string x.name, a, b])) ∨
  (∃ a b c, x.kind = 23 ∧ ws = [a, b, c] ∧ v = .iface 93 (.agg #[.string x.name, a, b, c]))
/-- these values are the forms of a forest's trees -/
def FormsAre (B : Nat) (w : World) : BT NodeV → List Value → Prop
  | .nil, vs => vs = []
  | .node _ _ x l r, vs => ∃ v rest ws, vs = v :: rest ∧ FormsAre B w l ws ∧ IsNode B w x ws v ∧ FormsAre B w r rest

/-- from block B on nothing that was there has turned -/
def Agree (B : Nat) (w w' : World) : Prop := w.heap.size ≤ w'.heap.size ∧ ∀ k, B ≤ k → k < w.heap.size → w'.heap[k]? = w.heap[k]?
theorem Agree.of_below {B : Nat} {w w' : World} (h : Below w.heap.size w w') : Agree B w w' := ⟨h.size, fun k _ hk => h.block k hk⟩
theorem Agree.setCell {B : Nat} (w : World) {g : Nat} (hg : g < B) (i : Nat) (v : Value) : Agree B w (w.setCell ⟨g, i, none⟩ v) :=
  ⟨by simp, fun k hk _ => Below.heap_setCell w ⟨g, i, none⟩ v k (by simp; omega)⟩
theorem RowAt.agree {B : Nat} {w w' : World} {g : Nat} {ws : List Value} (h : RowAt w g ws) (ha : Agree B w w') (hB : B ≤ g) (hg : g < w.heap.size) : RowAt w' g ws :=
  fun i hi => (World.cell?_of_block (w := w) (a := ⟨g, i, none⟩) (ha.2 g hB hg)).trans (h i hi)
theorem IsNode.agree {B : Nat} {w w' : World} {x : NodeV} {ws : List Value} {v : Value} (h : IsNode B w x ws v) (ha : Agree B w w') : IsNode B w' x ws v := by
  rcases h with h | h | h | h | ⟨g, cap, h1, h2, h3, h4, h5, h6⟩ | h | h | h
  · exact .inl h
  · exact .inr (.inl h)
  · exact .inr (.inr (.inl h))
  · exact .inr (.inr (.inr (.inl h)))
  · exact .inr (.inr (.inr (.inr (.inl ⟨g, cap, h1, h2, h3, Nat.lt_of_lt_of_le h4 ha.1, h5.agree ha h3 h4, h6⟩))))
  · exact .inr (.inr (.inr (.inr (.inr (.inl h)))))
  · exact .inr (.inr (.inr (.inr (.inr (.inr (.inl h))))))
  · exact .inr (.inr (.inr (.inr (.inr (.inr (.inr h))))))
theorem FormsAre.agree {B : Nat} {w w' : World} (ha : Agree B w w') : ∀ {f : BT NodeV} {vs : List Value}, FormsAre B w f vs → FormsAre B w' f vs := by
  intro f
  induction f with
  | nil => intro vs h; exact h
  | node b o x l r ihl ihr =>
    intro vs h
    obtain ⟨v, rest, ws, e, h1, h2, h3⟩ := h
    exact ⟨v, rest, ws, e, ihl h1, h2.agree ha, ihr h3⟩
theorem IsNode.mono {B B' : Nat} {w : World} {x : NodeV} {ws : List Value} {v : Value} (h : IsNode B w x ws v) (hB : B' ≤ B) : IsNode B' w x ws v := by
  rcases h with h | h | h | h | ⟨g, cap, h1, h2, h3, h4, h5, h6⟩ | h | h | h
  · exact .inl h
  · exact .inr (.inl h)
  · exact .inr (.inr (.inl h))
  · exact .inr (.inr (.inr (.inl h)))
  · exact .inr (.inr (.inr (.inr (.inl ⟨g, cap, h1, h2, Nat.le_trans hB h3, h4, h5, h6⟩))))
  · exact .inr (.inr (.inr (.inr (.inr (.inl h)))))
  · exact .inr (.inr (.inr (.inr (.inr (.inr (.inl h))))))
  · exact .inr (.inr (.inr (.inr (.inr (.inr (.inr h))))))
theorem FormsAre.mono {B B' : Nat} {w : World} (hB : B' ≤ B) : ∀ {f : BT NodeV} {vs : List Value}, FormsAre B w f vs → FormsAre B' w f vs := by
  intro f
  induction f with
  | nil => intro vs h; exact h
  | node b o x l r ihl ihr =>
    intro vs h
    obtain ⟨v, rest, ws, e, h1, h2, h3⟩ := h
    exact ⟨v, rest, ws, e, ihl h1, h2.mono hB, ihr h3⟩
theorem FormsAre.length {B : Nat} {w : World} : ∀ {f : BT NodeV} {vs : List Value}, FormsAre B w f vs → vs.length = cnt f := by
  intro f
  induction f with
  | nil => intro vs h; subst h; rfl
  | node b o x l r ihl ihr =>
    intro vs h
    obtain ⟨v, rest, ws, rfl, h1, h2, h3⟩ := h
    simp [cnt, ihr h3]
theorem FormsAre.app {B : Nat} {w : World} : ∀ {f g : BT NodeV} {vs us : List Value}, FormsAre B w f vs → FormsAre B w g us → FormsAre B w (app f g) (vs ++ us) := by
  intro f
  induction f with
  | nil => intro g vs us h h'; subst h; exact h'
  | node b o x l r ihl ihr =>
    intro g vs us h h'
    obtain ⟨v, rest, ws, rfl, h1, h2, h3⟩ := h
    exact ⟨v, rest ++ us, ws, rfl, h1, h2, ihr h3 h'⟩
theorem FormsAre.split {B : Nat} {w : World} : ∀ {f g : BT NodeV} {vs : List Value}, FormsAre B w (Go.Proofs.YtkfhokeoooafnaaGreatDoor.app f g) vs → FormsAre B w f (vs.take (cnt f)) ∧ FormsAre B w g (vs.drop (cnt f)) := by
  intro f
  induction f with
  | nil => intro g vs h; exact ⟨rfl, h⟩
  | node b o x l r ihl ihr =>
    intro g vs h
    obtain ⟨v, rest, ws, rfl, h1, h2, h3⟩ := h
    obtain ⟨h4, h5⟩ := ihr h3
    exact ⟨⟨v, rest.take (cnt r), ws, rfl, h1, h2, h4⟩, h5⟩

/-- what a call hands back is the form of a node -/
def RetForm (B : Nat) (x : NodeV) (ws : List Value) (e : Ending) (w' : World) : Prop := ∃ v, e = .returned v ∧ IsNode B w' x ws v

theorem RowAt.two {w : World} {g : Nat} {ws : List Value} (h : RowAt w g ws) {n : Nat} (hn : ws.length = n) : (0 < n → w.cell? ⟨g, 0, none⟩ = ws[0]?) ∧ (1 < n → w.cell? ⟨g, 1, none⟩ = ws[1]?) ∧ (2 < n → w.cell? ⟨g, 2, none⟩ = ws[2]?) := by
  subst hn
  refine ⟨fun i => ?_, fun i => ?_, fun i => ?_⟩ <;> rw [h _ i, List.getElem?_eq_getElem i]

set_option maxHeartbeats 1600000 in
theorem formOf_leaf (k m : Int) (s : ByteArray) (c : Int) (w : World) (B : Nat) (sv : Value) (hk : k = 1 ∨ k = 2) :
    Calls Tryz.prog 60 #[.agg #[.int .i64 k, .int .i64 m, .string s, .int .i64 c], sv] w fun e w' => RetForm B ⟨k, m, s, c⟩ [] e w' ∧ Below w.heap.size w w' := by
  rcases hk with rfl | rfl
  · go_enter Tryz.func60, Tryz.ntmps60
    go_wp2
    go_ret
    exact ⟨⟨_, rfl, .inl ⟨rfl, rfl, rfl⟩⟩, (Below.refl _ _).alloc (Nat.le_refl _) _⟩
  · go_enter Tryz.func60, Tryz.ntmps60
    go_wp2
    go_ret
    exact ⟨⟨_, rfl, .inr (.inl ⟨rfl, rfl, rfl⟩)⟩, (Below.refl _ _).alloc (Nat.le_refl _) _⟩

set_option maxHeartbeats 1600000 in
theorem formOf_ahead (k m : Int) (s : ByteArray) (c : Int) (w : World) (B g cap : Nat) (t0 : TypeId) (u0 : Value) (hg : g < w.heap.size) (h0 : w.cell? ⟨g, 0, none⟩ = some (.iface t0 u0)) (hk : k = 3 ∨ k = 4) :
    Calls Tryz.prog 60 #[.agg #[.int .i64 k, .int .i64 m, .string s, .int .i64 c], .slice (some ⟨g, 0, none⟩) 1 cap] w fun e w' => RetForm B ⟨k, m, s, c⟩ [.iface t0 u0] e w' ∧ Below w.heap.size w w' := by
  rcases hk with rfl | rfl
  all_goals
    go_enter Tryz.func60, Tryz.ntmps60
    go_wp2
    go_quiet (fail)
    go_wp2
    go_ret
    exact ⟨⟨_, rfl, .inr (.inr (.inl ⟨_, by simp, rfl, rfl⟩))⟩, below_dn ((Below.refl _ _).alloc (Nat.le_refl _) _) _⟩

set_option maxHeartbeats 1600000 in
theorem formOf_sign (k m : Int) (s : ByteArray) (c : Int) (w : World) (B g cap : Nat) (t0 t1 : TypeId) (u0 u1 : Value) (hg : g < w.heap.size) (h0 : w.cell? ⟨g, 0, none⟩ = some (.iface t0 u0)) (h1 : w.cell? ⟨g, 1, none⟩ = some (.iface t1 u1)) (hk : 5 ≤ k ∧ k ≤ 17) :
    Calls Tryz.prog 60 #[.agg #[.int .i64 k, .int .i64 m, .string s, .int .i64 c], .slice (some ⟨g, 0, none⟩) 2 cap] w fun e w' => RetForm B ⟨k, m, s, c⟩ [.iface t0 u0, .iface t1 u1] e w' ∧ Below w.heap.size w w' := by
  obtain ⟨hk5, hk17⟩ := hk
  have e1 : (k == 1) = false := by simp; omega
  have e2 : (k == 2) = false := by simp; omega
  have e3 : (k == 3) = false := by simp; omega
  have e4 : (k == 4) = false := by simp; omega
  have e18 : (k == 18) = false := by simp; omega
  have e19 : (k == 19) = false := by simp; omega
  have e20 : (k == 20) = false := by simp; omega
  have e21 : (k == 21) = false := by simp; omega
  have e22 : (k == 22) = false := by simp; omega
  have e23 : (k == 23) = false := by simp; omega
  go_enter Tryz.func60, Tryz.ntmps60
  go_wp2
  go_quiet (fail)
  go_wp2
  go_ret
  exact ⟨⟨_, rfl, .inr (.inr (.inr (.inl ⟨_, _, ⟨hk5, hk17⟩, rfl, rfl⟩)))⟩, below_dn ((Below.refl _ _).alloc (Nat.le_refl _) _) _⟩

set_option maxHeartbeats 1600000 in
theorem formOf_if (k m : Int) (s : ByteArray) (c : Int) (w : World) (B g cap : Nat) (t0 t1 t2 : TypeId) (u0 u1 u2 : Value) (hg : g < w.heap.size) (h0 : w.cell? ⟨g, 0, none⟩ = some (.iface t0 u0)) (h1 : w.cell? ⟨g, 1, none⟩ = some (.iface t1 u1)) (h2 : w.cell? ⟨g, 2, none⟩ = some (.iface t2 u2)) (hk : k = 21) :
    Calls Tryz.prog 60 #[.agg #[.int .i64 k, .int .i64 m, .string s, .int .i64 c], .slice (some ⟨g, 0, none⟩) 3 cap] w fun e w' => RetForm B ⟨k, m, s, c⟩ [.iface t0 u0, .iface t1 u1, .iface t2 u2] e w' ∧ Below w.heap.size w w' := by
  subst hk
  go_enter Tryz.func60, Tryz.ntmps60
  go_wp2
  go_quiet (fail)
  go_wp2
  go_ret
  exact ⟨⟨_, rfl, .inr (.inr (.inr (.inr (.inr (.inl ⟨_, _, _, rfl, rfl, rfl⟩)))))⟩, below_dn ((Below.refl _ _).alloc (Nat.le_refl _) _) _⟩

set_option maxHeartbeats 1600000 in
theorem formOf_let (k m : Int) (s : ByteArray) (c : Int) (w : World) (B g cap : Nat) (t0 t1 : TypeId) (u0 u1 : Value) (hg : g < w.heap.size) (h0 : w.cell? ⟨g, 0, none⟩ = some (.iface t0 u0)) (h1 : w.cell? ⟨g, 1, none⟩ = some (.iface t1 u1)) (hk : k = 22) :
    Calls Tryz.prog 60 #[.agg #[.int .i64 k, .int .i64 m, .string s, .int .i64 c], .slice (some ⟨g, 0, none⟩) 2 cap] w fun e w' => RetForm B ⟨k, m, s, c⟩ [.iface t0 u0, .iface t1 u1] e w' ∧ Below w.heap.size w w' := by
  subst hk
  go_enter Tryz.func60, Tryz.ntmps60
  go_wp2
  go_quiet (fail)
  go_wp2
  go_ret
  exact ⟨⟨_, rfl, .inr (.inr (.inr (.inr (.inr (.inr (.inl ⟨_, _, rfl, rfl, rfl⟩))))))⟩, below_dn ((Below.refl _ _).alloc (Nat.le_refl _) _) _⟩

set_option maxHeartbeats 1600000 in
theorem formOf_rep (k m : Int) (s : ByteArray) (c : Int) (w : World) (B g cap : Nat) (t0 t1 t2 : TypeId) (u0 u1 u2 : Value) (hg : g < w.heap.size) (h0 : w.cell? ⟨g, 0, none⟩ = some (.iface t0 u0)) (h1 : w.cell? ⟨g, 1, none⟩ = some (.iface t1 u1)) (h2 : w.cell? ⟨g, 2, none⟩ = some (.iface t2 u2)) (hk : k = 23) :
    Calls Tryz.prog 60 #[.agg #[.int .i64 k, .int .i64 m, .string s, .int .i64 c], .slice (some ⟨g, 0, none⟩) 3 cap] w fun e w' => RetForm B ⟨k, m, s, c⟩ [.iface t0 u0, .iface t1 u1, .iface t2 u2] e w' ∧ Below w.heap.size w w' := by
  subst hk
  go_enter Tryz.func60, Tryz.ntmps60
  go_wp2
  go_quiet (fail)
  go_wp2
  go_ret
  exact ⟨⟨_, rfl, .inr (.inr (.inr (.inr (.inr (.inr (.inr ⟨_, _, _, rfl, rfl, rfl⟩))))))⟩, below_dn ((Below.refl _ _).alloc (Nat.le_refl _) _) _⟩

set_option maxHeartbeats 1600000 in
theorem formOf_call (k m : Int) (s : ByteArray) (c : Int) (w : World) (B g cap : Nat) (ws : List Value) (hg : g < w.heap.size) (hB : B ≤ g) (hrow : RowAt w g ws) (hn : (ws.length : Int) = arity k) (hk : k = 18 ∨ k = 19 ∨ k = 20) :
    Calls Tryz.prog 60 #[.agg #[.int .i64 k, .int .i64 m, .string s, .int .i64 c], .slice (some ⟨g, 0, none⟩) ws.length cap] w fun e w' => RetForm B ⟨k, m, s, c⟩ ws e w' ∧ Below w.heap.size w w' := by
  have HR := hide hrow
  have HN := hide hn
  clear hrow hn
  have hK := hide (show 18 ≤ k ∧ k ≤ 20 by omega)
  rcases hk with rfl | rfl | rfl
  all_goals
    go_enter Tryz.func60, Tryz.ntmps60
    go_wp2
    go_ret
    exact ⟨⟨_, rfl, .inr (.inr (.inr (.inr (.inl ⟨g, cap, unhide hK, unhide HN, hB, by simp; omega, (unhide HR).agree (Agree.of_below ((Below.refl w.heap.size w).alloc (Nat.le_refl _) _)) hB hg, rfl⟩))))⟩, (Below.refl _ _).alloc (Nat.le_refl _) _⟩

theorem IsNode.iface {B : Nat} {w : World} {x : NodeV} {ws : List Value} {v : Value} (h : IsNode B w x ws v) : ∃ t u, v = .iface t u := by
  rcases h with ⟨_, _, h⟩ | ⟨_, _, h⟩ | ⟨_, _, _, h⟩ | ⟨_, _, _, _, h⟩ | ⟨_, _, _, _, _, _, _, h⟩ | ⟨_, _, _, _, _, h⟩ | ⟨_, _, _, _, h⟩ | ⟨_, _, _, _, _, h⟩
  all_goals exact ⟨_, _, h⟩
theorem FormsAre.iface {B : Nat} {w : World} : ∀ {f : BT NodeV} {vs : List Value}, FormsAre B w f vs → ∀ v ∈ vs, ∃ t u, v = .iface t u := by
  intro f
  induction f with
  | nil => intro vs h v hv; subst h; cases hv
  | node b o x l r ihl ihr =>
    intro vs h v hv
    obtain ⟨y, rest, ws, rfl, h1, h2, h3⟩ := h
    rcases List.mem_cons.1 hv with rfl | hv
    · exact h2.iface
    · exact ihr h3 v hv

theorem formOf_any (x : NodeV) (w : World) (B g cap : Nat) (ws : List Value) (hg : g < w.heap.size) (hB : B ≤ g) (hrow : RowAt w g ws) (h1 : 1 ≤ x.kind) (h23 : x.kind ≤ 23) (hn : (ws.length : Int) = arity x.kind) (hi : ∀ v ∈ ws, ∃ t u, v = .iface t u) :
    Calls Tryz.prog 60 #[.agg #[.int .i64 x.kind, .int .i64 x.num, .string x.name, .int .i64 x.kids], .slice (some ⟨g, 0, none⟩) ws.length cap] w fun e w' => RetForm B x ws e w' ∧ Below w.heap.size w w' := by
  obtain ⟨k, m, s, c⟩ := x
  simp only at h1 h23 hn ⊢
  by_cases c0 : k = 1 ∨ k = 2
  · have : ws = [] := List.eq_nil_of_length_eq_zero (by simp only [arity, if_pos c0] at hn; omega)
    subst this
    exact formOf_leaf k m s c w B _ c0
  · by_cases c1 : k = 3 ∨ k = 4
    · have hl : ws.length = 1 := by simp only [arity, if_neg c0, if_pos (show k = 3 ∨ k = 4 ∨ k = 20 by omega)] at hn; omega
      match ws, hl with
      | [a], _ =>
        obtain ⟨t0, u0, rfl⟩ := hi a (by simp)
        exact formOf_ahead k m s c w B g cap t0 u0 hg (hrow 0 (by simp)) c1
    · by_cases c2 : 5 ≤ k ∧ k ≤ 17
      · have hl : ws.length = 2 := by simp only [arity, if_neg c0, if_neg (show ¬ (k = 3 ∨ k = 4 ∨ k = 20) by omega), if_pos (show 5 ≤ k ∧ k ≤ 19 by omega)] at hn; omega
        match ws, hl with
        | [a, b], _ =>
          obtain ⟨t0, u0, rfl⟩ := hi a (by simp)
          obtain ⟨t1, u1, rfl⟩ := hi b (by simp)
          exact formOf_sign k m s c w B g cap t0 t1 u0 u1 hg (hrow 0 (by simp)) (hrow 1 (by simp)) c2
      · by_cases c3 : k = 18 ∨ k = 19 ∨ k = 20
        · exact formOf_call k m s c w B g cap ws hg hB hrow hn c3
        · by_cases c4 : k = 21
          · have hl : ws.length = 3 := by simp only [arity, if_neg c0, if_neg (show ¬ (k = 3 ∨ k = 4 ∨ k = 20) by omega), if_neg (show ¬ (5 ≤ k ∧ k ≤ 19) by omega), if_neg (show ¬ k = 22 by omega), if_pos (show k = 21 ∨ k = 23 by omega)] at hn; omega
            match ws, hl with
            | [a, b, d], _ =>
              obtain ⟨t0, u0, rfl⟩ := hi a (by simp)
              obtain ⟨t1, u1, rfl⟩ := hi b (by simp)
              obtain ⟨t2, u2, rfl⟩ := hi d (by simp)
              exact formOf_if k m s c w B g cap t0 t1 t2 u0 u1 u2 hg (hrow 0 (by simp)) (hrow 1 (by simp)) (hrow 2 (by simp)) c4
          · by_cases c5 : k = 22
            · have hl : ws.length = 2 := by simp only [arity, if_neg c0, if_neg (show ¬ (k = 3 ∨ k = 4 ∨ k = 20) by omega), if_neg (show ¬ (5 ≤ k ∧ k ≤ 19) by omega), if_pos c5] at hn; omega
              match ws, hl with
              | [a, b], _ =>
                obtain ⟨t0, u0, rfl⟩ := hi a (by simp)
                obtain ⟨t1, u1, rfl⟩ := hi b (by simp)
                exact formOf_let k m s c w B g cap t0 t1 u0 u1 hg (hrow 0 (by simp)) (hrow 1 (by simp)) c5
            · have c6 : k = 23 := by omega
              have hl : ws.length = 3 := by simp only [arity, if_neg c0, if_neg (show ¬ (k = 3 ∨ k = 4 ∨ k = 20) by omega), if_neg (show ¬ (5 ≤ k ∧ k ≤ 19) by omega), if_neg c5, if_pos (show k = 21 ∨ k = 23 by omega)] at hn; omega
              match ws, hl with
              | [a, b, d], _ =>
                obtain ⟨t0, u0, rfl⟩ := hi a (by simp)
                obtain ⟨t1, u1, rfl⟩ := hi b (by simp)
                obtain ⟨t2, u2, rfl⟩ := hi d (by simp)
                exact formOf_rep k m s c w B g cap t0 t1 t2 u0 u1 u2 hg (hrow 0 (by simp)) (hrow 1 (by simp)) (hrow 2 (by simp)) c6

end Go.Proofs.YtkfhokeoooafnaaGreatDoor

namespace Go.Proofs.YtkfhokeoooafnaaGreatDoor
open Go.RowKit Go.Maps Go.Deep

theorem infoForm : (Tryz.prog.info? 39).map (fun i => (i.zero, i.size, i.bytes)) = some (some .nilIface, 1, 16) := by kernel_rfl

def RetGrow (B : Nat) (x : NodeV) (l : BT NodeV) (q : Nat) (e : Ending) (w' : World) : Prop :=
  ∃ v ws, e = .returned (.tuple #[v, .int .i64 (q : Int)]) ∧ FormsAre B w' l ws ∧ IsNode B w' x ws v
def GrowSaid (x : NodeV) (l : BT NodeV) : Prop := ∀ (w : World) (b off cap : Nat) (ns : List NodeV) (p : Nat), StandsAt ns p x l → NodesAt w b off ns → b < w.heap.size → OwnAll ns →
  Calls Tryz.prog 34 #[.slice (some ⟨b, off, none⟩) ns.length cap, .int .i64 (p : Int)] w fun e w' => RetGrow w.heap.size x l (p + 1 + (fl l).length) e w' ∧ Below w.heap.size w w'

theorem own_parts {x : NodeV} (h : ownB x = true) : 1 ≤ x.kind ∧ x.kind ≤ 23 ∧ x.kids = arity x.kind := by
  have hk : x.kids = arity x.kind := by
    by_cases e : x.kids = arity x.kind
    · exact e
    · rw [show ownB x = false by simp [ownB, e]] at h; cases h
  have hr : ¬ (x.kind < 1 ∨ 23 < x.kind) := by
    intro e
    rw [show ownB x = false by simp [ownB, arity_out x.kind e]] at h; cases h
  exact ⟨by omega, by omega, hk⟩
theorem StandsAt.mem {ns : List NodeV} {p : Nat} {x : NodeV} {l : BT NodeV} (h : StandsAt ns p x l) : x ∈ ns := by
  obtain ⟨pre, post, rfl, rfl⟩ := h
  simp
theorem take_set (xs vs : List Value) (j : Nat) (v : Value) (hj : j < xs.length) (h : xs.take j = vs) : (xs.set j v).take (j + 1) = vs ++ [v] := by
  rw [List.take_set, List.take_succ_eq_append_getElem hj, h]
  have : vs.length = j := by rw [← h]; simp; omega
  rw [List.set_append_right _ _ (by omega), this]
  simp
theorem rowAt_of {w : World} {base : Nat} {e : TypeId} {g n cap : Nat} {xs : List Value} (h : w.ownsRow base e 1 (.slice (some ⟨g, 0, none⟩) n cap) n xs) : RowAt w g xs := by
  intro i hi
  have hx := h.1
  rw [h.cellAt i (by omega)]
  exact List.getElem?_eq_getElem hi

set_option maxHeartbeats 3200000 in
theorem grow_one (x : NodeV) (l : BT NodeV) (hx : x.kids = cnt l) (hl : kok l) (ih : ∀ y m, InF y m l → GrowSaid y m) : GrowSaid x l := by
  intro w b off cap ns p hst hn hb hown
  have IH := hide ih
  clear ih
  have hlt := hst.lt
  have hcl := cnt_le l
  have h400 : ns.length ≤ 400 := hown.1
  obtain ⟨c0, c1, c2, c3⟩ := hn p (by omega)
  rw [hst.node (by omega)] at c0 c1 c2 c3
  rw [hx] at c3
  obtain ⟨hk1, hk23, hka⟩ := own_parts (hown.2 x hst.mem)
  have HA := hide (hx.symm.trans hka)
  have HK := hide (And.intro hk1 hk23)
  have HN := hide hn
  have HST := hide hst
  have HO := hide hown
  have HX := hide hx
  clear hn hst hown hk1 hk23 hka hx
  obtain ⟨i0, hi, hz0, hz1, hz2⟩ := info_parts infoForm
  go_enter Tryz.func34, Tryz.ntmps34
  go_wp2_with (first
    | (at_make; refine wpList_make_full _ rfl _ _ 84 rfl w.heap.size 39 i0 _ 1 Tryz.underlying84 hi hz0 hz1 _ _ _ _ (cnt l) rfl rfl rfl rfl (by rw [hz2]; omega) (by unfold maxLen; omega) (Nat.le_refl _) ?_; intro w1 hrow hgrow))
  clear hz0 hz1 hz2 hi
  have hlt1 : w.heap.size < w1.heap.size := by
    rcases hrow.2 with ⟨h', _⟩ | ⟨g', cap', cur, h', _, hg, _⟩
    · simp at h'
    · simp only [Value.slice.injEq, Option.some.injEq, Addr.mk.injEq, and_true, true_and] at h'
      obtain ⟨rfl, rfl⟩ := h'
      exact (Array.getElem?_eq_some_iff.1 hg).1
  have hbw1 : Below w.heap.size w w1 := (Below.refl _ _).grown hgrow (Nat.le_refl _) (fun k hk => by cases hk)
  clear hgrow
  go_loopw [7, 19] (fun k i wr => ∃ (done todo : BT NodeV) (q j : Nat) (vs xs : List Value), Hid (l = app done todo) ∧ Hid (q = p + 1 + (fl done).length) ∧ Hid (j = cnt done) ∧ k = .int .i64 q ∧ i = .int .i64 j ∧ FormsAre (w.heap.size + 1) wr done vs ∧ Hid (xs.take j = vs) ∧ wr.ownsRow w.heap.size 39 1 (.slice (some ⟨w.heap.size, 0, none⟩) (cnt l) (cnt l)) (cnt l) xs ∧ w.heap.size < wr.heap.size ∧ Below w.heap.size w wr) (fun _ i _ => cnt l - (intOf i).toNat)
  case atStart => exact ⟨.nil, l, p + 1, 0, [], _, rfl, rfl, rfl, rfl, rfl, rfl, rfl, hrow, hlt1, hbw1⟩
  case round =>
    obtain ⟨done, todo, q, j, vs, xs, hle, hq, hj, rfl, rfl, hforms, htake, hrw, hsz, hbel⟩ := hrel
    have HF := hide hforms
    clear hforms hrow
    cases todo with
    | nil =>
      have hz : ¬ (j : Int) < (cnt l : Int) := by
        have h1 := unhide hj
        have h2 := unhide hle
        rw [app_nil] at h2
        subst h2
        omega
      have hxs : xs = vs := by
        rw [← unhide htake, List.take_of_length_le]
        rw [hrw.1]
        have h1 := unhide hj
        have h2 := unhide hle
        rw [app_nil] at h2
        subst h2
        omega
      have hforms : FormsAre (w.heap.size + 1) wr l xs := by
        have h2 := unhide hle
        rw [app_nil] at h2
        rw [h2, hxs]
        exact unhide HF
      have hql : q = p + 1 + (fl l).length := by
        have h2 := unhide hle
        rw [app_nil] at h2
        rw [h2]
        exact unhide hq
      have hxl : xs.length = cnt l := by rw [hforms.length]
      rw [← hbel.cell (by exact hb)] at c0 c1 c2 c3
      have FO := hide (formOf_any x wr w.heap.size w.heap.size (cnt l) xs hsz (Nat.le_refl _) (rowAt_of hrw) (unhide HK).1 (unhide HK).2 (by rw [hxl]; exact unhide HA) hforms.iface)
      rw [hxl, unhide HX] at FO
      have HQ := hide hql
      have HFF := hide hforms
      clear hxs hforms hql hxl
      go_wp2_with fail
      refine (unhide FO).mono ?_
      rintro e w2 ⟨⟨v, rfl, hnode⟩, hb2⟩
      go_wp2_with fail
      go_ret2
      refine ⟨⟨v, xs, by rw [← unhide HQ]; rfl, ((unhide HFF).agree (Agree.of_below hb2)).mono (Nat.le_succ _), hnode⟩, hbel.trans (hb2.mono hbel.size)⟩
    | node b' o' y m r =>
      have hkl : kok (app done (.node b' o' y m r)) := by rw [← unhide hle]; exact hl
      rw [kok_app] at hkl
      obtain ⟨hky, hkm, hkr⟩ := hkl.2
      have hS : StandsAt ns q y m := by
        rw [unhide hq]
        have := unhide HST
        rw [unhide hle] at this
        exact this.kid
      have HD := hide (unhide IH y m (by rw [unhide hle]; exact inF_app y m done b' o' r) wr b off cap ns q hS ((unhide HN).below hbel hb) (Nat.lt_of_lt_of_le hb hbel.size) (unhide HO))
      have hqb : q < ns.length := by have := hS.lt; omega
      have hjl : (j : Int) < (cnt l : Int) := by
        have e := unhide hle
        rw [e, cnt_app, unhide hj]; simp only [cnt]; omega
      have hle' := hide ((unhide hle).trans (app_snoc done b' o' y m r))
      have hq' := hide (show q + 1 + (fl m).length = p + 1 + (fl (app done (.node b' o' y m .nil))).length by
        rw [unhide hq, fl_app]; simp [fl]; omega)
      have hj' := hide (show j + 1 = cnt (app done (.node b' o' y m .nil)) by rw [unhide hj, cnt_app]; rfl)
      clear hkl hS hky hkm hkr
      go_wp2_with fail
      refine (unhide HD).mono ?_
      rintro e w2 ⟨⟨v, ws, rfl, hfs, hnode⟩, hb2⟩
      have hrow2 := ownsRow_below hrw hb2 hsz
      have hcell2 : ∃ u, w2.cell? ⟨w.heap.size, j, none⟩ = some u := ⟨_, rowAt_of hrow2 j (by rw [hrw.1]; omega)⟩
      obtain ⟨u0, hcell2⟩ := hcell2
      have hfz2 := hrow2.frozenAt j
      obtain ⟨tv, uv, rfl⟩ := hnode.iface
      have HNODE := hide hnode
      have HFS := hide hfs
      clear hnode hfs
      go_wp2_with fail
      have hst2 := hrow2.stored j (.iface tv uv)
      have hag : Agree (w.heap.size + 1) w2 (w2.setCell ⟨w.heap.size, j, none⟩ (.iface tv uv)) := Agree.setCell w2 (Nat.lt_succ_self _) j _
      have hbx : Below w.heap.size w (w2.setCell ⟨w.heap.size, j, none⟩ (.iface tv uv)) := (hbel.trans (hb2.mono hbel.size)).setCell (Nat.le_refl _) _
      have hs3 : w.heap.size < w2.heap.size := Nat.lt_of_lt_of_le hsz hb2.size
      have hnew : FormsAre (w.heap.size + 1) (w2.setCell ⟨w.heap.size, j, none⟩ (.iface tv uv)) (app done (.node b' o' y m .nil)) (vs ++ [.iface tv uv]) :=
        FormsAre.app (((unhide HF).agree (Agree.of_below hb2)).agree hag) ⟨_, [], ws, rfl, ((unhide HFS).mono (by omega)).agree hag, ((unhide HNODE).mono (by omega)).agree hag, rfl⟩
      have htk := hide (take_set xs vs j (.iface tv uv) (by rw [hrw.1]; omega) (unhide htake))
      clear hcell2 hfz2
      go_roundw
      case rel => exact ⟨_, r, _, _, _, _, unhide hle', unhide hq', unhide hj', by go_num, by go_num, hnew, unhide htk, hst2.1, by simpa using hs3, hbx⟩
      case measure => simp [intOf]; omega

theorem grow_all (f : BT NodeV) : kok f → ∀ y m, InF y m f → GrowSaid y m := by
  induction f with
  | nil => intro _ y m h; exact h.elim
  | node b o x l r ihl ihr =>
    intro hk y m h
    rcases h with ⟨rfl, rfl⟩ | h
    · exact grow_one y m hk.1 hk.2.1 (ihl hk.2.1)
    · exact ihr hk.2.2 y m h
theorem grow_any (x : NodeV) (l : BT NodeV) (hx : x.kids = cnt l) (hl : kok l) : GrowSaid x l := grow_one x l hx hl (grow_all l hl)

end Go.Proofs.YtkfhokeoooafnaaGreatDoor
