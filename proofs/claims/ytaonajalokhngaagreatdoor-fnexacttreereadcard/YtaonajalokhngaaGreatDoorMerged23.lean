/-
  The program's look at a node alone, and at all nodes of a list.
-/
/-
  The program's forms: values behind its own interface, one type a form; which form stands for which tree.
-/
/-
  The program's reader: what its functions hand back, or how they give up.
-/
import Derived.Test.YtaonajalokhngaaGreatDoorMerged17
import Derived.Test.YtaonajalokhngaaGreatDoorMerged8
import Derived.Test.YtaonajalokhngaaGreatDoorMerged21
import Derived.Test.YtaonajalokhngaaGreatDoorReadS3
namespace Go.Proofs.YtaonajalokhngaaGreatDoor
open Go.RowKit Go.Maps Go.Deep

theorem shapes_arity (k : Nat) (h1 : 1 ≤ k) (h : k < shapesL.length) : shapesL[k].1 = arity (k : Int) := by
  rw [shapes_len] at h
  match k, h1, h with
  | 1, _, _ | 2, _, _ | 3, _, _ | 4, _, _ | 5, _, _ | 6, _, _ | 7, _, _ | 8, _, _ | 9, _, _ | 10, _, _ | 11, _, _ | 12, _, _ | 13, _, _ | 14, _, _ | 15, _, _ | 16, _, _ | 17, _, _ | 18, _, _ | 19, _, _ | 20, _, _ | 21, _, _ | 22, _, _ | 23, _, _ => rfl
  | n + 24, _, h => exact absurd h (by omega)
theorem ShapesIn.kids {w : World} (h : ShapesIn w) (k : Nat) (h1 : 1 ≤ k) (h23 : k ≤ 23) : w.cell? ⟨1, k * 3, none⟩ = some (.int .i64 (arity (k : Int))) := by
  rw [← shapes_arity k h1 (by rw [shapes_len]; omega)]
  exact (h.2 k (by rw [shapes_len]; omega)).1
theorem arity_out (k : Int) (h : k < 1 ∨ 23 < k) : arity k = -1 := by
  unfold arity
  repeat rw [if_neg (by omega)]
theorem arity_in (k : Int) (h1 : 1 ≤ k) (h2 : k ≤ 23) : 0 ≤ arity k ∧ arity k ≤ 3 := by
  unfold arity
  repeat' split
  all_goals omega
theorem own_out (k n : Int) (s : ByteArray) (c : Int) (h : k < 1 ∨ 23 < k) : ownB ⟨k, n, s, c⟩ = false := by simp [ownB, arity_out k h]
theorem own_kids (k n : Int) (s : ByteArray) (c : Int) (h : ¬ c = arity k) : ownB ⟨k, n, s, c⟩ = false := by simp [ownB, h]
theorem own_text (k n : Int) (s : ByteArray) (c : Int) (hnb : namedB k = false) (h : ¬ s.size = 0) : ownB ⟨k, n, s, c⟩ = false := by simp [ownB, hnb, h]

def OwnAll (ns : List NodeV) : Prop := ns.length ≤ 400 ∧ ∀ n ∈ ns, ownB n = true

end Go.Proofs.YtaonajalokhngaaGreatDoor

namespace Go.Proofs.YtaonajalokhngaaGreatDoor
open Go.RowKit Go.Maps Go.Deep

/-- values lie one behind the other in a block -/
def RowAt (w : World) (g : Nat) (ws : List Value) : Prop := ∀ i (h : i < ws.length), w.cell? ⟨g, i, none⟩ = some ws[i]
/-- v is the form of a node over these forms; what it holds in memory lies in blocks from B on -/
def IsNode (B : Nat) (w : World) (x : NodeV) (ws : List Value) (v : Value) : Prop :=
  (x.kind = 1 ∧ ws = [] ∧ v = .iface 147 (.agg #[.int .i64 x.num])) ∨
  (x.kind = 2 ∧ ws = [] ∧ v = .iface 141 (.agg #[.string x.name])) ∨
  (∃ a, (x.kind = 3 ∨ x.kind = 4) ∧ ws = [a] ∧ v = .iface 139 (.agg #[.int .i64 x.kind, a])) ∨
  (∃ a b, (5 ≤ x.kind ∧ x.kind ≤ 17) ∧ ws = [a, b] ∧ v = .iface 136 (.agg #[.int .i64 x.kind, a, b])) ∨
  (∃ g cap, (18 ≤ x.kind ∧ x.kind ≤ 20) ∧ (ws.length : Int) = arity x.kind ∧ B ≤ g ∧ g < w.heap.size ∧ RowAt w g ws ∧ v = .iface 143 (.agg #[.int .i64 x.kind, .slice (some ⟨g, 0, none⟩) ws.length cap])) ∨
  (∃ a b c, x.kind = 21 ∧ ws = [a, b, c] ∧ v = .iface 130 (.agg #[a, b, c])) ∨
  (∃ a b, x.kind = 22 ∧ ws = [a, b] ∧ v = .iface 132 (.agg #[.string x.name, a, b])) ∨
  (∃ a b c, x.kind = 23 ∧ ws = [a, b, c] ∧ v = .iface 134 (.agg #[.string x.name, a, b, c]))
/-- these values are the forms of a forest's trees -/
def FormsAre (B : Nat) (w : World) : BT NodeV → List Value → Prop
  | .nil, vs => vs = []
  | .node _ _ x l r, vs => ∃ v rest ws, vs = v :: rest ∧ FormsAre B w l ws ∧ IsNode B w x ws v ∧ FormsAre B w r rest

/-- from block B on nothing that was there has turned -/
def Agree (B : Nat) (w w' : World) : Prop := w.heap.size ≤ w'.heap.size ∧ ∀ k, B ≤ k → k < w.heap.size → w'.heap[k]? = w.heap[k]?
theorem Agree.of_below {B : Nat} {w w' : World} (h : Below w.heap.size w w') : Agree B w w' := ⟨h.size, fun k _ hk => h.block k hk⟩
theorem Agree.setCell {B : Nat} (w : World) {g : Nat} (hg : g < B) (i : Nat) (v : Value) : Agree B w (w.setCell ⟨g, i, none⟩ v) :=
  ⟨by simp, fun k hk _ => Below.heap_setCell w ⟨g, i, none⟩ v k (by simp; omega)⟩
theorem RowAt.agree {B : Nat} {w w' : World} {g : Nat} {ws : List Value} (h : RowAt w g ws) (ha : Agree B w w') (hB : B ≤ g) (hg : g < w.heap.size) : RowAt w' g ws :=
  fun i hi => (World.cell?_of_block (w := w) (a := ⟨g, i, none⟩) (ha.2 g hB hg)).trans (h i hi)
theorem IsNode.agree {B : Nat} {w w' : World} {x : NodeV} {ws : List Value} {v : Value} (h : IsNode B w x ws v) (ha : Agree B w w') : IsNode B w' x ws v := by
  rcases h with h | h | h | h | ⟨g, cap, h1, h2, h3, h4, h5, h6⟩ | h | h | h
  · exact .inl h
  · exact .inr (.inl h)
  · exact .inr (.inr (.inl h))
  · exact .inr (.inr (.inr (.inl h)))
  · exact .inr (.inr (.inr (.inr (.inl ⟨g, cap, h1, h2, h3, Nat.lt_of_lt_of_le h4 ha.1, h5.agree ha h3 h4, h6⟩))))
  · exact .inr (.inr (.inr (.inr (.inr (.inl h)))))
  · exact .inr (.inr (.inr (.inr (.inr (.inr (.inl h))))))
  · exact .inr (.inr (.inr (.inr (.inr (.inr (.inr h))))))
theorem FormsAre.agree {B : Nat} {w w' : World} (ha : Agree B w w') : ∀ {f : BT NodeV} {vs : List Value}, FormsAre B w f vs → FormsAre B w' f vs := by
  intro f
  induction f with
  | nil => intro vs h; exact h
  | node b o x l r ihl ihr =>
    intro vs h
    obtain ⟨v, rest, ws, e, h1, h2, h3⟩ := h
    exact ⟨v, rest, ws, e, ihl h1, h2.agree ha, ihr h3⟩
theorem IsNode.mono {B B' : Nat} {w : World} {x : NodeV} {ws : List Value} {v : Value} (h : IsNode B w x ws v) (hB : B' ≤ B) : IsNode B' w x ws v := by
  rcases h with h | h | h | h | ⟨g, cap, h1, h2, h3, h4, h5, h6⟩ | h | h | h
  · exact .inl h
  · exact .inr (.inl h)
  · exact .inr (.inr (.inl h))
  · exact .inr (.inr (.inr (.inl h)))
  · exact .inr (.inr (.inr (.inr (.inl ⟨g, cap, h1, h2, Nat.le_trans hB h3, h4, h5, h6⟩))))
  · exact .inr (.inr (.inr (.inr (.inr (.inl h)))))
  · exact .inr (.inr (.inr (.inr (.inr (.inr (.inl h))))))
  · exact .inr (.inr (.inr (.inr (.inr (.inr (.inr h))))))
theorem FormsAre.mono {B B' : Nat} {w : World} (hB : B' ≤ B) : ∀ {f : BT NodeV} {vs : List Value}, FormsAre B w f vs → FormsAre B' w f vs := by
  intro f
  induction f with
  | nil => intro vs h; exact h
  | node b o x l r ihl ihr =>
    intro vs h
    obtain ⟨v, rest, ws, e, h1, h2, h3⟩ := h
    exact ⟨v, rest, ws, e, ihl h1, h2.mono hB, ihr h3⟩
theorem FormsAre.length {B : Nat} {w : World} : ∀ {f : BT NodeV} {vs : List Value}, FormsAre B w f vs → vs.length = cnt f := by
  intro f
  induction f with
  | nil => intro vs h; subst h; rfl
  | node b o x l r ihl ihr =>
    intro vs h
    obtain ⟨v, rest, ws, rfl, h1, h2, h3⟩ := h
    simp [cnt, ihr h3]
theorem FormsAre.app {B : Nat} {w : World} : ∀ {f g : BT NodeV} {vs us : List Value}, FormsAre B w f vs → FormsAre B w g us → FormsAre B w (app f g) (vs ++ us) := by
  intro f
  induction f with
  | nil => intro g vs us h h'; subst h; exact h'
  | node b o x l r ihl ihr =>
    intro g vs us h h'
    obtain ⟨v, rest, ws, rfl, h1, h2, h3⟩ := h
    exact ⟨v, rest ++ us, ws, rfl, h1, h2, ihr h3 h'⟩
theorem FormsAre.split {B : Nat} {w : World} : ∀ {f g : BT NodeV} {vs : List Value}, FormsAre B w (Go.Proofs.YtaonajalokhngaaGreatDoor.app f g) vs → FormsAre B w f (vs.take (cnt f)) ∧ FormsAre B w g (vs.drop (cnt f)) := by
  intro f
  induction f with
  | nil => intro g vs h; exact ⟨rfl, h⟩
  | node b o x l r ihl ihr =>
    intro g vs h
    obtain ⟨v, rest, ws, rfl, h1, h2, h3⟩ := h
    obtain ⟨h4, h5⟩ := ihr h3
    exact ⟨⟨v, rest.take (cnt r), ws, rfl, h1, h2, h4⟩, h5⟩

/-- what a call hands back is the form of a node -/
def RetForm (B : Nat) (x : NodeV) (ws : List Value) (e : Ending) (w' : World) : Prop := ∃ v, e = .returned v ∧ IsNode B w' x ws v

theorem RowAt.two {w : World} {g : Nat} {ws : List Value} (h : RowAt w g ws) {n : Nat} (hn : ws.length = n) : (0 < n → w.cell? ⟨g, 0, none⟩ = ws[0]?) ∧ (1 < n → w.cell? ⟨g, 1, none⟩ = ws[1]?) ∧ (2 < n → w.cell? ⟨g, 2, none⟩ = ws[2]?) := by
  subst hn
  refine ⟨fun i => ?_, fun i => ?_, fun i => ?_⟩ <;> rw [h _ i, List.getElem?_eq_getElem i]

theorem IsNode.iface {B : Nat} {w : World} {x : NodeV} {ws : List Value} {v : Value} (h : IsNode B w x ws v) : ∃ t u, v = .iface t u := by
  rcases h with ⟨_, _, h⟩ | ⟨_, _, h⟩ | ⟨_, _, _, h⟩ | ⟨_, _, _, _, h⟩ | ⟨_, _, _, _, _, _, _, h⟩ | ⟨_, _, _, _, _, h⟩ | ⟨_, _, _, _, h⟩ | ⟨_, _, _, _, _, h⟩
  all_goals exact ⟨_, _, h⟩
theorem FormsAre.iface {B : Nat} {w : World} : ∀ {f : BT NodeV} {vs : List Value}, FormsAre B w f vs → ∀ v ∈ vs, ∃ t u, v = .iface t u := by
  intro f
  induction f with
  | nil => intro vs h v hv; subst h; cases hv
  | node b o x l r ihl ihr =>
    intro vs h v hv
    obtain ⟨y, rest, ws, rfl, h1, h2, h3⟩ := h
    rcases List.mem_cons.1 hv with rfl | hv
    · exact h2.iface
    · exact ihr h3 v hv

end Go.Proofs.YtaonajalokhngaaGreatDoor

set_option linter.unusedVariables false
namespace Go.Proofs.YtaonajalokhngaaGreatDoor
open Go.RowKit Go.Maps Go.Deep

/-- a reading: it gives up where the words are wrong, or hands back the tree's form -/
def RetI (ws : List WordV) (sz rb : Nat) (a : Option Addr) (c : Nat) (r : PRes) (w : World) (e : Ending) (w' : World) : Prop :=
  (∃ k, r = .bad k ∧ e = .panicked (badChain ws sz k) ∧ Hid (Turn [rb] w w')) ∨
  (∃ t k ty u, r = .ok t k ∧ e = .returned (.iface ty u) ∧ Hid (PrK ws sz w' rb a c k) ∧ Hid (Turn [rb] w w') ∧ Hid (FormsAre w.heap.size w' t.f [.iface ty u]))
theorem Turn.agree {rb B : Nat} {w w' : World} (t : Turn [rb] w w') (hb : rb < B) : Agree B w w' := ⟨t.size, fun k hk h => t.block k h (by simp; omega)⟩
theorem FormsAre.turnR {rb B : Nat} {w w' : World} {f : BT NodeV} {vs : List Value} (h : FormsAre B w f vs) (t : Turn [rb] w w') (hb : rb < B) : FormsAre B w' f vs := h.agree (t.agree hb)
theorem FormsAre.upR {B : Nat} {w w' : World} {f : BT NodeV} {vs : List Value} (h : FormsAre B w f vs) (b : Below w.heap.size w w') : FormsAre B w' f vs := h.agree (Agree.of_below b)
/-- the form of a node over the forms of its kids -/
theorem forms_node {B : Nat} {w : World} {x : NodeV} {l : BT NodeV} {ws : List Value} {v : Value} (h : FormsAre B w l ws) (hn : IsNode B w x ws v) : FormsAre B w (TreeV.f ⟨x, l⟩) [v] := ⟨v, [], ws, rfl, h, hn, rfl⟩
theorem must_yes {ws : List WordV} {s : ByteArray} {n : Nat} {f : Nat → PRes} (h : txt ws n = s) : must ws s n f = f (n + 1) := if_pos h
theorem must_no {ws : List WordV} {s : ByteArray} {n : Nat} {f : Nat → PRes} (h : txt ws n ≠ s) : must ws s n f = .bad n := if_neg h
theorem name_yes {ws : List WordV} {n : Nat} {f : ByteArray → Nat → PRes} (h : n < ws.length) (hk : ws[n].a0 = 2) : mustName ws n f = f ws[n].a1 (n + 1) := by
  unfold mustName
  rw [List.getElem?_eq_getElem h]
  exact if_pos hk
theorem name_no {ws : List WordV} {n : Nat} {f : ByteArray → Nat → PRes} (h : isT ws n 2 = false) : mustName ws n f = .bad n := by
  unfold isT at h
  unfold mustName
  split
  · rename_i x hx
    rw [hx] at h
    simp only [beq_eq_false_iff_ne] at h
    exact if_neg h
  · rfl
theorem needE {ws : List WordV} {f n m : Nat} (h : needF (ws.length - n) .expr < f) (hm : n ≤ m) : needF (ws.length - m) .expr < f := by simp only [needF] at h ⊢; omega
theorem fwdE {ws : List WordV} {f n k : Nat} {t : TreeV} (hle : n ≤ ws.length) (h : needF (ws.length - n) .expr < f) (hp : parse ws f .expr n = .ok t k) : n < k ∧ needF (ws.length - k) .expr < f := by
  have g := parse_good ws f .expr n hle trivial h
  rw [hp] at g
  have h1 : n < k := g.1
  exact ⟨h1, needE h (Nat.le_of_lt h1)⟩
theorem ok_then {t : TreeV} {k : Nat} {f : TreeV → Nat → PRes} : (PRes.ok t k).then f = f t k := rfl
theorem bad_then {k : Nat} {f : TreeV → Nat → PRes} : (PRes.bad k).then f = .bad k := rfl
def SaidIE (ws : List WordV) (sz f : Nat) : Prop := ∀ (w : World) (rb : Nat) (a : Option Addr) (c n : Nat), PrK ws sz w rb a c n → needF (ws.length - n) .expr < f → Calls Tryz.prog 40 #[.pointer (some ⟨rb, 0, none⟩)] w fun e w' => RetI ws sz rb a c (parse ws f .expr n) w e w'
def SaidIL (ws : List WordV) (sz f : Nat) : Prop := ∀ (lv : Nat) (w : World) (rb : Nat) (a : Option Addr) (c n : Nat), 1 ≤ lv → lv ≤ 6 → PrK ws sz w rb a c n → needF (ws.length - n) (.level lv) < f → Calls Tryz.prog 62 #[.pointer (some ⟨rb, 0, none⟩), .int .i64 (lv : Int)] w fun e w' => RetI ws sz rb a c (parse ws f (.level lv) n) w e w'
def SaidIH (ws : List WordV) (sz f : Nat) : Prop := ∀ (w : World) (rb : Nat) (a : Option Addr) (c n : Nat), PrK ws sz w rb a c n → needF (ws.length - n) .ahead < f → Calls Tryz.prog 70 #[.pointer (some ⟨rb, 0, none⟩)] w fun e w' => RetI ws sz rb a c (parse ws f .ahead n) w e w'
def SaidIA (ws : List WordV) (sz f : Nat) : Prop := ∀ (w : World) (rb : Nat) (a : Option Addr) (c n : Nat), PrK ws sz w rb a c n → needF (ws.length - n) .atom < f → Calls Tryz.prog 73 #[.pointer (some ⟨rb, 0, none⟩)] w fun e w' => RetI ws sz rb a c (parse ws f .atom n) w e w'
def ifR (ws : List WordV) (f n : Nat) : PRes := (parse ws f .expr n).then fun a n1 => must ws kThen n1 fun n2 => (parse ws f .expr n2).then fun b n3 => must ws kElse n3 fun n4 => (parse ws f .expr n4).then fun c n5 => .ok (node3 21 ⟨#[]⟩ a b c) n5
def letR (ws : List WordV) (f n : Nat) : PRes := mustName ws n fun nm n1 => must ws sEq n1 fun n2 => (parse ws f .expr n2).then fun a n3 => must ws kIn n3 fun n4 => (parse ws f .expr n4).then fun b n5 => .ok (node2 22 nm a b) n5
def repR (ws : List WordV) (f n : Nat) : PRes := (parse ws f .expr n).then fun a n1 => must ws kAs n1 fun n2 => mustName ws n2 fun nm n3 => must ws kFrom n3 fun n4 => (parse ws f .expr n4).then fun b n5 => must ws kBy n5 fun n6 => (parse ws f .expr n6).then fun c n7 => .ok (node3 23 nm a b c) n7
end Go.Proofs.YtaonajalokhngaaGreatDoor
