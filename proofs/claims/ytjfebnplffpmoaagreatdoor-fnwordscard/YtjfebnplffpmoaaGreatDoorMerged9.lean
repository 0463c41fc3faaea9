/-
  The text of a tree, as plain mathematics; and the specification's small parts of it: levels, signs, decimals.
-/
/-
  The program's table of shapes, as it lies in its variable.
-/
/-
  The program's look at a node alone, and at all nodes of a list.
-/
/-
  The program's forms: values behind its own interface, one type a form; which form stands for which tree.
-/
/-
  The program makes the form of a tree out of its nodes, and tells how deep it is.
-/
import Derived.Test.YtjfebnplffpmoaaGreatDoorMerged8
import Derived.Lib.ItoaNum
import Derived.Laws.BytesArg
import Derived.Test.YtjfebnplffpmoaaGreatDoorMerged3
import Derived.Test.YtjfebnplffpmoaaGreatDoorSpecDeep
namespace Go.Proofs.YtjfebnplffpmoaaGreatDoor
open Go.RowKit Go.Maps Go.Deep

/-! how long it is -/
theorem wrap_size (least : Int) (y : NodeV) (s : ByteArray) : (wrapT least y s).size ≤ s.size + 2 := by
  unfold wrapT
  split
  · simp only [size_app, size_lit, List.length_cons, List.length_nil]; omega
  · omega
theorem sign_size (k : Int) : (signN k).size ≤ 3 := by
  have h1 : ∀ s ∈ signsN, s.size ≤ 3 := by decide
  have h2 : ∀ i, (signsN.getD i ⟨#[]⟩).size ≤ 3 := by
    intro i
    by_cases h : i < signsN.length
    · simp only [List.getD_eq_getElem?_getD, List.getElem?_eq_getElem h, Option.getD_some]
      exact h1 _ (List.getElem_mem h)
    · simp only [List.getD_eq_getElem?_getD, List.getElem?_eq_none (Nat.le_of_not_lt h), Option.getD_none]; decide
  exact h2 _
/-- what a node adds at most -/
theorem text_size (x : NodeV) (ks : List (NodeV × ByteArray)) (hx : x.name.size ≤ 16) (hn : x.num ≤ 999999999999999999) : (textN x ks).size ≤ 60 + (ks.map (fun p => p.2.size)).sum := by
  have hd : (decN x.num).size ≤ 18 := by
    have := dec_len x.num.toNat 17 (by omega)
    unfold decN; rw [size_lit]; exact this
  unfold textN
  split
  · split
    · simp only [List.map_nil, List.sum_nil]; omega
    · simp only [List.map_nil, List.sum_nil]; omega
  · rename_i y s
    have h1 := wrap_size 6 y s
    repeat' split
    all_goals simp only [size_app, size_lit, List.length_cons, List.length_nil, List.map_cons, List.map_nil, List.sum_cons, List.sum_nil]; omega
  · rename_i y s z t
    have h1 := wrap_size (firstN x.kind) y s
    have h2 := wrap_size (levelN x.kind + 1) z t
    have h3 := sign_size x.kind
    repeat' split
    all_goals simp only [size_app, size_lit, List.length_cons, List.length_nil, List.map_cons, List.map_nil, List.sum_cons, List.sum_nil]; omega
  · repeat' split
    all_goals simp only [size_app, size_lit, List.length_cons, List.length_nil, List.map_cons, List.sum_cons]; omega
theorem shows_size (f : BT NodeV) : (∀ n ∈ fl f, n.name.size ≤ 16 ∧ n.num ≤ 999999999999999999) → ((showsF f).map (fun p => p.2.size)).sum ≤ 60 * (fl f).length := by
  induction f with
  | nil => intro _; simp [showsF]
  | node b o x l r ihl ihr =>
    intro h
    have h0 := h x (by simp [fl])
    have h1 := ihl (fun n hn => h n (by simp [fl, hn]))
    have h2 := ihr (fun n hn => h n (by simp [fl, hn]))
    have h3 := text_size x (showsF l) h0.1 h0.2
    simp only [showsF, List.map_cons, List.sum_cons, fl, List.length_cons, List.length_append]
    omega
theorem bare_size (x : NodeV) (l : BT NodeV) (h : ∀ n ∈ x :: fl l, n.name.size ≤ 16 ∧ n.num ≤ 999999999999999999) : (bareT x l).size ≤ 60 * ((fl l).length + 1) := by
  have h1 := shows_size l (fun n hn => h n (by simp [hn]))
  have h0 := h x (by simp)
  have h3 := text_size x (showsF l) h0.1 h0.2
  unfold bareT
  omega

/-! the specification's small parts -/
set_option maxHeartbeats 3200000 in
theorem l2Level_any (k : Int) (h1 : 1 ≤ k) (h23 : k ≤ 23) (w : World) : Calls Tryz.prog 58 #[.int .i64 k] w fun e w' => e = .returned (.int .i64 (levelN k)) ∧ w' = w := by
  have hk : k = 1 ∨ k = 2 ∨ k = 3 ∨ k = 4 ∨ k = 5 ∨ k = 6 ∨ k = 7 ∨ k = 8 ∨ k = 9 ∨ k = 10 ∨ k = 11 ∨ k = 12 ∨ k = 13 ∨ k = 14 ∨ k = 15 ∨ k = 16 ∨ k = 17 ∨ k = 18 ∨ k = 19 ∨ k = 20 ∨ k = 21 ∨ k = 22 ∨ k = 23 := by omega
  clear h1 h23
  rcases hk with rfl | rfl | rfl | rfl | rfl | rfl | rfl | rfl | rfl | rfl | rfl | rfl | rfl | rfl | rfl | rfl | rfl | rfl | rfl | rfl | rfl | rfl | rfl
  all_goals
    go_enter Tryz.func58, Tryz.ntmps58
    go_wp2
    go_ret
    exact ⟨rfl, rfl⟩
set_option maxHeartbeats 1600000 in
theorem l2Sign_any (k : Int) (h5 : 5 ≤ k) (h17 : k ≤ 17) (w : World) : Calls Tryz.prog 73 #[.int .i64 k] w fun e w' => e = .returned (.string (signN k)) ∧ Below w.heap.size w w' := by
  have hk : k = 5 ∨ k = 6 ∨ k = 7 ∨ k = 8 ∨ k = 9 ∨ k = 10 ∨ k = 11 ∨ k = 12 ∨ k = 13 ∨ k = 14 ∨ k = 15 ∨ k = 16 ∨ k = 17 := by omega
  clear h5 h17
  rcases hk with rfl | rfl | rfl | rfl | rfl | rfl | rfl | rfl | rfl | rfl | rfl | rfl | rfl
  all_goals
    go_enter Tryz.func73, Tryz.ntmps73
    go_wp2
    go_ret
    exact ⟨rfl, (Below.refl _ _).alloc (Nat.le_refl _) _⟩
theorem l2Dec_any (n : Int) (h0 : 0 ≤ n) (h1 : n ≤ 999999999999999999) (w : World) : Calls Tryz.prog 72 #[.int .i64 n] w fun e w' => e = .returned (.string (decN n)) ∧ Below w.heap.size w w' := by
  rw [show decN n = itoaB n by unfold decN itoaB Lib.itoa; rw [if_neg (by omega)]]
  exact l2Dec_all n (by omega) (by omega) w

end Go.Proofs.YtjfebnplffpmoaaGreatDoor

namespace Go.Proofs.YtjfebnplffpmoaaGreatDoor
open Go.RowKit Go.Maps

/-- what the program's table says of each kind: how many kids, its level, its word -/
def shapesL : List (Int × Int × ByteArray) :=
  [(0, 0, ⟨#[]⟩), (0, 7, ⟨#[]⟩), (0, 7, ⟨#[]⟩), (1, 6, ⟨#[45]⟩), (1, 6, ⟨#[110, 111, 116]⟩), (2, 5, ⟨#[42]⟩), (2, 5, ⟨#[47]⟩), (2, 5, ⟨#[37]⟩), (2, 4, ⟨#[43]⟩), (2, 4, ⟨#[45]⟩),
   (2, 3, ⟨#[61]⟩), (2, 3, ⟨#[33, 61]⟩), (2, 3, ⟨#[60]⟩), (2, 3, ⟨#[60, 61]⟩), (2, 3, ⟨#[62]⟩), (2, 3, ⟨#[62, 61]⟩), (2, 2, ⟨#[97, 110, 100]⟩), (2, 1, ⟨#[111, 114]⟩),
   (2, 7, ⟨#[109, 105, 110]⟩), (2, 7, ⟨#[109, 97, 120]⟩), (1, 7, ⟨#[97, 98, 115]⟩), (3, 0, ⟨#[105, 102]⟩), (2, 0, ⟨#[108, 101, 116]⟩), (3, 0, ⟨#[114, 101, 112]⟩)]
theorem shapes_len : shapesL.length = 24 := rfl
/-- the table lies in its variable -/
def ShapesIn (w : World) : Prop :=
  1 < w.heap.size ∧ ∀ k (h : k < shapesL.length), w.cell? ⟨1, k * 3, none⟩ = some (.int .i64 shapesL[k].1) ∧ w.cell? ⟨1, k * 3 + 1, none⟩ = some (.int .i64 shapesL[k].2.1) ∧ w.cell? ⟨1, k * 3 + 2, none⟩ = some (.string shapesL[k].2.2)
theorem ShapesIn.below {w w' : World} {B : Nat} (h : ShapesIn w) (hb : Below B w w') (hB : w.heap.size ≤ B) : ShapesIn w' := by
  refine ⟨Nat.lt_of_lt_of_le h.1 hb.size, fun k hk => ?_⟩
  obtain ⟨a, b, c⟩ := h.2 k hk
  exact ⟨(hb.cell (Nat.lt_of_lt_of_le h.1 hB)).trans a, (hb.cell (Nat.lt_of_lt_of_le h.1 hB)).trans b, (hb.cell (Nat.lt_of_lt_of_le h.1 hB)).trans c⟩

end Go.Proofs.YtjfebnplffpmoaaGreatDoor

namespace Go.Proofs.YtjfebnplffpmoaaGreatDoor
open Go.RowKit Go.Maps Go.Deep

theorem shapes_arity (k : Nat) (h1 : 1 ≤ k) (h : k < shapesL.length) : shapesL[k].1 = arity (k : Int) := by
  rw [shapes_len] at h
  match k, h1, h with
  | 1, _, _ | 2, _, _ | 3, _, _ | 4, _, _ | 5, _, _ | 6, _, _ | 7, _, _ | 8, _, _ | 9, _, _ | 10, _, _ | 11, _, _ | 12, _, _ | 13, _, _ | 14, _, _ | 15, _, _ | 16, _, _ | 17, _, _ | 18, _, _ | 19, _, _ | 20, _, _ | 21, _, _ | 22, _, _ | 23, _, _ => rfl
  | n + 24, _, h => exact absurd h (by omega)
theorem ShapesIn.kids {w : World} (h : ShapesIn w) (k : Nat) (h1 : 1 ≤ k) (h23 : k ≤ 23) : w.cell? ⟨1, k * 3, none⟩ = some (.int .i64 (arity (k : Int))) := by
  rw [← shapes_arity k h1 (by rw [shapes_len]; omega)]
  exact (h.2 k (by rw [shapes_len]; omega)).1
theorem arity_out (k : Int) (h : k < 1 ∨ 23 < k) : arity k = -1 := by
  unfold arity
  repeat rw [if_neg (by omega)]
theorem arity_in (k : Int) (h1 : 1 ≤ k) (h2 : k ≤ 23) : 0 ≤ arity k ∧ arity k ≤ 3 := by
  unfold arity
  repeat' split
  all_goals omega
theorem own_out (k n : Int) (s : ByteArray) (c : Int) (h : k < 1 ∨ 23 < k) : ownB ⟨k, n, s, c⟩ = false := by simp [ownB, arity_out k h]
theorem own_kids (k n : Int) (s : ByteArray) (c : Int) (h : ¬ c = arity k) : ownB ⟨k, n, s, c⟩ = false := by simp [ownB, h]
theorem own_text (k n : Int) (s : ByteArray) (c : Int) (hnb : namedB k = false) (h : ¬ s.size = 0) : ownB ⟨k, n, s, c⟩ = false := by simp [ownB, hnb, h]

def OwnAll (ns : List NodeV) : Prop := ns.length ≤ 400 ∧ ∀ n ∈ ns, ownB n = true

end Go.Proofs.YtjfebnplffpmoaaGreatDoor

namespace Go.Proofs.YtjfebnplffpmoaaGreatDoor
open Go.RowKit Go.Maps Go.Deep

/-- values lie one behind the other in a block -/
def RowAt (w : World) (g : Nat) (ws : List Value) : Prop := ∀ i (h : i < ws.length), w.cell? ⟨g, i, none⟩ = some ws[i]
/-- v is the form of a node over these forms; what it holds in memory lies in blocks from B on -/
def IsNode (B : Nat) (w : World) (x : NodeV) (ws : List Value) (v : Value) : Prop :=
  (x.kind = 1 ∧ ws = [] ∧ v = .iface 156 (.agg #[.int .i64 x.num])) ∨
  (x.kind = 2 ∧ ws = [] ∧ v = .iface 150 (.agg #[.string x.name])) ∨
  (∃ a, (x.kind = 3 ∨ x.kind = 4) ∧ ws = [a] ∧ v = .iface 148 (.agg #[.int .i64 x.kind, a])) ∨
  (∃ a b, (5 ≤ x.kind ∧ x.kind ≤ 17) ∧ ws = [a, b] ∧ v = .iface 145 (.agg #[.int .i64 x.kind, a, b])) ∨
  (∃ g cap, (18 ≤ x.kind ∧ x.kind ≤ 20) ∧ (ws.length : Int) = arity x.kind ∧ B ≤ g ∧ g < w.heap.size ∧ RowAt w g ws ∧ v = .iface 152 (.agg #[.int .i64 x.kind, .slice (some ⟨g, 0, none⟩) ws.length cap])) ∨
  (∃ a b c, x.kind = 21 ∧ ws = [a, b, c] ∧ v = .iface 139 (.agg #[a, b, c])) ∨
  (∃ a b, x.kind = 22 ∧ ws = [a, b] ∧ v = .iface 141 (.agg #[.string x.name, a, b])) ∨
  (∃ a b c, x.kind = 23 ∧ ws = [a, b, c] ∧ v = .iface 143 (.agg #[.string x.name, a, b, c]))
/-- these values are the forms of a forest's trees -/
def FormsAre (B : Nat) (w : World) : BT NodeV → List Value → Prop
  | .nil, vs => vs = []
  | .node _ _ x l r, vs => ∃ v rest ws, vs = v :: rest ∧ FormsAre B w l ws ∧ IsNode B w x ws v ∧ FormsAre B w r rest

/-- from block B on nothing that was there has turned -/
def Agree (B : Nat) (w w' : World) : Prop := w.heap.size ≤ w'.heap.size ∧ ∀ k, B ≤ k → k < w.heap.size → w'.heap[k]? = w.heap[k]?
theorem Agree.of_below {B : Nat} {w w' : World} (h : Below w.heap.size w w') : Agree B w w' := ⟨h.size, fun k _ hk => h.block k hk⟩
theorem Agree.setCell {B : Nat} (w : World) {g : Nat} (hg : g < B) (i : Nat) (v : Value) : Agree B w (w.setCell ⟨g, i, none⟩ v) :=
  ⟨by simp, fun k hk _ => Below.heap_setCell w ⟨g, i, none⟩ v k (by simp; omega)⟩
theorem RowAt.agree {B : Nat} {w w' : World} {g : Nat} {ws : List Value} (h : RowAt w g ws) (ha : Agree B w w') (hB : B ≤ g) (hg : g < w.heap.size) : RowAt w' g ws :=
  fun i hi => (World.cell?_of_block (w := w) (a := ⟨g, i, none⟩) (ha.2 g hB hg)).trans (h i hi)
theorem IsNode.agree {B : Nat} {w w' : World} {x : NodeV} {ws : List Value} {v : Value} (h : IsNode B w x ws v) (ha : Agree B w w') : IsNode B w' x ws v := by
  rcases h with h | h | h | h | ⟨g, cap, h1, h2, h3, h4, h5, h6⟩ | h | h | h
  · exact .inl h
  · exact .inr (.inl h)
  · exact .inr (.inr (.inl h))
  · exact .inr (.inr (.inr (.inl h)))
  · exact .inr (.inr (.inr (.inr (.inl ⟨g, cap, h1, h2, h3, Nat.lt_of_lt_of_le h4 ha.1, h5.agree ha h3 h4, h6⟩))))
  · exact .inr (.inr (.inr (.inr (.inr (.inl h)))))
  · exact .inr (.inr (.inr (.inr (.inr (.inr (.inl h))))))
  · exact .inr (.inr (.inr (.inr (.inr (.inr (.inr h))))))
theorem FormsAre.agree {B : Nat} {w w' : World} (ha : Agree B w w') : ∀ {f : BT NodeV} {vs : List Value}, FormsAre B w f vs → FormsAre B w' f vs := by
  intro f
  induction f with
  | nil => intro vs h; exact h
  | node b o x l r ihl ihr =>
    intro vs h
    obtain ⟨v, rest, ws, e, h1, h2, h3⟩ := h
    exact ⟨v, rest, ws, e, ihl h1, h2.agree ha, ihr h3⟩
theorem IsNode.mono {B B' : Nat} {w : World} {x : NodeV} {ws : List Value} {v : Value} (h : IsNode B w x ws v) (hB : B' ≤ B) : IsNode B' w x ws v := by
  rcases h with h | h | h | h | ⟨g, cap, h1, h2, h3, h4, h5, h6⟩ | h | h | h
  · exact .inl h
  · exact .inr (.inl h)
  · exact .inr (.inr (.inl h))
  · exact .inr (.inr (.inr (.inl h)))
  · exact .inr (.inr (.inr (.inr (.inl ⟨g, cap, h1, h2, Nat.le_trans hB h3, h4, h5, h6⟩))))
  · exact .inr (.inr (.inr (.inr (.inr (.inl h)))))
  · exact .inr (.inr (.inr (.inr (.inr (.inr (.inl h))))))
  · exact .inr (.inr (.inr (.inr (.inr (.inr (.inr h))))))
theorem FormsAre.mono {B B' : Nat} {w : World} (hB : B' ≤ B) : ∀ {f : BT NodeV} {vs : List Value}, FormsAre B w f vs → FormsAre B' w f vs := by
  intro f
  induction f with
  | nil => intro vs h; exact h
  | node b o x l r ihl ihr =>
    intro vs h
    obtain ⟨v, rest, ws, e, h1, h2, h3⟩ := h
    exact ⟨v, rest, ws, e, ihl h1, h2.mono hB, ihr h3⟩
theorem FormsAre.length {B : Nat} {w : World} : ∀ {f : BT NodeV} {vs : List Value}, FormsAre B w f vs → vs.length = cnt f := by
  intro f
  induction f with
  | nil => intro vs h; subst h; rfl
  | node b o x l r ihl ihr =>
    intro vs h
    obtain ⟨v, rest, ws, rfl, h1, h2, h3⟩ := h
    simp [cnt, ihr h3]
theorem FormsAre.app {B : Nat} {w : World} : ∀ {f g : BT NodeV} {vs us : List Value}, FormsAre B w f vs → FormsAre B w g us → FormsAre B w (app f g) (vs ++ us) := by
  intro f
  induction f with
  | nil => intro g vs us h h'; subst h; exact h'
  | node b o x l r ihl ihr =>
    intro g vs us h h'
    obtain ⟨v, rest, ws, rfl, h1, h2, h3⟩ := h
    exact ⟨v, rest ++ us, ws, rfl, h1, h2, ihr h3 h'⟩
theorem FormsAre.split {B : Nat} {w : World} : ∀ {f g : BT NodeV} {vs : List Value}, FormsAre B w (Go.Proofs.YtjfebnplffpmoaaGreatDoor.app f g) vs → FormsAre B w f (vs.take (cnt f)) ∧ FormsAre B w g (vs.drop (cnt f)) := by
  intro f
  induction f with
  | nil => intro g vs h; exact ⟨rfl, h⟩
  | node b o x l r ihl ihr =>
    intro g vs h
    obtain ⟨v, rest, ws, rfl, h1, h2, h3⟩ := h
    obtain ⟨h4, h5⟩ := ihr h3
    exact ⟨⟨v, rest.take (cnt r), ws, rfl, h1, h2, h4⟩, h5⟩

/-- what a call hands back is the form of a node -/
def RetForm (B : Nat) (x : NodeV) (ws : List Value) (e : Ending) (w' : World) : Prop := ∃ v, e = .returned v ∧ IsNode B w' x ws v

theorem RowAt.two {w : World} {g : Nat} {ws : List Value} (h : RowAt w g ws) {n : Nat} (hn : ws.length = n) : (0 < n → w.cell? ⟨g, 0, none⟩ = ws[0]?) ∧ (1 < n → w.cell? ⟨g, 1, none⟩ = ws[1]?) ∧ (2 < n → w.cell? ⟨g, 2, none⟩ = ws[2]?) := by
  subst hn
  refine ⟨fun i => ?_, fun i => ?_, fun i => ?_⟩ <;> rw [h _ i, List.getElem?_eq_getElem i]

theorem IsNode.iface {B : Nat} {w : World} {x : NodeV} {ws : List Value} {v : Value} (h : IsNode B w x ws v) : ∃ t u, v = .iface t u := by
  rcases h with ⟨_, _, h⟩ | ⟨_, _, h⟩ | ⟨_, _, _, h⟩ | ⟨_, _, _, _, h⟩ | ⟨_, _, _, _, _, _, _, h⟩ | ⟨_, _, _, _, _, h⟩ | ⟨_, _, _, _, h⟩ | ⟨_, _, _, _, _, h⟩
  all_goals exact ⟨_, _, h⟩
theorem FormsAre.iface {B : Nat} {w : World} : ∀ {f : BT NodeV} {vs : List Value}, FormsAre B w f vs → ∀ v ∈ vs, ∃ t u, v = .iface t u := by
  intro f
  induction f with
  | nil => intro vs h v hv; subst h; cases hv
  | node b o x l r ihl ihr =>
    intro vs h v hv
    obtain ⟨y, rest, ws, rfl, h1, h2, h3⟩ := h
    rcases List.mem_cons.1 hv with rfl | hv
    · exact h2.iface
    · exact ihr h3 v hv

end Go.Proofs.YtjfebnplffpmoaaGreatDoor

namespace Go.Proofs.YtjfebnplffpmoaaGreatDoor
open Go.RowKit Go.Maps Go.Deep

theorem infoForm : (Tryz.prog.info? 105).map (fun i => (i.zero, i.size, i.bytes)) = some (some .nilIface, 1, 16) := by kernel_rfl

def RetGrow (B : Nat) (x : NodeV) (l : BT NodeV) (q : Nat) (e : Ending) (w' : World) : Prop :=
  ∃ v ws, e = .returned (.tuple #[v, .int .i64 (q : Int)]) ∧ FormsAre B w' l ws ∧ IsNode B w' x ws v
theorem own_parts {x : NodeV} (h : ownB x = true) : 1 ≤ x.kind ∧ x.kind ≤ 23 ∧ x.kids = arity x.kind := by
  have hk : x.kids = arity x.kind := by
    by_cases e : x.kids = arity x.kind
    · exact e
    · rw [show ownB x = false by simp [ownB, e]] at h; cases h
  have hr : ¬ (x.kind < 1 ∨ 23 < x.kind) := by
    intro e
    rw [show ownB x = false by simp [ownB, arity_out x.kind e]] at h; cases h
  exact ⟨by omega, by omega, hk⟩
theorem StandsAt.mem {ns : List NodeV} {p : Nat} {x : NodeV} {l : BT NodeV} (h : StandsAt ns p x l) : x ∈ ns := by
  obtain ⟨pre, post, rfl, rfl⟩ := h
  simp
theorem take_set (xs vs : List Value) (j : Nat) (v : Value) (hj : j < xs.length) (h : xs.take j = vs) : (xs.set j v).take (j + 1) = vs ++ [v] := by
  rw [List.take_set, List.take_succ_eq_append_getElem hj, h]
  have : vs.length = j := by rw [← h]; simp; omega
  rw [List.set_append_right _ _ (by omega), this]
  simp
theorem rowAt_of {w : World} {base : Nat} {e : TypeId} {g n cap : Nat} {xs : List Value} (h : w.ownsRow base e 1 (.slice (some ⟨g, 0, none⟩) n cap) n xs) : RowAt w g xs := by
  intro i hi
  have hx := h.1
  rw [h.cellAt i (by omega)]
  exact List.getElem?_eq_getElem hi

end Go.Proofs.YtjfebnplffpmoaaGreatDoor
