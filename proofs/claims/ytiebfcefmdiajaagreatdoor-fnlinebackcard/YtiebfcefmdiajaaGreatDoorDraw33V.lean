/-
  A word that is being drawn: its box, its stamp, and what may be written into it.
-/
import Derived.Test.YtiebfcefmdiajaaGreatDoorDraw33S
import Derived.Test.YtiebfcefmdiajaaGreatDoorMerged12
set_option linter.unusedVariables false
namespace Go.Proofs.YtiebfcefmdiajaaGreatDoor
open Go.RowKit Go.Maps Go.Deep

/-- versions that one may read, in a block behind B that is not gd -/
def VrHi (B gd : Nat) (w : World) (a : Option Addr) (n : Nat) (vs : List VerV) : Prop := n = vs.length ∧ (vs = [] ∨ ∃ rb off, a = some ⟨rb, off, none⟩ ∧ B ≤ rb ∧ rb ≠ gd ∧ rb < w.heap.size ∧ VerAt w rb off vs)
theorem VrHi.turn {B gd : Nat} {S : List Nat} {w w' : World} {a : Option Addr} {n : Nat} {vs : List VerV} (h : VrHi B gd w a n vs) (t : Turn S w w') (hS : ∀ k ∈ S, k < B ∨ k = gd) : VrHi B gd w' a n vs := by
  refine ⟨h.1, ?_⟩
  rcases h.2 with h0 | ⟨rb, off, e, h1, h2, h3, h4⟩
  · exact .inl h0
  · exact .inr ⟨rb, off, e, h1, h2, Nat.lt_of_lt_of_le h3 t.size, h4.turn t h3 (fun hm => by have := hS rb hm; omega)⟩
theorem VrHi.nil (B gd : Nat) (w : World) (a : Option Addr) : VrHi B gd w a 0 [] := ⟨rfl, .inl rfl⟩
theorem VrHi.of_row {B B' gd : Nat} {w : World} {a : Option Addr} {n c : Nat} {vs : List VerV} (r : VrRow B' w (.slice a n c) vs) (hB : B ≤ B') (hg : ∀ k, B' ≤ k → k < w.heap.size → k ≠ gd) : VrHi B gd w a n vs := by
  obtain ⟨a', c', e⟩ := r.slice
  simp only [Value.slice.injEq] at e
  obtain ⟨rfl, rfl, rfl⟩ := e
  refine ⟨rfl, ?_⟩
  obtain ⟨S, ho, h1, h2⟩ := r.own
  rcases ho with ⟨_, h0, _⟩ | ⟨g, off, cap, e1, e2, h3, h4, h5⟩
  · exact .inl h0
  · simp only [Value.slice.injEq] at e2
    subst e1
    exact .inr ⟨g, off, e2.1, Nat.le_trans hB (h1 g (by simp)), hg g (h1 g (by simp)) h3, h3, h4⟩
theorem VrHi.rd {B gd : Nat} {w : World} {a : Option Addr} {n c : Nat} {vs : List VerV} (h : VrHi B gd w a n vs) : VerRd w (.slice a n c) vs := by
  obtain ⟨rfl, h⟩ := h
  refine ⟨a, c, rfl, ?_⟩
  rcases h with h0 | ⟨rb, off, e, h1, h2, h3, h4⟩
  · exact .inl h0
  · exact .inr ⟨rb, off, e, h3, h4⟩
/-- what a drawn word is like -/
def Fit33 (s : SayV) : Prop := (-1000 ≤ s.kind ∧ s.kind ≤ 1000) ∧ (-1000 ≤ s.src ∧ s.src ≤ 1000) ∧ (-1000 ≤ s.dst ∧ s.dst ≤ 1000) ∧ s.name.size ≤ 100 ∧ (-9223372036854775808 ≤ s.val ∧ s.val ≤ 9223372036854775807) ∧ s.stamp.length ≤ 20 ∧ ∀ x ∈ s.stamp, VF33 x
theorem Fit33.small {s : SayV} (h : Fit33 s) : SmallSay s := by
  obtain ⟨h1, h2, h3, h4, h5, h6, h7⟩ := h
  have hv : ∀ x ∈ s.stamp, x.a0.size ≤ 100 ∧ -10 ≤ x.a1 ∧ x.a1 ≤ 1000000000000000 := h7
  refine ⟨⟨by omega, by omega, fun x hx => by have := hv x hx; omega⟩, ⟨by unfold maxLen; omega, by unfold maxLen; omega, fun x hx => ?_⟩, by omega, by omega, by omega, by omega⟩
  have := hv x hx
  unfold VerFit maxLen
  omega
structure SIs (B : Nat) (gd : Nat) (wx : World) (a : Option Addr) (n c : Nat) (s : SayV) : Prop where
  box : BoxF wx gd [.int .i64 s.kind, .int .i64 s.src, .int .i64 s.dst, .string s.name, .int .i64 s.val, .slice a n c]
  st : VrHi B gd wx a n s.stamp
  fit : Fit33 s
def zero6 : List Value := [.int .i64 0, .int .i64 0, .int .i64 0, .string ⟨#[]⟩, .int .i64 0, .slice none 0 0]
def SSt (base g N : Nat) (w0 w : World) (gd : Nat) (wx : World) : Prop := ∃ a n c s, SIs (w.heap.size + 1) gd wx a n c s ∧ BoxF wx w.heap.size zero6 ∧ w.heap.size < gd ∧ Rdy base g N w0 wx ∧ w0.heap.size ≤ w.heap.size
theorem SSt.turnG {base g N M : Nat} {w0 w : World} {gd : Nat} {wx wy : World} (h : SSt base g N w0 w gd wx) (t : Turn [g] wx wy) (r : Rdy base g M w0 wy) : SSt base g M w0 w gd wy := by
  obtain ⟨a, n, c, s, h1, h2, h3, h4, h5⟩ := h
  have := h4.lt
  exact ⟨a, n, c, s, ⟨h1.box.turn t (by simp; omega), h1.st.turn t (by simp; omega), h1.fit⟩, h2.turn t (by simp; omega), h3, r, h5⟩
theorem SSt.more {base g N M : Nat} {w0 w : World} {gd : Nat} {wx : World} (h : SSt base g N w0 w gd wx) (hN : N ≤ M) : SSt base g M w0 w gd wx := by
  obtain ⟨a, n, c, s, h1, h2, h3, h4, h5⟩ := h
  exact ⟨a, n, c, s, h1, h2, h3, h4.more hN, h5⟩
theorem SSt.rdy {base g N : Nat} {w0 w : World} {gd : Nat} {wx : World} (h : SSt base g N w0 w gd wx) : Rdy base g N w0 wx := by
  obtain ⟨a, n, c, s, h1, h2, h3, h4, h5⟩ := h
  exact h4
theorem SSt.up {base g N : Nat} {w0 w : World} {gd : Nat} {wx wy : World} (h : SSt base g N w0 w gd wx) (b : Below wx.heap.size wx wy) : SSt base g N w0 w gd wy := h.turnG (Turn.of_below b) (h.rdy.up b)
theorem SSt.lt' {base g N : Nat} {w0 w : World} {gd : Nat} {wx : World} (h : SSt base g N w0 w gd wx) : w.heap.size + 1 ≤ wx.heap.size := by
  obtain ⟨a, n, c, s, h1, h2, h3, h4, h5⟩ := h
  have : w.heap.size < wx.heap.size := h2.1.1
  omega
theorem SSt.off {base g N : Nat} {w0 w : World} {gd : Nat} {wx : World} {k : Nat} (h : SSt base g N w0 w gd wx) (hk : wx.heap.size ≤ k) : k ≠ gd := by
  obtain ⟨a, n, c, s, h1, h2, h3, h4, h5⟩ := h
  have : gd < wx.heap.size := h1.box.1.1
  omega
theorem SSt.ne {base g N : Nat} {w0 w : World} {gd : Nat} {wx : World} (h : SSt base g N w0 w gd wx) : gd ≠ g := by
  obtain ⟨a, n, c, s, h1, h2, h3, h4, h5⟩ := h
  have := h4.lt
  omega
theorem setS {gd i : Nat} (wx : World) (v : Value) : Turn [gd] wx (wx.setCell ⟨gd, i, none⟩ v) := (Turn.refl [gd] wx).setCell (g := gd) (by simp) i v
theorem SSt.kind {base g N : Nat} {w0 w : World} {gd : Nat} {wx : World} (h : SSt base g N w0 w gd wx) (x : Int) (hx : -1000 ≤ x ∧ x ≤ 1000) : SSt base g N w0 w gd (wx.setCell ⟨gd, 0, none⟩ (.int .i64 x)) := by
  obtain ⟨a, n, c, s, h1, h2, h3, h4, h5⟩ := h
  have t := setS (gd := gd) (i := 0) wx (.int .i64 x)
  have q := h1.box.set 0 (.int .i64 x) (by simp)
  simp only [List.set] at q
  exact ⟨a, n, c, ⟨x, s.src, s.dst, s.name, s.val, s.stamp⟩, ⟨q, h1.st.turn t (by simp), ⟨hx, h1.fit.2⟩⟩, h2.turn t (by simp; omega), h3, h4.turns t (by simp; omega), h5⟩
theorem SSt.src {base g N : Nat} {w0 w : World} {gd : Nat} {wx : World} (h : SSt base g N w0 w gd wx) (x : Int) (hx : -1000 ≤ x ∧ x ≤ 1000) : SSt base g N w0 w gd (wx.setCell ⟨gd, 1, none⟩ (.int .i64 x)) := by
  obtain ⟨a, n, c, s, h1, h2, h3, h4, h5⟩ := h
  have t := setS (gd := gd) (i := 1) wx (.int .i64 x)
  have q := h1.box.set 1 (.int .i64 x) (by simp)
  simp only [List.set] at q
  exact ⟨a, n, c, ⟨s.kind, x, s.dst, s.name, s.val, s.stamp⟩, ⟨q, h1.st.turn t (by simp), ⟨h1.fit.1, hx, h1.fit.2.2⟩⟩, h2.turn t (by simp; omega), h3, h4.turns t (by simp; omega), h5⟩
theorem SSt.dst {base g N : Nat} {w0 w : World} {gd : Nat} {wx : World} (h : SSt base g N w0 w gd wx) (x : Int) (hx : -1000 ≤ x ∧ x ≤ 1000) : SSt base g N w0 w gd (wx.setCell ⟨gd, 2, none⟩ (.int .i64 x)) := by
  obtain ⟨a, n, c, s, h1, h2, h3, h4, h5⟩ := h
  have t := setS (gd := gd) (i := 2) wx (.int .i64 x)
  have q := h1.box.set 2 (.int .i64 x) (by simp)
  simp only [List.set] at q
  exact ⟨a, n, c, ⟨s.kind, s.src, x, s.name, s.val, s.stamp⟩, ⟨q, h1.st.turn t (by simp), ⟨h1.fit.1, h1.fit.2.1, hx, h1.fit.2.2.2⟩⟩, h2.turn t (by simp; omega), h3, h4.turns t (by simp; omega), h5⟩
theorem SSt.name {base g N : Nat} {w0 w : World} {gd : Nat} {wx : World} (h : SSt base g N w0 w gd wx) (x : ByteArray) (hx : x.size ≤ 100) : SSt base g N w0 w gd (wx.setCell ⟨gd, 3, none⟩ (.string x)) := by
  obtain ⟨a, n, c, s, h1, h2, h3, h4, h5⟩ := h
  have t := setS (gd := gd) (i := 3) wx (.string x)
  have q := h1.box.set 3 (.string x) (by simp)
  simp only [List.set] at q
  exact ⟨a, n, c, ⟨s.kind, s.src, s.dst, x, s.val, s.stamp⟩, ⟨q, h1.st.turn t (by simp), ⟨h1.fit.1, h1.fit.2.1, h1.fit.2.2.1, hx, h1.fit.2.2.2.2⟩⟩, h2.turn t (by simp; omega), h3, h4.turns t (by simp; omega), h5⟩
theorem SSt.val {base g N : Nat} {w0 w : World} {gd : Nat} {wx : World} (h : SSt base g N w0 w gd wx) (x : Int) (hx : -9223372036854775808 ≤ x ∧ x ≤ 9223372036854775807) : SSt base g N w0 w gd (wx.setCell ⟨gd, 4, none⟩ (.int .i64 x)) := by
  obtain ⟨a, n, c, s, h1, h2, h3, h4, h5⟩ := h
  have t := setS (gd := gd) (i := 4) wx (.int .i64 x)
  have q := h1.box.set 4 (.int .i64 x) (by simp)
  simp only [List.set] at q
  exact ⟨a, n, c, ⟨s.kind, s.src, s.dst, s.name, x, s.stamp⟩, ⟨q, h1.st.turn t (by simp), ⟨h1.fit.1, h1.fit.2.1, h1.fit.2.2.1, h1.fit.2.2.2.1, hx, h1.fit.2.2.2.2.2⟩⟩, h2.turn t (by simp; omega), h3, h4.turns t (by simp; omega), h5⟩
/-- a stamp is put into the box -/
theorem SSt.stamp {base g N M : Nat} {w0 w : World} {gd : Nat} {wz wx : World} {a : Option Addr} {n c : Nat} {vs : List VerV} (h : SSt base g N w0 w gd wz) (t : Turn [g] wz wx) (rd : Rdy base g M w0 wx) (r : VrHi (w.heap.size + 1) gd wx a n vs) (hl : vs.length ≤ 20) (hv : ∀ x ∈ vs, VF33 x) : SSt base g M w0 w gd (wx.setCell ⟨gd, 5, none⟩ (.slice a n c)) := by
  obtain ⟨a0, n0, c0, s, k1, h2, h3, h4, h5⟩ := h
  have hgl := h4.lt
  have hb := k1.box.turn t (by simp; omega)
  have q := hb.set 5 (.slice a n c) (by simp)
  simp only [List.set] at q
  have t1 := setS (gd := gd) (i := 5) wx (.slice a n c)
  exact ⟨a, n, c, ⟨s.kind, s.src, s.dst, s.name, s.val, vs⟩, ⟨q, r.turn t1 (by simp), ⟨k1.fit.1, k1.fit.2.1, k1.fit.2.2.1, k1.fit.2.2.2.1, k1.fit.2.2.2.2.1, hl, hv⟩⟩, (h2.turn t (by simp; omega)).turn t1 (by simp; omega), h3, rd.turns t1 (by simp; omega), h5⟩
theorem six33 {w : World} {g : Nat} {a b c d e f : Value} (h : BoxF w g [a, b, c, d, e, f]) : (w.cell? ⟨g, 0, none⟩ = some a ∧ w.cell? ⟨g, 1, none⟩ = some b ∧ w.cell? ⟨g, 2, none⟩ = some c ∧ w.cell? ⟨g, 3, none⟩ = some d ∧ w.cell? ⟨g, 4, none⟩ = some e ∧ w.cell? ⟨g, 5, none⟩ = some f) ∧ (w.frozen? ⟨g, 0, none⟩ = false ∧ w.frozen? ⟨g, 1, none⟩ = false ∧ w.frozen? ⟨g, 2, none⟩ = false ∧ w.frozen? ⟨g, 3, none⟩ = false ∧ w.frozen? ⟨g, 4, none⟩ = false ∧ w.frozen? ⟨g, 5, none⟩ = false) :=
  ⟨⟨h.1.at 0 _ rfl, h.1.at 1 _ rfl, h.1.at 2 _ rfl, h.1.at 3 _ rfl, h.1.at 4 _ rfl, h.1.at 5 _ rfl⟩, h.2 0 (by simp), h.2 1 (by simp), h.2 2 (by simp), h.2 3 (by simp), h.2 4 (by simp), h.2 5 (by simp)⟩
/-- what the walk wants to know of the box -/
theorem SSt.cells {base g N : Nat} {w0 w : World} {gd : Nat} {wx : World} (h : SSt base g N w0 w gd wx) : ∃ k f t nm v a n c, (wx.cell? ⟨gd, 0, none⟩ = some (.int .i64 k) ∧ wx.cell? ⟨gd, 1, none⟩ = some (.int .i64 f) ∧ wx.cell? ⟨gd, 2, none⟩ = some (.int .i64 t) ∧ wx.cell? ⟨gd, 3, none⟩ = some (.string nm) ∧ wx.cell? ⟨gd, 4, none⟩ = some (.int .i64 v) ∧ wx.cell? ⟨gd, 5, none⟩ = some (.slice a n c)) ∧ (wx.frozen? ⟨gd, 0, none⟩ = false ∧ wx.frozen? ⟨gd, 1, none⟩ = false ∧ wx.frozen? ⟨gd, 2, none⟩ = false ∧ wx.frozen? ⟨gd, 3, none⟩ = false ∧ wx.frozen? ⟨gd, 4, none⟩ = false ∧ wx.frozen? ⟨gd, 5, none⟩ = false) ∧ (-1000 ≤ f ∧ f ≤ 1000) := by
  obtain ⟨a, n, c, s, h1, h2, h3, h4, h5⟩ := h
  obtain ⟨h6, h7⟩ := six33 h1.box
  exact ⟨_, _, _, _, _, _, _, _, h6, h7, h1.fit.2.1⟩
/-- the word that is returned -/
def RetSay33 (base g N : Nat) (w0 w : World) (e : Ending) (w' : World) : Prop := ∃ k f t nm v a n c, ∃ s : SayV, e = .returned (.agg #[.int .i64 k, .int .i64 f, .int .i64 t, .string nm, .int .i64 v, .slice a n c]) ∧ Hid (∀ W S, Turn S w' W → (∀ k ∈ S, k ≤ w.heap.size) → SayRd W (.agg #[.int .i64 k, .int .i64 f, .int .i64 t, .string nm, .int .i64 v, .slice a n c]) s) ∧ Hid (Fit33 s) ∧ Hid (Rdy base g N w0 w') ∧ Hid (w.heap.size ≤ w'.heap.size)
theorem SSt.ends {base g N : Nat} {w0 w : World} {gd : Nat} {W : World} (h : SSt base g N w0 w gd W) : ∀ k f t nm v a n c, W.cell? ⟨gd, 0, none⟩ = some (.int .i64 k) → W.cell? ⟨gd, 1, none⟩ = some (.int .i64 f) → W.cell? ⟨gd, 2, none⟩ = some (.int .i64 t) → W.cell? ⟨gd, 3, none⟩ = some (.string nm) → W.cell? ⟨gd, 4, none⟩ = some (.int .i64 v) → W.cell? ⟨gd, 5, none⟩ = some (.slice a n c) → ∀ W', Turn [w.heap.size] W W' → RetSay33 base g N w0 w (.returned (.agg #[.int .i64 k, .int .i64 f, .int .i64 t, .string nm, .int .i64 v, .slice a n c])) W' := by
  intro k f t nm v a n c e0 e1 e2 e3 e4 e5 W' tt
  have hlt := h.lt'
  obtain ⟨a0, n0, c0, s, k1, h2, h3, h4, h5⟩ := h
  obtain ⟨⟨p0, p1, p2, p3, p4, p5⟩, _⟩ := six33 k1.box
  rw [p0] at e0; rw [p1] at e1; rw [p2] at e2; rw [p3] at e3; rw [p4] at e4; rw [p5] at e5
  cases e0; cases e1; cases e2; cases e3; cases e4; cases e5
  exact ⟨_, _, _, _, _, _, _, _, s, rfl, hide (fun X S t2 hS => ⟨_, rfl, ((k1.st.turn tt (by simp)).turn t2 (fun k hk => by have := hS k hk; omega)).rd⟩), hide k1.fit, hide (h4.turns tt (by simpa using h5)), hide (by have := tt.size; omega)⟩
theorem SSt.zero {base g N : Nat} {w0 w : World} {gd : Nat} {wx : World} (h : SSt base g N w0 w gd wx) : BoxF wx w.heap.size zero6 := by
  obtain ⟨a, n, c, s, h1, h2, h3, h4, h5⟩ := h
  exact h2
theorem fill33 {w : World} {g : Nat} {z0 z1 z2 z3 z4 z5 : Value} (h : BoxF w g [z0, z1, z2, z3, z4, z5]) (a b c d e f : Value) :
    BoxF ((((((w.setCell ⟨g, 0, none⟩ a).setCell ⟨g, 1, none⟩ b).setCell ⟨g, 2, none⟩ c).setCell ⟨g, 3, none⟩ d).setCell ⟨g, 4, none⟩ e).setCell ⟨g, 5, none⟩ f) g [a, b, c, d, e, f] ∧ Turn [g] w ((((((w.setCell ⟨g, 0, none⟩ a).setCell ⟨g, 1, none⟩ b).setCell ⟨g, 2, none⟩ c).setCell ⟨g, 3, none⟩ d).setCell ⟨g, 4, none⟩ e).setCell ⟨g, 5, none⟩ f) := by
  have h0 := h.set 0 a (by simp)
  have h1 := h0.set 1 b (by simp)
  have h2 := h1.set 2 c (by simp)
  have h3 := h2.set 3 d (by simp)
  have h4 := h3.set 4 e (by simp)
  have h5 := h4.set 5 f (by simp)
  simp only [List.set] at h5
  exact ⟨h5, ((((((Turn.refl _ _).setCell (by simp) _ _).setCell (by simp) _ _).setCell (by simp) _ _).setCell (by simp) _ _).setCell (by simp) _ _).setCell (by simp) _ _⟩
/-- the word is begun -/
theorem SSt.make {base g N : Nat} {w0 w : World} {gd : Nat} {W : World} (hb : BoxF W gd zero6) (hx : BoxF W w.heap.size zero6) (hgd : w.heap.size < gd) (hd : Rdy base g N w0 W) (h0 : w0.heap.size ≤ w.heap.size) (k f : Int) (nm : ByteArray) (hk : -1000 ≤ k ∧ k ≤ 1000) (hf : -1000 ≤ f ∧ f ≤ 1000) (hn : nm.size ≤ 100) :
    SSt base g N w0 w gd ((((((W.setCell ⟨gd, 0, none⟩ (.int .i64 k)).setCell ⟨gd, 1, none⟩ (.int .i64 f)).setCell ⟨gd, 2, none⟩ (.int .i64 0)).setCell ⟨gd, 3, none⟩ (.string nm)).setCell ⟨gd, 4, none⟩ (.int .i64 0)).setCell ⟨gd, 5, none⟩ (.slice none 0 0)) := by
  obtain ⟨q, t⟩ := fill33 hb (.int .i64 k) (.int .i64 f) (.int .i64 0) (.string nm) (.int .i64 0) (.slice none 0 0)
  exact ⟨none, 0, 0, ⟨k, f, 0, nm, 0, []⟩, ⟨q, VrHi.nil _ _ _ _, ⟨hk, hf, by simp, hn, by simp, by simp, by simp⟩⟩, hx.turn t (by simp; omega), hgd, hd.turns t (by simp; omega), h0⟩
end Go.Proofs.YtiebfcefmdiajaaGreatDoor
