/-
  The specification's draw of a disk.
-/
import Derived.Test.YtddmomcanakoiaaDrawFile
import Derived.Test.YtddmomcanakoiaaMerged1
import Derived.Test.YtddmomcanakoiaaMerged4
import Derived.Lib.ConvBytes
import Derived.Deep.CutBlock
set_option linter.unusedVariables false
namespace Go.Proofs.Ytddmomcanakoiaa
open Go.RowKit Go.Maps Go.Deep

/-- bytes that one may read, in a block behind B that is not gd -/
def ByHi (B gd : Nat) (w : World) (a : Option Addr) (n c : Nat) (bs : List UInt8) : Prop := n = bs.length ∧ n ≤ c ∧ (bs = [] ∨ ∃ rb off, a = some ⟨rb, off, none⟩ ∧ B ≤ rb ∧ rb ≠ gd ∧ rb < w.heap.size ∧ ByAt w rb off bs)
theorem ByHi.turn {B gd : Nat} {S : List Nat} {w w' : World} {a : Option Addr} {n c : Nat} {bs : List UInt8} (h : ByHi B gd w a n c bs) (t : Turn S w w') (hS : ∀ k ∈ S, k < B ∨ k = gd) : ByHi B gd w' a n c bs := by
  refine ⟨h.1, h.2.1, ?_⟩
  rcases h.2.2 with h0 | ⟨rb, off, e, h1, h2, h3, h4⟩
  · exact .inl h0
  · exact .inr ⟨rb, off, e, h1, h2, Nat.lt_of_lt_of_le h3 t.size, fun i hi => (t.cell h3 (fun hm => by have := hS rb hm; omega)).trans (h4 i hi)⟩
theorem ByHi.nil (B gd : Nat) (w : World) : ByHi B gd w none 0 0 [] := ⟨rfl, Nat.le_refl _, .inl rfl⟩
theorem ByHi.of_row {B B' gd : Nat} {w : World} {a : Option Addr} {n c : Nat} {bs : List UInt8} (r : ByRow B' w (.slice a n c) bs) (hB : B ≤ B') (hg : ∀ k, B' ≤ k → k < w.heap.size → k ≠ gd) : ByHi B gd w a n c bs := by
  refine ⟨row_len' r, by have := row_room r (Int.le_refl _); have := row_len' r; omega, ?_⟩
  rcases Nat.eq_zero_or_pos bs.length with h0 | h0
  · exact .inl (List.eq_nil_of_length_eq_zero h0)
  · have e := row_len' r
    obtain ⟨gb, rfl, _, h1, h2⟩ := row_form r (by omega)
    refine .inr ⟨gb, 0, rfl, by omega, hg gb h1 h2, h2, ?_⟩
    subst e
    have hh : w.ownsRow B' 5 1 (.slice (some ⟨gb, 0, none⟩) bs.length c) bs.length (bs.map byV) := r
    intro i hi
    have := hh.cellAt i (by simp; omega)
    rw [Nat.zero_add, this]
    simp [hi, byV]
theorem ByHi.rd {B gd : Nat} {w : World} {a : Option Addr} {n c : Nat} {bs : List UInt8} (h : ByHi B gd w a n c bs) : ByRd w (.slice a n c) bs := by
  obtain ⟨rfl, hc, h⟩ := h
  refine ⟨a, c, rfl, ?_, hc⟩
  rcases h with h0 | ⟨rb, off, e, h1, h2, h3, h4⟩
  · exact .inl h0
  · exact .inr ⟨rb, off, e, h3, h4⟩
/-- a disk that is being drawn: its box, its two rows -/
structure DIs (B : Nat) (gd : Nat) (wx : World) (a0 : Option Addr) (n0 c0 : Nat) (a1 : Option Addr) (n1 c1 : Nat) (d : DiskV) : Prop where
  box : BoxF wx gd [.slice a0 n0 c0, .slice a1 n1 c1, .int .i64 d.fuse, .bool d.down]
  r0 : ByHi B gd wx a0 n0 c0 d.safe
  r1 : ByHi B gd wx a1 n1 c1 d.soft
  l0 : d.safe.length ≤ 9000
  l1 : d.soft.length ≤ 2000
  fu : -2 ≤ d.fuse ∧ d.fuse ≤ 401
def zero4 : List Value := [.slice none 0 0, .slice none 0 0, .int .i64 0, .bool false]
def DSt (base g N : Nat) (w0 w : World) (gd : Nat) (wx : World) : Prop := ∃ a0 n0 c0 a1 n1 c1 d, DIs (w.heap.size + 1) gd wx a0 n0 c0 a1 n1 c1 d ∧ BoxF wx w.heap.size zero4 ∧ w.heap.size < gd ∧ Rdy base g N w0 wx ∧ w0.heap.size ≤ w.heap.size
theorem DIs.turn {B gd : Nat} {wx wy : World} {a0 : Option Addr} {n0 c0 : Nat} {a1 : Option Addr} {n1 c1 : Nat} {d : DiskV} {S : List Nat} (h : DIs B gd wx a0 n0 c0 a1 n1 c1 d) (t : Turn S wx wy) (hg : gd ∉ S) (hS : ∀ k ∈ S, k < B) : DIs B gd wy a0 n0 c0 a1 n1 c1 d :=
  ⟨h.box.turn t hg, h.r0.turn t (fun k hk => .inl (hS k hk)), h.r1.turn t (fun k hk => .inl (hS k hk)), h.l0, h.l1, h.fu⟩
theorem DSt.turnG {base g N M : Nat} {w0 w : World} {gd : Nat} {wx wy : World} (h : DSt base g N w0 w gd wx) (t : Turn [g] wx wy) (r : Rdy base g M w0 wy) : DSt base g M w0 w gd wy := by
  obtain ⟨a0, n0, c0, a1, n1, c1, d, h1, h2, h3, h4, h5⟩ := h
  have := h4.lt
  exact ⟨a0, n0, c0, a1, n1, c1, d, h1.turn t (by simp; omega) (by simp; omega), h2.turn t (by simp; omega), h3, r, h5⟩
theorem DSt.more {base g N M : Nat} {w0 w : World} {gd : Nat} {wx : World} (h : DSt base g N w0 w gd wx) (hN : N ≤ M) : DSt base g M w0 w gd wx := by
  obtain ⟨a0, n0, c0, a1, n1, c1, d, h1, h2, h3, h4, h5⟩ := h
  exact ⟨a0, n0, c0, a1, n1, c1, d, h1, h2, h3, h4.more hN, h5⟩
theorem setD {gd i : Nat} (wx : World) (v : Value) : Turn [gd] wx (wx.setCell ⟨gd, i, none⟩ v) := (Turn.refl [gd] wx).setCell (g := gd) (by simp) i v
/-- a field of the box is written -/
theorem DSt.fuse {base g N : Nat} {w0 w : World} {gd : Nat} {wx : World} (h : DSt base g N w0 w gd wx) (f : Int) (hf : -2 ≤ f ∧ f ≤ 401) : DSt base g N w0 w gd (wx.setCell ⟨gd, 2, none⟩ (.int .i64 f)) := by
  obtain ⟨a0, n0, c0, a1, n1, c1, d, h1, h2, h3, h4, h5⟩ := h
  have t := setD (gd := gd) (i := 2) wx (.int .i64 f)
  have q := h1.box.set 2 (.int .i64 f) (by simp)
  simp only [List.set] at q
  exact ⟨a0, n0, c0, a1, n1, c1, ⟨d.safe, d.soft, f, d.down⟩, ⟨q, h1.r0.turn t (by simp), h1.r1.turn t (by simp), h1.l0, h1.l1, hf⟩, h2.turn t (by simp; omega), h3, h4.turns t (by simp; omega), h5⟩
theorem DSt.down {base g N : Nat} {w0 w : World} {gd : Nat} {wx : World} (h : DSt base g N w0 w gd wx) (b : Bool) : DSt base g N w0 w gd (wx.setCell ⟨gd, 3, none⟩ (.bool b)) := by
  obtain ⟨a0, n0, c0, a1, n1, c1, d, h1, h2, h3, h4, h5⟩ := h
  have t := setD (gd := gd) (i := 3) wx (.bool b)
  have q := h1.box.set 3 (.bool b) (by simp)
  simp only [List.set] at q
  exact ⟨a0, n0, c0, a1, n1, c1, ⟨d.safe, d.soft, d.fuse, b⟩, ⟨q, h1.r0.turn t (by simp), h1.r1.turn t (by simp), h1.l0, h1.l1, h1.fu⟩, h2.turn t (by simp; omega), h3, h4.turns t (by simp; omega), h5⟩
/-- a row is put into the box -/
theorem DSt.soft {base g N M : Nat} {w0 w : World} {gd : Nat} {wz wx : World} {a : Option Addr} {n c : Nat} {bs : List UInt8} (h : DSt base g N w0 w gd wz) (t : Turn [g] wz wx) (rd : Rdy base g M w0 wx) (r : ByHi (w.heap.size + 1) gd wx a n c bs) (hl : bs.length ≤ 2000) : DSt base g M w0 w gd (wx.setCell ⟨gd, 1, none⟩ (.slice a n c)) := by
  obtain ⟨a0, n0, c0, a1, n1, c1, d, k1, h2, h3, h4, h5⟩ := h
  have hgl := h4.lt
  have h1 := k1.turn t (by simp; omega) (by simp; omega)
  have q := h1.box.set 1 (.slice a n c) (by simp)
  simp only [List.set] at q
  have t1 := setD (gd := gd) (i := 1) wx (.slice a n c)
  exact ⟨a0, n0, c0, a, n, c, ⟨d.safe, bs, d.fuse, d.down⟩, ⟨q, h1.r0.turn t1 (by simp), r.turn t1 (by simp), h1.l0, hl, h1.fu⟩, (h2.turn t (by simp; omega)).turn t1 (by simp; omega), h3, rd.turns t1 (by simp; omega), h5⟩
theorem DSt.safe {base g N M : Nat} {w0 w : World} {gd : Nat} {wz wx : World} {a : Option Addr} {n c : Nat} {bs : List UInt8} (h : DSt base g N w0 w gd wz) (t : Turn [g] wz wx) (rd : Rdy base g M w0 wx) (r : ByHi (w.heap.size + 1) gd wx a n c bs) (hl : bs.length ≤ 9000) : DSt base g M w0 w gd (wx.setCell ⟨gd, 0, none⟩ (.slice a n c)) := by
  obtain ⟨a0, n0, c0, a1, n1, c1, d, k1, h2, h3, h4, h5⟩ := h
  have hgl := h4.lt
  have h1 := k1.turn t (by simp; omega) (by simp; omega)
  have q := h1.box.set 0 (.slice a n c) (by simp)
  simp only [List.set] at q
  have t1 := setD (gd := gd) (i := 0) wx (.slice a n c)
  exact ⟨a, n, c, a1, n1, c1, ⟨bs, d.soft, d.fuse, d.down⟩, ⟨q, r.turn t1 (by simp), h1.r1.turn t1 (by simp), hl, h1.l1, h1.fu⟩, (h2.turn t (by simp; omega)).turn t1 (by simp; omega), h3, rd.turns t1 (by simp; omega), h5⟩
theorem DSt.softNil {base g N : Nat} {w0 w : World} {gd : Nat} {wx : World} (h : DSt base g N w0 w gd wx) : DSt base g N w0 w gd (wx.setCell ⟨gd, 1, none⟩ (.slice none 0 0)) := by
  have hr : Rdy base g N w0 wx := by obtain ⟨a0, n0, c0, a1, n1, c1, d, k1, h2, h3, h4, h5⟩ := h; exact h4
  exact h.soft (Turn.refl _ _) hr (ByHi.nil _ _ _) (by simp)
theorem DSt.lt' {base g N : Nat} {w0 w : World} {gd : Nat} {wx : World} (h : DSt base g N w0 w gd wx) : w.heap.size + 1 ≤ wx.heap.size := by
  obtain ⟨a0, n0, c0, a1, n1, c1, d, k1, h2, h3, h4, h5⟩ := h
  have : w.heap.size < wx.heap.size := h2.1.1
  omega
theorem DSt.off {base g N : Nat} {w0 w : World} {gd : Nat} {wx : World} {k : Nat} (h : DSt base g N w0 w gd wx) (hk : wx.heap.size ≤ k) : k ≠ gd := by
  obtain ⟨a0, n0, c0, a1, n1, c1, d, k1, h2, h3, h4, h5⟩ := h
  have : gd < wx.heap.size := k1.box.1.1
  omega
theorem DSt.up {base g N : Nat} {w0 w : World} {gd : Nat} {wx wy : World} (h : DSt base g N w0 w gd wx) (b : Below wx.heap.size wx wy) : DSt base g N w0 w gd wy := by
  have hr : Rdy base g N w0 wx := by obtain ⟨a0, n0, c0, a1, n1, c1, d, k1, h2, h3, h4, h5⟩ := h; exact h4
  exact h.turnG (Turn.of_below b) (hr.up b)
theorem DSt.rdy {base g N : Nat} {w0 w : World} {gd : Nat} {wx : World} (h : DSt base g N w0 w gd wx) : Rdy base g N w0 wx := by
  obtain ⟨a0, n0, c0, a1, n1, c1, d, k1, h2, h3, h4, h5⟩ := h
  exact h4
/-- what the walk wants to know of the box -/
theorem DSt.cells {base g N : Nat} {w0 w : World} {gd : Nat} {wx : World} (h : DSt base g N w0 w gd wx) : ∃ a0 n0 c0 a1 n1 c1 f b, (wx.cell? ⟨gd, 0, none⟩ = some (.slice a0 n0 c0) ∧ wx.cell? ⟨gd, 1, none⟩ = some (.slice a1 n1 c1) ∧ wx.cell? ⟨gd, 2, none⟩ = some (.int .i64 f) ∧ wx.cell? ⟨gd, 3, none⟩ = some (.bool b)) ∧ (wx.frozen? ⟨gd, 0, none⟩ = false ∧ wx.frozen? ⟨gd, 1, none⟩ = false ∧ wx.frozen? ⟨gd, 2, none⟩ = false ∧ wx.frozen? ⟨gd, 3, none⟩ = false) ∧ (n1 : Int) ≤ 2000 := by
  obtain ⟨a0, n0, c0, a1, n1, c1, d, k1, h2, h3, h4, h5⟩ := h
  obtain ⟨h6, h7⟩ := k1.box.four
  refine ⟨a0, n0, c0, a1, n1, c1, _, _, h6, h7, ?_⟩
  have := k1.r1.1
  have := k1.l1
  omega
theorem conv_hi {B gd : Nat} (w : World) (t : ByteArray) (hB : B ≤ w.heap.size) (hg : ∀ k, w.heap.size ≤ k → k ≠ gd) : ByHi B gd (Lib.bytesWorld w 5 t) (some ⟨w.heap.size, 0, none⟩) t.size (grownCap w t.size 0 5) t.data.toList := by
  refine ⟨by simp, ?_, .inr ⟨w.heap.size, 0, rfl, hB, hg _ (Nat.le_refl _), by rw [Lib.bytesWorld_size]; omega, fun i hi => ?_⟩⟩
  · exact grownCap_ge _ _ _ _
  · have h := conv_cell w 5 t i (by simpa using hi)
    rw [Nat.zero_add, h]
    rfl
theorem log_le (rs : List RecV) : (logOut rs).length ≤ 8000 := by
  have key : ∀ (l : List RecV) (a b : List UInt8), a.length ≤ 8000 → l.foldl logStep (some a) = some b → b.length ≤ 8000 := by
    intro l
    induction l with
    | nil => intro a b ha h; simp at h; subst h; exact ha
    | cons x l ih =>
      intro a b ha h
      rw [List.foldl_cons] at h
      cases hx : logStep (some a) x with
      | none =>
        rw [hx] at h
        have : ∀ l : List RecV, l.foldl logStep none = none := by
          intro l
          induction l with
          | nil => rfl
          | cons y l ih => rw [List.foldl_cons]; exact ih
        rw [this] at h
        cases h
      | some c =>
        rw [hx] at h
        refine ih c b ?_ h
        simp only [logStep] at hx
        split at hx
        · rename_i hq
          simp at hx
          subst hx
          simpa using hq.2
        · cases hx
  unfold logOut logAll
  split
  · cases hl : logL rs with
    | none => simp
    | some b => exact key rs [] b (by simp) hl
  · simp
def RetDk (base g N : Nat) (w0 w : World) (e : Ending) (w' : World) : Prop := ∃ a0 n0 c0 a1 n1 c1, ∃ d : DiskV, e = .returned (.agg #[.slice a0 n0 c0, .slice a1 n1 c1, .int .i64 d.fuse, .bool d.down]) ∧ Hid (∀ W S, Turn S w' W → (∀ k ∈ S, k ≤ w.heap.size) → DiskRd W (.agg #[.slice a0 n0 c0, .slice a1 n1 c1, .int .i64 d.fuse, .bool d.down]) d) ∧ Hid (d.safe.length ≤ 9000 ∧ d.soft.length ≤ 2000 ∧ -2 ≤ d.fuse ∧ d.fuse ≤ 401) ∧ Hid (Rdy base g N w0 w')
set_option maxHeartbeats 6400000 in
theorem l32Disk_any (base g N : Nat) (w0 w : World) (hN : N ≤ 100000) (h : Rdy base g N w0 w) :
    Calls Try.prog 28 #[.pointer (some ⟨g, 0, none⟩)] w fun e w' => RetDk base g (N + 1000) w0 w e w' := by
  have HZ := hide (Nat.lt_of_lt_of_le h.lt h.turn.size)
  have HR := hide h
  have X0 := hide (boxF_new w zero4 35)
  have HF := hide (l32File_any base g N w0 (w.alloc (.cells zero4.toArray 35)) (by omega) (h.alloc _))
  have HFT := hide (l32File_any base g N (w.alloc (.cells zero4.toArray 35)) (w.alloc (.cells zero4.toArray 35)) (by omega) (h.alloc _).self)
  clear h
  unfold zero4 at HF HFT
  go_enter Try.func28, Try.ntmps28
  go_wp2_with fail
  refine (unhide HFT).mono ?_
  rintro e w1 ⟨a1, n1, c1, bs, rfl, R1, L1, D1⟩
  have M1 := hide (show DSt base g (N + 200) w0 w w1.heap.size (w1.alloc (.cells #[.slice a1 n1 c1, .slice none 0 0, .int .i64 (-1), .bool false] 35)) from by
    have hz : (w.alloc (.cells zero4.toArray 35)).heap.size = w.heap.size + 1 := by simp
    have hb : Below w1.heap.size w1 (w1.alloc (.cells #[.slice a1 n1 c1, .slice none 0 0, .int .i64 (-1), .bool false] 35)) := (Below.refl _ _).alloc (Nat.le_refl _) _
    have r1 := unhide R1
    have d1 := unhide D1
    have hs := d1.size
    have hz' := unhide HZ
    refine ⟨a1, n1, c1, none, 0, 0, ⟨bs, [], -1, false⟩, ⟨boxF_new4 w1 _ _ _ _ _, (ByHi.of_row (gd := w1.heap.size) r1 (by simp) (fun k h1 h2 => by omega)).turn (Turn.of_below (S := []) hb) (by simp), ByHi.nil _ _ _, by have := unhide L1; simp only; omega, by simp, by simp⟩, ?_, ?_, ?_, (unhide HR).size⟩
    · exact ((unhide X0).turn d1.turn (by simp; omega)).up hb
    · simp at hs; omega
    · exact (((unhide HR).alloc _).on d1).up hb)
  have HZG := hide (show w.heap.size < w1.heap.size from by have := (unhide D1).size; simp at this; omega)
  clear R1 D1 L1 HF HFT X0
  go_wp2_with fail
  generalize w1.alloc (.cells #[.slice a1 n1 c1, .slice none 0 0, .int .i64 (-1), .bool false] 35) = W1 at *
  generalize w1.heap.size = gd at *
  refine (pick_rdy base g (N + 200) 3 w0 W1 (by omega) (by omega) (by omega) (unhide M1).rdy).mono ?_
  rintro e w2 ⟨k2, rfl, hk2, D2, T2⟩
  have M2 := hide ((unhide M1).turnG (unhide T2) (unhide D2))
  clear M1 D2 T2
  -- the fuse
  go_upto_if 11 with fail
  go_cut [] (fun wx => Hid (DSt base g (N + 202) w0 w gd wx))
  case first =>
    by_cases h0 : k2 = 0
    · subst h0
      go_wp2_with fail
      refine (pick_rdy base g (N + 200 + 1) 40 w0 w2 (by omega) (by omega) (by omega) (unhide M2).rdy).mono ?_
      rintro e w3 ⟨k3, rfl, hk3, D3, T3⟩
      have M3 := hide ((unhide M2).turnG (unhide T3) (unhide D3))
      obtain ⟨a0, n0, c0, a1, n1, c1, f, b, ⟨q0, q1, q2, q3⟩, ⟨f0, f1, f2, f3⟩, _⟩ := (unhide M3).cells
      go_wp2_with fail
      go_meet
      exact hide (((unhide M3).fuse (k3 : Int) (by omega)).more (by omega))
    · have h0b : ((k2 : Int) == 0) = false := by simp; omega
      go_wp2_with fail
      go_meet
      exact hide ((unhide M2).more (by omega))
  case rest =>
  have M4 := hcut
  clear M2 hcut
  go_wp2_with fail
  refine (pick_rdy base g (N + 202) 3 w0 wc (by omega) (by omega) (by omega) (unhide M4).rdy).mono ?_
  rintro e w5 ⟨k5, rfl, hk5, D5, T5⟩
  have M5 := hide ((unhide M4).turnG (unhide T5) (unhide D5))
  clear M4 D5 T5
  -- what is not safe
  go_upto_if 17 with fail
  go_cut [] (fun wx => Hid (DSt base g (N + 403) w0 w gd wx))
  case first =>
    by_cases h0 : k5 = 0
    · subst h0
      have HF := hide (l32File_any base g (N + 202 + 1) w5 w5 (by omega) (unhide M5).rdy.self)
      go_wp2_with fail
      refine (unhide HF).mono ?_
      rintro e w6 ⟨a6, n6, c6, bs, rfl, R6, L6, D6⟩
      have M6 := hide ((unhide M5).turnG (unhide D6).turn ((unhide M5).rdy.on (unhide D6)))
      obtain ⟨a0, n0, c0, a1, n1, c1, f, b, ⟨q0, q1, q2, q3⟩, ⟨f0, f1, f2, f3⟩, _⟩ := (unhide M6).cells
      go_wp2_with fail
      go_meet
      exact hide (((unhide M5).soft (unhide D6).turn ((unhide M5).rdy.on (unhide D6)) (ByHi.of_row (unhide R6) (unhide M5).lt' (fun k h1 h2 => (unhide M5).off h1)) (unhide L6)).more (by omega))
    · have h0b : ((k5 : Int) == 0) = false := by simp; omega
      go_wp2_with fail
      go_meet
      exact hide ((unhide M5).more (by omega))
  case rest =>
  have M7 := hcut
  clear M5 hcut
  go_wp2_with fail
  refine (pick_rdy base g (N + 403) 24 w0 wc (by omega) (by omega) (by omega) (unhide M7).rdy).mono ?_
  rintro e w8 ⟨k8, rfl, hk8, D8, T8⟩
  have M8 := hide ((unhide M7).turnG (unhide T8) (unhide D8))
  clear M7 D8 T8
  -- what becomes of it: each way ends at the return
  have HEND := hide (show ∀ (W : World), DSt base g (N + 1000) w0 w gd W → ∀ a0 n0 c0 a1 n1 c1 f b, W.cell? ⟨gd, 0, none⟩ = some (.slice a0 n0 c0) → W.cell? ⟨gd, 1, none⟩ = some (.slice a1 n1 c1) → W.cell? ⟨gd, 2, none⟩ = some (.int .i64 f) → W.cell? ⟨gd, 3, none⟩ = some (.bool b) → ∀ W', Turn [w.heap.size] W W' → RetDk base g (N + 1000) w0 w (.returned (.agg #[.slice a0 n0 c0, .slice a1 n1 c1, .int .i64 f, .bool b])) W' from by
    intro W h a0 n0 c0 a1 n1 c1 f b e0 e1 e2 e3 W' t
    obtain ⟨x0, y0, z0, x1, y1, z1, d, k1, h2, h3, h4, h5⟩ := h
    obtain ⟨⟨p0, p1, p2, p3⟩, _⟩ := k1.box.four
    rw [p0] at e0; rw [p1] at e1; rw [p2] at e2; rw [p3] at e3
    cases e0; cases e1; cases e2; cases e3
    exact ⟨_, _, _, _, _, _, d, rfl, hide (fun X S t2 hS => ⟨_, _, rfl, ((k1.r0.turn t (by simp)).turn t2 (fun k hk => by have := hS k hk; omega)).rd, ((k1.r1.turn t (by simp)).turn t2 (fun k hk => by have := hS k hk; omega)).rd⟩), hide ⟨k1.l0, k1.l1, k1.fu⟩, hide (h4.turns t (by simpa using h5))⟩)
  have HB := hide (show ∀ (N' : Nat) (W : World), DSt base g N' w0 w gd W → BoxF W w.heap.size zero4 from fun N' W h => by obtain ⟨x0, y0, z0, x1, y1, z1, d, k1, h2, h3, h4, h5⟩ := h; exact h2)
  unfold zero4 at HB
  go_upto_block 0 with fail
  go_cut [4, 5] (fun s4 s5 wx => Hid (DSt base g (N + 1000) w0 w gd wx))
  case first =>
    obtain ⟨a0, n0, c0, a1, n1, c1, f, b, ⟨q0, q1, q2, q3⟩, ⟨f0, f1, f2, f3⟩, hn1⟩ := (unhide M8).cells
    by_cases e0 : k8 = 0
    · subst e0
      go_wp2_with fail
      go_meet
      exact hide (((((unhide M8).softNil).fuse (-1) (by omega)).down true).more (by omega))
    have b0 : ((k8 : Int) == 0) = false := by simp; omega
    by_cases e1 : k8 = 1
    · subst e1
      go_wp2_with fail
      go_meet
      exact hide (((unhide M8).down true).more (by omega))
    have b1 : ((k8 : Int) == 1) = false := by simp; omega
    by_cases e2 : k8 = 2
    · subst e2
      have bI := (Below.refl w8.heap.size w8).alloc (Nat.le_refl _) (.cells #[.int .i64 (-2), .int .i64 400, .int .i64 401] 3)
      have MI := hide ((unhide M8).up bI)
      have XI := hide (boxF_new w8 [.int .i64 (-2), .int .i64 400, .int .i64 401] 3)
      have HZI := hide (show g < w8.heap.size from Nat.lt_of_lt_of_le (unhide M8).rdy.lt (unhide M8).rdy.size)
      clear bI
      go_wp2_with fail
      generalize w8.alloc (.cells #[.int .i64 (-2), .int .i64 400, .int .i64 401] 3) = WI at *
      refine (pick_rdy base g (N + 403 + 1) 3 w0 WI (by omega) (by omega) (by omega) (unhide MI).rdy).mono ?_
      rintro e w9 ⟨k9, rfl, hk9, D9, T9⟩
      have M9 := hide ((unhide MI).turnG (unhide T9) (unhide D9))
      have X9 := hide ((unhide XI).turn (unhide T9) (by have := unhide HZI; simp; omega))
      clear q0 q1 q2 q3 f0 f1 f2 f3 MI XI D9 T9
      obtain ⟨a0, n0, c0, a1, n1, c1, f, b, ⟨q0, q1, q2, q3⟩, ⟨f0, f1, f2, f3⟩, _⟩ := (unhide M9).cells
      have i0 := (unhide X9).1.at 0 _ rfl
      have i1 := (unhide X9).1.at 1 _ rfl
      have i2 := (unhide X9).1.at 2 _ rfl
      generalize w8.heap.size = gi at *
      rcases (show k9 = 0 ∨ k9 = 1 ∨ k9 = 2 by omega) with rfl | rfl | rfl
      · go_wp2_with fail
        go_meet
        exact hide (((unhide M9).fuse (-2) (by omega)).more (by omega))
      · go_wp2_with fail
        go_meet
        exact hide (((unhide M9).fuse 400 (by omega)).more (by omega))
      · go_wp2_with fail
        go_meet
        exact hide (((unhide M9).fuse 401 (by omega)).more (by omega))
    have b2 : ((k8 : Int) == 2) = false := by simp; omega
    by_cases e3 : k8 = 3
    · subst e3
      have MD := hide ((unhide M8).up ((Below.refl _ _).drew))
      have hn1' : n1 ≤ 2000 := by omega
      go_wp2_with fail
      go_region_with (first
        | (go_at_call 21
           refine (pick_rdy base g (N + 403 + 1) 30 w0 _ (by omega) (by omega) (by omega) (unhide MD).rdy).mono ?_
           rintro e w9 ⟨k9, rfl, hk9, D9, T9⟩
           have M9 := hide ((unhide MD).turnG (unhide T9) (unhide D9))
           have hgd9 : gd ≠ g := by have := unhide HZ; have := unhide HZG; omega
           have r1 : w9.cell? ⟨gd, 1, none⟩ = some (.slice a1 n1 c1) := ((unhide T9).cell (lt_of_cell0 q0) (by simpa using hgd9)).trans q1
           have hkk : k9 ≤ 30 := by omega)
        | (go_at_call 23
           have _t := M9
           rw [show IntKind.i64.wrap (IntKind.i64.wrap (IntKind.i64.wrap ((8000 : Int) - (n1 : Int)) - (k9 : Int)) + 1) = ((8001 - n1 - k9 : Nat) : Int) by rw [IntKind.wrap_i64, IntKind.wrap_i64, IntKind.wrap_i64]; omega]
           refine (many_any ⟨#[122]⟩ (8001 - n1 - k9) 9000 _ (by omega) (by simp only [show (⟨#[122]⟩ : ByteArray).size = 1 from rfl]; omega) (by simp only [show (⟨#[122]⟩ : ByteArray).size = 1 from rfl]; omega) (by omega) (by omega)).mono ?_
           rintro e w' ⟨⟨t, rfl, ht⟩, hw'⟩
           have hw2 := hw'.symm
           clear hw'
           subst hw2
           have hcv := Lib.run_convert_string_bytes (P := Try.prog) w9 9 22 5 t Try.underlying9 Try.underlying22 Try.underlying5
           have M10 := hide ((unhide M9).up (conv_below w9 5 t))
           have RH := hide (conv_hi (B := w.heap.size + 1) (gd := gd) w9 t (unhide M9).lt' (fun k hk => (unhide M9).off hk))
           have B10 := hide (conv_below w9 5 t)
           generalize Lib.bytesWorld w9 5 t = w10 at *
           generalize grownCap w9 t.size 0 5 = cc at *
           obtain ⟨x0, x1, x2, x3, x4, x5, x6, x7, ⟨y0, y1, y2, y3⟩, ⟨z0, z1, z2, z3⟩, _⟩ := (unhide M10).cells
           have M11 := hide ((unhide M9).safe (a := some ⟨w9.heap.size, 0, none⟩) (n := t.size) (c := cc) (Turn.of_below (unhide B10)) (unhide M10).rdy (unhide RH) (by simpa using ht))
           clear B10 RH ht)
        | fail)
      all_goals
        go_wp2_with fail
        go_meet
        exact hide ((unhide M11).more (by omega))
    have b3 : ((k8 : Int) == 3) = false := by simp; omega
    by_cases e4 : k8 = 4
    · subst e4
      go_wp2_with fail
      refine (pick_rdy base g (N + 403 + 1) 4 w0 w8 (by omega) (by omega) (by omega) (unhide M8).rdy).mono ?_
      rintro e w9 ⟨k9, rfl, hk9, D9, T9⟩
      have M9 := hide ((unhide M8).turnG (unhide T9) (unhide D9))
      have HMY := hide (l32Many_any (198 + k9) w9 (by omega))
      rw [show ((198 + k9 : Nat) : Int) = 198 + (k9 : Int) by omega] at HMY
      clear q0 q1 q2 q3 f0 f1 f2 f3 M8 D9 T9
      go_wp2_with fail
      refine (unhide HMY).mono ?_
      rintro e w10 ⟨a10, c10, rs, rfl, R10, hl, HA, b10⟩
      have M10 := hide ((unhide M9).up b10)
      have HLB := hide (fun W (hr : RecSRd W (.slice a10 (198 + k9) c10) rs) => specLog_any rs _ W (small_recs (M := 198 + k9) (by omega) (by omega) (unhide HA)) hr)
      have RR := hide (unhide R10).rd
      clear R10 hl HA b10 HMY M9
      go_wp2_with fail
      refine (unhide HLB _ (unhide RR)).mono ?_
      rintro e w11 ⟨a11, n11, c11, rfl, r11, b11⟩
      have M11 := hide ((unhide M10).up b11)
      have L11 := hide (log_le rs)
      have M12 := hide (((unhide M10).safe (a := a11) (n := n11) (c := c11) (Turn.of_below b11) (unhide M11).rdy (ByHi.of_row r11 (unhide M10).lt' (fun k h1 h2 => (unhide M10).off h1)) (by have := unhide L11; omega)).softNil)
      obtain ⟨a0, n0, c0, a1, n1, c1, f, b, ⟨q0, q1, q2, q3⟩, ⟨f0, f1, f2, f3⟩, _⟩ := (unhide M11).cells
      clear r11 b11 M10 HLB RR
      generalize logOkB rs = okb at *
      go_wp2_with fail
      go_meet
      exact hide ((unhide M12).more (by omega))
    have b4 : ((k8 : Int) == 4) = false := by simp; omega
    go_wp2_with fail
    go_meet
    exact hide ((unhide M8).more (by omega))
  case rest =>
  have M9 := hcut
  clear M8 hcut
  obtain ⟨a0, n0, c0, a1, n1, c1, f, b, ⟨q0, q1, q2, q3⟩, ⟨f0, f1, f2, f3⟩, hn1⟩ := (unhide M9).cells
  obtain ⟨⟨y0, y1, y2, y3⟩, z0, z1, z2, z3⟩ := (unhide HB _ _ (unhide M9)).four
  have KEY := hide (unhide HEND _ (unhide M9) _ _ _ _ _ _ _ _ q0 q1 q2 q3)
  go_wp2_with fail
  refine bodyPost_ret (v := .agg #[.slice a0 n0 c0, .slice a1 n1 c1, .int .i64 f, .bool b]) (by simp [results, Try.results28, go_sem, y0, y1, y2, y3]) rfl ?_
  exact unhide KEY _ (((((Turn.refl [w.heap.size] wc).setCell (g := w.heap.size) (by simp) _ _).setCell (g := w.heap.size) (by simp) _ _).setCell (g := w.heap.size) (by simp) _ _).setCell (g := w.heap.size) (by simp) _ _)
end Go.Proofs.Ytddmomcanakoiaa
