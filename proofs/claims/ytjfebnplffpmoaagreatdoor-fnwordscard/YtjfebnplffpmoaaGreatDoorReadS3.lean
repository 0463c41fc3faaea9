/-
  Reading a tree, the specification: what a reading hands on, and what the parts of one make.
-/
import Derived.Test.YtjfebnplffpmoaaGreatDoorMerged37
set_option linter.unusedVariables false
namespace Go.Proofs.YtjfebnplffpmoaaGreatDoor
open Go.RowKit Go.Maps Go.Deep

/-- a reading's result, as the specification's reader has it: the row, the place, and whether it has failed -/
def PRis (r : PRes) (n : Nat) (l : List NodeV) (k : Nat) (b : Bool) : Prop := n + l.length ≤ k ∧ match r with
  | .out => False
  | .bad k' => b = true ∧ k = k'
  | .ok t k' => b = false ∧ k = k' ∧ l = fl t.f
/-- and from a reader that may have failed before -/
def PRin (b : Bool) (r : PRes) (n : Nat) (l : List NodeV) (k : Nat) (b' : Bool) : Prop := if b then l = [] ∧ k = n ∧ b' = true else PRis r n l k b'
theorem PRin.le {b : Bool} {r : PRes} {n : Nat} {l : List NodeV} {k : Nat} {b' : Bool} (h : PRin b r n l k b') : n + l.length ≤ k := by
  unfold PRin at h
  split at h
  · obtain ⟨rfl, rfl, _⟩ := h; simp
  · exact h.1
theorem PRin.cases {b : Bool} {r : PRes} {n : Nat} {l : List NodeV} {k : Nat} {b' : Bool} (h : PRin b r n l k b') : (b = true ∧ l = [] ∧ k = n ∧ b' = true) ∨ (b = false ∧ b' = true ∧ r = .bad k ∧ n + l.length ≤ k) ∨ (b = false ∧ b' = false ∧ n + l.length ≤ k ∧ ∃ t, r = .ok t k ∧ l = fl t.f) := by
  unfold PRin at h
  split at h
  · rename_i hb
    exact .inl ⟨hb, h⟩
  · rename_i hb
    have hb : b = false := by simpa using hb
    obtain ⟨h1, h2⟩ := h
    cases r with
    | out => exact h2.elim
    | bad k' => obtain ⟨rfl, rfl⟩ := h2; exact .inr (.inl ⟨hb, rfl, rfl, h1⟩)
    | ok t k' => obtain ⟨rfl, rfl, rfl⟩ := h2; exact .inr (.inr ⟨hb, rfl, h1, t, rfl, rfl⟩)
theorem PRin.of {r : PRes} {n : Nat} {l : List NodeV} {k : Nat} {b' : Bool} (h : PRis r n l k b') : PRin false r n l k b' := h
theorem take_bad (ws : List WordV) (s : ByteArray) (k : Nat) : takeB ws s k true = false ∧ takeN ws s k true = k := by
  have : takeB ws s k true = false := rfl
  exact ⟨this, by unfold takeN; rw [this]; rfl⟩
theorem take_is (ws : List WordV) (s : ByteArray) (k : Nat) : (txt ws k = s ∧ takeB ws s k false = true ∧ takeN ws s k false = k + 1) ∨ (txt ws k ≠ s ∧ takeB ws s k false = false ∧ takeN ws s k false = k) := by
  by_cases h : txt ws k = s
  · have e : takeB ws s k false = true := by unfold takeB; simpa using h
    exact .inl ⟨h, e, by unfold takeN; rw [e]; rfl⟩
  · have e : takeB ws s k false = false := by unfold takeB; simpa using h
    exact .inr ⟨h, e, by unfold takeN; rw [e]; rfl⟩
theorem take_le (ws : List WordV) (s : ByteArray) (k : Nat) (b : Bool) : k ≤ takeN ws s k b ∧ takeN ws s k b ≤ k + 1 := by
  unfold takeN; split <;> omega
/-- a name that is asked for: the text, the place, and whether it has failed -/
def NmIs (ws : List WordV) (n : Nat) (b : Bool) (s : ByteArray) (k : Nat) (b' : Bool) : Prop := (b' = true ∧ k = n ∧ s = ⟨#[]⟩ ∧ nameO ws n b = none) ∨ (b' = false ∧ k = n + 1 ∧ nameO ws n b = some s)
theorem NmIs.le {ws : List WordV} {n : Nat} {b : Bool} {s : ByteArray} {k : Nat} {b' : Bool} (h : NmIs ws n b s k b') : n ≤ k ∧ k ≤ n + 1 := by
  rcases h with ⟨_, rfl, _⟩ | ⟨_, rfl, _⟩ <;> omega
theorem name_is {ws : List WordV} {n k : Nat} {b' : Bool} {s : ByteArray} {f : ByteArray → Nat → PRes} (h : NmIs ws n false s k b') : (b' = true ∧ k = n ∧ s = ⟨#[]⟩ ∧ mustName ws n f = .bad n) ∨ (b' = false ∧ k = n + 1 ∧ mustName ws n f = f s (n + 1)) := by
  have key : nameO ws n false = none → mustName ws n f = .bad n := fun e => by
    unfold nameO at e
    unfold mustName
    split
    · rename_i x hx
      rw [hx] at e
      simp only [Bool.false_eq_true, if_false] at e
      split at e
      · cases e
      · rename_i h2; rw [if_neg h2]
    · rfl
  have key2 : ∀ s, nameO ws n false = some s → mustName ws n f = f s (n + 1) := fun s e => by
    unfold nameO at e
    unfold mustName
    split
    · rename_i x hx
      rw [hx] at e
      simp only [Bool.false_eq_true, if_false] at e
      split at e
      · rename_i h2
        rw [if_pos h2]
        injection e with e
        rw [e]
      · cases e
    · rename_i hx
      rw [hx] at e
      cases e
  rcases h with ⟨h1, h2, h3, h4⟩ | ⟨h1, h2, h3⟩
  · exact .inl ⟨h1, h2, h3, key h4⟩
  · exact .inr ⟨h1, h2, key2 s h3⟩
theorem name_badS {ws : List WordV} {n k : Nat} {b' : Bool} {s : ByteArray} (h : NmIs ws n true s k b') : b' = true ∧ k = n ∧ s = ⟨#[]⟩ := by
  rcases h with ⟨h1, h2, h3, _⟩ | ⟨_, _, h3⟩
  · exact ⟨h1, h2, h3⟩
  · cases h3
theorem RetNm.is {ws : List WordV} {pb : Nat} {a : Option Addr} {c n : Nat} {b : Bool} {w w' : World} {e : Ending} (h : RetNm ws pb a c n (nameO ws n b) w e w') : ∃ s k b', e = .returned (.string s) ∧ Hid (PrS ws w' pb a c k b') ∧ Hid (Turn [pb] w w') ∧ Hid (NmIs ws n b s k b') := by
  cases hq : nameO ws n b with
  | none => rw [hq] at h; exact ⟨_, n, true, h.1, h.2.1, h.2.2, hide (.inl ⟨rfl, rfl, rfl, hq⟩)⟩
  | some s => rw [hq] at h; exact ⟨s, n + 1, false, h.1, h.2.1, h.2.2, hide (.inr ⟨rfl, rfl, hq⟩)⟩
theorem fl_node1 (k : Int) (a : TreeV) : fl (node1 k a).f = ⟨k, 0, ⟨#[]⟩, 1⟩ :: fl a.f := by
  show _ :: (fl a.f ++ fl .nil) = _
  simp [fl]
  rfl
theorem fl_node2 (k : Int) (nm : ByteArray) (a b : TreeV) : fl (node2 k nm a b).f = ⟨k, 0, nm, 2⟩ :: (fl a.f ++ fl b.f) := by
  show _ :: (fl (app a.f b.f) ++ fl .nil) = _
  rw [fl_app]; simp [fl]
  rfl
theorem fl_node3 (k : Int) (nm : ByteArray) (a b c : TreeV) : fl (node3 k nm a b c).f = ⟨k, 0, nm, 3⟩ :: (fl a.f ++ (fl b.f ++ fl c.f)) := by
  show _ :: (fl (app a.f (app b.f c.f)) ++ fl .nil) = _
  rw [fl_app, fl_app]; simp [fl]
  rfl
theorem bad_in {r : PRes} {n : Nat} {l : List NodeV} {k : Nat} {b' : Bool} (h : PRin true r n l k b') : l = [] ∧ k = n ∧ b' = true := h
/-- a part that is read by the way -/
theorem is_then {r : PRes} {n0 n : Nat} {l1 : List NodeV} {k1 : Nat} {b1 : Bool} {f : TreeV → Nat → PRes} {L : List NodeV} {K : Nat} {B : Bool} (h : PRin false r n l1 k1 b1) (hb : b1 = true → B = true ∧ K = k1) (hn : n0 + L.length ≤ K) (hf : ∀ t, b1 = false → l1 = fl t.f → PRis (f t k1) n0 L K B) : PRis (r.then f) n0 L K B := by
  rcases h.cases with ⟨h1, _⟩ | ⟨_, h2, h3, h4⟩ | ⟨_, h2, h3, t, h4, h5⟩
  · cases h1
  · rw [h3]
    obtain ⟨e1, e2⟩ := hb h2
    exact ⟨hn, e1, e2⟩
  · rw [h4]
    exact hf t h2 h5
theorem is_must {ws : List WordV} {s : ByteArray} {n0 k : Nat} {f : Nat → PRes} {L : List NodeV} {K : Nat} {B : Bool} (hb : takeB ws s k false = false → B = true ∧ K = takeN ws s k false) (hn : n0 + L.length ≤ K) (hf : takeB ws s k false = true → PRis (f (takeN ws s k false)) n0 L K B) : PRis (must ws s k f) n0 L K B := by
  unfold must
  rcases take_is ws s k with ⟨h1, h2, h3⟩ | ⟨h1, h2, h3⟩
  · rw [if_pos h1, ← h3]
    exact hf h2
  · rw [if_neg h1]
    obtain ⟨e1, e2⟩ := hb h2
    exact ⟨hn, e1, by rw [e2, h3]⟩
theorem is_name {ws : List WordV} {s : ByteArray} {n0 n k : Nat} {b : Bool} {f : ByteArray → Nat → PRes} {L : List NodeV} {K : Nat} {B : Bool} (h : NmIs ws n false s k b) (hb : b = true → B = true ∧ K = k) (hn : n0 + L.length ≤ K) (hf : b = false → PRis (f s k) n0 L K B) : PRis (mustName ws n f) n0 L K B := by
  rcases name_is (f := f) h with ⟨h1, h2, h3, h4⟩ | ⟨h1, h2, h3⟩
  · rw [h4]
    obtain ⟨e1, e2⟩ := hb h1
    exact ⟨hn, e1, by rw [e2, h2]⟩
  · rw [h3, ← h2]
    exact hf h1
/-- what follows a failure fails at the same place -/
theorem PRin.keep {b : Bool} {r : PRes} {n : Nat} {l : List NodeV} {k : Nat} {b' : Bool} (h : PRin b r n l k b') (hb : b = true) : b' = true ∧ k = n := by
  subst hb
  exact ⟨(bad_in h).2.2, (bad_in h).2.1⟩
theorem take_keep {ws : List WordV} {s : ByteArray} {k : Nat} {b : Bool} (hb : b = true) : (!takeB ws s k b) = true ∧ takeN ws s k b = k := by
  subst hb
  exact ⟨by rw [(take_bad ws s k).1]; rfl, (take_bad ws s k).2⟩
theorem NmIs.keep {ws : List WordV} {n : Nat} {b : Bool} {s : ByteArray} {k : Nat} {b' : Bool} (h : NmIs ws n b s k b') (hb : b = true) : b' = true ∧ k = n := by
  subst hb
  exact ⟨(name_badS h).1, (name_badS h).2.1⟩
/-- what one function of the reader hands back -/
def RetP (ws : List WordV) (pb : Nat) (a : Option Addr) (c n : Nat) (b : Bool) (r : PRes) (w : World) (e : Ending) (w' : World) : Prop :=
  ∃ v l k b', e = .returned v ∧ Hid (NdRow w.heap.size w' v l) ∧ Hid (PrS ws w' pb a c k b') ∧ Hid (Turn [pb] w w') ∧ Hid (PRin b r n l k b')
theorem NdRow.turn {B : Nat} {w w' : World} {v : Value} {ns : List NodeV} {pb : Nat} (h : NdRow B w v ns) (t : Turn [pb] w w') (hp : pb < B) : NdRow B w' v ns :=
  h.keep fun g hg => t.block g (h.lt g hg) (by have := h.ge g hg; simp; omega)
theorem PrS.lt {ws : List WordV} {w : World} {pb : Nat} {a : Option Addr} {c n : Nat} {b : Bool} (h : PrS ws w pb a c n b) : pb < w.heap.size := h.box.1.1
/-- if .. then .. else, out of its parts -/
theorem if_is {ws : List WordV} {f n : Nat} {l1 l2 l3 : List NodeV} {k1 k3 k5 : Nat} {b1 b3 b5 : Bool} (ht : txt ws n = kIf)
    (P1 : PRin false (parse ws f .expr (n + 1)) (n + 1) l1 k1 b1)
    (P2 : PRin (!takeB ws kThen k1 b1) (parse ws f .expr (takeN ws kThen k1 b1)) (takeN ws kThen k1 b1) l2 k3 b3)
    (P3 : PRin (!takeB ws kElse k3 b3) (parse ws f .expr (takeN ws kElse k3 b3)) (takeN ws kElse k3 b3) l3 k5 b5) :
    PRis (parse ws (f + 1) .expr n) n (⟨21, 0, ⟨#[]⟩, 3⟩ :: (l1 ++ (l2 ++ l3))) k5 b5 := by
  have t1 := take_le ws kThen k1 b1
  have t2 := take_le ws kElse k3 b3
  have q1 := P1.le
  have q2 := P2.le
  have q3 := P3.le
  have hn : n + (⟨21, 0, ⟨#[]⟩, 3⟩ :: (l1 ++ (l2 ++ l3)) : List NodeV).length ≤ k5 := by simp only [List.length_cons, List.length_append]; omega
  rw [parse, if_pos ht]
  refine is_then P1 (fun hb => ?_) hn fun t1 hb1 e1 => ?_
  · have a1 := take_keep (ws := ws) (s := kThen) (k := k1) hb
    have a2 := P2.keep a1.1
    have a3 := take_keep (ws := ws) (s := kElse) (k := k3) a2.1
    have a4 := P3.keep a3.1
    exact ⟨a4.1, by rw [a4.2, a3.2, a2.2, a1.2]⟩
  subst hb1
  refine is_must (fun hb => ?_) hn fun hb2 => ?_
  · have a2 := P2.keep (by rw [hb]; rfl)
    have a3 := take_keep (ws := ws) (s := kElse) (k := k3) a2.1
    have a4 := P3.keep a3.1
    exact ⟨a4.1, by rw [a4.2, a3.2, a2.2]⟩
  rw [hb2] at P2
  refine is_then P2 (fun hb => ?_) hn fun t2 hb3 e2 => ?_
  · have a3 := take_keep (ws := ws) (s := kElse) (k := k3) hb
    have a4 := P3.keep a3.1
    exact ⟨a4.1, by rw [a4.2, a3.2]⟩
  subst hb3
  refine is_must (fun hb => ?_) hn fun hb4 => ?_
  · exact P3.keep (by rw [hb]; rfl)
  rw [hb4] at P3
  refine is_then P3 (fun hb => ⟨hb, rfl⟩) hn fun t3 hb5 e3 => ?_
  exact ⟨hn, hb5, rfl, by rw [fl_node3, e1, e2, e3]⟩
theorem let_is {ws : List WordV} {f n : Nat} {nm : ByteArray} {l1 l2 : List NodeV} {k0 k1 k2 : Nat} {b0 b1 b2 : Bool} (ht : txt ws n = kLet)
    (P0 : NmIs ws (n + 1) false nm k0 b0)
    (P1 : PRin (!takeB ws sEq k0 b0) (parse ws f .expr (takeN ws sEq k0 b0)) (takeN ws sEq k0 b0) l1 k1 b1)
    (P2 : PRin (!takeB ws kIn k1 b1) (parse ws f .expr (takeN ws kIn k1 b1)) (takeN ws kIn k1 b1) l2 k2 b2) :
    PRis (parse ws (f + 1) .expr n) n (⟨22, 0, nm, 2⟩ :: (l1 ++ (l2 ++ []))) k2 b2 := by
  have q0 := P0.le
  have t1 := take_le ws sEq k0 b0
  have t2 := take_le ws kIn k1 b1
  have q1 := P1.le
  have q2 := P2.le
  have hn : n + (⟨22, 0, nm, 2⟩ :: (l1 ++ (l2 ++ [])) : List NodeV).length ≤ k2 := by
    simp only [List.length_cons, List.length_append, List.length_nil]
    rcases P0 with ⟨_, rfl, _⟩ | ⟨_, rfl, _⟩ <;> omega
  rw [parse, if_neg (by rw [ht]; decide), if_pos ht]
  refine is_name P0 (fun hb => ?_) hn fun hb0 => ?_
  · have a1 := take_keep (ws := ws) (s := sEq) (k := k0) hb
    have a2 := P1.keep a1.1
    have a3 := take_keep (ws := ws) (s := kIn) (k := k1) a2.1
    have a4 := P2.keep a3.1
    exact ⟨a4.1, by rw [a4.2, a3.2, a2.2, a1.2]⟩
  subst hb0
  refine is_must (fun hb => ?_) hn fun hb1 => ?_
  · have a2 := P1.keep (by rw [hb]; rfl)
    have a3 := take_keep (ws := ws) (s := kIn) (k := k1) a2.1
    have a4 := P2.keep a3.1
    exact ⟨a4.1, by rw [a4.2, a3.2, a2.2]⟩
  rw [hb1] at P1
  refine is_then P1 (fun hb => ?_) hn fun t1 hb2 e1 => ?_
  · have a3 := take_keep (ws := ws) (s := kIn) (k := k1) hb
    have a4 := P2.keep a3.1
    exact ⟨a4.1, by rw [a4.2, a3.2]⟩
  subst hb2
  refine is_must (fun hb => ?_) hn fun hb3 => ?_
  · exact P2.keep (by rw [hb]; rfl)
  rw [hb3] at P2
  refine is_then P2 (fun hb => ⟨hb, rfl⟩) hn fun t2 hb4 e2 => ?_
  exact ⟨hn, hb4, rfl, by rw [fl_node2, e1, e2, List.append_nil]⟩
theorem rep_is {ws : List WordV} {f n : Nat} {nm : ByteArray} {l1 l2 l3 : List NodeV} {k1 k2 k3 k4 : Nat} {b1 b2 b3 b4 : Bool} (ht : txt ws n = kRep)
    (P1 : PRin false (parse ws f .expr (n + 1)) (n + 1) l1 k1 b1)
    (P2 : NmIs ws (takeN ws kAs k1 b1) (!takeB ws kAs k1 b1) nm k2 b2)
    (P3 : PRin (!takeB ws kFrom k2 b2) (parse ws f .expr (takeN ws kFrom k2 b2)) (takeN ws kFrom k2 b2) l2 k3 b3)
    (P4 : PRin (!takeB ws kBy k3 b3) (parse ws f .expr (takeN ws kBy k3 b3)) (takeN ws kBy k3 b3) l3 k4 b4) :
    PRis (parse ws (f + 1) .expr n) n (⟨23, 0, nm, 3⟩ :: (l1 ++ (l2 ++ l3))) k4 b4 := by
  have t1 := take_le ws kAs k1 b1
  have t2 := take_le ws kFrom k2 b2
  have t3 := take_le ws kBy k3 b3
  have q1 := P1.le
  have q2 := P2.le
  have q3 := P3.le
  have q4 := P4.le
  have hn : n + (⟨23, 0, nm, 3⟩ :: (l1 ++ (l2 ++ l3)) : List NodeV).length ≤ k4 := by
    simp only [List.length_cons, List.length_append]
    omega
  have E4 : b3 = true → b4 = true ∧ k4 = k3 := fun hb => by
    have a3 := take_keep (ws := ws) (s := kBy) (k := k3) hb
    have a4 := P4.keep a3.1
    exact ⟨a4.1, by rw [a4.2, a3.2]⟩
  have E3 : b2 = true → b4 = true ∧ k4 = k2 := fun hb => by
    have a1 := take_keep (ws := ws) (s := kFrom) (k := k2) hb
    have a2 := P3.keep a1.1
    exact ⟨(E4 a2.1).1, by rw [(E4 a2.1).2, a2.2, a1.2]⟩
  rw [parse, if_neg (by rw [ht]; decide), if_neg (by rw [ht]; decide), if_pos ht]
  refine is_then P1 (fun hb => ?_) hn fun t1 hb1 e1 => ?_
  · have a1 := take_keep (ws := ws) (s := kAs) (k := k1) hb
    have a2 := P2.keep a1.1
    exact ⟨(E3 a2.1).1, by rw [(E3 a2.1).2, a2.2, a1.2]⟩
  subst hb1
  refine is_must (fun hb => ?_) hn fun hb2 => ?_
  · have a2 := P2.keep (by rw [hb]; rfl)
    exact ⟨(E3 a2.1).1, by rw [(E3 a2.1).2, a2.2]⟩
  rw [hb2] at P2
  refine is_name P2 (fun hb => E3 hb) hn fun hb3 => ?_
  subst hb3
  refine is_must (fun hb => ?_) hn fun hb4 => ?_
  · have a2 := P3.keep (by rw [hb]; rfl)
    exact ⟨(E4 a2.1).1, by rw [(E4 a2.1).2, a2.2]⟩
  rw [hb4] at P3
  refine is_then P3 (fun hb => E4 hb) hn fun t2 hb5 e2 => ?_
  subst hb5
  refine is_must (fun hb => ?_) hn fun hb6 => ?_
  · exact P4.keep (by rw [hb]; rfl)
  rw [hb6] at P4
  refine is_then P4 (fun hb => ⟨hb, rfl⟩) hn fun t3 hb7 e3 => ?_
  exact ⟨hn, hb7, rfl, by rw [fl_node3, e1, e2, e3]⟩
/-- two in brackets, out of the parts -/
def pairR (ws : List WordV) (f : Nat) (k : Int) (n : Nat) : PRes := must ws sOpen (n + 1) fun n1 => (parse ws f .expr n1).then fun a n2 => must ws sComma n2 fun n3 => (parse ws f .expr n3).then fun b n4 => must ws sShut n4 fun n5 => .ok (node2 k ⟨#[]⟩ a b) n5
def absR (ws : List WordV) (f : Nat) (n : Nat) : PRes := must ws sOpen (n + 1) fun n1 => (parse ws f .expr n1).then fun a n2 => must ws sShut n2 fun n3 => .ok (node1 20 a) n3
def openR (ws : List WordV) (f : Nat) (n : Nat) : PRes := (parse ws f .expr (n + 1)).then fun a n2 => must ws sShut n2 fun n3 => .ok a n3
theorem pair_is {ws : List WordV} {f n : Nat} {kd : Int} {l1 l2 : List NodeV} {k1 k2 : Nat} {b1 b2 : Bool}
    (P1 : PRin (!takeB ws sOpen (n + 1) false) (parse ws f .expr (takeN ws sOpen (n + 1) false)) (takeN ws sOpen (n + 1) false) l1 k1 b1)
    (P2 : PRin (!takeB ws sComma k1 b1) (parse ws f .expr (takeN ws sComma k1 b1)) (takeN ws sComma k1 b1) l2 k2 b2) :
    PRis (pairR ws f kd n) n (⟨kd, 0, ⟨#[]⟩, 2⟩ :: (l1 ++ (l2 ++ []))) (takeN ws sShut k2 b2) (!takeB ws sShut k2 b2) := by
  have t1 := take_le ws sOpen (n + 1) false
  have t2 := take_le ws sComma k1 b1
  have t3 := take_le ws sShut k2 b2
  have q1 := P1.le
  have q2 := P2.le
  have hn : n + (⟨kd, 0, ⟨#[]⟩, 2⟩ :: (l1 ++ (l2 ++ [])) : List NodeV).length ≤ takeN ws sShut k2 b2 := by
    simp only [List.length_cons, List.length_append, List.length_nil]
    omega
  have E2 : b1 = true → (!takeB ws sShut k2 b2) = true ∧ takeN ws sShut k2 b2 = k1 := fun hb => by
    have a1 := take_keep (ws := ws) (s := sComma) (k := k1) hb
    have a2 := P2.keep a1.1
    have a3 := take_keep (ws := ws) (s := sShut) (k := k2) a2.1
    exact ⟨a3.1, by rw [a3.2, a2.2, a1.2]⟩
  unfold pairR
  refine is_must (fun hb => ?_) hn fun hb0 => ?_
  · have a2 := P1.keep (by rw [hb]; rfl)
    exact ⟨(E2 a2.1).1, by rw [(E2 a2.1).2, a2.2]⟩
  rw [hb0] at P1
  refine is_then P1 (fun hb => E2 hb) hn fun t1 hb1 e1 => ?_
  subst hb1
  refine is_must (fun hb => ?_) hn fun hb2 => ?_
  · have a2 := P2.keep (by rw [hb]; rfl)
    have a3 := take_keep (ws := ws) (s := sShut) (k := k2) a2.1
    exact ⟨a3.1, by rw [a3.2, a2.2]⟩
  rw [hb2] at P2
  refine is_then P2 (fun hb => take_keep hb) hn fun t2 hb3 e2 => ?_
  subst hb3
  refine is_must (fun hb => ⟨by rw [hb]; rfl, rfl⟩) hn fun hb4 => ?_
  exact ⟨hn, by rw [hb4]; rfl, rfl, by rw [fl_node2, e1, e2, List.append_nil]⟩
theorem abs_is {ws : List WordV} {f n : Nat} {l1 : List NodeV} {k1 : Nat} {b1 : Bool}
    (P1 : PRin (!takeB ws sOpen (n + 1) false) (parse ws f .expr (takeN ws sOpen (n + 1) false)) (takeN ws sOpen (n + 1) false) l1 k1 b1) :
    PRis (absR ws f n) n (⟨20, 0, ⟨#[]⟩, 1⟩ :: (l1 ++ ([] ++ []))) (takeN ws sShut k1 b1) (!takeB ws sShut k1 b1) := by
  have t1 := take_le ws sOpen (n + 1) false
  have t3 := take_le ws sShut k1 b1
  have q1 := P1.le
  have hn : n + (⟨20, 0, ⟨#[]⟩, 1⟩ :: (l1 ++ ([] ++ [])) : List NodeV).length ≤ takeN ws sShut k1 b1 := by
    simp only [List.length_cons, List.length_append, List.length_nil]
    omega
  unfold absR
  refine is_must (fun hb => ?_) hn fun hb0 => ?_
  · have a2 := P1.keep (by rw [hb]; rfl)
    have a3 := take_keep (ws := ws) (s := sShut) (k := k1) a2.1
    exact ⟨a3.1, by rw [a3.2, a2.2]⟩
  rw [hb0] at P1
  refine is_then P1 (fun hb => take_keep hb) hn fun t1 hb1 e1 => ?_
  subst hb1
  refine is_must (fun hb => ⟨by rw [hb]; rfl, rfl⟩) hn fun hb4 => ?_
  exact ⟨hn, by rw [hb4]; rfl, rfl, by rw [fl_node1, e1]; simp⟩
theorem open_is {ws : List WordV} {f n : Nat} {l1 : List NodeV} {k1 : Nat} {b1 : Bool}
    (P1 : PRin false (parse ws f .expr (n + 1)) (n + 1) l1 k1 b1) :
    PRis (openR ws f n) n l1 (takeN ws sShut k1 b1) (!takeB ws sShut k1 b1) := by
  have t3 := take_le ws sShut k1 b1
  have q1 := P1.le
  have hn : n + l1.length ≤ takeN ws sShut k1 b1 := by omega
  unfold openR
  refine is_then P1 (fun hb => take_keep hb) hn fun t1 hb1 e1 => ?_
  subst hb1
  refine is_must (fun hb => ⟨by rw [hb]; rfl, rfl⟩) hn fun hb4 => ?_
  exact ⟨hn, by rw [hb4]; rfl, rfl, e1⟩
end Go.Proofs.YtjfebnplffpmoaaGreatDoor
