/-
  Reading a tree out of words: mathematics alone. One function on the words, with a bound on its depth, which both sides follow: a mode (what is read), a place, and either the tree and the place behind it or the place where it fails.
-/
import Derived.Test.YtjfebnplffpmoaaGreatDoorBodyM
import Derived.Test.YtjfebnplffpmoaaGreatDoorMerged4
set_option linter.unusedVariables false
namespace Go.Proofs.YtjfebnplffpmoaaGreatDoor
open Go.RowKit Go.Maps Go.Deep

def kIf : ByteArray := ⟨#[105, 102]⟩
def kThen : ByteArray := ⟨#[116, 104, 101, 110]⟩
def kElse : ByteArray := ⟨#[101, 108, 115, 101]⟩
def kLet : ByteArray := ⟨#[108, 101, 116]⟩
def kIn : ByteArray := ⟨#[105, 110]⟩
def kRep : ByteArray := ⟨#[114, 101, 112]⟩
def kAs : ByteArray := ⟨#[97, 115]⟩
def kFrom : ByteArray := ⟨#[102, 114, 111, 109]⟩
def kBy : ByteArray := ⟨#[98, 121]⟩
def kOr : ByteArray := ⟨#[111, 114]⟩
def kAnd : ByteArray := ⟨#[97, 110, 100]⟩
def kNot : ByteArray := ⟨#[110, 111, 116]⟩
def kMin : ByteArray := ⟨#[109, 105, 110]⟩
def kMax : ByteArray := ⟨#[109, 97, 120]⟩
def kAbs : ByteArray := ⟨#[97, 98, 115]⟩
def sEq : ByteArray := ⟨#[61]⟩
def sNe : ByteArray := ⟨#[33, 61]⟩
def sLt : ByteArray := ⟨#[60]⟩
def sLe : ByteArray := ⟨#[60, 61]⟩
def sGt : ByteArray := ⟨#[62]⟩
def sGe : ByteArray := ⟨#[62, 61]⟩
def sAdd : ByteArray := ⟨#[43]⟩
def sSub : ByteArray := ⟨#[45]⟩
def sMul : ByteArray := ⟨#[42]⟩
def sDiv : ByteArray := ⟨#[47]⟩
def sMod : ByteArray := ⟨#[37]⟩
def sOpen : ByteArray := ⟨#[40]⟩
def sShut : ByteArray := ⟨#[41]⟩
def sComma : ByteArray := ⟨#[44]⟩

/-- the text of a word that is a key or a sign; of others, and behind the end, nothing -/
def txt (ws : List WordV) (n : Nat) : ByteArray := match ws[n]? with
  | some x => if 3 ≤ x.a0 then x.a1 else ⟨#[]⟩
  | none => ⟨#[]⟩
/-- the sign between two that a text is, at a level -/
def kindL (lv : Nat) (s : ByteArray) : Int :=
  if lv = 1 ∧ s = kOr then 17 else if lv = 2 ∧ s = kAnd then 16
  else if lv = 3 then (if s = sEq then 10 else if s = sNe then 11 else if s = sLt then 12 else if s = sLe then 13 else if s = sGt then 14 else if s = sGe then 15 else 0)
  else if lv = 4 ∧ s = sAdd then 8 else if lv = 4 ∧ s = sSub then 9
  else if lv = 5 ∧ s = sMul then 5 else if lv = 5 ∧ s = sDiv then 6 else if lv = 5 ∧ s = sMod then 7 else 0
def numTextV (s : ByteArray) : Int := (decVal s.data.toList : Int)
where decVal : List UInt8 → Nat := fun l => l.foldl (fun n b => 10 * n + (b.toNat - 48)) 0
/-- a tree: its root, and what is beneath it -/
structure TreeV where
  x : NodeV
  l : BT NodeV
def TreeV.f (t : TreeV) : BT NodeV := .node 0 0 t.x t.l .nil
def node0 (k n : Int) (nm : ByteArray) : TreeV := ⟨⟨k, n, nm, 0⟩, .nil⟩
def node1 (k : Int) (a : TreeV) : TreeV := ⟨⟨k, 0, ⟨#[]⟩, 1⟩, a.f⟩
def node2 (k : Int) (nm : ByteArray) (a b : TreeV) : TreeV := ⟨⟨k, 0, nm, 2⟩, app a.f b.f⟩
def node3 (k : Int) (nm : ByteArray) (a b c : TreeV) : TreeV := ⟨⟨k, 0, nm, 3⟩, app a.f (app b.f c.f)⟩
inductive PRes where
  | out
  | bad (n : Nat)
  | ok (t : TreeV) (n : Nat)
inductive Mode where
  | expr
  | level (lv : Nat)
  | loop (lv : Nat) (a : TreeV)
  | ahead
  | atom
def PRes.then (r : PRes) (f : TreeV → Nat → PRes) : PRes := match r with
  | .out => .out
  | .bad n => .bad n
  | .ok t n => f t n
def must (ws : List WordV) (s : ByteArray) (n : Nat) (f : Nat → PRes) : PRes := if txt ws n = s then f (n + 1) else .bad n
def mustName (ws : List WordV) (n : Nat) (f : ByteArray → Nat → PRes) : PRes := match ws[n]? with
  | some x => if x.a0 = 2 then f x.a1 (n + 1) else .bad n
  | none => .bad n
def parse (ws : List WordV) : Nat → Mode → Nat → PRes
  | 0, _, _ => .out
  | f + 1, .expr, n =>
    if txt ws n = kIf then
      (parse ws f .expr (n + 1)).then fun a n1 => must ws kThen n1 fun n2 => (parse ws f .expr n2).then fun b n3 => must ws kElse n3 fun n4 => (parse ws f .expr n4).then fun c n5 => .ok (node3 21 ⟨#[]⟩ a b c) n5
    else if txt ws n = kLet then
      mustName ws (n + 1) fun nm n1 => must ws sEq n1 fun n2 => (parse ws f .expr n2).then fun a n3 => must ws kIn n3 fun n4 => (parse ws f .expr n4).then fun b n5 => .ok (node2 22 nm a b) n5
    else if txt ws n = kRep then
      (parse ws f .expr (n + 1)).then fun a n1 => must ws kAs n1 fun n2 => mustName ws n2 fun nm n3 => must ws kFrom n3 fun n4 => (parse ws f .expr n4).then fun b n5 => must ws kBy n5 fun n6 => (parse ws f .expr n6).then fun c n7 => .ok (node3 23 nm a b c) n7
    else parse ws f (.level 1) n
  | f + 1, .level lv, n =>
    if 5 < lv then parse ws f .ahead n
    else (parse ws f (.level (lv + 1)) n).then fun a n1 => parse ws f (.loop lv a) n1
  | f + 1, .loop lv a, n =>
    if kindL lv (txt ws n) = 0 then .ok a n
    else (parse ws f (.level (lv + 1)) (n + 1)).then fun b n1 =>
      if lv = 3 then .ok (node2 (kindL lv (txt ws n)) ⟨#[]⟩ a b) n1 else parse ws f (.loop lv (node2 (kindL lv (txt ws n)) ⟨#[]⟩ a b)) n1
  | f + 1, .ahead, n =>
    if txt ws n = sSub then (parse ws f .ahead (n + 1)).then fun a n1 => .ok (node1 3 a) n1
    else if txt ws n = kNot then (parse ws f .ahead (n + 1)).then fun a n1 => .ok (node1 4 a) n1
    else parse ws f .atom n
  | f + 1, .atom, n => match ws[n]? with
    | none => .bad n
    | some w =>
      if w.a0 = 1 then .ok (node0 1 (numTextV w.a1) ⟨#[]⟩) (n + 1)
      else if w.a0 = 2 then .ok (node0 2 0 w.a1) (n + 1)
      else if w.a1 = kMin ∨ w.a1 = kMax then
        must ws sOpen (n + 1) fun n1 => (parse ws f .expr n1).then fun a n2 => must ws sComma n2 fun n3 => (parse ws f .expr n3).then fun b n4 => must ws sShut n4 fun n5 => .ok (node2 (if w.a1 = kMin then 18 else 19) ⟨#[]⟩ a b) n5
      else if w.a1 = kAbs then
        must ws sOpen (n + 1) fun n1 => (parse ws f .expr n1).then fun a n2 => must ws sShut n2 fun n3 => .ok (node1 20 a) n3
      else if w.a1 = sOpen then
        (parse ws f .expr (n + 1)).then fun a n2 => must ws sShut n2 fun n3 => .ok a n3
      else .bad n

theorem txt_lt {ws : List WordV} {n : Nat} {s : ByteArray} (h : txt ws n = s) (hs : s ≠ ⟨#[]⟩) : n < ws.length := by
  rcases Nat.lt_or_ge n ws.length with h1 | h1
  · exact h1
  · unfold txt at h
    rw [List.getElem?_eq_none h1] at h
    exact absurd h.symm hs
theorem kindL_empty (lv : Nat) : kindL lv ⟨#[]⟩ = 0 := by
  unfold kindL
  rw [if_neg (fun h => absurd h.2 (by decide)), if_neg (fun h => absurd h.2 (by decide))]
  split
  · rfl
  rw [if_neg (fun h => absurd h.2 (by decide)), if_neg (fun h => absurd h.2 (by decide)), if_neg (fun h => absurd h.2 (by decide)), if_neg (fun h => absurd h.2 (by decide)), if_neg (fun h => absurd h.2 (by decide))]
theorem kind_lt {ws : List WordV} {n lv : Nat} (h : kindL lv (txt ws n) ≠ 0) : n < ws.length := by
  refine txt_lt (s := txt ws n) rfl (fun e => ?_)
  rw [e, kindL_empty] at h
  exact h rfl
/-- what is read goes forward and stays in the words -/
def GoodR (ws : List WordV) (lo n : Nat) : PRes → Prop
  | .out => False
  | .bad k => lo ≤ k ∧ k ≤ ws.length
  | .ok _ k => n ≤ k ∧ k ≤ ws.length
theorem GoodR.then {ws : List WordV} {lo lo1 n1 n2 : Nat} {r : PRes} {f : TreeV → Nat → PRes} (h : GoodR ws lo1 n1 r) (hl : lo ≤ lo1) (hf : ∀ t k, n1 ≤ k → k ≤ ws.length → GoodR ws lo n2 (f t k)) : GoodR ws lo n2 (r.then f) := by
  cases r with
  | out => exact h
  | bad k => exact ⟨Nat.le_trans hl h.1, h.2⟩
  | ok t k => exact hf t k h.1 h.2
theorem good_must {ws : List WordV} {lo n k : Nat} {s : ByteArray} {f : Nat → PRes} (hs : s ≠ ⟨#[]⟩) (hl : lo ≤ k) (hk : k ≤ ws.length) (hf : k < ws.length → GoodR ws lo n (f (k + 1))) : GoodR ws lo n (must ws s k f) := by
  unfold must
  split
  · rename_i h
    exact hf (txt_lt h hs)
  · exact ⟨hl, hk⟩
theorem good_name {ws : List WordV} {lo n k : Nat} {f : ByteArray → Nat → PRes} (hl : lo ≤ k) (hk : k ≤ ws.length) (hf : ∀ nm, k < ws.length → GoodR ws lo n (f nm (k + 1))) : GoodR ws lo n (mustName ws k f) := by
  unfold mustName
  split
  · rename_i x h
    split
    · exact hf _ (List.getElem?_eq_some_iff.1 h).1
    · exact ⟨hl, hk⟩
  · exact ⟨hl, hk⟩
theorem GoodR.weak {ws : List WordV} {lo lo' n n' : Nat} {r : PRes} (h : GoodR ws lo n r) (h1 : lo' ≤ lo) (h2 : n' ≤ n) : GoodR ws lo' n' r := by
  cases r with
  | out => exact h
  | bad k => exact ⟨Nat.le_trans h1 h.1, h.2⟩
  | ok t k => exact ⟨Nat.le_trans h2 h.1, h.2⟩
def needF (r : Nat) : Mode → Nat
  | .expr => 10 * r + 9
  | .level lv => 10 * r + 9 - lv
  | .loop _ _ => 10 * r
  | .ahead => 10 * r + 2
  | .atom => 10 * r + 1
def modeOk : Mode → Prop
  | .level lv => 1 ≤ lv ∧ lv ≤ 6
  | .loop lv _ => 1 ≤ lv ∧ lv ≤ 5
  | _ => True
def fwd : Mode → Nat
  | .loop _ _ => 0
  | _ => 1
theorem parse_good (ws : List WordV) : ∀ f m n, n ≤ ws.length → modeOk m → needF (ws.length - n) m < f → GoodR ws n (n + fwd m) (parse ws f m n) := by
  intro f
  induction f with
  | zero => intro m n _ _ h; omega
  | succ f ih =>
    intro m n hn hm hf
    have IE : ∀ k, n < k → k ≤ ws.length → GoodR ws n (k + 1) (parse ws f .expr k) := fun k h1 h2 => by
      have : 10 * (ws.length - k) + 9 < f := by
        cases m <;> simp only [needF] at hf <;> first | omega | (simp only [modeOk] at hm; omega)
      exact (ih .expr k h2 trivial this).weak (by omega) (Nat.le_refl _)
    cases m with
    | expr =>
      simp only [needF] at hf
      rw [parse]
      split
      · rename_i h
        have hlt := txt_lt h (by decide)
        refine (IE (n + 1) (by omega) (by omega)).then (Nat.le_refl _) fun a n1 q1 q2 => ?_
        refine good_must (by decide) (by omega) q2 fun q3 => ?_
        refine (IE (n1 + 1) (by omega) (by omega)).then (Nat.le_refl _) fun b n3 q4 q5 => ?_
        refine good_must (by decide) (by omega) q5 fun q6 => ?_
        refine (IE (n3 + 1) (by omega) (by omega)).then (Nat.le_refl _) fun c n5 q7 q8 => ?_
        exact ⟨by simp only [fwd]; omega, q8⟩
      split
      · rename_i h
        have hlt := txt_lt h (by decide)
        refine good_name (by omega) (by omega) fun nm q0 => ?_
        refine good_must (by decide) (by omega) (by omega) fun q1 => ?_
        refine (IE (n + 1 + 1 + 1) (by omega) (by omega)).then (Nat.le_refl _) fun a n3 q2 q3 => ?_
        refine good_must (by decide) (by omega) q3 fun q4 => ?_
        refine (IE (n3 + 1) (by omega) (by omega)).then (Nat.le_refl _) fun b n5 q5 q6 => ?_
        exact ⟨by simp only [fwd]; omega, q6⟩
      split
      · rename_i h
        have hlt := txt_lt h (by decide)
        refine (IE (n + 1) (by omega) (by omega)).then (Nat.le_refl _) fun a n1 q1 q2 => ?_
        refine good_must (by decide) (by omega) q2 fun q3 => ?_
        refine good_name (by omega) (by omega) fun nm q4 => ?_
        refine good_must (by decide) (by omega) (by omega) fun q5 => ?_
        refine (IE (n1 + 1 + 1 + 1) (by omega) (by omega)).then (Nat.le_refl _) fun b n5 q6 q7 => ?_
        refine good_must (by decide) (by omega) q7 fun q8 => ?_
        refine (IE (n5 + 1) (by omega) (by omega)).then (Nat.le_refl _) fun c n7 q9 q10 => ?_
        exact ⟨by simp only [fwd]; omega, q10⟩
      · exact ih (.level 1) n hn (by simp [modeOk]) (by simp only [needF]; omega)
    | level lv =>
      simp only [needF] at hf
      simp only [modeOk] at hm
      rw [parse]
      split
      · exact ih .ahead n hn trivial (by simp only [needF]; omega)
      · refine (ih (.level (lv + 1)) n hn (by simp only [modeOk]; omega) (by simp only [needF]; omega)).then (Nat.le_refl _) fun a n1 q1 q2 => ?_
        simp only [fwd] at q1
        exact (ih (.loop lv a) n1 q2 (by simp only [modeOk]; omega) (by simp only [needF]; omega)).weak (by omega) (by simp only [fwd]; omega)
    | loop lv a =>
      simp only [needF] at hf
      simp only [modeOk] at hm
      rw [parse]
      split
      · exact ⟨by simp only [fwd]; omega, hn⟩
      · rename_i h
        have hlt := kind_lt h
        refine (ih (.level (lv + 1)) (n + 1) (by omega) (by simp only [modeOk]; omega) (by simp only [needF]; omega)).then (by omega) fun b n1 q1 q2 => ?_
        simp only [fwd] at q1
        split
        · exact ⟨by simp only [fwd]; omega, q2⟩
        · exact (ih (.loop lv _) n1 q2 (by simp only [modeOk]; omega) (by simp only [needF]; omega)).weak (by omega) (by simp only [fwd]; omega)
    | ahead =>
      simp only [needF] at hf
      rw [parse]
      split
      · rename_i h
        have hlt := txt_lt h (by decide)
        refine (ih .ahead (n + 1) (by omega) trivial (by simp only [needF]; omega)).then (by omega) fun a n1 q1 q2 => ?_
        simp only [fwd] at q1
        exact ⟨by simp only [fwd]; omega, q2⟩
      split
      · rename_i h
        have hlt := txt_lt h (by decide)
        refine (ih .ahead (n + 1) (by omega) trivial (by simp only [needF]; omega)).then (by omega) fun a n1 q1 q2 => ?_
        simp only [fwd] at q1
        exact ⟨by simp only [fwd]; omega, q2⟩
      · exact ih .atom n hn trivial (by simp only [needF]; omega)
    | atom =>
      simp only [needF] at hf
      rw [parse]
      split
      · exact ⟨Nat.le_refl _, hn⟩
      · rename_i w hw
        have hlt := (List.getElem?_eq_some_iff.1 hw).1
        split
        · exact ⟨by simp only [fwd]; omega, by omega⟩
        split
        · exact ⟨by simp only [fwd]; omega, by omega⟩
        split
        · refine good_must (by decide) (by omega) (by omega) fun q1 => ?_
          refine (IE (n + 1 + 1) (by omega) (by omega)).then (Nat.le_refl _) fun a n2 q2 q3 => ?_
          refine good_must (by decide) (by omega) q3 fun q4 => ?_
          refine (IE (n2 + 1) (by omega) (by omega)).then (Nat.le_refl _) fun b n4 q5 q6 => ?_
          refine good_must (by decide) (by omega) q6 fun q7 => ?_
          exact ⟨by simp only [fwd]; omega, by omega⟩
        split
        · refine good_must (by decide) (by omega) (by omega) fun q1 => ?_
          refine (IE (n + 1 + 1) (by omega) (by omega)).then (Nat.le_refl _) fun a n2 q2 q3 => ?_
          refine good_must (by decide) (by omega) q3 fun q4 => ?_
          exact ⟨by simp only [fwd]; omega, by omega⟩
        split
        · refine (IE (n + 1) (by omega) (by omega)).then (Nat.le_refl _) fun a n2 q2 q3 => ?_
          refine good_must (by decide) (by omega) q3 fun q4 => ?_
          exact ⟨by simp only [fwd]; omega, by omega⟩
        · exact ⟨Nat.le_refl _, hn⟩

def sizeT (t : TreeV) : Nat := (fl t.f).length
theorem sizeT_is (t : TreeV) : sizeT t = (fl t.l).length + 1 := by simp [sizeT, TreeV.f, fl]
def NodeGd (x : NodeV) : Prop := (1 ≤ x.kind ∧ x.kind ≤ 23) ∧ (0 ≤ x.num ∧ x.num ≤ 999999999999999999) ∧ x.name.size ≤ 8 ∧ (0 ≤ x.kids ∧ x.kids ≤ 3)
structure OkT (t : TreeV) : Prop where
  kids : t.x.kids = cnt t.l
  kok : kok t.l
  all : ∀ x ∈ fl t.f, NodeGd x
theorem OkT.f {t : TreeV} (h : OkT t) : Go.Proofs.YtjfebnplffpmoaaGreatDoor.kok t.f ∧ cnt t.f = 1 := ⟨⟨h.kids, h.kok, trivial⟩, rfl⟩
theorem ok_node0 {k n : Int} {nm : ByteArray} (hk : k = 1 ∨ k = 2) (hn : 0 ≤ n ∧ n ≤ 999999999999999999) (hs : nm.size ≤ 8) : OkT (node0 k n nm) ∧ sizeT (node0 k n nm) = 1 := by
  refine ⟨⟨rfl, trivial, fun x hx => ?_⟩, rfl⟩
  simp [node0, TreeV.f, fl] at hx
  subst hx
  exact ⟨by simp only; omega, hn, hs, by simp⟩
theorem ok_node1 {k : Int} {a : TreeV} (hk : 1 ≤ k ∧ k ≤ 23) (ha : OkT a) : OkT (node1 k a) ∧ sizeT (node1 k a) = sizeT a + 1 := by
  refine ⟨⟨by simp only [node1]; rw [ha.f.2]; rfl, ha.f.1, fun x hx => ?_⟩, by rw [sizeT_is]; rfl⟩
  simp only [node1, TreeV.f, fl, List.append_nil, List.mem_cons] at hx
  rcases hx with rfl | hx
  · exact ⟨hk, by simp, (show (⟨#[]⟩ : ByteArray).size ≤ 8 by decide), by simp⟩
  · exact ha.all x (by simpa [TreeV.f, fl] using hx)
theorem ok_node2 {k : Int} {nm : ByteArray} {a b : TreeV} (hk : 1 ≤ k ∧ k ≤ 23) (hs : nm.size ≤ 8) (ha : OkT a) (hb : OkT b) : OkT (node2 k nm a b) ∧ sizeT (node2 k nm a b) = sizeT a + sizeT b + 1 := by
  refine ⟨⟨by simp only [node2]; rw [cnt_app, ha.f.2, hb.f.2]; rfl, (kok_app _ _).2 ⟨ha.f.1, hb.f.1⟩, fun x hx => ?_⟩, by rw [sizeT_is]; simp only [node2, fl_app, List.length_append]; rfl⟩
  have hx' : x = ⟨k, 0, nm, 2⟩ ∨ x ∈ fl a.f ∨ x ∈ fl b.f := by
    have : fl (node2 k nm a b).f = ⟨k, 0, nm, 2⟩ :: ((fl a.f ++ fl b.f) ++ []) := by
      show _ :: (fl (app a.f b.f) ++ fl .nil) = _
      rw [fl_app]; rfl
    rw [this] at hx
    simpa using hx
  rcases hx' with rfl | hx | hx
  · exact ⟨hk, by simp, hs, by simp⟩
  · exact ha.all x hx
  · exact hb.all x hx
theorem ok_node3 {k : Int} {nm : ByteArray} {a b c : TreeV} (hk : 1 ≤ k ∧ k ≤ 23) (hs : nm.size ≤ 8) (ha : OkT a) (hb : OkT b) (hc : OkT c) : OkT (node3 k nm a b c) ∧ sizeT (node3 k nm a b c) = sizeT a + sizeT b + sizeT c + 1 := by
  refine ⟨⟨by simp only [node3]; rw [cnt_app, cnt_app, ha.f.2, hb.f.2, hc.f.2]; rfl, (kok_app _ _).2 ⟨ha.f.1, (kok_app _ _).2 ⟨hb.f.1, hc.f.1⟩⟩, fun x hx => ?_⟩, by rw [sizeT_is]; simp only [node3, fl_app, List.length_append]; simp only [sizeT]; omega⟩
  have hx' : x = ⟨k, 0, nm, 3⟩ ∨ x ∈ fl a.f ∨ x ∈ fl b.f ∨ x ∈ fl c.f := by
    have : fl (node3 k nm a b c).f = ⟨k, 0, nm, 3⟩ :: ((fl a.f ++ (fl b.f ++ fl c.f)) ++ []) := by
      show _ :: (fl (app a.f (app b.f c.f)) ++ fl .nil) = _
      rw [fl_app, fl_app]; rfl
    rw [this] at hx
    simpa using hx
  rcases hx' with rfl | hx | hx | hx
  · exact ⟨hk, by simp, hs, by simp⟩
  · exact ha.all x hx
  · exact hb.all x hx
  · exact hc.all x hx
theorem kindL_fit (lv : Nat) (s : ByteArray) : kindL lv s = 0 ∨ (5 ≤ kindL lv s ∧ kindL lv s ≤ 17) := by
  unfold kindL
  repeat (first | (split; first | omega | skip) | omega)
/-- what the words must be for the trees to fit -/
def WordFine (x : WordV) : Prop := (x.a0 = 1 → 0 ≤ numTextV x.a1 ∧ numTextV x.a1 ≤ 999999999999999999) ∧ (x.a0 = 2 → x.a1.size ≤ 8)
def TreeR (n base : Nat) : PRes → Prop
  | .ok t k => OkT t ∧ n ≤ k ∧ sizeT t ≤ base + (k - n)
  | _ => True
theorem TreeR.then {n n1 b b1 : Nat} {r : PRes} {f : TreeV → Nat → PRes} (h : TreeR n1 b1 r) (hf : ∀ t k, OkT t → n1 ≤ k → sizeT t ≤ b1 + (k - n1) → TreeR n b (f t k)) : TreeR n b (r.then f) := by
  cases r with
  | out => trivial
  | bad k => trivial
  | ok t k => exact hf t k h.1 h.2.1 h.2.2
theorem tree_must {ws : List WordV} {n b k : Nat} {s : ByteArray} {f : Nat → PRes} (hf : TreeR n b (f (k + 1))) : TreeR n b (must ws s k f) := by
  unfold must
  split
  · exact hf
  · trivial
theorem tree_name {ws : List WordV} (hw : ∀ x ∈ ws, WordFine x) {n b k : Nat} {f : ByteArray → Nat → PRes} (hf : ∀ nm : ByteArray, nm.size ≤ 8 → TreeR n b (f nm (k + 1))) : TreeR n b (mustName ws k f) := by
  unfold mustName
  split
  · rename_i x h
    split
    · rename_i h2
      exact hf _ ((hw x (List.mem_of_getElem? h)).2 h2)
    · trivial
  · trivial
theorem TreeR.weak {n b b' : Nat} {r : PRes} (h : TreeR n b r) (hb : b ≤ b') : TreeR n b' r := by
  cases r with
  | out => trivial
  | bad k => trivial
  | ok t k => exact ⟨h.1, h.2.1, by have := h.2.2; omega⟩
def modeT : Mode → Prop
  | .loop _ a => OkT a
  | _ => True
def modeB : Mode → Nat
  | .loop _ a => sizeT a
  | _ => 0
theorem parse_tree (ws : List WordV) (hw : ∀ x ∈ ws, WordFine x) : ∀ f m n, modeT m → TreeR n (modeB m) (parse ws f m n) := by
  intro f
  induction f with
  | zero => intro m n _; trivial
  | succ f ih =>
    intro m n hm
    have IE : ∀ k, TreeR k 0 (parse ws f .expr k) := fun k => ih .expr k trivial
    cases m with
    | expr =>
      rw [parse]
      split
      · refine (IE (n + 1)).then fun a n1 oa q1 q2 => tree_must ((IE (n1 + 1)).then fun b n3 ob q3 q4 => tree_must ((IE (n3 + 1)).then fun c n5 oc q5 q6 => ?_))
        obtain ⟨o, z⟩ := ok_node3 (k := 21) (nm := ⟨#[]⟩) (by decide) (by decide) oa ob oc
        exact ⟨o, by omega, by rw [z]; simp only [modeB]; omega⟩
      split
      · refine tree_name hw fun nm hs => tree_must ((IE (n + 1 + 1 + 1)).then fun a n3 oa q1 q2 => tree_must ((IE (n3 + 1)).then fun b n5 ob q3 q4 => ?_))
        obtain ⟨o, z⟩ := ok_node2 (k := 22) (nm := nm) (by decide) hs oa ob
        exact ⟨o, by omega, by rw [z]; simp only [modeB]; omega⟩
      split
      · refine (IE (n + 1)).then fun a n1 oa q1 q2 => tree_must (tree_name hw fun nm hs => tree_must ((IE (n1 + 1 + 1 + 1)).then fun b n5 ob q3 q4 => tree_must ((IE (n5 + 1)).then fun c n7 oc q5 q6 => ?_)))
        obtain ⟨o, z⟩ := ok_node3 (k := 23) (nm := nm) (by decide) hs oa ob oc
        exact ⟨o, by omega, by rw [z]; simp only [modeB]; omega⟩
      · exact ih (.level 1) n trivial
    | level lv =>
      rw [parse]
      split
      · exact ih .ahead n trivial
      · refine (ih (.level (lv + 1)) n trivial).then fun a n1 oa q1 q2 => ?_
        have h := ih (.loop lv a) n1 oa
        simp only [modeB] at q2 h ⊢
        cases hq : parse ws f (.loop lv a) n1 with
        | out => trivial
        | bad k => trivial
        | ok t k =>
          rw [hq] at h
          exact ⟨h.1, by have := h.2.1; omega, by have := h.2.1; have := h.2.2; omega⟩
    | loop lv a =>
      rw [parse]
      split
      · exact ⟨hm, Nat.le_refl _, by simp only [modeB]; omega⟩
      · rename_i h
        have hk : 1 ≤ kindL lv (txt ws n) ∧ kindL lv (txt ws n) ≤ 23 := by rcases kindL_fit lv (txt ws n) with e | e; exact absurd e h; omega
        refine (ih (.level (lv + 1)) (n + 1) trivial).then fun b n1 ob q1 q2 => ?_
        obtain ⟨o, z⟩ := ok_node2 (nm := ⟨#[]⟩) hk (by decide) hm ob
        simp only [modeB] at q2 ⊢
        split
        · exact ⟨o, by omega, by rw [z]; omega⟩
        · have h := ih (.loop lv (node2 (kindL lv (txt ws n)) ⟨#[]⟩ a b)) n1 o
          simp only [modeB] at h
          cases hq : parse ws f (.loop lv (node2 (kindL lv (txt ws n)) ⟨#[]⟩ a b)) n1 with
          | out => trivial
          | bad k => trivial
          | ok t k =>
            rw [hq] at h
            exact ⟨h.1, by have := h.2.1; omega, by have := h.2.1; have := h.2.2; rw [z] at this; omega⟩
    | ahead =>
      rw [parse]
      split
      · refine (ih .ahead (n + 1) trivial).then fun a n1 oa q1 q2 => ?_
        obtain ⟨o, z⟩ := ok_node1 (k := 3) (by decide) oa
        simp only [modeB] at q2 ⊢
        exact ⟨o, by omega, by rw [z]; omega⟩
      split
      · refine (ih .ahead (n + 1) trivial).then fun a n1 oa q1 q2 => ?_
        obtain ⟨o, z⟩ := ok_node1 (k := 4) (by decide) oa
        simp only [modeB] at q2 ⊢
        exact ⟨o, by omega, by rw [z]; omega⟩
      · exact ih .atom n trivial
    | atom =>
      rw [parse]
      split
      · trivial
      · rename_i w hq
        have hf := hw w (List.mem_of_getElem? hq)
        split
        · rename_i h1
          obtain ⟨o, z⟩ := ok_node0 (k := 1) (nm := ⟨#[]⟩) (.inl rfl) (hf.1 h1) (by decide)
          exact ⟨o, by omega, by rw [z]; omega⟩
        split
        · rename_i h2
          obtain ⟨o, z⟩ := ok_node0 (k := 2) (n := 0) (.inr rfl) (by decide) (hf.2 h2)
          exact ⟨o, by omega, by rw [z]; omega⟩
        split
        · refine tree_must ((IE (n + 1 + 1)).then fun a n2 oa q1 q2 => tree_must ((IE (n2 + 1)).then fun b n4 ob q3 q4 => tree_must ?_))
          obtain ⟨o, z⟩ := ok_node2 (k := if w.a1 = kMin then 18 else 19) (nm := ⟨#[]⟩) (by split <;> decide) (by decide) oa ob
          exact ⟨o, by omega, by rw [z]; simp only [modeB]; omega⟩
        split
        · refine tree_must ((IE (n + 1 + 1)).then fun a n2 oa q1 q2 => tree_must ?_)
          obtain ⟨o, z⟩ := ok_node1 (k := 20) (by decide) oa
          exact ⟨o, by omega, by rw [z]; simp only [modeB]; omega⟩
        split
        · refine (IE (n + 1)).then fun a n2 oa q1 q2 => tree_must ?_
          exact ⟨oa, by omega, by simp only [modeB]; omega⟩
        · trivial
end Go.Proofs.YtjfebnplffpmoaaGreatDoor
