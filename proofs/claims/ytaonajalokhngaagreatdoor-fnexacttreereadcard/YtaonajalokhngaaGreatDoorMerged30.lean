/-
  What the nodes of a tree that was read are: mathematics alone.
-/
/-
  The program makes the form of a tree out of its nodes, and tells how deep it is.
-/
import Derived.Test.YtaonajalokhngaaGreatDoorReadM
import Derived.Test.YtaonajalokhngaaGreatDoorMerged17
import Derived.Test.YtaonajalokhngaaGreatDoorMerged23
set_option linter.unusedVariables false
namespace Go.Proofs.YtaonajalokhngaaGreatDoor
open Go.RowKit Go.Maps Go.Deep

/-- a node that has what its kind asks for, and nothing else -/
structure Norm (x : NodeV) : Prop where
  num : x.kind ≠ 1 → x.num = 0
  name : x.kind ≠ 2 → x.kind ≠ 22 → x.kind ≠ 23 → x.name = ⟨#[]⟩
  kids : x.kids = arity x.kind
def NormT (t : TreeV) : Prop := ∀ x ∈ fl t.f, Norm x
def NormR : PRes → Prop
  | .ok t _ => NormT t
  | _ => True
theorem NormR.then {r : PRes} {f : TreeV → Nat → PRes} (h : NormR r) (hf : ∀ t k, NormT t → NormR (f t k)) : NormR (r.then f) := by
  cases r with
  | out => trivial
  | bad k => trivial
  | ok t k => exact hf t k h
theorem norm_must {ws : List WordV} {k : Nat} {s : ByteArray} {f : Nat → PRes} (hf : NormR (f (k + 1))) : NormR (must ws s k f) := by
  unfold must
  split
  · exact hf
  · trivial
theorem norm_name {ws : List WordV} {k : Nat} {f : ByteArray → Nat → PRes} (hf : ∀ nm : ByteArray, NormR (f nm (k + 1))) : NormR (mustName ws k f) := by
  unfold mustName
  split
  · split
    · exact hf _
    · trivial
  · trivial
theorem normT_0 {k n : Int} {nm : ByteArray} (h : Norm ⟨k, n, nm, 0⟩) : NormT (node0 k n nm) := by
  intro x hx
  simp [node0, TreeV.f, fl] at hx
  rw [hx]; exact h
theorem normT_1 {k : Int} {a : TreeV} (h : Norm ⟨k, 0, ⟨#[]⟩, 1⟩) (ha : NormT a) : NormT (node1 k a) := by
  intro x hx
  simp only [node1, TreeV.f, fl, List.append_nil, List.mem_cons] at hx
  rcases hx with rfl | hx
  · exact h
  · exact ha x (by simpa [TreeV.f, fl] using hx)
theorem normT_2 {k : Int} {nm : ByteArray} {a b : TreeV} (h : Norm ⟨k, 0, nm, 2⟩) (ha : NormT a) (hb : NormT b) : NormT (node2 k nm a b) := by
  intro x hx
  have : fl (node2 k nm a b).f = ⟨k, 0, nm, 2⟩ :: ((fl a.f ++ fl b.f) ++ []) := by
    show _ :: (fl (app a.f b.f) ++ fl .nil) = _
    rw [fl_app]; rfl
  rw [this] at hx
  simp only [List.append_nil, List.mem_cons, List.mem_append] at hx
  rcases hx with rfl | hx | hx
  · exact h
  · exact ha x hx
  · exact hb x hx
theorem normT_3 {k : Int} {nm : ByteArray} {a b c : TreeV} (h : Norm ⟨k, 0, nm, 3⟩) (ha : NormT a) (hb : NormT b) (hc : NormT c) : NormT (node3 k nm a b c) := by
  intro x hx
  have : fl (node3 k nm a b c).f = ⟨k, 0, nm, 3⟩ :: ((fl a.f ++ (fl b.f ++ fl c.f)) ++ []) := by
    show _ :: (fl (app a.f (app b.f c.f)) ++ fl .nil) = _
    rw [fl_app, fl_app]; rfl
  rw [this] at hx
  simp only [List.append_nil, List.mem_cons, List.mem_append] at hx
  rcases hx with rfl | hx | hx | hx
  · exact h
  · exact ha x hx
  · exact hb x hx
  · exact hc x hx
def modeN : Mode → Prop
  | .loop _ a => NormT a
  | _ => True
theorem norm_sign {lv : Nat} {s : ByteArray} (h : kindL lv s ≠ 0) : Norm ⟨kindL lv s, 0, ⟨#[]⟩, 2⟩ := by
  have hk : 5 ≤ kindL lv s ∧ kindL lv s ≤ 17 := by rcases kindL_fit lv s with e | e; exact absurd e h; exact e
  generalize kindL lv s = k at *
  refine ⟨fun _ => rfl, fun _ _ _ => rfl, ?_⟩
  show (2 : Int) = arity k
  unfold arity
  rw [if_neg (by omega), if_neg (by omega), if_pos (by omega)]
theorem parse_norm (ws : List WordV) : ∀ f m n, modeN m → NormR (parse ws f m n) := by
  intro f
  induction f with
  | zero => intro m n _; trivial
  | succ f ih =>
    intro m n hm
    have IE : ∀ k, NormR (parse ws f .expr k) := fun k => ih .expr k trivial
    cases m with
    | expr =>
      rw [parse]
      split
      · exact (IE (n + 1)).then fun a n1 oa => norm_must ((IE (n1 + 1)).then fun b n3 ob => norm_must ((IE (n3 + 1)).then fun c n5 oc => normT_3 ⟨fun _ => rfl, fun _ _ _ => rfl, by decide⟩ oa ob oc))
      split
      · exact norm_name fun nm => norm_must ((IE (n + 1 + 1 + 1)).then fun a n3 oa => norm_must ((IE (n3 + 1)).then fun b n5 ob => normT_2 ⟨fun _ => rfl, fun _ h _ => absurd rfl h, (by decide : (2 : Int) = arity 22)⟩ oa ob))
      split
      · exact (IE (n + 1)).then fun a n1 oa => norm_must (norm_name fun nm => norm_must ((IE (n1 + 1 + 1 + 1)).then fun b n5 ob => norm_must ((IE (n5 + 1)).then fun c n7 oc => normT_3 ⟨fun _ => rfl, fun _ _ h => absurd rfl h, (by decide : (3 : Int) = arity 23)⟩ oa ob oc)))
      · exact ih (.level 1) n trivial
    | level lv =>
      rw [parse]
      split
      · exact ih .ahead n trivial
      · exact (ih (.level (lv + 1)) n trivial).then fun a n1 oa => ih (.loop lv a) n1 oa
    | loop lv a =>
      rw [parse]
      split
      · exact hm
      · rename_i h
        refine (ih (.level (lv + 1)) (n + 1) trivial).then fun b n1 ob => ?_
        have o := normT_2 (norm_sign h) hm ob
        split
        · exact o
        · exact ih (.loop lv _) n1 o
    | ahead =>
      rw [parse]
      split
      · exact (ih .ahead (n + 1) trivial).then fun a n1 oa => normT_1 ⟨fun _ => rfl, fun _ _ _ => rfl, by decide⟩ oa
      split
      · exact (ih .ahead (n + 1) trivial).then fun a n1 oa => normT_1 ⟨fun _ => rfl, fun _ _ _ => rfl, by decide⟩ oa
      · exact ih .atom n trivial
    | atom =>
      rw [parse]
      split
      · trivial
      · split
        · exact normT_0 ⟨fun h => absurd rfl h, fun _ _ _ => rfl, (by decide : (0 : Int) = arity 1)⟩
        split
        · exact normT_0 ⟨fun _ => rfl, fun h => absurd rfl h, (by decide : (0 : Int) = arity 2)⟩
        split
        · refine norm_must ((IE (n + 1 + 1)).then fun a n2 oa => norm_must ((IE (n2 + 1)).then fun b n4 ob => norm_must (normT_2 ⟨fun _ => rfl, fun _ _ _ => rfl, ?_⟩ oa ob)))
          show (2 : Int) = arity _
          split <;> decide
        split
        · exact norm_must ((IE (n + 1 + 1)).then fun a n2 oa => norm_must (normT_1 ⟨fun _ => rfl, fun _ _ _ => rfl, by decide⟩ oa))
        split
        · exact (IE (n + 1)).then fun a n2 oa => norm_must oa
        · trivial
end Go.Proofs.YtaonajalokhngaaGreatDoor

namespace Go.Proofs.YtaonajalokhngaaGreatDoor
open Go.RowKit Go.Maps Go.Deep

theorem infoForm : (Tryz.prog.info? 82).map (fun i => (i.zero, i.size, i.bytes)) = some (some .nilIface, 1, 16) := by kernel_rfl

def RetGrow (B : Nat) (x : NodeV) (l : BT NodeV) (q : Nat) (e : Ending) (w' : World) : Prop :=
  ∃ v ws, e = .returned (.tuple #[v, .int .i64 (q : Int)]) ∧ FormsAre B w' l ws ∧ IsNode B w' x ws v
theorem own_parts {x : NodeV} (h : ownB x = true) : 1 ≤ x.kind ∧ x.kind ≤ 23 ∧ x.kids = arity x.kind := by
  have hk : x.kids = arity x.kind := by
    by_cases e : x.kids = arity x.kind
    · exact e
    · rw [show ownB x = false by simp [ownB, e]] at h; cases h
  have hr : ¬ (x.kind < 1 ∨ 23 < x.kind) := by
    intro e
    rw [show ownB x = false by simp [ownB, arity_out x.kind e]] at h; cases h
  exact ⟨by omega, by omega, hk⟩
theorem StandsAt.mem {ns : List NodeV} {p : Nat} {x : NodeV} {l : BT NodeV} (h : StandsAt ns p x l) : x ∈ ns := by
  obtain ⟨pre, post, rfl, rfl⟩ := h
  simp
theorem take_set (xs vs : List Value) (j : Nat) (v : Value) (hj : j < xs.length) (h : xs.take j = vs) : (xs.set j v).take (j + 1) = vs ++ [v] := by
  rw [List.take_set, List.take_succ_eq_append_getElem hj, h]
  have : vs.length = j := by rw [← h]; simp; omega
  rw [List.set_append_right _ _ (by omega), this]
  simp
theorem rowAt_of {w : World} {base : Nat} {e : TypeId} {g n cap : Nat} {xs : List Value} (h : w.ownsRow base e 1 (.slice (some ⟨g, 0, none⟩) n cap) n xs) : RowAt w g xs := by
  intro i hi
  have hx := h.1
  rw [h.cellAt i (by omega)]
  exact List.getElem?_eq_getElem hi

end Go.Proofs.YtaonajalokhngaaGreatDoor
