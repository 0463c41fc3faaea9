/-
  What the nodes of a tree that was read are: mathematics alone.
-/
/-
  The words of a tree's text are read as the tree. Mathematics alone.
-/
import Derived.Test.YtjfebnplffpmoaaGreatDoorReadM
import Derived.Test.YtjfebnplffpmoaaGreatDoorSpecTree
import Derived.Test.YtjfebnplffpmoaaGreatDoorBackPar
import Derived.Test.YtjfebnplffpmoaaGreatDoorMerged8
set_option linter.unusedVariables false
namespace Go.Proofs.YtjfebnplffpmoaaGreatDoor
open Go.RowKit Go.Maps Go.Deep

/-- a node that has what its kind asks for, and nothing else -/
structure Norm (x : NodeV) : Prop where
  num : x.kind ≠ 1 → x.num = 0
  name : x.kind ≠ 2 → x.kind ≠ 22 → x.kind ≠ 23 → x.name = ⟨#[]⟩
  kids : x.kids = arity x.kind
def NormT (t : TreeV) : Prop := ∀ x ∈ fl t.f, Norm x
def NormR : PRes → Prop
  | .ok t _ => NormT t
  | _ => True
theorem NormR.then {r : PRes} {f : TreeV → Nat → PRes} (h : NormR r) (hf : ∀ t k, NormT t → NormR (f t k)) : NormR (r.then f) := by
  cases r with
  | out => trivial
  | bad k => trivial
  | ok t k => exact hf t k h
theorem norm_must {ws : List WordV} {k : Nat} {s : ByteArray} {f : Nat → PRes} (hf : NormR (f (k + 1))) : NormR (must ws s k f) := by
  unfold must
  split
  · exact hf
  · trivial
theorem norm_name {ws : List WordV} {k : Nat} {f : ByteArray → Nat → PRes} (hf : ∀ nm : ByteArray, NormR (f nm (k + 1))) : NormR (mustName ws k f) := by
  unfold mustName
  split
  · split
    · exact hf _
    · trivial
  · trivial
theorem normT_0 {k n : Int} {nm : ByteArray} (h : Norm ⟨k, n, nm, 0⟩) : NormT (node0 k n nm) := by
  intro x hx
  simp [node0, TreeV.f, fl] at hx
  rw [hx]; exact h
theorem normT_1 {k : Int} {a : TreeV} (h : Norm ⟨k, 0, ⟨#[]⟩, 1⟩) (ha : NormT a) : NormT (node1 k a) := by
  intro x hx
  simp only [node1, TreeV.f, fl, List.append_nil, List.mem_cons] at hx
  rcases hx with rfl | hx
  · exact h
  · exact ha x (by simpa [TreeV.f, fl] using hx)
theorem normT_2 {k : Int} {nm : ByteArray} {a b : TreeV} (h : Norm ⟨k, 0, nm, 2⟩) (ha : NormT a) (hb : NormT b) : NormT (node2 k nm a b) := by
  intro x hx
  have : fl (node2 k nm a b).f = ⟨k, 0, nm, 2⟩ :: ((fl a.f ++ fl b.f) ++ []) := by
    show _ :: (fl (app a.f b.f) ++ fl .nil) = _
    rw [fl_app]; rfl
  rw [this] at hx
  simp only [List.append_nil, List.mem_cons, List.mem_append] at hx
  rcases hx with rfl | hx | hx
  · exact h
  · exact ha x hx
  · exact hb x hx
theorem normT_3 {k : Int} {nm : ByteArray} {a b c : TreeV} (h : Norm ⟨k, 0, nm, 3⟩) (ha : NormT a) (hb : NormT b) (hc : NormT c) : NormT (node3 k nm a b c) := by
  intro x hx
  have : fl (node3 k nm a b c).f = ⟨k, 0, nm, 3⟩ :: ((fl a.f ++ (fl b.f ++ fl c.f)) ++ []) := by
    show _ :: (fl (app a.f (app b.f c.f)) ++ fl .nil) = _
    rw [fl_app, fl_app]; rfl
  rw [this] at hx
  simp only [List.append_nil, List.mem_cons, List.mem_append] at hx
  rcases hx with rfl | hx | hx | hx
  · exact h
  · exact ha x hx
  · exact hb x hx
  · exact hc x hx
def modeN : Mode → Prop
  | .loop _ a => NormT a
  | _ => True
theorem norm_sign {lv : Nat} {s : ByteArray} (h : kindL lv s ≠ 0) : Norm ⟨kindL lv s, 0, ⟨#[]⟩, 2⟩ := by
  have hk : 5 ≤ kindL lv s ∧ kindL lv s ≤ 17 := by rcases kindL_fit lv s with e | e; exact absurd e h; exact e
  generalize kindL lv s = k at *
  refine ⟨fun _ => rfl, fun _ _ _ => rfl, ?_⟩
  show (2 : Int) = arity k
  unfold arity
  rw [if_neg (by omega), if_neg (by omega), if_pos (by omega)]
theorem parse_norm (ws : List WordV) : ∀ f m n, modeN m → NormR (parse ws f m n) := by
  intro f
  induction f with
  | zero => intro m n _; trivial
  | succ f ih =>
    intro m n hm
    have IE : ∀ k, NormR (parse ws f .expr k) := fun k => ih .expr k trivial
    cases m with
    | expr =>
      rw [parse]
      split
      · exact (IE (n + 1)).then fun a n1 oa => norm_must ((IE (n1 + 1)).then fun b n3 ob => norm_must ((IE (n3 + 1)).then fun c n5 oc => normT_3 ⟨fun _ => rfl, fun _ _ _ => rfl, by decide⟩ oa ob oc))
      split
      · exact norm_name fun nm => norm_must ((IE (n + 1 + 1 + 1)).then fun a n3 oa => norm_must ((IE (n3 + 1)).then fun b n5 ob => normT_2 ⟨fun _ => rfl, fun _ h _ => absurd rfl h, (by decide : (2 : Int) = arity 22)⟩ oa ob))
      split
      · exact (IE (n + 1)).then fun a n1 oa => norm_must (norm_name fun nm => norm_must ((IE (n1 + 1 + 1 + 1)).then fun b n5 ob => norm_must ((IE (n5 + 1)).then fun c n7 oc => normT_3 ⟨fun _ => rfl, fun _ _ h => absurd rfl h, (by decide : (3 : Int) = arity 23)⟩ oa ob oc)))
      · exact ih (.level 1) n trivial
    | level lv =>
      rw [parse]
      split
      · exact ih .ahead n trivial
      · exact (ih (.level (lv + 1)) n trivial).then fun a n1 oa => ih (.loop lv a) n1 oa
    | loop lv a =>
      rw [parse]
      split
      · exact hm
      · rename_i h
        refine (ih (.level (lv + 1)) (n + 1) trivial).then fun b n1 ob => ?_
        have o := normT_2 (norm_sign h) hm ob
        split
        · exact o
        · exact ih (.loop lv _) n1 o
    | ahead =>
      rw [parse]
      split
      · exact (ih .ahead (n + 1) trivial).then fun a n1 oa => normT_1 ⟨fun _ => rfl, fun _ _ _ => rfl, by decide⟩ oa
      split
      · exact (ih .ahead (n + 1) trivial).then fun a n1 oa => normT_1 ⟨fun _ => rfl, fun _ _ _ => rfl, by decide⟩ oa
      · exact ih .atom n trivial
    | atom =>
      rw [parse]
      split
      · trivial
      · split
        · exact normT_0 ⟨fun h => absurd rfl h, fun _ _ _ => rfl, (by decide : (0 : Int) = arity 1)⟩
        split
        · exact normT_0 ⟨fun _ => rfl, fun h => absurd rfl h, (by decide : (0 : Int) = arity 2)⟩
        split
        · refine norm_must ((IE (n + 1 + 1)).then fun a n2 oa => norm_must ((IE (n2 + 1)).then fun b n4 ob => norm_must (normT_2 ⟨fun _ => rfl, fun _ _ _ => rfl, ?_⟩ oa ob)))
          show (2 : Int) = arity _
          split <;> decide
        split
        · exact norm_must ((IE (n + 1 + 1)).then fun a n2 oa => norm_must (normT_1 ⟨fun _ => rfl, fun _ _ _ => rfl, by decide⟩ oa))
        split
        · exact (IE (n + 1)).then fun a n2 oa => norm_must oa
        · trivial
end Go.Proofs.YtjfebnplffpmoaaGreatDoor

set_option linter.unusedVariables false
namespace Go.Proofs.YtjfebnplffpmoaaGreatDoor
open Go.RowKit Go.Maps Go.Deep

abbrev Tok := Int × ByteArray
def tokW (w : WordV) : Tok := (w.a0, w.a1)
def tk (s : ByteArray) : Tok := (3, s)
def sg (s : ByteArray) : Tok := (4, s)
def wrapK (least : Int) (y : NodeV) (ts : List Tok) : List Tok := if levelN y.kind < least then sg sOpen :: (ts ++ [sg sShut]) else ts
def signK (k : Int) : Tok := (if k = 16 ∨ k = 17 then 3 else 4, signN k)
/-- the words of a node over its kids' words -/
def tokN (x : NodeV) : List (NodeV × List Tok) → List Tok
  | [] => if x.kind = 1 then [(1, decN x.num)] else [(2, x.name)]
  | [(y, s)] => if x.kind = 3 then sg sSub :: wrapK 6 y s else if x.kind = 4 then tk kNot :: wrapK 6 y s else tk kAbs :: sg sOpen :: (s ++ [sg sShut])
  | [(y, s), (z, t)] => if x.kind = 18 then tk kMin :: sg sOpen :: (s ++ sg sComma :: (t ++ [sg sShut])) else if x.kind = 19 then tk kMax :: sg sOpen :: (s ++ sg sComma :: (t ++ [sg sShut]))
      else if x.kind = 22 then tk kLet :: (2, x.name) :: sg sEq :: (s ++ tk kIn :: t)
      else wrapK (firstN x.kind) y s ++ signK x.kind :: wrapK (levelN x.kind + 1) z t
  | (_, s) :: (_, t) :: (_, u) :: _ => if x.kind = 21 then tk kIf :: (s ++ tk kThen :: (t ++ tk kElse :: u)) else tk kRep :: (s ++ tk kAs :: (2, x.name) :: tk kFrom :: (t ++ tk kBy :: u))
def toksF : BT NodeV → List (NodeV × List Tok)
  | .nil => []
  | .node _ _ x l r => (x, tokN x (toksF l)) :: toksF r
def bareK (x : NodeV) (l : BT NodeV) : List Tok := tokN x (toksF l)
def flat : BT NodeV → BT NodeV
  | .nil => .nil
  | .node _ _ x l r => .node 0 0 x (flat l) (flat r)
def treeV (x : NodeV) (l : BT NodeV) : TreeV := ⟨x, flat l⟩
theorem fl_flat (f : BT NodeV) : fl (flat f) = fl f := by
  induction f with
  | nil => rfl
  | node b o x l r ihl ihr => simp only [flat, fl, ihl, ihr]
theorem dp_flat (f : BT NodeV) : dp (flat f) = dp f := by
  induction f with
  | nil => rfl
  | node b o x l r ihl ihr => simp only [flat, dp, ihl, ihr]

/-! streams of words -/
def AtK (ws : List WordV) (n : Nat) (ts : List Tok) : Prop := (ws.map tokW).drop n = ts
def txtK : List Tok → ByteArray
  | [] => ⟨#[]⟩
  | (k, s) :: _ => if 3 ≤ k then s else ⟨#[]⟩
theorem AtK.head {ws : List WordV} {n : Nat} {k : Int} {s : ByteArray} {ts : List Tok} (h : AtK ws n ((k, s) :: ts)) : (∃ w, ws[n]? = some w ∧ w.a0 = k ∧ w.a1 = s) ∧ AtK ws (n + 1) ts := by
  unfold AtK at h
  have h0 : (ws.map tokW)[n]? = some (k, s) := by
    have : ((ws.map tokW).drop n)[0]? = some (k, s) := by rw [h]; rfl
    simpa [List.getElem?_drop] using this
  have h1 : (ws.map tokW).drop (n + 1) = ts := by
    have : ((ws.map tokW).drop n).drop 1 = ts := by rw [h]; rfl
    simpa [List.drop_drop] using this
  refine ⟨?_, h1⟩
  rw [List.getElem?_map] at h0
  cases hw : ws[n]? with
  | none => rw [hw] at h0; cases h0
  | some w =>
    rw [hw] at h0
    simp only [Option.map_some, Option.some.injEq, tokW, Prod.mk.injEq] at h0
    exact ⟨w, rfl, h0.1, h0.2⟩
theorem AtK.app {ws : List WordV} {n : Nat} {ts us : List Tok} (h : AtK ws n (ts ++ us)) : AtK ws (n + ts.length) us := by
  unfold AtK at h ⊢
  rw [← List.drop_drop, h]
  simp
theorem AtK.txt {ws : List WordV} {n : Nat} {ts : List Tok} (h : AtK ws n ts) : Go.Proofs.YtjfebnplffpmoaaGreatDoor.txt ws n = txtK ts := by
  cases ts with
  | nil =>
    unfold AtK at h
    have hl : ws.length ≤ n := by
      have := congrArg List.length h
      simp at this
      omega
    unfold Go.Proofs.YtjfebnplffpmoaaGreatDoor.txt
    rw [List.getElem?_eq_none hl]
    rfl
  | cons a ts =>
    obtain ⟨k, s⟩ := a
    obtain ⟨⟨w, hw, h0, h1⟩, _⟩ := h.head
    unfold Go.Proofs.YtjfebnplffpmoaaGreatDoor.txt txtK
    rw [hw]
    simp only
    rw [h0, h1]
theorem txtK_app {ts us : List Tok} (h : ts ≠ []) : txtK (ts ++ us) = txtK ts := by
  cases ts with
  | nil => exact absurd rfl h
  | cons a ts => rfl
/-- no sign of these levels stands next -/
def NoS (L : Nat) (ts : List Tok) : Prop := ∀ M, L ≤ M → M ≤ 5 → kindL M (txtK ts) = 0
theorem NoS.mono {L M : Nat} {ts : List Tok} (h : NoS L ts) (hm : L ≤ M) : NoS M ts := fun K h1 h2 => h K (Nat.le_trans hm h1) h2
theorem noS_of {s : ByteArray} {k : Int} {L : Nat} {ts : List Tok} (h : ∀ M, M ≤ 5 → L ≤ M → kindL M s = 0) (hk : 3 ≤ k) : NoS L ((k, s) :: ts) := fun M h1 h2 => by
  show kindL M (if 3 ≤ k then s else _) = 0
  rw [if_pos hk]
  exact h M h2 h1
theorem noS_lit (s : ByteArray) (k : Int) (ts : List Tok) (hk : 3 ≤ k) (h1 : kindL 1 s = 0) (h2 : kindL 2 s = 0) (h3 : kindL 3 s = 0) (h4 : kindL 4 s = 0) (h5 : kindL 5 s = 0) : NoS 1 ((k, s) :: ts) := noS_of (fun M a b => by
  obtain rfl | rfl | rfl | rfl | rfl : M = 1 ∨ M = 2 ∨ M = 3 ∨ M = 4 ∨ M = 5 := by omega
  all_goals assumption) hk

/-! what is read of a list of words -/
def AtomK (ts : List Tok) (t : TreeV) : Prop := ∀ ws n rest, AtK ws n (ts ++ rest) → Ok ws .atom n t (n + ts.length)
def AheadK (ts : List Tok) (t : TreeV) : Prop := ∀ ws n rest, AtK ws n (ts ++ rest) → Ok ws .ahead n t (n + ts.length)
def LevK (L : Nat) (ts : List Tok) (t : TreeV) : Prop := ∀ ws n rest, AtK ws n (ts ++ rest) → NoS L rest → Ok ws (.level L) n t (n + ts.length)
def ChainK (L : Nat) (ts : List Tok) (t : TreeV) : Prop := ∀ ws n rest t' k', AtK ws n (ts ++ rest) → NoS (L + 1) rest → Ok ws (.loop L t) (n + ts.length) t' k' → Ok ws (.level L) n t' k'
def ExprK (ts : List Tok) (t : TreeV) : Prop := ∀ ws n rest, AtK ws n (ts ++ rest) → NoS 1 rest → Ok ws .expr n t (n + ts.length)
def Hd1 (ts : List Tok) : Prop := ts ≠ [] ∧ txtK ts ≠ kIf ∧ txtK ts ≠ kLet ∧ txtK ts ≠ kRep
def Hd7 (ts : List Tok) : Prop := ts ≠ [] ∧ txtK ts ≠ sSub ∧ txtK ts ≠ kNot
theorem atom_ahead {ts : List Tok} {t : TreeV} (h : AtomK ts t) (hd : Hd7 ts) : AheadK ts t := fun ws n rest ha => by
  have e := ha.txt
  rw [txtK_app hd.1] at e
  exact ok_atom (by rw [e]; exact hd.2.1) (by rw [e]; exact hd.2.2) (h ws n rest ha)
theorem ahead_six {ts : List Tok} {t : TreeV} (h : AheadK ts t) : LevK 6 ts t := fun ws n rest ha _ => ok_six (h ws n rest ha)
theorem lev_chain {L : Nat} {ts : List Tok} {t : TreeV} (hl : L ≤ 5) (h : LevK (L + 1) ts t) : ChainK L ts t := fun ws n rest t' k' ha hn ho => ok_down hl (h ws n rest ha hn) ho
theorem chain_lev {L : Nat} {ts : List Tok} {t : TreeV} (hl : L ≤ 5) (h : ChainK L ts t) : LevK L ts t := fun ws n rest ha hn =>
  h ws n rest _ _ ha (hn.mono (Nat.le_succ _)) (loop_stop (by rw [ha.app.txt]; exact hn L (Nat.le_refl _) hl))
theorem lev_expr {ts : List Tok} {t : TreeV} (h : LevK 1 ts t) (hd : Hd1 ts) : ExprK ts t := fun ws n rest ha hn => by
  have e := ha.txt
  rw [txtK_app hd.1] at e
  exact ok_lev (by rw [e]; exact hd.2.1) (by rw [e]; exact hd.2.2.1) (by rw [e]; exact hd.2.2.2) (h ws n rest ha hn)
theorem lev_down {ts : List Tok} {t : TreeV} : ∀ d L, L + d ≤ 6 → LevK (L + d) ts t → LevK L ts t := by
  intro d
  induction d with
  | zero => intro L _ h; exact h
  | succ d ih =>
    intro L hl h
    exact ih L (by omega) (chain_lev (by omega) (lev_chain (by omega) h))
/-- all that is read of the words of a tree whose root is of a level -/
structure AllK (lv : Int) (ts : List Tok) (t : TreeV) : Prop where
  expr : ExprK ts t
  hd : 1 ≤ lv → Hd1 ts
  lev : ∀ L : Nat, 1 ≤ L → L ≤ 6 → (L : Int) ≤ lv → LevK L ts t
  chain : ∀ L : Nat, 1 ≤ L → L ≤ 5 → L ≠ 3 → (L : Int) ≤ lv → ChainK L ts t
  ahead : 6 ≤ lv → AheadK ts t
theorem all_ahead {lv : Int} {ts : List Tok} {t : TreeV} (h : AheadK ts t) (hd : Hd1 ts) : AllK lv ts t := by
  have h6 := ahead_six h
  have hl : ∀ L : Nat, 1 ≤ L → L ≤ 6 → LevK L ts t := fun L h1 h2 => lev_down (6 - L) L (by omega) (by rw [show L + (6 - L) = 6 by omega]; exact h6)
  exact ⟨lev_expr (hl 1 (by omega) (by omega)) hd, fun _ => hd, fun L h1 h2 _ => hl L h1 h2, fun L h1 h2 _ _ => lev_chain h2 (hl (L + 1) (by omega) (by omega)), fun _ => h⟩
theorem all_chain {M : Nat} {lv : Int} {ts : List Tok} {t : TreeV} (hM : lv = (M : Int)) (h1 : 1 ≤ M) (h5 : M ≤ 5) (h : ChainK M ts t) (hd : Hd1 ts) : AllK lv ts t := by
  have hm := chain_lev h5 h
  have hl : ∀ L : Nat, 1 ≤ L → L ≤ M → LevK L ts t := fun L h1 h2 => lev_down (M - L) L (by omega) (by rw [show L + (M - L) = M by omega]; exact hm)
  refine ⟨lev_expr (hl 1 (by omega) h1) hd, fun _ => hd, fun L a b c => hl L a (by omega), fun L a b _ c => ?_, fun h => by omega⟩
  by_cases e : L = M
  · subst e; exact h
  · exact lev_chain b (hl (L + 1) (by omega) (by omega))
theorem all_three {ts : List Tok} {t : TreeV} (h : LevK 3 ts t) (hd : Hd1 ts) : AllK 3 ts t := by
  have hl : ∀ L : Nat, 1 ≤ L → L ≤ 3 → LevK L ts t := fun L h1 h2 => lev_down (3 - L) L (by omega) (by rw [show L + (3 - L) = 3 by omega]; exact h)
  exact ⟨lev_expr (hl 1 (by omega) (by omega)) hd, fun _ => hd, fun L a b c => hl L a (by omega), fun L a b n c => lev_chain b (hl (L + 1) (by omega) (by omega)), fun h => by omega⟩
theorem all_expr {ts : List Tok} {t : TreeV} (h : ExprK ts t) : AllK 0 ts t := ⟨h, fun h => by omega, fun L a b c => by omega, fun L a b n c => by omega, fun h => by omega⟩
theorem wrap_atom {ts : List Tok} {t : TreeV} (h : ExprK ts t) : AtomK (sg sOpen :: (ts ++ [sg sShut])) t := fun ws n rest ha => by
  have ha' : AtK ws n ((4, sOpen) :: (ts ++ ((4, sShut) :: rest))) := by simpa [sg] using ha
  obtain ⟨⟨w, hw, h0, h1⟩, a1⟩ := ha'.head
  have hx := h ws (n + 1) _ a1 (noS_lit _ _ _ (by decide) (by decide) (by decide) (by decide) (by decide) (by decide))
  have ho := ok_open hw (by omega) h1 hx (by rw [a1.app.txt]; rfl)
  have e : n + (sg sOpen :: (ts ++ [sg sShut])).length = n + 1 + ts.length + 1 := by simp; omega
  rw [e]; exact ho
theorem hd_open (ts : List Tok) : Hd1 (sg sOpen :: ts) ∧ Hd7 (sg sOpen :: ts) := ⟨⟨by simp, by show sOpen ≠ _; decide, by show sOpen ≠ _; decide, by show sOpen ≠ _; decide⟩, by simp, by show sOpen ≠ _; decide, by show sOpen ≠ _; decide⟩
/-- in brackets where it is looser than its place -/
theorem wrap_all {least : Int} {y : NodeV} {ts : List Tok} {t : TreeV} (hl : least ≤ 7) (h : AllK (levelN y.kind) ts t) : ∃ lv, least ≤ lv ∧ AllK lv (wrapK least y ts) t := by
  unfold wrapK
  split
  · exact ⟨7, hl, all_ahead (atom_ahead (wrap_atom h.expr) (hd_open _).2) (hd_open _).1⟩
  · exact ⟨levelN y.kind, by omega, h⟩
theorem hd_app {ts us : List Tok} (h : Hd1 ts) : Hd1 (ts ++ us) := ⟨by simp [h.1], by rw [txtK_app h.1]; exact h.2.1, by rw [txtK_app h.1]; exact h.2.2.1, by rw [txtK_app h.1]; exact h.2.2.2⟩
theorem hd_num (s : ByteArray) (ts : List Tok) (k : Int) (hk : k < 3) : Hd1 ((k, s) :: ts) ∧ Hd7 ((k, s) :: ts) := by
  have e : txtK ((k, s) :: ts) = ⟨#[]⟩ := if_neg (by omega)
  exact ⟨⟨by simp, by rw [e]; decide, by rw [e]; decide, by rw [e]; decide⟩, by simp, by rw [e]; decide, by rw [e]; decide⟩

/-! the value of a number's digits -/
theorem digits_val (u : Nat) : numTextV.decVal (Lib.decDigits u) = u := by
  induction u using Nat.strongRecOn with
  | ind u ih =>
    rw [Lib.decDigits]
    split
    · rename_i h
      have : u < 10 := h
      simp [numTextV.decVal]
      omega
    · rename_i h
      have h1 := ih (u / 10) (by omega)
      have e : ∀ (l : List UInt8) (b : UInt8), numTextV.decVal (l ++ [b]) = 10 * numTextV.decVal l + (b.toNat - 48) := fun l b => by simp [numTextV.decVal, List.foldl_append]
      rw [e, h1]
      simp
      omega
end Go.Proofs.YtjfebnplffpmoaaGreatDoor
