/-
  The text of a tree is read as the tree. Mathematics alone.
-/
/-
  A node that may be has the text that its kind asks for.
-/
/-
  Both sides' text of a tree, told by one relation on the nodes; and it is read as the tree.
-/
import Derived.Test.YtjfebnplffpmoaaGreatDoorMerged18
import Derived.Test.YtjfebnplffpmoaaGreatDoorMerged21
import Derived.Test.YtjfebnplffpmoaaGreatDoorSpecShowTwo
set_option linter.unusedVariables false
namespace Go.Proofs.YtjfebnplffpmoaaGreatDoor
open Go.RowKit Go.Maps Go.Deep

def AllT : BT NodeV → Prop
  | .nil => True
  | .node _ _ x l r => LexP Stop (bl (bareT x l)) (bareK x l) ∧ AllT r
def NodeTx (x : NodeV) : Prop := (x.kind = 2 ∨ x.kind = 22 ∨ x.kind = 23 → nameB x.name = true) ∧ x.num ≤ 999999999999999999
theorem k_not : LexP Stop [110, 111, 116] [tk kNot] := p_key 110 [111, 116] (by decide) (by decide) (by decide) (by decide)
theorem k_abs : LexP Stop [97, 98, 115] [tk kAbs] := p_key 97 [98, 115] (by decide) (by decide) (by decide) (by decide)
theorem k_min : LexP Stop [109, 105, 110] [tk kMin] := p_key 109 [105, 110] (by decide) (by decide) (by decide) (by decide)
theorem k_max : LexP Stop [109, 97, 120] [tk kMax] := p_key 109 [97, 120] (by decide) (by decide) (by decide) (by decide)
theorem k_let : LexP Stop [108, 101, 116] [tk kLet] := p_key 108 [101, 116] (by decide) (by decide) (by decide) (by decide)
theorem k_in : LexP Stop [105, 110] [tk kIn] := p_key 105 [110] (by decide) (by decide) (by decide) (by decide)
theorem k_if : LexP Stop [105, 102] [tk kIf] := p_key 105 [102] (by decide) (by decide) (by decide) (by decide)
theorem k_then : LexP Stop [116, 104, 101, 110] [tk kThen] := p_key 116 [104, 101, 110] (by decide) (by decide) (by decide) (by decide)
theorem k_else : LexP Stop [101, 108, 115, 101] [tk kElse] := p_key 101 [108, 115, 101] (by decide) (by decide) (by decide) (by decide)
theorem k_rep : LexP Stop [114, 101, 112] [tk kRep] := p_key 114 [101, 112] (by decide) (by decide) (by decide) (by decide)
theorem k_as : LexP Stop [97, 115] [tk kAs] := p_key 97 [115] (by decide) (by decide) (by decide) (by decide)
theorem k_from : LexP Stop [102, 114, 111, 109] [tk kFrom] := p_key 102 [114, 111, 109] (by decide) (by decide) (by decide) (by decide)
theorem k_by : LexP Stop [98, 121] [tk kBy] := p_key 98 [121] (by decide) (by decide) (by decide) (by decide)
theorem s_eq : LexP Blank [61] [sg sEq] := p_oneB 61 (by decide) (by decide) (by decide) (by decide)
/-- a blank, and more -/
theorem LexP.sp {c : List UInt8 → Prop} {m : List UInt8} {us : List Tok} (g : LexP c m us) : LexP c ([32] ++ m) us := p_blank.seq g (any_of _)
theorem LexP.on {c : List UInt8 → Prop} {l m : List UInt8} {ts us : List Tok} (h : LexP Stop l ts) (g : LexP c m us) : LexP c (l ++ ([32] ++ m)) (ts ++ us) := h.seq g.sp (fun r _ => stop_blank _)
theorem p_shutS : LexP Stop [41] [sg sShut] := p_shut.weak (fun _ _ => trivial)
theorem stop_open (m : List UInt8) : ∀ r, Stop r → Stop (([40] ++ m) ++ r) := fun r _ => stop_cons (by decide) (by decide)
theorem stop_comma (m : List UInt8) : ∀ r, Stop r → Stop (([44] ++ m) ++ r) := fun r _ => stop_cons (by decide) (by decide)
theorem stop_shut : ∀ r, Stop r → Stop ([41] ++ r) := fun r _ => stop_cons (by decide) (by decide)
theorem t_pair {key s t : List UInt8} {kt : Tok} {ts us : List Tok} (hk : LexP Stop key [kt]) (hs : LexP Stop s ts) (ht : LexP Stop t us) : LexP Stop (key ++ ([40] ++ (s ++ ([44] ++ ([32] ++ (t ++ [41])))))) (kt :: sg sOpen :: (ts ++ sg sComma :: (us ++ [sg sShut]))) :=
  hk.seq (p_open.seq (hs.seq (p_comma.seq (LexP.sp (ht.seq p_shutS stop_shut)) (any_of _)) (stop_comma _)) (any_of _)) (stop_open _)
theorem t_node (x : NodeV) (l : BT NodeV) (hx : NodeFit x) (ht : NodeTx x) (hc : x.kids = cnt l) (hl : AllT l) : LexP Stop (bl (bareT x l)) (bareK x l) := by
  obtain ⟨k, m, s, c⟩ := x
  obtain ⟨⟨h1, h2, h3⟩, hk1, hk2, hm⟩ := hx
  obtain ⟨hnm, hmx⟩ := ht
  simp only at h1 h2 h3 hk1 hk2 hc hm hnm hmx
  have ha : (cnt l : Int) = arity k := by rw [← hc]; exact h3
  by_cases c0 : k = 1 ∨ k = 2
  · have e0 : arity k = 0 := by unfold arity; rw [if_pos c0]
    have el := cnt_0 (show cnt l = 0 by omega)
    subst el
    rcases c0 with rfl | rfl
    · exact p_num hm hmx
    · exact p_name (hnm (.inl rfl))
  by_cases c1 : k = 3 ∨ k = 4 ∨ k = 20
  · have e0 : arity k = 1 := by unfold arity; rw [if_neg c0, if_pos c1]
    obtain ⟨b, o, y, ml, r, rfl, hr⟩ := cnt_s (n := 0) (show cnt l = 0 + 1 by omega)
    obtain rfl := cnt_0 hr
    have A := hl.1
    rcases c1 with rfl | rfl | rfl
    · have e : bl (bareT ⟨3, m, s, c⟩ (.node b o y ml .nil)) = [45] ++ bl (wrapT 6 y (bareT y ml)) := bl_app _ _
      rw [e]
      exact p_minus.seq (p_wrap A) (any_of _)
    · have e : bl (bareT ⟨4, m, s, c⟩ (.node b o y ml .nil)) = [110, 111, 116] ++ ([32] ++ bl (wrapT 6 y (bareT y ml))) := bl_app _ _
      rw [e]
      exact k_not.on (p_wrap A)
    · have e : bl (bareT ⟨20, m, s, c⟩ (.node b o y ml .nil)) = [97, 98, 115] ++ ([40] ++ (bl (bareT y ml) ++ [41])) := by
        show bl ((⟨#[97, 98, 115, 40]⟩ ++ bareT y ml) ++ ⟨#[41]⟩) = _
        rw [bl_app, bl_app, List.append_assoc]
        rfl
      rw [e]
      exact k_abs.seq (p_open.seq (A.seq p_shutS stop_shut) (any_of _)) (stop_open _)
  by_cases c2 : (5 ≤ k ∧ k ≤ 19) ∨ k = 22
  · have e0 : arity k = 2 := by
      unfold arity
      rw [if_neg c0, if_neg c1]
      rcases c2 with h | h
      · rw [if_pos h]
      · rw [if_neg (by omega), if_pos h]
    obtain ⟨b, o, y, ml, r, rfl, hr⟩ := cnt_s (n := 1) (show cnt l = 1 + 1 by omega)
    obtain ⟨b', o', z, nl, r', rfl, hr'⟩ := cnt_s (n := 0) hr
    obtain rfl := cnt_0 hr'
    have A := hl.1
    have B := hl.2.1
    by_cases k22 : k = 22
    · subst k22
      have e : bl (bareT ⟨22, m, s, c⟩ (.node b o y ml (.node b' o' z nl .nil))) = [108, 101, 116] ++ ([32] ++ (bl s ++ ([32] ++ ([61] ++ ([32] ++ (bl (bareT y ml) ++ ([32] ++ ([105, 110] ++ ([32] ++ bl (bareT z nl)))))))))) := by
        show bl (((((⟨#[108, 101, 116, 32]⟩ ++ s) ++ ⟨#[32, 61, 32]⟩) ++ bareT y ml) ++ ⟨#[32, 105, 110, 32]⟩) ++ bareT z nl) = _
        rw [bl_app, bl_app, bl_app, bl_app, bl_app]
        simp only [List.append_assoc]
        rfl
      rw [e]
      exact k_let.on ((p_name (hnm (.inr (.inl rfl)))).on (s_eq.seq (LexP.sp (A.on (k_in.on B))) (fun r _ => ⟨_, rfl⟩)))
    by_cases k18 : k = 18
    · subst k18
      have e : bl (bareT ⟨18, m, s, c⟩ (.node b o y ml (.node b' o' z nl .nil))) = [109, 105, 110] ++ ([40] ++ (bl (bareT y ml) ++ ([44] ++ ([32] ++ (bl (bareT z nl) ++ [41]))))) := by
        show bl ((((⟨#[109, 105, 110, 40]⟩ ++ bareT y ml) ++ ⟨#[44, 32]⟩) ++ bareT z nl) ++ ⟨#[41]⟩) = _
        rw [bl_app, bl_app, bl_app, bl_app]
        simp only [List.append_assoc]
        rfl
      rw [e]
      exact t_pair k_min A B
    by_cases k19 : k = 19
    · subst k19
      have e : bl (bareT ⟨19, m, s, c⟩ (.node b o y ml (.node b' o' z nl .nil))) = [109, 97, 120] ++ ([40] ++ (bl (bareT y ml) ++ ([44] ++ ([32] ++ (bl (bareT z nl) ++ [41]))))) := by
        show bl ((((⟨#[109, 97, 120, 40]⟩ ++ bareT y ml) ++ ⟨#[44, 32]⟩) ++ bareT z nl) ++ ⟨#[41]⟩) = _
        rw [bl_app, bl_app, bl_app, bl_app]
        simp only [List.append_assoc]
        rfl
      rw [e]
      exact t_pair k_max A B
    have e : bareK ⟨k, m, s, c⟩ (.node b o y ml (.node b' o' z nl .nil)) = wrapK (firstN k) y (bareK y ml) ++ signK k :: wrapK (levelN k + 1) z (bareK z nl) := by
      show (if k = 18 then _ else if k = 19 then _ else if k = 22 then _ else _) = _
      rw [if_neg k18, if_neg k19, if_neg k22]
      rfl
    have e2 : bareT ⟨k, m, s, c⟩ (.node b o y ml (.node b' o' z nl .nil)) = (((wrapT (firstN k) y (bareT y ml) ++ ⟨#[32]⟩) ++ signN k) ++ ⟨#[32]⟩) ++ wrapT (levelN k + 1) z (bareT z nl) := by
      show (if k = 18 then _ else if k = 19 then _ else if k = 22 then _ else _) = _
      rw [if_neg k18, if_neg k19, if_neg k22]
      rfl
    rw [e, e2, bl_app, bl_app, bl_app, bl_app]
    simp only [List.append_assoc]
    exact LexP.on (p_wrap A) ((p_signK (kd := k) (by omega)).seq (LexP.sp (p_wrap B)) (fun r _ => ⟨_, rfl⟩))
  · have c3 : k = 21 ∨ k = 23 := by omega
    have e0 : arity k = 3 := by rcases c3 with rfl | rfl <;> rfl
    obtain ⟨b, o, y, ml, r, rfl, hr⟩ := cnt_s (n := 2) (show cnt l = 2 + 1 by omega)
    obtain ⟨b', o', z, nl, r', rfl, hr'⟩ := cnt_s (n := 1) hr
    obtain ⟨b2, o2, u, ul, r2, rfl, hr2⟩ := cnt_s (n := 0) hr'
    obtain rfl := cnt_0 hr2
    have A := hl.1
    have B := hl.2.1
    have C := hl.2.2.1
    rcases c3 with rfl | rfl
    · have e : bl (bareT ⟨21, m, s, c⟩ (.node b o y ml (.node b' o' z nl (.node b2 o2 u ul .nil)))) = [105, 102] ++ ([32] ++ (bl (bareT y ml) ++ ([32] ++ ([116, 104, 101, 110] ++ ([32] ++ (bl (bareT z nl) ++ ([32] ++ ([101, 108, 115, 101] ++ ([32] ++ bl (bareT u ul)))))))))) := by
        show bl (((((⟨#[105, 102, 32]⟩ ++ bareT y ml) ++ ⟨#[32, 116, 104, 101, 110, 32]⟩) ++ bareT z nl) ++ ⟨#[32, 101, 108, 115, 101, 32]⟩) ++ bareT u ul) = _
        rw [bl_app, bl_app, bl_app, bl_app, bl_app]
        simp only [List.append_assoc]
        rfl
      rw [e]
      exact k_if.on (A.on (k_then.on (B.on (k_else.on C))))
    · have e : bl (bareT ⟨23, m, s, c⟩ (.node b o y ml (.node b' o' z nl (.node b2 o2 u ul .nil)))) = [114, 101, 112] ++ ([32] ++ (bl (bareT y ml) ++ ([32] ++ ([97, 115] ++ ([32] ++ (bl s ++ ([32] ++ ([102, 114, 111, 109] ++ ([32] ++ (bl (bareT z nl) ++ ([32] ++ ([98, 121] ++ ([32] ++ bl (bareT u ul)))))))))))))) := by
        show bl (((((((⟨#[114, 101, 112, 32]⟩ ++ bareT y ml) ++ ⟨#[32, 97, 115, 32]⟩) ++ s) ++ ⟨#[32, 102, 114, 111, 109, 32]⟩) ++ bareT z nl) ++ ⟨#[32, 98, 121, 32]⟩) ++ bareT u ul) = _
        rw [bl_app, bl_app, bl_app, bl_app, bl_app, bl_app, bl_app]
        simp only [List.append_assoc]
        rfl
      rw [e]
      exact k_rep.on (A.on (k_as.on ((p_name (hnm (.inr (.inr rfl)))).on (k_from.on (B.on (k_by.on C))))))
theorem t_forest (f : BT NodeV) : (∀ x ∈ fl f, NodeFit x ∧ NodeTx x) → kok f → AllT f := by
  induction f with
  | nil => intro _ _; trivial
  | node b o x l r ihl ihr =>
    intro h hk
    exact ⟨t_node x l (h x (by simp [fl])).1 (h x (by simp [fl])).2 hk.1 (ihl (fun y hy => h y (by simp [fl, hy])) hk.2.1), ihr (fun y hy => h y (by simp [fl, hy])) hk.2.2⟩
/-- the text of a tree that fits is read as the tree -/
theorem text_back {x : NodeV} {l : BT NodeV} (hx : NodeFit x ∧ NodeTx x) (hl : ∀ y ∈ fl l, NodeFit y ∧ NodeTx y) (hc : x.kids = cnt l) (hk : kok l) (hs : (bareT x l).size ≤ 1500) (hn : (fl l).length + 1 ≤ 400) (hd : dp l + 1 ≤ 40) : trRes (bareT x l) = .ok (treeV x l) := by
  have T := t_node x l hx.1 hx.2 hc (t_forest l hl hk)
  have hat : AtB (bareT x l) 0 (bl (bareT x l) ++ []) := ⟨by rw [List.drop_zero, List.append_nil]; rfl, Nat.zero_le _⟩
  obtain ⟨ws, h1, h2⟩ := T (bareT x l) 0 [] hat stop_nil
  have hsz : (bl (bareT x l)).length = (bareT x l).size := by unfold bl; rw [Array.length_toList]; rfl
  rw [Nat.zero_add, hsz, lex_end (bareT x l) (bareT x l).size (by omega)] at h2
  have h3 : lexR (bareT x l) 0 = .ok ws := by rw [h2]; simp [LRes.pre]
  obtain ⟨b1, b2, _⟩ := bw_ok (by omega) h3
  have hp := read_back hx.1 (fun y hy => (hl y hy).1) hc hk h1
  rw [← b1] at hp
  refine tr_ok b2 hp (by omega) ?_ ?_
  · have : sizeT (treeV x l) = (fl l).length + 1 := by rw [sizeT_is]; show (fl (flat l)).length + 1 = _; rw [fl_flat]
    omega
  · show ¬ 40 < dp (flat l) + 1
    rw [dp_flat]
    omega
theorem nodes_back (x : NodeV) (l : BT NodeV) : fl (treeV x l).f = x :: fl l := by
  show x :: (fl (flat l) ++ []) = _
  rw [fl_flat, List.append_nil]
end Go.Proofs.YtjfebnplffpmoaaGreatDoor

set_option linter.unusedVariables false
namespace Go.Proofs.YtjfebnplffpmoaaGreatDoor
open Go.RowKit Go.Maps Go.Deep

/-- a node that the program and the specification take fits -/
theorem own_fit {x : NodeV} (h : ownB x = true) : NodeFit x ∧ NodeTx x := by
  obtain ⟨k, m, s, c⟩ := x
  unfold ownB at h
  simp only [Bool.and_eq_true, decide_eq_true_eq] at h
  obtain ⟨⟨h1, h2⟩, h3⟩ := h
  have hk : 1 ≤ k ∧ k ≤ 23 := by
    have h1' : 0 ≤ arity k := h1
    unfold arity at h1'
    repeat' split at h1'
    all_goals omega
  by_cases hn : k = 2 ∨ k = 22 ∨ k = 23
  · have hnb : namedB k = true := by unfold namedB; rcases hn with rfl | rfl | rfl <;> decide
    rw [if_pos hnb] at h3
    simp only [Bool.and_eq_true, decide_eq_true_eq] at h3
    obtain ⟨h3, h4⟩ := h3
    exact ⟨⟨⟨fun _ => h3, fun a b c => absurd hn (by rintro (e | e | e); exact a e; exact b e; exact c e), h2⟩, hk.1, hk.2, by show 0 ≤ m; have : m = 0 := h3; omega⟩, fun _ => h4, by show m ≤ _; have : m = 0 := h3; omega⟩
  · have hnb : namedB k = false := by unfold namedB; simp; omega
    rw [if_neg (by show ¬ namedB k = true; rw [hnb]; simp)] at h3
    simp only [Bool.and_eq_true, decide_eq_true_eq] at h3
    obtain ⟨h3, h4⟩ := h3
    have hs : s = ⟨#[]⟩ := by cases s with | mk d => have : d = #[] := Array.eq_empty_of_size_eq_zero h3; rw [this]
    have hm : (k ≠ 1 → m = 0) ∧ 0 ≤ m ∧ m ≤ 999999999999999999 := by
      by_cases e1 : k = 1
      · rw [if_pos e1] at h4
        simp only [Bool.and_eq_true, decide_eq_true_eq] at h4
        exact ⟨fun e => absurd e1 e, h4⟩
      · rw [if_neg e1] at h4
        simp only [decide_eq_true_eq] at h4
        exact ⟨fun _ => h4, by omega, by omega⟩
    exact ⟨⟨⟨hm.1, fun _ _ _ => hs, h2⟩, hk.1, hk.2, hm.2.1⟩, fun e => absurd e hn, hm.2.2⟩
end Go.Proofs.YtjfebnplffpmoaaGreatDoor

set_option linter.unusedVariables false
namespace Go.Proofs.YtjfebnplffpmoaaGreatDoor
open Go.RowKit Go.Maps Go.Deep

theorem same_shows (f : BT NodeV) : ∀ (g : BT NodeV) (r r' : List NodeV), kok f → kok g → cnt f = cnt g → fl f ++ r = fl g ++ r' → showsF f = showsF g ∧ r = r' := by
  induction f with
  | nil =>
    intro g r r' _ _ hc h
    cases g with
    | nil => exact ⟨rfl, by simpa [fl] using h⟩
    | node b o x l s => simp [cnt] at hc
  | node b o x l s ihl ihs =>
    intro g r r' hf hg hc h
    cases g with
    | nil => simp [cnt] at hc
    | node b' o' x' l' s' =>
      simp only [fl, List.cons_append, List.append_assoc, List.cons.injEq] at h
      obtain ⟨rfl, h⟩ := h
      obtain ⟨h1, h2⟩ := ihl l' _ _ hf.2.1 hg.2.1 (by have := hf.1; have := hg.1; omega) h
      obtain ⟨h3, h4⟩ := ihs s' _ _ hf.2.2 hg.2.2 (by simp [cnt] at hc; omega) h2
      exact ⟨by simp only [showsF, h1, h3], h4⟩
def ShowIs (ns : List NodeV) (s : ByteArray) : Prop := (∃ x l, OkAt ns x l ∧ s = bareT x l) ∨ (¬ OkTree ns ∧ s = ⟨#[]⟩)
theorem show_open {ns : List NodeV} {e : Ending} (h : RetShow ns e) : ∃ s, e = .returned (.string s) ∧ ShowIs ns s := by
  rcases h with ⟨x, l, hok, rfl⟩ | ⟨hno, rfl⟩
  · exact ⟨_, rfl, .inl ⟨x, l, hok, rfl⟩⟩
  · exact ⟨_, rfl, .inr ⟨hno, rfl⟩⟩
theorem show_same {ns : List NodeV} {s t : ByteArray} (h : ShowIs ns s) (h' : ShowIs ns t) : t = s := by
  rcases h with ⟨x, l, hok, rfl⟩ | ⟨hno, rfl⟩
  · rcases h' with ⟨y, m, hok', rfl⟩ | ⟨hno, _⟩
    · have e := hok'.eq.symm.trans hok.eq
      simp only [List.cons.injEq] at e
      obtain ⟨rfl, e⟩ := e
      have := (same_shows m l [] [] hok'.kok hok.kok (by have := hok.kids; have := hok'.kids; omega) (by simpa using e)).1
      unfold bareT
      rw [this]
    · exact absurd ⟨x, l, hok⟩ hno
  · rcases h' with ⟨y, m, hok', rfl⟩ | ⟨_, rfl⟩
    · exact absurd ⟨y, m, hok'⟩ hno
    · rfl
/-- a tree's text, if it is not too long, is read as the tree -/
theorem show_read {ns : List NodeV} {s : ByteArray} (hok : OkTree ns) (h : ShowIs ns s) (hs : s.size ≤ 1500) : (trRes s).code = 0 ∧ (trRes s).nodes = ns := by
  rcases h with ⟨x, l, ok, rfl⟩ | ⟨hno, _⟩
  · have hf : ∀ y ∈ x :: fl l, NodeFit y ∧ NodeTx y := fun y hy => own_fit (ok.own y (by rw [ok.eq]; exact hy))
    have hsz := ok.size
    rw [ok.eq] at hsz
    have h := text_back (hf x (by simp)) (fun y hy => hf y (by simp [hy])) ok.kids ok.kok hs (by simpa using hsz) ok.deep
    rw [h]
    exact ⟨rfl, by show fl (treeV x l).f = ns; rw [nodes_back, ok.eq]⟩
  · exact absurd hok hno
theorem show_long {s : ByteArray} (hs : 1500 < s.size) : (trRes s).code = 1 ∧ (trRes s).nodes = [] := by
  obtain ⟨h1, h2, h3⟩ := bw_long hs
  rw [tr_words (by rw [h2]; decide), h2]
  exact ⟨rfl, rfl⟩
theorem show_size {ns : List NodeV} {s : ByteArray} (h : ShowIs ns s) : s.size ≤ 24000 := by
  rcases h with ⟨x, l, ok, rfl⟩ | ⟨_, rfl⟩
  · exact bare_small ⟨ok.size, ok.own⟩ ok.stands
  · decide
theorem show_none {ns : List NodeV} {s : ByteArray} (hno : ¬ OkTree ns) (h : ShowIs ns s) : s = ⟨#[]⟩ := by
  rcases h with ⟨x, l, ok, rfl⟩ | ⟨_, rfl⟩
  · exact absurd ⟨x, l, ok⟩ hno
  · rfl
end Go.Proofs.YtjfebnplffpmoaaGreatDoor
