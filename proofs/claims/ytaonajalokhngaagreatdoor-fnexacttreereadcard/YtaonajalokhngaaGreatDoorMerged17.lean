/-
  Small facts on texts, worlds and maps of the call's own.
-/
/-
  The specification's own functions over trees: which nodes may be, how deep a tree is, what a tree is.
-/
/-
  How deep a tree is by the specification, and what a tree is by it.
-/
import Derived.Test.YtaonajalokhngaaGreatDoorMerged3
import Derived.Deep.QuietTactic
import Derived.BigQuiet
import Derived.Test.YtaonajalokhngaaGreatDoorForest
import Derived.Test.YtaonajalokhngaaGreatDoorMerged10
namespace Go.Proofs.YtaonajalokhngaaGreatDoor
open Go.RowKit Go.Maps

theorem str_empty (s : ByteArray) (h : s.size = 0) : s.toList = [] := by
  rw [ByteArray.toList_eq]
  exact List.eq_nil_of_length_eq_zero (by simpa using h)
theorem str_full (s : ByteArray) (h : ¬ s.size = 0) : s.toList.isEmpty = false := by
  rw [ByteArray.toList_eq, List.isEmpty_eq_false_iff]
  intro e
  apply h
  have : s.data.toList.length = 0 := by rw [e]; rfl
  simpa using this

theorem below_dn {B : Nat} {a w : World} (h : Below B a w) (n : Nat) : Below B a (w.drewN n) := h.trans ⟨rfl, rfl, rfl, Nat.le_refl _, fun _ _ => rfl⟩

theorem bcell {W w1 : World} (hb : Below W.heap.size W w1) : (∀ b o, b < W.heap.size → w1.cell? ⟨b, o, none⟩ = W.cell? ⟨b, o, none⟩) ∧ (∀ b o, b < W.heap.size → w1.frozen? ⟨b, o, none⟩ = W.frozen? ⟨b, o, none⟩) :=
  ⟨fun b o h => hb.cell (p := ⟨b, o, none⟩) h, fun b o h => hb.frozen (p := ⟨b, o, none⟩) h⟩
theorem dec_beq (a b : Int) : decide (a = b) = (a == b) := by rw [Bool.eq_iff_iff]; simp
theorem ownsMap_below {H : Type} {P : Program} {k : TypeId} {R : Value → Option (DataW H × List MemPlace)} {w w' : World} {b n B : Nat} {D : DataW H} (h : w.ownsMap P k R b n D) (hb : Below B w w') (hB : b < B) : w'.ownsMap P k R b n D := by
  obtain ⟨es, clock, hh, r⟩ := h
  exact ⟨es, clock, (hb.block b hB).trans hh, r⟩

theorem ownsMap_grown {H : Type} {P : Program} {k : TypeId} {R : Value → Option (DataW H × List MemPlace)} {w w' : World} {b n t : Nat} {D : DataW H} (h : w.ownsMap P k R b n D) (hb : w.grownBy w' (some t)) (hne : b ≠ t) (hlt : b < w.heap.size) : w'.ownsMap P k R b n D := by
  obtain ⟨es, clock, h1, h2⟩ := h
  exact ⟨es, clock, (hb.block b hlt (by simpa using hne)).trans h1, h2⟩
theorem ownsRow_up {w w' : World} {base : Nat} {e : TypeId} {size : Nat} {v : Value} {n : Nat} {xs : List Value} (h : w.ownsRow base e size v n xs) (hb : Below w.heap.size w w') : w'.ownsRow base e size v n xs := by
  refine ⟨h.1, ?_⟩
  rcases h.2 with h0 | ⟨g, cap, cur, hv, hB, hg, r⟩
  · exact .inl h0
  · exact .inr ⟨g, cap, cur, hv, hB, (hb.block g (Array.getElem?_eq_some_iff.1 hg).1).trans hg, r⟩
theorem ownBlock_ge {w : World} {base : Nat} {e : TypeId} {size : Nat} {v : Value} {n : Nat} {xs : List Value} (h : w.ownsRow base e size v n xs) : ∀ k, v.ownBlock = some k → base ≤ k := by
  intro k hk
  rcases h.2 with ⟨rfl, _⟩ | ⟨g, cap, cur, rfl, hB, hg, r⟩
  · cases hk
  · simp only [Value.ownBlock, Option.some.injEq] at hk
    omega

end Go.Proofs.YtaonajalokhngaaGreatDoor

namespace Go.Proofs.YtaonajalokhngaaGreatDoor
open Go.RowKit Go.Maps Go.Deep

def arity (k : Int) : Int :=
  if k = 1 ∨ k = 2 then 0 else if k = 3 ∨ k = 4 ∨ k = 20 then 1 else if 5 ≤ k ∧ k ≤ 19 then 2 else if k = 22 then 2 else if k = 21 ∨ k = 23 then 3 else -1
def namedB (k : Int) : Bool := decide (k = 2) || decide (k = 22) || decide (k = 23)
def ownB (x : NodeV) : Bool :=
  decide (0 ≤ arity x.kind) && decide (x.kids = arity x.kind) &&
    (if namedB x.kind then decide (x.num = 0) && nameB x.name else decide (x.name.size = 0) && (if x.kind = 1 then decide (0 ≤ x.num) && decide (x.num ≤ 999999999999999999) else decide (x.num = 0)))

theorem own_plain (k n : Int) (s : ByteArray) (c : Int) (hnb : namedB k = false) (ha : 0 ≤ arity k) (hc : c = arity k) (hs : s.size = 0) :
    ownB ⟨k, n, s, c⟩ = (if k = 1 then decide (0 ≤ n) && decide (n ≤ 999999999999999999) else decide (n = 0)) := by
  simp [ownB, hnb, ha, hc, hs]
theorem own_named (k n : Int) (s : ByteArray) (c : Int) (hnb : namedB k = true) (ha : 0 ≤ arity k) (hc : c = arity k) : ownB ⟨k, n, s, c⟩ = (decide (n = 0) && nameB s) := by
  simp [ownB, hnb, ha, hc]

end Go.Proofs.YtaonajalokhngaaGreatDoor

namespace Go.Proofs.YtaonajalokhngaaGreatDoor
open Go.RowKit Go.Maps Go.Deep

/-- a tree among those of a forest -/
def InF (x : NodeV) (l : BT NodeV) : BT NodeV → Prop
  | .nil => False
  | .node _ _ y m r => (x = y ∧ l = m) ∨ InF x l r
theorem inF_app (x : NodeV) (l : BT NodeV) (d : BT NodeV) (b o : Nat) (r : BT NodeV) : InF x l (app d (.node b o x l r)) := by
  induction d with
  | nil => exact .inl ⟨rfl, rfl⟩
  | node b' o' y m s _ ih => exact .inr ih
theorem dp_le (f : BT NodeV) : dp f ≤ (fl f).length := by
  induction f with
  | nil => simp [dp, fl]
  | node b o x l r ihl ihr => simp only [dp, fl, List.length_cons, List.length_append]; omega

/-- a tree stands at a place of a list of nodes -/
def StandsAt (ns : List NodeV) (p : Nat) (x : NodeV) (l : BT NodeV) : Prop := ∃ pre post, ns = pre ++ (x :: fl l ++ post) ∧ p = pre.length
theorem StandsAt.lt {ns : List NodeV} {p : Nat} {x : NodeV} {l : BT NodeV} (h : StandsAt ns p x l) : p + 1 + (fl l).length ≤ ns.length := by
  obtain ⟨pre, post, rfl, rfl⟩ := h
  simp; omega
theorem StandsAt.node {ns : List NodeV} {p : Nat} {x : NodeV} {l : BT NodeV} (h : StandsAt ns p x l) (hp : p < ns.length) : ns[p] = x := by
  obtain ⟨pre, post, rfl, rfl⟩ := h
  simp
theorem StandsAt.end' {ns : List NodeV} {p : Nat} {x : NodeV} {l : BT NodeV} (h : StandsAt ns p x l) (hk : x.kids = cnt l) (hl : kok l) : treeEnd ns p = ((p + 1 + (fl l).length : Nat) : Int) := by
  obtain ⟨pre, post, rfl, rfl⟩ := h
  exact treeEnd_at pre post x l hk hl
theorem StandsAt.kid {ns : List NodeV} {p : Nat} {x : NodeV} {d : BT NodeV} {b o : Nat} {y : NodeV} {m r : BT NodeV} (h : StandsAt ns p x (app d (.node b o y m r))) : StandsAt ns (p + 1 + (fl d).length) y m := by
  obtain ⟨pre, post, rfl, rfl⟩ := h
  refine ⟨pre ++ (x :: fl d), fl r ++ post, ?_, by simp; omega⟩
  simp [fl_app, fl]
theorem app_snoc (d : BT NodeV) (b o : Nat) (y : NodeV) (m r : BT NodeV) : app d (.node b o y m r) = app (app d (.node b o y m .nil)) r := by
  rw [app_assoc]; rfl
theorem NodesAt.kids {w : World} {b off : Nat} {ns : List NodeV} (h : NodesAt w b off ns) {p : Nat} {x : NodeV} {l : BT NodeV} (hs : StandsAt ns p x l) : w.cell? ⟨b, off + p * 4 + 3, none⟩ = some (.int .i64 x.kids) := by
  have hp : p < ns.length := by have := hs.lt; omega
  have := (h p hp).2.2.2
  rwa [hs.node hp] at this

def DeepSaid (x : NodeV) (l : BT NodeV) : Prop := ∀ (w : World) (b off cap : Nat) (ns : List NodeV) (p : Nat), StandsAt ns p x l → NodesAt w b off ns → ns.length ≤ 1048576 →
  Calls Tryz.prog 12 #[.slice (some ⟨b, off, none⟩) ns.length cap, .int .i64 (p : Int)] w fun e w' => e = .returned (.int .i64 ((dp l + 1 : Nat) : Int)) ∧ w' = w

theorem deep_up (d : BT NodeV) (b o : Nat) (y : NodeV) (m : BT NodeV) (h : ((dp d : Nat) : Int) < ((dp m + 1 : Nat) : Int)) : dp (app d (.node b o y m .nil)) = dp m + 1 := by
  rw [dp_app]; simp only [dp]; omega
theorem deep_stay (d : BT NodeV) (b o : Nat) (y : NodeV) (m : BT NodeV) (h : ¬ ((dp d : Nat) : Int) < ((dp m + 1 : Nat) : Int)) : dp (app d (.node b o y m .nil)) = dp d := by
  rw [dp_app]; simp only [dp]; omega

set_option maxHeartbeats 1600000 in
theorem l2Deep_one (x : NodeV) (l : BT NodeV) (hx : x.kids = cnt l) (hl : kok l) (ih : ∀ y m, InF y m l → DeepSaid y m) : DeepSaid x l := by
  intro w b off cap ns p hst hn hlen
  have IH := hide ih
  clear ih
  have hlt := hst.lt
  have hdl := dp_le l
  have hcl := cnt_le l
  have hkid := hn.kids hst
  rw [hx] at hkid
  have HN := hide hn
  have HST := hide hst
  clear hn hst
  go_enter Tryz.func12, Tryz.ntmps12
  go_wp2_with fail
  go_loop [5, 6, 7] (fun mo k i => ∃ (done todo : BT NodeV) (q j mx : Nat), Hid (l = app done todo) ∧ Hid (q = p + 1 + (fl done).length) ∧ Hid (j = cnt done) ∧ Hid (mx = dp done) ∧ mo = .int .i64 mx ∧ k = .int .i64 q ∧ i = .int .i64 j) (fun _ _ i => cnt l - (intOf i).toNat)
  case atStart => exact ⟨.nil, l, p + 1, 0, 0, rfl, rfl, rfl, rfl, rfl, rfl, rfl⟩
  case round =>
    obtain ⟨done, todo, q, j, mx, hle, hq, hj, hmx, rfl, rfl, rfl⟩ := hrel
    cases todo with
    | nil =>
      have hz : ¬ (j : Int) < (cnt l : Int) := by
        have := unhide hj
        have := unhide hle
        rw [app_nil] at this
        subst this
        omega
      have hf := hide (show ((mx : Int) + 1) = ((dp l + 1 : Nat) : Int) by
        have := unhide hmx
        have e := unhide hle
        rw [app_nil] at e
        subst e
        omega)
      have hmb : (mx : Int) ≤ 1048576 := by
        have := unhide hmx
        have e := unhide hle
        rw [app_nil] at e
        subst e
        omega
      go_wp2_with fail
      go_ret
      exact ⟨ret_i64 (unhide hf), rfl⟩
    | node b' o' y m r =>
      have hkl : kok (app done (.node b' o' y m r)) := by rw [← unhide hle]; exact hl
      rw [kok_app] at hkl
      obtain ⟨hky, hkm, hkr⟩ := hkl.2
      have hS : StandsAt ns q y m := by
        rw [unhide hq]
        have := unhide HST
        rw [unhide hle] at this
        exact this.kid
      have hD : DeepSaid y m := unhide IH y m (by rw [unhide hle]; exact inF_app y m done b' o' r)
      have hE := hide (hS.end' hky hkm)
      have HS := hide hS
      have HD := hide hD
      have hqb : q < ns.length := by have := hS.lt; omega
      have hmm := dp_le m
      have hml : dp m + 1 ≤ ns.length := by have := hS.lt; omega
      have hjl : (j : Int) < (cnt l : Int) := by
        have e := unhide hle
        rw [e, cnt_app, unhide hj]; simp only [cnt]; omega
      have hmb : mx ≤ 1048576 := by
        have e := unhide hle
        have h1 := unhide hmx
        have h2 := dp_le l
        rw [e, dp_app] at h2
        rw [h1]
        have h3 : dp done ≤ dp l := by rw [e, dp_app]; omega
        omega
      have hle' := hide ((unhide hle).trans (app_snoc done b' o' y m r))
      have hq' := hide (show q + 1 + (fl m).length = p + 1 + (fl (app done (.node b' o' y m .nil))).length by
        rw [unhide hq, fl_app]; simp [fl]; omega)
      have hj' := hide (show j + 1 = cnt (app done (.node b' o' y m .nil)) by rw [unhide hj, cnt_app]; rfl)
      clear hkl hS hD hky hkm hkr
      by_cases hgt : ((mx : Nat) : Int) < ((dp m + 1 : Nat) : Int)
      · have hmx' := hide (show dp m + 1 = dp (app done (.node b' o' y m .nil)) by
          rw [deep_up]; rw [← unhide hmx]; exact hgt)
        go_wp2_with (first
          | (go_at_call 12; refine (unhide HD w b off cap ns q (unhide HS) (unhide HN) hlen).mono ?_; rintro e w1 ⟨rfl, rfl⟩)
          | (go_at_call 23; refine (specEnd_any _ b off cap ns q (by omega) (by omega) hlen (unhide HN)).mono ?_; rw [unhide hE]; rintro e w1 ⟨rfl, rfl⟩))
        go_round
        case rel => exact ⟨_, r, _, _, _, unhide hle', unhide hq', unhide hj', unhide hmx', by go_num, by go_num, by go_num⟩
        case measure => simp [intOf]; omega
      · have hmx' := hide (show mx = dp (app done (.node b' o' y m .nil)) by
          rw [deep_stay]; exact unhide hmx; rw [← unhide hmx]; exact hgt)
        go_wp2_with (first
          | (go_at_call 12; refine (unhide HD w b off cap ns q (unhide HS) (unhide HN) hlen).mono ?_; rintro e w1 ⟨rfl, rfl⟩)
          | (go_at_call 23; refine (specEnd_any _ b off cap ns q (by omega) (by omega) hlen (unhide HN)).mono ?_; rw [unhide hE]; rintro e w1 ⟨rfl, rfl⟩))
        go_round
        case rel => exact ⟨_, r, _, _, _, unhide hle', unhide hq', unhide hj', unhide hmx', by go_num, by go_num, by go_num⟩
        case measure => simp [intOf]; omega

theorem l2Deep_all (f : BT NodeV) : kok f → ∀ y m, InF y m f → DeepSaid y m := by
  induction f with
  | nil => intro _ y m h; exact h.elim
  | node b o x l r ihl ihr =>
    intro hk y m h
    rcases h with ⟨rfl, rfl⟩ | h
    · exact l2Deep_one y m hk.1 hk.2.1 (ihl hk.2.1)
    · exact ihr hk.2.2 y m h
theorem l2Deep_any (x : NodeV) (l : BT NodeV) (hx : x.kids = cnt l) (hl : kok l) : DeepSaid x l := l2Deep_one x l hx hl (l2Deep_all l hl)

/-- two forests of as many trees over the same nodes are as deep -/
theorem same_deep (f : BT NodeV) : ∀ (g : BT NodeV) (r r' : List NodeV), kok f → kok g → cnt f = cnt g → fl f ++ r = fl g ++ r' → dp f = dp g ∧ r = r' := by
  induction f with
  | nil =>
    intro g r r' _ _ hc h
    cases g with
    | nil => exact ⟨rfl, by simpa [fl] using h⟩
    | node b o x l s => simp [cnt] at hc
  | node b o x l s ihl ihs =>
    intro g r r' hf hg hc h
    cases g with
    | nil => simp [cnt] at hc
    | node b' o' x' l' s' =>
      simp only [fl, List.cons_append, List.append_assoc, List.cons.injEq] at h
      obtain ⟨rfl, h⟩ := h
      obtain ⟨h1, h2⟩ := ihl l' _ _ hf.2.1 hg.2.1 (by have := hf.1; have := hg.1; omega) h
      obtain ⟨h3, h4⟩ := ihs s' _ _ hf.2.2 hg.2.2 (by simp [cnt] at hc; omega) h2
      exact ⟨by simp only [dp, h1, h3], h4⟩

/-- the nodes are this tree -/
structure OkAt (ns : List NodeV) (x : NodeV) (l : BT NodeV) : Prop where
  size : ns.length ≤ 400
  own : ∀ n ∈ ns, ownB n = true
  eq : ns = x :: fl l
  kids : x.kids = cnt l
  kok : kok l
  deep : dp l + 1 ≤ 40
def OkTree (ns : List NodeV) : Prop := ∃ x l, OkAt ns x l
theorem OkAt.stands {ns : List NodeV} {x : NodeV} {l : BT NodeV} (h : OkAt ns x l) : StandsAt ns 0 x l := ⟨[], [], by simp [h.eq], rfl⟩
theorem not_ok_size {ns : List NodeV} (h : ¬ ns.length ≤ 400) : ¬ OkTree ns := fun ⟨_, _, k⟩ => h k.size
theorem not_ok_nil {ns : List NodeV} (h : ns.length < 1) : ¬ OkTree ns := fun ⟨_, _, k⟩ => by
  have := k.eq
  subst this
  simp at h
theorem not_ok_own {ns : List NodeV} (i : Nat) (hi : i < ns.length) (h : ownB ns[i] = false) : ¬ OkTree ns := fun ⟨_, _, k⟩ => by
  have := k.own _ (List.getElem_mem hi)
  rw [h] at this
  cases this
theorem not_ok_end {ns : List NodeV} (h : treeEnd ns 0 ≠ ns.length) : ¬ OkTree ns := fun ⟨x, l, k⟩ => by
  apply h
  have := k.stands.end' k.kids k.kok
  have e : ((0 : Nat) : Int) = 0 := rfl
  rw [e] at this
  rw [this, k.eq]
  simp; omega
theorem ok_iff_deep {ns : List NodeV} {x : NodeV} {l : BT NodeV} (hs : ns.length ≤ 400) (ho : ∀ n ∈ ns, ownB n = true) (he : ns = x :: fl l) (hk : x.kids = cnt l) (hl : kok l) : OkTree ns ↔ dp l + 1 ≤ 40 := by
  constructor
  · rintro ⟨y, m, k⟩
    have e := he.symm.trans k.eq
    simp only [List.cons.injEq] at e
    obtain ⟨rfl, e⟩ := e
    have := (same_deep l m [] [] hl k.kok (by have := k.kids; omega) (by simpa using e)).1
    have := k.deep
    omega
  · intro h
    exact ⟨x, l, hs, ho, he, hk, hl, h⟩
theorem no_iff {p : Prop} (h : ¬ p) : (false = true ↔ p) := ⟨fun e => Bool.noConfusion e, fun e => absurd e h⟩
def RetIff (p : Prop) (e : Ending) : Prop := ∃ r : Bool, e = .returned (.bool r) ∧ (r = true ↔ p)
theorem ret_bool_iff {p : Prop} {b : Bool} (h : b = true ↔ p) : RetIff p (.returned (.bool b)) := ⟨b, rfl, h⟩

end Go.Proofs.YtaonajalokhngaaGreatDoor
