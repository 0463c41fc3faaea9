/-
  How deep a tree is by the specification, and what a tree is by it.
-/
import Derived.Test.YtjfebnplffpmoaaGreatDoorSpecTree
namespace Go.Proofs.YtjfebnplffpmoaaGreatDoor
open Go.RowKit Go.Maps Go.Deep

/-- a tree among those of a forest -/
def InF (x : NodeV) (l : BT NodeV) : BT NodeV → Prop
  | .nil => False
  | .node _ _ y m r => (x = y ∧ l = m) ∨ InF x l r
theorem inF_app (x : NodeV) (l : BT NodeV) (d : BT NodeV) (b o : Nat) (r : BT NodeV) : InF x l (app d (.node b o x l r)) := by
  induction d with
  | nil => exact .inl ⟨rfl, rfl⟩
  | node b' o' y m s _ ih => exact .inr ih
theorem dp_le (f : BT NodeV) : dp f ≤ (fl f).length := by
  induction f with
  | nil => simp [dp, fl]
  | node b o x l r ihl ihr => simp only [dp, fl, List.length_cons, List.length_append]; omega

/-- a tree stands at a place of a list of nodes -/
def StandsAt (ns : List NodeV) (p : Nat) (x : NodeV) (l : BT NodeV) : Prop := ∃ pre post, ns = pre ++ (x :: fl l ++ post) ∧ p = pre.length
theorem StandsAt.lt {ns : List NodeV} {p : Nat} {x : NodeV} {l : BT NodeV} (h : StandsAt ns p x l) : p + 1 + (fl l).length ≤ ns.length := by
  obtain ⟨pre, post, rfl, rfl⟩ := h
  simp; omega
theorem StandsAt.node {ns : List NodeV} {p : Nat} {x : NodeV} {l : BT NodeV} (h : StandsAt ns p x l) (hp : p < ns.length) : ns[p] = x := by
  obtain ⟨pre, post, rfl, rfl⟩ := h
  simp
theorem StandsAt.end' {ns : List NodeV} {p : Nat} {x : NodeV} {l : BT NodeV} (h : StandsAt ns p x l) (hk : x.kids = cnt l) (hl : kok l) : treeEnd ns p = ((p + 1 + (fl l).length : Nat) : Int) := by
  obtain ⟨pre, post, rfl, rfl⟩ := h
  exact treeEnd_at pre post x l hk hl
theorem StandsAt.kid {ns : List NodeV} {p : Nat} {x : NodeV} {d : BT NodeV} {b o : Nat} {y : NodeV} {m r : BT NodeV} (h : StandsAt ns p x (app d (.node b o y m r))) : StandsAt ns (p + 1 + (fl d).length) y m := by
  obtain ⟨pre, post, rfl, rfl⟩ := h
  refine ⟨pre ++ (x :: fl d), fl r ++ post, ?_, by simp; omega⟩
  simp [fl_app, fl]
theorem app_snoc (d : BT NodeV) (b o : Nat) (y : NodeV) (m r : BT NodeV) : app d (.node b o y m r) = app (app d (.node b o y m .nil)) r := by
  rw [app_assoc]; rfl
theorem NodesAt.kids {w : World} {b off : Nat} {ns : List NodeV} (h : NodesAt w b off ns) {p : Nat} {x : NodeV} {l : BT NodeV} (hs : StandsAt ns p x l) : w.cell? ⟨b, off + p * 4 + 3, none⟩ = some (.int .i64 x.kids) := by
  have hp : p < ns.length := by have := hs.lt; omega
  have := (h p hp).2.2.2
  rwa [hs.node hp] at this

def DeepSaid (x : NodeV) (l : BT NodeV) : Prop := ∀ (w : World) (b off cap : Nat) (ns : List NodeV) (p : Nat), StandsAt ns p x l → NodesAt w b off ns → ns.length ≤ 1048576 →
  Calls Tryz.prog 56 #[.slice (some ⟨b, off, none⟩) ns.length cap, .int .i64 (p : Int)] w fun e w' => e = .returned (.int .i64 ((dp l + 1 : Nat) : Int)) ∧ w' = w

theorem deep_up (d : BT NodeV) (b o : Nat) (y : NodeV) (m : BT NodeV) (h : ((dp d : Nat) : Int) < ((dp m + 1 : Nat) : Int)) : dp (app d (.node b o y m .nil)) = dp m + 1 := by
  rw [dp_app]; simp only [dp]; omega
theorem deep_stay (d : BT NodeV) (b o : Nat) (y : NodeV) (m : BT NodeV) (h : ¬ ((dp d : Nat) : Int) < ((dp m + 1 : Nat) : Int)) : dp (app d (.node b o y m .nil)) = dp d := by
  rw [dp_app]; simp only [dp]; omega

set_option maxHeartbeats 1600000 in
theorem l2Deep_one (x : NodeV) (l : BT NodeV) (hx : x.kids = cnt l) (hl : kok l) (ih : ∀ y m, InF y m l → DeepSaid y m) : DeepSaid x l := by
  intro w b off cap ns p hst hn hlen
  have IH := hide ih
  clear ih
  have hlt := hst.lt
  have hdl := dp_le l
  have hcl := cnt_le l
  have hkid := hn.kids hst
  rw [hx] at hkid
  have HN := hide hn
  have HST := hide hst
  clear hn hst
  go_enter Tryz.func56, Tryz.ntmps56
  go_wp2_with fail
  go_loop [5, 6, 7] (fun mo k i => ∃ (done todo : BT NodeV) (q j mx : Nat), Hid (l = app done todo) ∧ Hid (q = p + 1 + (fl done).length) ∧ Hid (j = cnt done) ∧ Hid (mx = dp done) ∧ mo = .int .i64 mx ∧ k = .int .i64 q ∧ i = .int .i64 j) (fun _ _ i => cnt l - (intOf i).toNat)
  case atStart => exact ⟨.nil, l, p + 1, 0, 0, rfl, rfl, rfl, rfl, rfl, rfl, rfl⟩
  case round =>
    obtain ⟨done, todo, q, j, mx, hle, hq, hj, hmx, rfl, rfl, rfl⟩ := hrel
    cases todo with
    | nil =>
      have hz : ¬ (j : Int) < (cnt l : Int) := by
        have := unhide hj
        have := unhide hle
        rw [app_nil] at this
        subst this
        omega
      have hf := hide (show ((mx : Int) + 1) = ((dp l + 1 : Nat) : Int) by
        have := unhide hmx
        have e := unhide hle
        rw [app_nil] at e
        subst e
        omega)
      have hmb : (mx : Int) ≤ 1048576 := by
        have := unhide hmx
        have e := unhide hle
        rw [app_nil] at e
        subst e
        omega
      go_wp2_with fail
      go_ret
      exact ⟨ret_i64 (unhide hf), rfl⟩
    | node b' o' y m r =>
      have hkl : kok (app done (.node b' o' y m r)) := by rw [← unhide hle]; exact hl
      rw [kok_app] at hkl
      obtain ⟨hky, hkm, hkr⟩ := hkl.2
      have hS : StandsAt ns q y m := by
        rw [unhide hq]
        have := unhide HST
        rw [unhide hle] at this
        exact this.kid
      have hD : DeepSaid y m := unhide IH y m (by rw [unhide hle]; exact inF_app y m done b' o' r)
      have hE := hide (hS.end' hky hkm)
      have HS := hide hS
      have HD := hide hD
      have hqb : q < ns.length := by have := hS.lt; omega
      have hmm := dp_le m
      have hml : dp m + 1 ≤ ns.length := by have := hS.lt; omega
      have hjl : (j : Int) < (cnt l : Int) := by
        have e := unhide hle
        rw [e, cnt_app, unhide hj]; simp only [cnt]; omega
      have hmb : mx ≤ 1048576 := by
        have e := unhide hle
        have h1 := unhide hmx
        have h2 := dp_le l
        rw [e, dp_app] at h2
        rw [h1]
        have h3 : dp done ≤ dp l := by rw [e, dp_app]; omega
        omega
      have hle' := hide ((unhide hle).trans (app_snoc done b' o' y m r))
      have hq' := hide (show q + 1 + (fl m).length = p + 1 + (fl (app done (.node b' o' y m .nil))).length by
        rw [unhide hq, fl_app]; simp [fl]; omega)
      have hj' := hide (show j + 1 = cnt (app done (.node b' o' y m .nil)) by rw [unhide hj, cnt_app]; rfl)
      clear hkl hS hD hky hkm hkr
      by_cases hgt : ((mx : Nat) : Int) < ((dp m + 1 : Nat) : Int)
      · have hmx' := hide (show dp m + 1 = dp (app done (.node b' o' y m .nil)) by
          rw [deep_up]; rw [← unhide hmx]; exact hgt)
        go_wp2_with (first
          | (go_at_call 56; refine (unhide HD w b off cap ns q (unhide HS) (unhide HN) hlen).mono ?_; rintro e w1 ⟨rfl, rfl⟩)
          | (go_at_call 55; refine (specEnd_any _ b off cap ns q (by omega) (by omega) hlen (unhide HN)).mono ?_; rw [unhide hE]; rintro e w1 ⟨rfl, rfl⟩))
        go_round
        case rel => exact ⟨_, r, _, _, _, unhide hle', unhide hq', unhide hj', unhide hmx', by go_num, by go_num, by go_num⟩
        case measure => simp [intOf]; omega
      · have hmx' := hide (show mx = dp (app done (.node b' o' y m .nil)) by
          rw [deep_stay]; exact unhide hmx; rw [← unhide hmx]; exact hgt)
        go_wp2_with (first
          | (go_at_call 56; refine (unhide HD w b off cap ns q (unhide HS) (unhide HN) hlen).mono ?_; rintro e w1 ⟨rfl, rfl⟩)
          | (go_at_call 55; refine (specEnd_any _ b off cap ns q (by omega) (by omega) hlen (unhide HN)).mono ?_; rw [unhide hE]; rintro e w1 ⟨rfl, rfl⟩))
        go_round
        case rel => exact ⟨_, r, _, _, _, unhide hle', unhide hq', unhide hj', unhide hmx', by go_num, by go_num, by go_num⟩
        case measure => simp [intOf]; omega

theorem l2Deep_all (f : BT NodeV) : kok f → ∀ y m, InF y m f → DeepSaid y m := by
  induction f with
  | nil => intro _ y m h; exact h.elim
  | node b o x l r ihl ihr =>
    intro hk y m h
    rcases h with ⟨rfl, rfl⟩ | h
    · exact l2Deep_one y m hk.1 hk.2.1 (ihl hk.2.1)
    · exact ihr hk.2.2 y m h
theorem l2Deep_any (x : NodeV) (l : BT NodeV) (hx : x.kids = cnt l) (hl : kok l) : DeepSaid x l := l2Deep_one x l hx hl (l2Deep_all l hl)

/-- two forests of as many trees over the same nodes are as deep -/
theorem same_deep (f : BT NodeV) : ∀ (g : BT NodeV) (r r' : List NodeV), kok f → kok g → cnt f = cnt g → fl f ++ r = fl g ++ r' → dp f = dp g ∧ r = r' := by
  induction f with
  | nil =>
    intro g r r' _ _ hc h
    cases g with
    | nil => exact ⟨rfl, by simpa [fl] using h⟩
    | node b o x l s => simp [cnt] at hc
  | node b o x l s ihl ihs =>
    intro g r r' hf hg hc h
    cases g with
    | nil => simp [cnt] at hc
    | node b' o' x' l' s' =>
      simp only [fl, List.cons_append, List.append_assoc, List.cons.injEq] at h
      obtain ⟨rfl, h⟩ := h
      obtain ⟨h1, h2⟩ := ihl l' _ _ hf.2.1 hg.2.1 (by have := hf.1; have := hg.1; omega) h
      obtain ⟨h3, h4⟩ := ihs s' _ _ hf.2.2 hg.2.2 (by simp [cnt] at hc; omega) h2
      exact ⟨by simp only [dp, h1, h3], h4⟩

/-- the nodes are this tree -/
structure OkAt (ns : List NodeV) (x : NodeV) (l : BT NodeV) : Prop where
  size : ns.length ≤ 400
  own : ∀ n ∈ ns, ownB n = true
  eq : ns = x :: fl l
  kids : x.kids = cnt l
  kok : kok l
  deep : dp l + 1 ≤ 40
def OkTree (ns : List NodeV) : Prop := ∃ x l, OkAt ns x l
theorem OkAt.stands {ns : List NodeV} {x : NodeV} {l : BT NodeV} (h : OkAt ns x l) : StandsAt ns 0 x l := ⟨[], [], by simp [h.eq], rfl⟩
theorem not_ok_size {ns : List NodeV} (h : ¬ ns.length ≤ 400) : ¬ OkTree ns := fun ⟨_, _, k⟩ => h k.size
theorem not_ok_nil {ns : List NodeV} (h : ns.length < 1) : ¬ OkTree ns := fun ⟨_, _, k⟩ => by
  have := k.eq
  subst this
  simp at h
theorem not_ok_own {ns : List NodeV} (i : Nat) (hi : i < ns.length) (h : ownB ns[i] = false) : ¬ OkTree ns := fun ⟨_, _, k⟩ => by
  have := k.own _ (List.getElem_mem hi)
  rw [h] at this
  cases this
theorem not_ok_end {ns : List NodeV} (h : treeEnd ns 0 ≠ ns.length) : ¬ OkTree ns := fun ⟨x, l, k⟩ => by
  apply h
  have := k.stands.end' k.kids k.kok
  have e : ((0 : Nat) : Int) = 0 := rfl
  rw [e] at this
  rw [this, k.eq]
  simp; omega
theorem ok_iff_deep {ns : List NodeV} {x : NodeV} {l : BT NodeV} (hs : ns.length ≤ 400) (ho : ∀ n ∈ ns, ownB n = true) (he : ns = x :: fl l) (hk : x.kids = cnt l) (hl : kok l) : OkTree ns ↔ dp l + 1 ≤ 40 := by
  constructor
  · rintro ⟨y, m, k⟩
    have e := he.symm.trans k.eq
    simp only [List.cons.injEq] at e
    obtain ⟨rfl, e⟩ := e
    have := (same_deep l m [] [] hl k.kok (by have := k.kids; omega) (by simpa using e)).1
    have := k.deep
    omega
  · intro h
    exact ⟨x, l, hs, ho, he, hk, hl, h⟩
theorem no_iff {p : Prop} (h : ¬ p) : (false = true ↔ p) := ⟨fun e => Bool.noConfusion e, fun e => absurd e h⟩
def RetIff (p : Prop) (e : Ending) : Prop := ∃ r : Bool, e = .returned (.bool r) ∧ (r = true ↔ p)
theorem ret_bool_iff {p : Prop} {b : Bool} (h : b = true ↔ p) : RetIff p (.returned (.bool b)) := ⟨b, rfl, h⟩

set_option maxHeartbeats 1600000 in
theorem specOk_any (w : World) (b off cap : Nat) (ns : List NodeV) (hl : ns.length ≤ 1048576) (hc : NodesAt w b off ns) (hb : b < w.heap.size) (hs : NamesOk ns) :
    Calls Tryz.prog 32 #[.slice (some ⟨b, off, none⟩) ns.length cap] w fun e w' => RetIff (OkTree ns) e ∧ Below w.heap.size w w' := by
  by_cases h1 : (1 : Int) ≤ (ns.length : Int)
  · by_cases h400 : (ns.length : Int) ≤ 400
    · have HC := hide hc
      go_enter Tryz.func32, Tryz.ntmps32
      go_wp2_with fail
      go_loopw [3] (fun i wr => ∃ k : Nat, k ≤ ns.length ∧ i = .int .i64 k ∧ (∀ j (h : j < ns.length), j < k → ownB ns[j] = true) ∧ Below w.heap.size w wr) (fun i _ => ns.length - (intOf i).toNat)
      case atStart => exact ⟨0, Nat.zero_le _, rfl, fun j _ hj => absurd hj (Nat.not_lt_zero _), Below.refl _ _⟩
      case round =>
        obtain ⟨k, hk, rfl, hown, hbel⟩ := hrel
        have HO := hide hown
        clear hown
        by_cases hlt : k < ns.length
        · obtain ⟨c0, c1, c2, c3⟩ := unhide HC k hlt
          rw [← hbel.cell (by exact hb)] at c0 c1 c2 c3
          have hnm := hide (hs _ (List.getElem_mem hlt))
          cases ho : ownB ns[k]
          · have hf := hide (not_ok_own k hlt ho)
            go_wp2_with (first
              | (go_at_call 54; refine (l2Own_any ns[k] _ (unhide hnm)).mono ?_; rw [ho]; rintro e w1 ⟨rfl, hb1⟩))
            go_ret
            exact ⟨ret_bool_iff (no_iff (unhide hf)), hbel.trans (hb1.mono hbel.size)⟩
          · have hO := hide ho
            go_wp2_with (first
              | (go_at_call 54; refine (l2Own_any ns[k] _ (unhide hnm)).mono ?_; rw [ho]; rintro e w1 ⟨rfl, hb1⟩))
            go_roundw
            case rel =>
              refine ⟨k + 1, by omega, by go_num, fun j h hj => ?_, hbel.trans (hb1.mono hbel.size)⟩
              by_cases e : j = k
              · subst e; exact unhide hO
              · exact unhide HO j h (by omega)
            case measure => simp [intOf]; omega
        · have hall := hide (show ∀ n ∈ ns, ownB n = true by
            intro n hn
            obtain ⟨j, hj, rfl⟩ := List.getElem_of_mem hn
            exact unhide HO j hj (by omega))
          have hcr := hide ((unhide HC).below hbel hb)
          by_cases hend : treeEnd ns 0 = ns.length
          · obtain ⟨x, l, he, hx, hkl⟩ := tree_of ns hend (by intro e; subst e; simp at h1)
            have hiff := hide (ok_iff_deep (by omega) (unhide hall) he hx hkl)
            have hst := hide (show StandsAt ns 0 x l from ⟨[], [], by simp [he], rfl⟩)
            have hdl := dp_le l
            have hlen : (fl l).length ≤ 1048576 := by have : ns.length = (fl l).length + 1 := by rw [he]; simp
                                                      omega
            have hE := hide hend
            have hd := hide (l2Deep_any x l hx hkl)
            have hbq : (treeEnd ns 0 == (ns.length : Int)) = true := by simp [hend]
            clear he hx hkl hend
            go_wp2_with (first
              | (go_at_call 55; refine (specEnd_any _ b off cap ns 0 (by omega) (by omega) hl (unhide hcr)).mono ?_; rintro e w1 ⟨rfl, rfl⟩)
              | (go_at_call 56; refine (unhide hd _ b off cap ns 0 (unhide hst) (unhide hcr) hl).mono ?_; rintro e w1 ⟨rfl, rfl⟩))
            go_ret
            refine ⟨ret_bool_iff ?_, hbel⟩
            rw [unhide hiff]
            simp
            omega
          · have hf := hide (not_ok_end hend)
            have hbq : (treeEnd ns 0 == (ns.length : Int)) = false := by simp [hend]
            clear hend
            go_wp2_with (first
              | (go_at_call 55; refine (specEnd_any _ b off cap ns 0 (by omega) (by omega) hl (unhide hcr)).mono ?_; rintro e w1 ⟨rfl, rfl⟩))
            go_ret
            exact ⟨ret_bool_iff (no_iff (unhide hf)), hbel⟩
    · have hf := hide (not_ok_size (ns := ns) (by omega))
      go_enter Tryz.func32, Tryz.ntmps32
      go_wp2_with fail
      go_ret
      exact ⟨ret_bool_iff (no_iff (unhide hf)), Below.refl _ _⟩
  · have hf := hide (not_ok_nil (ns := ns) (by omega))
    go_enter Tryz.func32, Tryz.ntmps32
    go_wp2_with fail
    go_ret
    exact ⟨ret_bool_iff (no_iff (unhide hf)), Below.refl _ _⟩


end Go.Proofs.YtjfebnplffpmoaaGreatDoor
