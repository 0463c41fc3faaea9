/-
  The program makes the form of a tree out of its nodes, and tells how deep it is.
-/
import Derived.Test.YtckeljpmdmbdmaaDoorForms
namespace Go.Proofs.YtckeljpmdmbdmaaDoor
open Go.RowKit Go.Maps Go.Deep

theorem infoForm : (Tryd.prog.info? 44).map (fun i => (i.zero, i.size, i.bytes)) = some (some .nilIface, 1, 16) := by kernel_rfl

def RetGrow (B : Nat) (x : NodeV) (l : BT NodeV) (q : Nat) (e : Ending) (w' : World) : Prop :=
  ∃ v ws, e = .returned (.tuple #[v, .int .i64 (q : Int)]) ∧ FormsAre B w' l ws ∧ IsNode B w' x ws v
def GrowSaid (x : NodeV) (l : BT NodeV) : Prop := ∀ (w : World) (b off cap : Nat) (ns : List NodeV) (p : Nat), StandsAt ns p x l → NodesAt w b off ns → b < w.heap.size → OwnAll ns →
  Calls Tryd.prog 39 #[.slice (some ⟨b, off, none⟩) ns.length cap, .int .i64 (p : Int)] w fun e w' => RetGrow w.heap.size x l (p + 1 + (fl l).length) e w' ∧ Below w.heap.size w w'

theorem own_parts {x : NodeV} (h : ownB x = true) : 1 ≤ x.kind ∧ x.kind ≤ 23 ∧ x.kids = arity x.kind := by
  have hk : x.kids = arity x.kind := by
    by_cases e : x.kids = arity x.kind
    · exact e
    · rw [show ownB x = false by simp [ownB, e]] at h; cases h
  have hr : ¬ (x.kind < 1 ∨ 23 < x.kind) := by
    intro e
    rw [show ownB x = false by simp [ownB, arity_out x.kind e]] at h; cases h
  exact ⟨by omega, by omega, hk⟩
theorem StandsAt.mem {ns : List NodeV} {p : Nat} {x : NodeV} {l : BT NodeV} (h : StandsAt ns p x l) : x ∈ ns := by
  obtain ⟨pre, post, rfl, rfl⟩ := h
  simp
theorem take_set (xs vs : List Value) (j : Nat) (v : Value) (hj : j < xs.length) (h : xs.take j = vs) : (xs.set j v).take (j + 1) = vs ++ [v] := by
  rw [List.take_set, List.take_succ_eq_append_getElem hj, h]
  have : vs.length = j := by rw [← h]; simp; omega
  rw [List.set_append_right _ _ (by omega), this]
  simp
theorem rowAt_of {w : World} {base : Nat} {e : TypeId} {g n cap : Nat} {xs : List Value} (h : w.ownsRow base e 1 (.slice (some ⟨g, 0, none⟩) n cap) n xs) : RowAt w g xs := by
  intro i hi
  have hx := h.1
  rw [h.cellAt i (by omega)]
  exact List.getElem?_eq_getElem hi

set_option maxHeartbeats 3200000 in
theorem grow_one (x : NodeV) (l : BT NodeV) (hx : x.kids = cnt l) (hl : kok l) (ih : ∀ y m, InF y m l → GrowSaid y m) : GrowSaid x l := by
  intro w b off cap ns p hst hn hb hown
  have IH := hide ih
  clear ih
  have hlt := hst.lt
  have hcl := cnt_le l
  have h400 : ns.length ≤ 400 := hown.1
  obtain ⟨c0, c1, c2, c3⟩ := hn p (by omega)
  rw [hst.node (by omega)] at c0 c1 c2 c3
  rw [hx] at c3
  obtain ⟨hk1, hk23, hka⟩ := own_parts (hown.2 x hst.mem)
  have HA := hide (hx.symm.trans hka)
  have HK := hide (And.intro hk1 hk23)
  have HN := hide hn
  have HST := hide hst
  have HO := hide hown
  have HX := hide hx
  clear hn hst hown hk1 hk23 hka hx
  obtain ⟨i0, hi, hz0, hz1, hz2⟩ := info_parts infoForm
  go_enter Tryd.func39, Tryd.ntmps39
  go_wp2_with (first
    | (at_make; refine wpList_make_full _ rfl _ _ 84 rfl w.heap.size 44 i0 _ 1 Tryd.underlying84 hi hz0 hz1 _ _ _ _ (cnt l) rfl rfl rfl rfl (by rw [hz2]; omega) (by unfold maxLen; omega) (Nat.le_refl _) ?_; intro w1 hrow hgrow))
  clear hz0 hz1 hz2 hi
  have hlt1 : w.heap.size < w1.heap.size := by
    rcases hrow.2 with ⟨h', _⟩ | ⟨g', cap', cur, h', _, hg, _⟩
    · simp at h'
    · simp only [Value.slice.injEq, Option.some.injEq, Addr.mk.injEq, and_true, true_and] at h'
      obtain ⟨rfl, rfl⟩ := h'
      exact (Array.getElem?_eq_some_iff.1 hg).1
  have hbw1 : Below w.heap.size w w1 := (Below.refl _ _).grown hgrow (Nat.le_refl _) (fun k hk => by cases hk)
  clear hgrow
  go_loopw [7, 19] (fun k i wr => ∃ (done todo : BT NodeV) (q j : Nat) (vs xs : List Value), Hid (l = app done todo) ∧ Hid (q = p + 1 + (fl done).length) ∧ Hid (j = cnt done) ∧ k = .int .i64 q ∧ i = .int .i64 j ∧ FormsAre (w.heap.size + 1) wr done vs ∧ Hid (xs.take j = vs) ∧ wr.ownsRow w.heap.size 44 1 (.slice (some ⟨w.heap.size, 0, none⟩) (cnt l) (cnt l)) (cnt l) xs ∧ w.heap.size < wr.heap.size ∧ Below w.heap.size w wr) (fun _ i _ => cnt l - (intOf i).toNat)
  case atStart => exact ⟨.nil, l, p + 1, 0, [], _, rfl, rfl, rfl, rfl, rfl, rfl, rfl, hrow, hlt1, hbw1⟩
  case round =>
    obtain ⟨done, todo, q, j, vs, xs, hle, hq, hj, rfl, rfl, hforms, htake, hrw, hsz, hbel⟩ := hrel
    have HF := hide hforms
    clear hforms hrow
    cases todo with
    | nil =>
      have hz : ¬ (j : Int) < (cnt l : Int) := by
        have h1 := unhide hj
        have h2 := unhide hle
        rw [app_nil] at h2
        subst h2
        omega
      have hxs : xs = vs := by
        rw [← unhide htake, List.take_of_length_le]
        rw [hrw.1]
        have h1 := unhide hj
        have h2 := unhide hle
        rw [app_nil] at h2
        subst h2
        omega
      have hforms : FormsAre (w.heap.size + 1) wr l xs := by
        have h2 := unhide hle
        rw [app_nil] at h2
        rw [h2, hxs]
        exact unhide HF
      have hql : q = p + 1 + (fl l).length := by
        have h2 := unhide hle
        rw [app_nil] at h2
        rw [h2]
        exact unhide hq
      have hxl : xs.length = cnt l := by rw [hforms.length]
      rw [← hbel.cell (by exact hb)] at c0 c1 c2 c3
      have FO := hide (formOf_any x wr w.heap.size w.heap.size (cnt l) xs hsz (Nat.le_refl _) (rowAt_of hrw) (unhide HK).1 (unhide HK).2 (by rw [hxl]; exact unhide HA) hforms.iface)
      rw [hxl, unhide HX] at FO
      have HQ := hide hql
      have HFF := hide hforms
      clear hxs hforms hql hxl
      go_wp2_with fail
      refine (unhide FO).mono ?_
      rintro e w2 ⟨⟨v, rfl, hnode⟩, hb2⟩
      go_wp2_with fail
      go_ret2
      refine ⟨⟨v, xs, by rw [← unhide HQ]; rfl, ((unhide HFF).agree (Agree.of_below hb2)).mono (Nat.le_succ _), hnode⟩, hbel.trans (hb2.mono hbel.size)⟩
    | node b' o' y m r =>
      have hkl : kok (app done (.node b' o' y m r)) := by rw [← unhide hle]; exact hl
      rw [kok_app] at hkl
      obtain ⟨hky, hkm, hkr⟩ := hkl.2
      have hS : StandsAt ns q y m := by
        rw [unhide hq]
        have := unhide HST
        rw [unhide hle] at this
        exact this.kid
      have HD := hide (unhide IH y m (by rw [unhide hle]; exact inF_app y m done b' o' r) wr b off cap ns q hS ((unhide HN).below hbel hb) (Nat.lt_of_lt_of_le hb hbel.size) (unhide HO))
      have hqb : q < ns.length := by have := hS.lt; omega
      have hjl : (j : Int) < (cnt l : Int) := by
        have e := unhide hle
        rw [e, cnt_app, unhide hj]; simp only [cnt]; omega
      have hle' := hide ((unhide hle).trans (app_snoc done b' o' y m r))
      have hq' := hide (show q + 1 + (fl m).length = p + 1 + (fl (app done (.node b' o' y m .nil))).length by
        rw [unhide hq, fl_app]; simp [fl]; omega)
      have hj' := hide (show j + 1 = cnt (app done (.node b' o' y m .nil)) by rw [unhide hj, cnt_app]; rfl)
      clear hkl hS hky hkm hkr
      go_wp2_with fail
      refine (unhide HD).mono ?_
      rintro e w2 ⟨⟨v, ws, rfl, hfs, hnode⟩, hb2⟩
      have hrow2 := ownsRow_below hrw hb2 hsz
      have hcell2 : ∃ u, w2.cell? ⟨w.heap.size, j, none⟩ = some u := ⟨_, rowAt_of hrow2 j (by rw [hrw.1]; omega)⟩
      obtain ⟨u0, hcell2⟩ := hcell2
      have hfz2 := hrow2.frozenAt j
      obtain ⟨tv, uv, rfl⟩ := hnode.iface
      have HNODE := hide hnode
      have HFS := hide hfs
      clear hnode hfs
      go_wp2_with fail
      have hst2 := hrow2.stored j (.iface tv uv)
      have hag : Agree (w.heap.size + 1) w2 (w2.setCell ⟨w.heap.size, j, none⟩ (.iface tv uv)) := Agree.setCell w2 (Nat.lt_succ_self _) j _
      have hbx : Below w.heap.size w (w2.setCell ⟨w.heap.size, j, none⟩ (.iface tv uv)) := (hbel.trans (hb2.mono hbel.size)).setCell (Nat.le_refl _) _
      have hs3 : w.heap.size < w2.heap.size := Nat.lt_of_lt_of_le hsz hb2.size
      have hnew : FormsAre (w.heap.size + 1) (w2.setCell ⟨w.heap.size, j, none⟩ (.iface tv uv)) (app done (.node b' o' y m .nil)) (vs ++ [.iface tv uv]) :=
        FormsAre.app (((unhide HF).agree (Agree.of_below hb2)).agree hag) ⟨_, [], ws, rfl, ((unhide HFS).mono (by omega)).agree hag, ((unhide HNODE).mono (by omega)).agree hag, rfl⟩
      have htk := hide (take_set xs vs j (.iface tv uv) (by rw [hrw.1]; omega) (unhide htake))
      clear hcell2 hfz2
      go_roundw
      case rel => exact ⟨_, r, _, _, _, _, unhide hle', unhide hq', unhide hj', by go_num, by go_num, hnew, unhide htk, hst2.1, by simpa using hs3, hbx⟩
      case measure => simp [intOf]; omega

theorem grow_all (f : BT NodeV) : kok f → ∀ y m, InF y m f → GrowSaid y m := by
  induction f with
  | nil => intro _ y m h; exact h.elim
  | node b o x l r ihl ihr =>
    intro hk y m h
    rcases h with ⟨rfl, rfl⟩ | h
    · exact grow_one y m hk.1 hk.2.1 (ihl hk.2.1)
    · exact ihr hk.2.2 y m h
theorem grow_any (x : NodeV) (l : BT NodeV) (hx : x.kids = cnt l) (hl : kok l) : GrowSaid x l := grow_one x l hx hl (grow_all l hl)

end Go.Proofs.YtckeljpmdmbdmaaDoor
