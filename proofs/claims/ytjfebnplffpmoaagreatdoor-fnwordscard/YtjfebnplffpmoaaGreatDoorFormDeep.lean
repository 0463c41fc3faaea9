/-
  How deep a form is; which list of nodes is a tree for the program.
-/
import Derived.Test.YtjfebnplffpmoaaGreatDoorMerged9
namespace Go.Proofs.YtjfebnplffpmoaaGreatDoor
open Go.RowKit Go.Maps Go.Deep

/-- a slice of these values comes back, new or as it lay there -/
def RetRow (ws : List Value) (e : Ending) (w' : World) : Prop :=
  ∃ a n cap, e = .returned (.slice a n cap) ∧ Hid (n = ws.length) ∧ (ws = [] ∨ ∃ g, a = some ⟨g, 0, none⟩ ∧ g < w'.heap.size ∧ RowAt w' g ws)

theorem rowAt_one (w : World) (n : Nat) (t : TypeId) (a : Value) (hn : n = w.heap.size) : RowAt (w.alloc (.cells #[a] t)) n [a] := by
  intro i hi
  rw [World.cell?_alloc_at _ _ _ _ hn]
  match i, hi with
  | 0, _ => rfl
theorem rowAt_two (w : World) (n : Nat) (t : TypeId) (a b : Value) (hn : n = w.heap.size) : RowAt (w.alloc (.cells #[a, b] t)) n [a, b] := by
  intro i hi
  rw [World.cell?_alloc_at _ _ _ _ hn]
  match i, hi with
  | 0, _ => rfl
  | 1, _ => rfl
theorem rowAt_three (w : World) (n : Nat) (t : TypeId) (a b c : Value) (hn : n = w.heap.size) : RowAt (w.alloc (.cells #[a, b, c] t)) n [a, b, c] := by
  intro i hi
  rw [World.cell?_alloc_at _ _ _ _ hn]
  match i, hi with
  | 0, _ => rfl
  | 1, _ => rfl
  | 2, _ => rfl

theorem parts_num (n : Value) (w : World) (t : Int) (hn : n = .int .i64 t) : Calls Tryz.prog 158 #[.agg #[n]] w fun e w' => RetRow [] e w' ∧ Below w.heap.size w w' := by
  subst hn
  go_enter Tryz.func158, Tryz.ntmps158
  go_wp2
  go_ret
  exact ⟨⟨none, 0, 0, rfl, rfl, .inl rfl⟩, (Below.refl _ _).alloc (Nat.le_refl _) _⟩
theorem parts_name (s : ByteArray) (w : World) : Calls Tryz.prog 154 #[.agg #[.string s]] w fun e w' => RetRow [] e w' ∧ Below w.heap.size w w' := by
  go_enter Tryz.func154, Tryz.ntmps154
  go_wp2
  go_ret
  exact ⟨⟨none, 0, 0, rfl, rfl, .inl rfl⟩, (Below.refl _ _).alloc (Nat.le_refl _) _⟩
theorem parts_ahead (k : Int) (t0 : TypeId) (u0 : Value) (w : World) : Calls Tryz.prog 152 #[.agg #[.int .i64 k, .iface t0 u0]] w fun e w' => RetRow [.iface t0 u0] e w' ∧ Below w.heap.size w w' := by
  go_enter Tryz.func152, Tryz.ntmps152
  go_wp2
  go_ret
  exact ⟨⟨_, _, _, rfl, rfl, .inr ⟨_, rfl, by simp, rowAt_one _ _ _ _ (by simp)⟩⟩, ((Below.refl _ _).alloc (Nat.le_refl _) _).alloc (by simp) _⟩
theorem parts_sign (k : Int) (t0 t1 : TypeId) (u0 u1 : Value) (w : World) : Calls Tryz.prog 150 #[.agg #[.int .i64 k, .iface t0 u0, .iface t1 u1]] w fun e w' => RetRow [.iface t0 u0, .iface t1 u1] e w' ∧ Below w.heap.size w w' := by
  go_enter Tryz.func150, Tryz.ntmps150
  go_wp2
  go_ret
  exact ⟨⟨_, _, _, rfl, rfl, .inr ⟨_, rfl, by simp, rowAt_two _ _ _ _ _ (by simp)⟩⟩, ((Below.refl _ _).alloc (Nat.le_refl _) _).alloc (by simp) _⟩
theorem parts_call (k : Int) (g cap : Nat) (ws : List Value) (w : World) (hg : g < w.heap.size) (hr : RowAt w g ws) : Calls Tryz.prog 156 #[.agg #[.int .i64 k, .slice (some ⟨g, 0, none⟩) ws.length cap]] w fun e w' => RetRow ws e w' ∧ Below w.heap.size w w' := by
  have HR := hide hr
  clear hr
  go_enter Tryz.func156, Tryz.ntmps156
  go_wp2
  go_ret
  exact ⟨⟨_, _, _, rfl, rfl, .inr ⟨g, rfl, by simp; omega, (unhide HR).agree (B := 0) (Agree.of_below ((Below.refl w.heap.size w).alloc (Nat.le_refl _) _)) (Nat.zero_le _) hg⟩⟩, (Below.refl _ _).alloc (Nat.le_refl _) _⟩
theorem parts_if (t0 t1 t2 : TypeId) (u0 u1 u2 : Value) (w : World) : Calls Tryz.prog 144 #[.agg #[.iface t0 u0, .iface t1 u1, .iface t2 u2]] w fun e w' => RetRow [.iface t0 u0, .iface t1 u1, .iface t2 u2] e w' ∧ Below w.heap.size w w' := by
  go_enter Tryz.func144, Tryz.ntmps144
  go_wp2
  go_ret
  exact ⟨⟨_, _, _, rfl, rfl, .inr ⟨_, rfl, by simp, rowAt_three _ _ _ _ _ _ (by simp)⟩⟩, ((Below.refl _ _).alloc (Nat.le_refl _) _).alloc (by simp) _⟩
theorem parts_let (s : ByteArray) (t0 t1 : TypeId) (u0 u1 : Value) (w : World) : Calls Tryz.prog 146 #[.agg #[.string s, .iface t0 u0, .iface t1 u1]] w fun e w' => RetRow [.iface t0 u0, .iface t1 u1] e w' ∧ Below w.heap.size w w' := by
  go_enter Tryz.func146, Tryz.ntmps146
  go_wp2
  go_ret
  exact ⟨⟨_, _, _, rfl, rfl, .inr ⟨_, rfl, by simp, rowAt_two _ _ _ _ _ (by simp)⟩⟩, ((Below.refl _ _).alloc (Nat.le_refl _) _).alloc (by simp) _⟩
theorem parts_rep (s : ByteArray) (t0 t1 t2 : TypeId) (u0 u1 u2 : Value) (w : World) : Calls Tryz.prog 148 #[.agg #[.string s, .iface t0 u0, .iface t1 u1, .iface t2 u2]] w fun e w' => RetRow [.iface t0 u0, .iface t1 u1, .iface t2 u2] e w' ∧ Below w.heap.size w w' := by
  go_enter Tryz.func148, Tryz.ntmps148
  go_wp2
  go_ret
  exact ⟨⟨_, _, _, rfl, rfl, .inr ⟨_, rfl, by simp, rowAt_three _ _ _ _ _ _ (by simp)⟩⟩, ((Below.refl _ _).alloc (Nat.le_refl _) _).alloc (by simp) _⟩

def FDeepSaid (x : NodeV) (l : BT NodeV) : Prop := ∀ (w : World) (B : Nat) (v : Value) (ws : List Value), FormsAre B w l ws → IsNode B w x ws v →
  Calls Tryz.prog 53 #[v] w fun e w' => e = .returned (.int .i64 ((dp l + 1 : Nat) : Int)) ∧ Below w.heap.size w w'

/-- the form of the next tree of a forest, and what is beneath it -/
theorem FormsAre.next {B : Nat} {w : World} {d : BT NodeV} {b o : Nat} {y : NodeV} {m r : BT NodeV} {vs : List Value} (h : FormsAre B w (Go.Proofs.YtjfebnplffpmoaaGreatDoor.app d (.node b o y m r)) vs) :
    ∃ (hj : cnt d < vs.length) (t : TypeId) (u : Value) (ws : List Value), vs[cnt d] = .iface t u ∧ FormsAre B w m ws ∧ IsNode B w y ws (.iface t u) := by
  have hl := h.length
  rw [cnt_app] at hl
  simp only [cnt] at hl
  have hs := h.split.2
  obtain ⟨v, rest, ws, e, h1, h2, h3⟩ := hs
  have hj : cnt d < vs.length := by omega
  obtain ⟨t, u, rfl⟩ := h2.iface
  refine ⟨hj, t, u, ws, ?_, h1, h2⟩
  rw [List.drop_eq_getElem_cons hj] at e
  exact (List.cons.inj e).1

set_option maxHeartbeats 6400000 in
set_option maxRecDepth 100000 in
theorem fdeep_one (x : NodeV) (l : BT NodeV) (hct : cnt l ≤ 1048576) (hsz : dp l ≤ 1048576) (ih : ∀ y m, InF y m l → FDeepSaid y m) : FDeepSaid x l := by
  intro w B v ws hf hn
  have IH := hide ih
  have hif := hf.iface
  have HF := hide hf
  have hcl := hf.length
  have HCL := hide hcl
  clear ih hf hcl
  rcases hn with ⟨hk, rfl, rfl⟩ | ⟨hk, rfl, rfl⟩ | ⟨a, hk, rfl, rfl⟩ | ⟨a, b, hk, rfl, rfl⟩ | ⟨g, cap, hk, hwl, hBg, hgw, hrow, rfl⟩ | ⟨a, b, c, hk, rfl, rfl⟩ | ⟨a, b, hk, rfl, rfl⟩ | ⟨a, b, c, hk, rfl, rfl⟩
  · clear hif hk
    go_enter Tryz.func53, Tryz.ntmps53
    go_wp2_with fail
    refine (parts_num _ _ _ rfl).mono ?_
    rintro e w1 ⟨⟨a1, n1, cap1, rfl, hn1, hrw⟩, hb1⟩
    have HR := hide hrw
    clear hrw
    obtain ⟨ws, hws⟩ : ∃ u : List Value, u = [] := ⟨_, rfl⟩
    replace HF : Hid (FormsAre B w l ws) := by rw [hws]; exact HF
    replace HCL : Hid (ws.length = cnt l) := by rw [hws]; exact HCL
    replace hn1 : Hid (n1 = ws.length) := by rw [hws]; exact hn1
    replace HR : Hid (ws = [] ∨ ∃ g, a1 = some ⟨g, 0, none⟩ ∧ g < w1.heap.size ∧ RowAt w1 g ws) := .inl hws
    clear hws
    have hnl : n1 = cnt l := (unhide hn1).trans (unhide HCL)
    subst hnl
    go_wp2_with fail
    go_loopw [3, 9] (fun mo i wr => ∃ (done todo : BT NodeV) (j mx : Nat), Hid (l = app done todo) ∧ Hid (j = cnt done) ∧ Hid (mx = dp done) ∧ mo = .int .i64 mx ∧ i = .int .i64 j ∧ Below w1.heap.size w1 wr) (fun _ i _ => cnt l - (intOf i).toNat)
    case atStart => exact ⟨.nil, l, 0, 0, rfl, rfl, rfl, rfl, rfl, Below.refl _ _⟩
    case round =>
      obtain ⟨done, todo, j, mx, hle, hj, hmx, rfl, rfl, hbel⟩ := hrel
      have hbw : Below w.heap.size w wr := hb1.trans (hbel.mono hb1.size)
      cases todo with
      | nil =>
        have he := unhide hle
        rw [app_nil] at he
        have hz : ¬ (j : Int) < (cnt l : Int) := by rw [unhide hj, he]; omega
        have hmb : (mx : Int) ≤ 1048576 := by rw [unhide hmx, ← he]; omega
        have hf := hide (show ((mx : Int) + 1) = ((dp l + 1 : Nat) : Int) by rw [unhide hmx, ← he]; omega)
        clear he
        go_wp2_with fail
        go_ret
        exact ⟨ret_i64 (unhide hf), hbw⟩
      | node b' o' y m r =>
        have hfr : FormsAre B wr (app done (.node b' o' y m r)) ws := by rw [← unhide hle]; exact (unhide HF).agree (Agree.of_below hbw)
        obtain ⟨hjl, ty, uy, wy, hv, hfm, hny⟩ := hfr.next
        have HD := hide (unhide IH y m (by rw [unhide hle]; exact inF_app y m done b' o' r) wr B _ wy hfm hny)
        have hjc : (j : Int) < (cnt l : Int) := by rw [unhide hj, ← unhide HCL]; omega
        obtain ⟨g1, ha1, hg1, hrow1⟩ : ∃ g, a1 = some ⟨g, 0, none⟩ ∧ g < w1.heap.size ∧ RowAt w1 g ws := by
          rcases unhide HR with h | h
          · subst h; simp at hjl
          · exact h
        subst ha1
        have hcell : wr.cell? ⟨g1, j, none⟩ = some (.iface ty uy) := by
          rw [hbel.cell (by exact hg1), unhide hj, hrow1 _ hjl, hv]
        have hdm : dp m + 1 ≤ dp l := by rw [unhide hle, dp_app]; simp only [dp]; omega
        have hmb : mx ≤ 1048576 := by
          have : dp done ≤ dp l := by rw [unhide hle, dp_app]; omega
          rw [unhide hmx]; omega
        have hle' := hide ((unhide hle).trans (app_snoc done b' o' y m r))
        have hj' := hide (show j + 1 = cnt (app done (.node b' o' y m .nil)) by rw [unhide hj, cnt_app]; rfl)
        have hmx' := hide (show max mx (dp m + 1) = dp (app done (.node b' o' y m .nil)) by rw [unhide hmx, dp_app]; simp only [dp]; omega)
        clear hfr hv hfm hny hrow1 hjl
        go_wp2_with (first
          | (go_at_call 53; refine (unhide HD).mono ?_; rintro e w2 ⟨rfl, hb2⟩))
        go_roundw
        case rel => exact ⟨_, r, _, _, unhide hle', unhide hj', unhide hmx', by congr 1; omega, by go_num, hbel.trans (hb2.mono hbel.size)⟩
        case measure => simp [intOf]; omega
  · clear hif hk
    go_enter Tryz.func53, Tryz.ntmps53
    go_wp2_with fail
    refine (parts_name _ _).mono ?_
    rintro e w1 ⟨⟨a1, n1, cap1, rfl, hn1, hrw⟩, hb1⟩
    have HR := hide hrw
    clear hrw
    obtain ⟨ws, hws⟩ : ∃ u : List Value, u = [] := ⟨_, rfl⟩
    replace HF : Hid (FormsAre B w l ws) := by rw [hws]; exact HF
    replace HCL : Hid (ws.length = cnt l) := by rw [hws]; exact HCL
    replace hn1 : Hid (n1 = ws.length) := by rw [hws]; exact hn1
    replace HR : Hid (ws = [] ∨ ∃ g, a1 = some ⟨g, 0, none⟩ ∧ g < w1.heap.size ∧ RowAt w1 g ws) := .inl hws
    clear hws
    have hnl : n1 = cnt l := (unhide hn1).trans (unhide HCL)
    subst hnl
    go_wp2_with fail
    go_loopw [3, 9] (fun mo i wr => ∃ (done todo : BT NodeV) (j mx : Nat), Hid (l = app done todo) ∧ Hid (j = cnt done) ∧ Hid (mx = dp done) ∧ mo = .int .i64 mx ∧ i = .int .i64 j ∧ Below w1.heap.size w1 wr) (fun _ i _ => cnt l - (intOf i).toNat)
    case atStart => exact ⟨.nil, l, 0, 0, rfl, rfl, rfl, rfl, rfl, Below.refl _ _⟩
    case round =>
      obtain ⟨done, todo, j, mx, hle, hj, hmx, rfl, rfl, hbel⟩ := hrel
      have hbw : Below w.heap.size w wr := hb1.trans (hbel.mono hb1.size)
      cases todo with
      | nil =>
        have he := unhide hle
        rw [app_nil] at he
        have hz : ¬ (j : Int) < (cnt l : Int) := by rw [unhide hj, he]; omega
        have hmb : (mx : Int) ≤ 1048576 := by rw [unhide hmx, ← he]; omega
        have hf := hide (show ((mx : Int) + 1) = ((dp l + 1 : Nat) : Int) by rw [unhide hmx, ← he]; omega)
        clear he
        go_wp2_with fail
        go_ret
        exact ⟨ret_i64 (unhide hf), hbw⟩
      | node b' o' y m r =>
        have hfr : FormsAre B wr (app done (.node b' o' y m r)) ws := by rw [← unhide hle]; exact (unhide HF).agree (Agree.of_below hbw)
        obtain ⟨hjl, ty, uy, wy, hv, hfm, hny⟩ := hfr.next
        have HD := hide (unhide IH y m (by rw [unhide hle]; exact inF_app y m done b' o' r) wr B _ wy hfm hny)
        have hjc : (j : Int) < (cnt l : Int) := by rw [unhide hj, ← unhide HCL]; omega
        obtain ⟨g1, ha1, hg1, hrow1⟩ : ∃ g, a1 = some ⟨g, 0, none⟩ ∧ g < w1.heap.size ∧ RowAt w1 g ws := by
          rcases unhide HR with h | h
          · subst h; simp at hjl
          · exact h
        subst ha1
        have hcell : wr.cell? ⟨g1, j, none⟩ = some (.iface ty uy) := by
          rw [hbel.cell (by exact hg1), unhide hj, hrow1 _ hjl, hv]
        have hdm : dp m + 1 ≤ dp l := by rw [unhide hle, dp_app]; simp only [dp]; omega
        have hmb : mx ≤ 1048576 := by
          have : dp done ≤ dp l := by rw [unhide hle, dp_app]; omega
          rw [unhide hmx]; omega
        have hle' := hide ((unhide hle).trans (app_snoc done b' o' y m r))
        have hj' := hide (show j + 1 = cnt (app done (.node b' o' y m .nil)) by rw [unhide hj, cnt_app]; rfl)
        have hmx' := hide (show max mx (dp m + 1) = dp (app done (.node b' o' y m .nil)) by rw [unhide hmx, dp_app]; simp only [dp]; omega)
        clear hfr hv hfm hny hrow1 hjl
        go_wp2_with (first
          | (go_at_call 53; refine (unhide HD).mono ?_; rintro e w2 ⟨rfl, hb2⟩))
        go_roundw
        case rel => exact ⟨_, r, _, _, unhide hle', unhide hj', unhide hmx', by congr 1; omega, by go_num, hbel.trans (hb2.mono hbel.size)⟩
        case measure => simp [intOf]; omega
  · obtain ⟨t0, u0, rfl⟩ := hif a (by simp)
    clear hif hk
    go_enter Tryz.func53, Tryz.ntmps53
    go_wp2_with fail
    refine (parts_ahead _ _ _ _).mono ?_
    rintro e w1 ⟨⟨a1, n1, cap1, rfl, hn1, hrw⟩, hb1⟩
    have HR := hide hrw
    clear hrw
    generalize hws : ([.iface t0 u0] : List Value) = ws at HF HR HCL hn1
    clear hws
    have hnl : n1 = cnt l := (unhide hn1).trans (unhide HCL)
    subst hnl
    go_wp2_with fail
    go_loopw [3, 9] (fun mo i wr => ∃ (done todo : BT NodeV) (j mx : Nat), Hid (l = app done todo) ∧ Hid (j = cnt done) ∧ Hid (mx = dp done) ∧ mo = .int .i64 mx ∧ i = .int .i64 j ∧ Below w1.heap.size w1 wr) (fun _ i _ => cnt l - (intOf i).toNat)
    case atStart => exact ⟨.nil, l, 0, 0, rfl, rfl, rfl, rfl, rfl, Below.refl _ _⟩
    case round =>
      obtain ⟨done, todo, j, mx, hle, hj, hmx, rfl, rfl, hbel⟩ := hrel
      have hbw : Below w.heap.size w wr := hb1.trans (hbel.mono hb1.size)
      cases todo with
      | nil =>
        have he := unhide hle
        rw [app_nil] at he
        have hz : ¬ (j : Int) < (cnt l : Int) := by rw [unhide hj, he]; omega
        have hmb : (mx : Int) ≤ 1048576 := by rw [unhide hmx, ← he]; omega
        have hf := hide (show ((mx : Int) + 1) = ((dp l + 1 : Nat) : Int) by rw [unhide hmx, ← he]; omega)
        clear he
        go_wp2_with fail
        go_ret
        exact ⟨ret_i64 (unhide hf), hbw⟩
      | node b' o' y m r =>
        have hfr : FormsAre B wr (app done (.node b' o' y m r)) ws := by rw [← unhide hle]; exact (unhide HF).agree (Agree.of_below hbw)
        obtain ⟨hjl, ty, uy, wy, hv, hfm, hny⟩ := hfr.next
        have HD := hide (unhide IH y m (by rw [unhide hle]; exact inF_app y m done b' o' r) wr B _ wy hfm hny)
        have hjc : (j : Int) < (cnt l : Int) := by rw [unhide hj, ← unhide HCL]; omega
        obtain ⟨g1, ha1, hg1, hrow1⟩ : ∃ g, a1 = some ⟨g, 0, none⟩ ∧ g < w1.heap.size ∧ RowAt w1 g ws := by
          rcases unhide HR with h | h
          · subst h; simp at hjl
          · exact h
        subst ha1
        have hcell : wr.cell? ⟨g1, j, none⟩ = some (.iface ty uy) := by
          rw [hbel.cell (by exact hg1), unhide hj, hrow1 _ hjl, hv]
        have hdm : dp m + 1 ≤ dp l := by rw [unhide hle, dp_app]; simp only [dp]; omega
        have hmb : mx ≤ 1048576 := by
          have : dp done ≤ dp l := by rw [unhide hle, dp_app]; omega
          rw [unhide hmx]; omega
        have hle' := hide ((unhide hle).trans (app_snoc done b' o' y m r))
        have hj' := hide (show j + 1 = cnt (app done (.node b' o' y m .nil)) by rw [unhide hj, cnt_app]; rfl)
        have hmx' := hide (show max mx (dp m + 1) = dp (app done (.node b' o' y m .nil)) by rw [unhide hmx, dp_app]; simp only [dp]; omega)
        clear hfr hv hfm hny hrow1 hjl
        go_wp2_with (first
          | (go_at_call 53; refine (unhide HD).mono ?_; rintro e w2 ⟨rfl, hb2⟩))
        go_roundw
        case rel => exact ⟨_, r, _, _, unhide hle', unhide hj', unhide hmx', by congr 1; omega, by go_num, hbel.trans (hb2.mono hbel.size)⟩
        case measure => simp [intOf]; omega
  · obtain ⟨t0, u0, rfl⟩ := hif a (by simp)
    obtain ⟨t1, u1, rfl⟩ := hif b (by simp)
    clear hif hk
    go_enter Tryz.func53, Tryz.ntmps53
    go_wp2_with fail
    refine (parts_sign _ _ _ _ _ _).mono ?_
    rintro e w1 ⟨⟨a1, n1, cap1, rfl, hn1, hrw⟩, hb1⟩
    have HR := hide hrw
    clear hrw
    generalize hws : ([.iface t0 u0, .iface t1 u1] : List Value) = ws at HF HR HCL hn1
    clear hws
    have hnl : n1 = cnt l := (unhide hn1).trans (unhide HCL)
    subst hnl
    go_wp2_with fail
    go_loopw [3, 9] (fun mo i wr => ∃ (done todo : BT NodeV) (j mx : Nat), Hid (l = app done todo) ∧ Hid (j = cnt done) ∧ Hid (mx = dp done) ∧ mo = .int .i64 mx ∧ i = .int .i64 j ∧ Below w1.heap.size w1 wr) (fun _ i _ => cnt l - (intOf i).toNat)
    case atStart => exact ⟨.nil, l, 0, 0, rfl, rfl, rfl, rfl, rfl, Below.refl _ _⟩
    case round =>
      obtain ⟨done, todo, j, mx, hle, hj, hmx, rfl, rfl, hbel⟩ := hrel
      have hbw : Below w.heap.size w wr := hb1.trans (hbel.mono hb1.size)
      cases todo with
      | nil =>
        have he := unhide hle
        rw [app_nil] at he
        have hz : ¬ (j : Int) < (cnt l : Int) := by rw [unhide hj, he]; omega
        have hmb : (mx : Int) ≤ 1048576 := by rw [unhide hmx, ← he]; omega
        have hf := hide (show ((mx : Int) + 1) = ((dp l + 1 : Nat) : Int) by rw [unhide hmx, ← he]; omega)
        clear he
        go_wp2_with fail
        go_ret
        exact ⟨ret_i64 (unhide hf), hbw⟩
      | node b' o' y m r =>
        have hfr : FormsAre B wr (app done (.node b' o' y m r)) ws := by rw [← unhide hle]; exact (unhide HF).agree (Agree.of_below hbw)
        obtain ⟨hjl, ty, uy, wy, hv, hfm, hny⟩ := hfr.next
        have HD := hide (unhide IH y m (by rw [unhide hle]; exact inF_app y m done b' o' r) wr B _ wy hfm hny)
        have hjc : (j : Int) < (cnt l : Int) := by rw [unhide hj, ← unhide HCL]; omega
        obtain ⟨g1, ha1, hg1, hrow1⟩ : ∃ g, a1 = some ⟨g, 0, none⟩ ∧ g < w1.heap.size ∧ RowAt w1 g ws := by
          rcases unhide HR with h | h
          · subst h; simp at hjl
          · exact h
        subst ha1
        have hcell : wr.cell? ⟨g1, j, none⟩ = some (.iface ty uy) := by
          rw [hbel.cell (by exact hg1), unhide hj, hrow1 _ hjl, hv]
        have hdm : dp m + 1 ≤ dp l := by rw [unhide hle, dp_app]; simp only [dp]; omega
        have hmb : mx ≤ 1048576 := by
          have : dp done ≤ dp l := by rw [unhide hle, dp_app]; omega
          rw [unhide hmx]; omega
        have hle' := hide ((unhide hle).trans (app_snoc done b' o' y m r))
        have hj' := hide (show j + 1 = cnt (app done (.node b' o' y m .nil)) by rw [unhide hj, cnt_app]; rfl)
        have hmx' := hide (show max mx (dp m + 1) = dp (app done (.node b' o' y m .nil)) by rw [unhide hmx, dp_app]; simp only [dp]; omega)
        clear hfr hv hfm hny hrow1 hjl
        go_wp2_with (first
          | (go_at_call 53; refine (unhide HD).mono ?_; rintro e w2 ⟨rfl, hb2⟩))
        go_roundw
        case rel => exact ⟨_, r, _, _, unhide hle', unhide hj', unhide hmx', by congr 1; omega, by go_num, hbel.trans (hb2.mono hbel.size)⟩
        case measure => simp [intOf]; omega
  · clear hif hk
    have HRW := hide hrow
    clear hrow hwl
    go_enter Tryz.func53, Tryz.ntmps53
    go_wp2_with fail
    refine (parts_call _ _ _ _ _ hgw (unhide HRW)).mono ?_
    rintro e w1 ⟨⟨a1, n1, cap1, rfl, hn1, hrw⟩, hb1⟩
    have HR := hide hrw
    clear hrw
    have hnl : n1 = cnt l := (unhide hn1).trans (unhide HCL)
    subst hnl
    go_wp2_with fail
    go_loopw [3, 9] (fun mo i wr => ∃ (done todo : BT NodeV) (j mx : Nat), Hid (l = app done todo) ∧ Hid (j = cnt done) ∧ Hid (mx = dp done) ∧ mo = .int .i64 mx ∧ i = .int .i64 j ∧ Below w1.heap.size w1 wr) (fun _ i _ => cnt l - (intOf i).toNat)
    case atStart => exact ⟨.nil, l, 0, 0, rfl, rfl, rfl, rfl, rfl, Below.refl _ _⟩
    case round =>
      obtain ⟨done, todo, j, mx, hle, hj, hmx, rfl, rfl, hbel⟩ := hrel
      have hbw : Below w.heap.size w wr := hb1.trans (hbel.mono hb1.size)
      cases todo with
      | nil =>
        have he := unhide hle
        rw [app_nil] at he
        have hz : ¬ (j : Int) < (cnt l : Int) := by rw [unhide hj, he]; omega
        have hmb : (mx : Int) ≤ 1048576 := by rw [unhide hmx, ← he]; omega
        have hf := hide (show ((mx : Int) + 1) = ((dp l + 1 : Nat) : Int) by rw [unhide hmx, ← he]; omega)
        clear he
        go_wp2_with fail
        go_ret
        exact ⟨ret_i64 (unhide hf), hbw⟩
      | node b' o' y m r =>
        have hfr : FormsAre B wr (app done (.node b' o' y m r)) ws := by rw [← unhide hle]; exact (unhide HF).agree (Agree.of_below hbw)
        obtain ⟨hjl, ty, uy, wy, hv, hfm, hny⟩ := hfr.next
        have HD := hide (unhide IH y m (by rw [unhide hle]; exact inF_app y m done b' o' r) wr B _ wy hfm hny)
        have hjc : (j : Int) < (cnt l : Int) := by rw [unhide hj, ← unhide HCL]; omega
        obtain ⟨g1, ha1, hg1, hrow1⟩ : ∃ g, a1 = some ⟨g, 0, none⟩ ∧ g < w1.heap.size ∧ RowAt w1 g ws := by
          rcases unhide HR with h | h
          · subst h; simp at hjl
          · exact h
        subst ha1
        have hcell : wr.cell? ⟨g1, j, none⟩ = some (.iface ty uy) := by
          rw [hbel.cell (by exact hg1), unhide hj, hrow1 _ hjl, hv]
        have hdm : dp m + 1 ≤ dp l := by rw [unhide hle, dp_app]; simp only [dp]; omega
        have hmb : mx ≤ 1048576 := by
          have : dp done ≤ dp l := by rw [unhide hle, dp_app]; omega
          rw [unhide hmx]; omega
        have hle' := hide ((unhide hle).trans (app_snoc done b' o' y m r))
        have hj' := hide (show j + 1 = cnt (app done (.node b' o' y m .nil)) by rw [unhide hj, cnt_app]; rfl)
        have hmx' := hide (show max mx (dp m + 1) = dp (app done (.node b' o' y m .nil)) by rw [unhide hmx, dp_app]; simp only [dp]; omega)
        clear hfr hv hfm hny hrow1 hjl
        go_wp2_with (first
          | (go_at_call 53; refine (unhide HD).mono ?_; rintro e w2 ⟨rfl, hb2⟩))
        go_roundw
        case rel => exact ⟨_, r, _, _, unhide hle', unhide hj', unhide hmx', by congr 1; omega, by go_num, hbel.trans (hb2.mono hbel.size)⟩
        case measure => simp [intOf]; omega
  · obtain ⟨t0, u0, rfl⟩ := hif a (by simp)
    obtain ⟨t1, u1, rfl⟩ := hif b (by simp)
    obtain ⟨t2, u2, rfl⟩ := hif c (by simp)
    clear hif hk
    go_enter Tryz.func53, Tryz.ntmps53
    go_wp2_with fail
    refine (parts_if _ _ _ _ _ _ _).mono ?_
    rintro e w1 ⟨⟨a1, n1, cap1, rfl, hn1, hrw⟩, hb1⟩
    have HR := hide hrw
    clear hrw
    generalize hws : ([.iface t0 u0, .iface t1 u1, .iface t2 u2] : List Value) = ws at HF HR HCL hn1
    clear hws
    have hnl : n1 = cnt l := (unhide hn1).trans (unhide HCL)
    subst hnl
    go_wp2_with fail
    go_loopw [3, 9] (fun mo i wr => ∃ (done todo : BT NodeV) (j mx : Nat), Hid (l = app done todo) ∧ Hid (j = cnt done) ∧ Hid (mx = dp done) ∧ mo = .int .i64 mx ∧ i = .int .i64 j ∧ Below w1.heap.size w1 wr) (fun _ i _ => cnt l - (intOf i).toNat)
    case atStart => exact ⟨.nil, l, 0, 0, rfl, rfl, rfl, rfl, rfl, Below.refl _ _⟩
    case round =>
      obtain ⟨done, todo, j, mx, hle, hj, hmx, rfl, rfl, hbel⟩ := hrel
      have hbw : Below w.heap.size w wr := hb1.trans (hbel.mono hb1.size)
      cases todo with
      | nil =>
        have he := unhide hle
        rw [app_nil] at he
        have hz : ¬ (j : Int) < (cnt l : Int) := by rw [unhide hj, he]; omega
        have hmb : (mx : Int) ≤ 1048576 := by rw [unhide hmx, ← he]; omega
        have hf := hide (show ((mx : Int) + 1) = ((dp l + 1 : Nat) : Int) by rw [unhide hmx, ← he]; omega)
        clear he
        go_wp2_with fail
        go_ret
        exact ⟨ret_i64 (unhide hf), hbw⟩
      | node b' o' y m r =>
        have hfr : FormsAre B wr (app done (.node b' o' y m r)) ws := by rw [← unhide hle]; exact (unhide HF).agree (Agree.of_below hbw)
        obtain ⟨hjl, ty, uy, wy, hv, hfm, hny⟩ := hfr.next
        have HD := hide (unhide IH y m (by rw [unhide hle]; exact inF_app y m done b' o' r) wr B _ wy hfm hny)
        have hjc : (j : Int) < (cnt l : Int) := by rw [unhide hj, ← unhide HCL]; omega
        obtain ⟨g1, ha1, hg1, hrow1⟩ : ∃ g, a1 = some ⟨g, 0, none⟩ ∧ g < w1.heap.size ∧ RowAt w1 g ws := by
          rcases unhide HR with h | h
          · subst h; simp at hjl
          · exact h
        subst ha1
        have hcell : wr.cell? ⟨g1, j, none⟩ = some (.iface ty uy) := by
          rw [hbel.cell (by exact hg1), unhide hj, hrow1 _ hjl, hv]
        have hdm : dp m + 1 ≤ dp l := by rw [unhide hle, dp_app]; simp only [dp]; omega
        have hmb : mx ≤ 1048576 := by
          have : dp done ≤ dp l := by rw [unhide hle, dp_app]; omega
          rw [unhide hmx]; omega
        have hle' := hide ((unhide hle).trans (app_snoc done b' o' y m r))
        have hj' := hide (show j + 1 = cnt (app done (.node b' o' y m .nil)) by rw [unhide hj, cnt_app]; rfl)
        have hmx' := hide (show max mx (dp m + 1) = dp (app done (.node b' o' y m .nil)) by rw [unhide hmx, dp_app]; simp only [dp]; omega)
        clear hfr hv hfm hny hrow1 hjl
        go_wp2_with (first
          | (go_at_call 53; refine (unhide HD).mono ?_; rintro e w2 ⟨rfl, hb2⟩))
        go_roundw
        case rel => exact ⟨_, r, _, _, unhide hle', unhide hj', unhide hmx', by congr 1; omega, by go_num, hbel.trans (hb2.mono hbel.size)⟩
        case measure => simp [intOf]; omega
  · obtain ⟨t0, u0, rfl⟩ := hif a (by simp)
    obtain ⟨t1, u1, rfl⟩ := hif b (by simp)
    clear hif hk
    go_enter Tryz.func53, Tryz.ntmps53
    go_wp2_with fail
    refine (parts_let _ _ _ _ _ _).mono ?_
    rintro e w1 ⟨⟨a1, n1, cap1, rfl, hn1, hrw⟩, hb1⟩
    have HR := hide hrw
    clear hrw
    generalize hws : ([.iface t0 u0, .iface t1 u1] : List Value) = ws at HF HR HCL hn1
    clear hws
    have hnl : n1 = cnt l := (unhide hn1).trans (unhide HCL)
    subst hnl
    go_wp2_with fail
    go_loopw [3, 9] (fun mo i wr => ∃ (done todo : BT NodeV) (j mx : Nat), Hid (l = app done todo) ∧ Hid (j = cnt done) ∧ Hid (mx = dp done) ∧ mo = .int .i64 mx ∧ i = .int .i64 j ∧ Below w1.heap.size w1 wr) (fun _ i _ => cnt l - (intOf i).toNat)
    case atStart => exact ⟨.nil, l, 0, 0, rfl, rfl, rfl, rfl, rfl, Below.refl _ _⟩
    case round =>
      obtain ⟨done, todo, j, mx, hle, hj, hmx, rfl, rfl, hbel⟩ := hrel
      have hbw : Below w.heap.size w wr := hb1.trans (hbel.mono hb1.size)
      cases todo with
      | nil =>
        have he := unhide hle
        rw [app_nil] at he
        have hz : ¬ (j : Int) < (cnt l : Int) := by rw [unhide hj, he]; omega
        have hmb : (mx : Int) ≤ 1048576 := by rw [unhide hmx, ← he]; omega
        have hf := hide (show ((mx : Int) + 1) = ((dp l + 1 : Nat) : Int) by rw [unhide hmx, ← he]; omega)
        clear he
        go_wp2_with fail
        go_ret
        exact ⟨ret_i64 (unhide hf), hbw⟩
      | node b' o' y m r =>
        have hfr : FormsAre B wr (app done (.node b' o' y m r)) ws := by rw [← unhide hle]; exact (unhide HF).agree (Agree.of_below hbw)
        obtain ⟨hjl, ty, uy, wy, hv, hfm, hny⟩ := hfr.next
        have HD := hide (unhide IH y m (by rw [unhide hle]; exact inF_app y m done b' o' r) wr B _ wy hfm hny)
        have hjc : (j : Int) < (cnt l : Int) := by rw [unhide hj, ← unhide HCL]; omega
        obtain ⟨g1, ha1, hg1, hrow1⟩ : ∃ g, a1 = some ⟨g, 0, none⟩ ∧ g < w1.heap.size ∧ RowAt w1 g ws := by
          rcases unhide HR with h | h
          · subst h; simp at hjl
          · exact h
        subst ha1
        have hcell : wr.cell? ⟨g1, j, none⟩ = some (.iface ty uy) := by
          rw [hbel.cell (by exact hg1), unhide hj, hrow1 _ hjl, hv]
        have hdm : dp m + 1 ≤ dp l := by rw [unhide hle, dp_app]; simp only [dp]; omega
        have hmb : mx ≤ 1048576 := by
          have : dp done ≤ dp l := by rw [unhide hle, dp_app]; omega
          rw [unhide hmx]; omega
        have hle' := hide ((unhide hle).trans (app_snoc done b' o' y m r))
        have hj' := hide (show j + 1 = cnt (app done (.node b' o' y m .nil)) by rw [unhide hj, cnt_app]; rfl)
        have hmx' := hide (show max mx (dp m + 1) = dp (app done (.node b' o' y m .nil)) by rw [unhide hmx, dp_app]; simp only [dp]; omega)
        clear hfr hv hfm hny hrow1 hjl
        go_wp2_with (first
          | (go_at_call 53; refine (unhide HD).mono ?_; rintro e w2 ⟨rfl, hb2⟩))
        go_roundw
        case rel => exact ⟨_, r, _, _, unhide hle', unhide hj', unhide hmx', by congr 1; omega, by go_num, hbel.trans (hb2.mono hbel.size)⟩
        case measure => simp [intOf]; omega
  · obtain ⟨t0, u0, rfl⟩ := hif a (by simp)
    obtain ⟨t1, u1, rfl⟩ := hif b (by simp)
    obtain ⟨t2, u2, rfl⟩ := hif c (by simp)
    clear hif hk
    go_enter Tryz.func53, Tryz.ntmps53
    go_wp2_with fail
    refine (parts_rep _ _ _ _ _ _ _ _).mono ?_
    rintro e w1 ⟨⟨a1, n1, cap1, rfl, hn1, hrw⟩, hb1⟩
    have HR := hide hrw
    clear hrw
    generalize hws : ([.iface t0 u0, .iface t1 u1, .iface t2 u2] : List Value) = ws at HF HR HCL hn1
    clear hws
    have hnl : n1 = cnt l := (unhide hn1).trans (unhide HCL)
    subst hnl
    go_wp2_with fail
    go_loopw [3, 9] (fun mo i wr => ∃ (done todo : BT NodeV) (j mx : Nat), Hid (l = app done todo) ∧ Hid (j = cnt done) ∧ Hid (mx = dp done) ∧ mo = .int .i64 mx ∧ i = .int .i64 j ∧ Below w1.heap.size w1 wr) (fun _ i _ => cnt l - (intOf i).toNat)
    case atStart => exact ⟨.nil, l, 0, 0, rfl, rfl, rfl, rfl, rfl, Below.refl _ _⟩
    case round =>
      obtain ⟨done, todo, j, mx, hle, hj, hmx, rfl, rfl, hbel⟩ := hrel
      have hbw : Below w.heap.size w wr := hb1.trans (hbel.mono hb1.size)
      cases todo with
      | nil =>
        have he := unhide hle
        rw [app_nil] at he
        have hz : ¬ (j : Int) < (cnt l : Int) := by rw [unhide hj, he]; omega
        have hmb : (mx : Int) ≤ 1048576 := by rw [unhide hmx, ← he]; omega
        have hf := hide (show ((mx : Int) + 1) = ((dp l + 1 : Nat) : Int) by rw [unhide hmx, ← he]; omega)
        clear he
        go_wp2_with fail
        go_ret
        exact ⟨ret_i64 (unhide hf), hbw⟩
      | node b' o' y m r =>
        have hfr : FormsAre B wr (app done (.node b' o' y m r)) ws := by rw [← unhide hle]; exact (unhide HF).agree (Agree.of_below hbw)
        obtain ⟨hjl, ty, uy, wy, hv, hfm, hny⟩ := hfr.next
        have HD := hide (unhide IH y m (by rw [unhide hle]; exact inF_app y m done b' o' r) wr B _ wy hfm hny)
        have hjc : (j : Int) < (cnt l : Int) := by rw [unhide hj, ← unhide HCL]; omega
        obtain ⟨g1, ha1, hg1, hrow1⟩ : ∃ g, a1 = some ⟨g, 0, none⟩ ∧ g < w1.heap.size ∧ RowAt w1 g ws := by
          rcases unhide HR with h | h
          · subst h; simp at hjl
          · exact h
        subst ha1
        have hcell : wr.cell? ⟨g1, j, none⟩ = some (.iface ty uy) := by
          rw [hbel.cell (by exact hg1), unhide hj, hrow1 _ hjl, hv]
        have hdm : dp m + 1 ≤ dp l := by rw [unhide hle, dp_app]; simp only [dp]; omega
        have hmb : mx ≤ 1048576 := by
          have : dp done ≤ dp l := by rw [unhide hle, dp_app]; omega
          rw [unhide hmx]; omega
        have hle' := hide ((unhide hle).trans (app_snoc done b' o' y m r))
        have hj' := hide (show j + 1 = cnt (app done (.node b' o' y m .nil)) by rw [unhide hj, cnt_app]; rfl)
        have hmx' := hide (show max mx (dp m + 1) = dp (app done (.node b' o' y m .nil)) by rw [unhide hmx, dp_app]; simp only [dp]; omega)
        clear hfr hv hfm hny hrow1 hjl
        go_wp2_with (first
          | (go_at_call 53; refine (unhide HD).mono ?_; rintro e w2 ⟨rfl, hb2⟩))
        go_roundw
        case rel => exact ⟨_, r, _, _, unhide hle', unhide hj', unhide hmx', by congr 1; omega, by go_num, hbel.trans (hb2.mono hbel.size)⟩
        case measure => simp [intOf]; omega

theorem fdeep_all (f : BT NodeV) : (fl f).length ≤ 1048576 → ∀ y m, InF y m f → FDeepSaid y m := by
  induction f with
  | nil => intro _ y m h; exact h.elim
  | node b o x l r ihl ihr =>
    intro hd y m h
    simp only [fl, List.length_cons, List.length_append] at hd
    have h1 := dp_le l
    have h2 := cnt_le l
    rcases h with ⟨rfl, rfl⟩ | h
    · exact fdeep_one y m (by omega) (by omega) (ihl (by omega))
    · exact ihr (by omega) y m h
theorem fdeep_any (x : NodeV) (l : BT NodeV) (hd : (fl l).length ≤ 1048576) : FDeepSaid x l :=
  fdeep_one x l (Nat.le_trans (cnt_le l) hd) (Nat.le_trans (dp_le l) hd) (fdeep_all l hd)

/-- what treeOf hands back: the tree's form, or nothing -/
def RetTree (B : Nat) (ns : List NodeV) (e : Ending) (w' : World) : Prop :=
  (∃ x l v ws, OkAt ns x l ∧ e = .returned (.tuple #[v, .bool true]) ∧ FormsAre B w' l ws ∧ IsNode B w' x ws v) ∨ (¬ OkTree ns ∧ e = .returned (.tuple #[.nilIface, .bool false]))

theorem not_ok_all {ns : List NodeV} (h : ¬ OwnAll ns) : ¬ OkTree ns := fun ⟨_, _, k⟩ => h ⟨k.size, k.own⟩

end Go.Proofs.YtjfebnplffpmoaaGreatDoor
