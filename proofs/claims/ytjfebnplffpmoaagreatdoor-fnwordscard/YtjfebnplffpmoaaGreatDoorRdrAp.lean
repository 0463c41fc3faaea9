/-
  The program: the nodes of a form are put behind a list. (Made by wip/mkrdrap.py.)
-/
import Derived.Test.YtjfebnplffpmoaaGreatDoorMerged15
import Derived.Test.YtjfebnplffpmoaaGreatDoorFormDeep
import Derived.Test.YtjfebnplffpmoaaGreatDoorGrowsV
import Derived.Test.YtjfebnplffpmoaaGreatDoorMerged37
import Derived.Deep.RegionHeld3
set_option linter.unusedVariables false
namespace Go.Proofs.YtjfebnplffpmoaaGreatDoor
open Go.RowKit Go.Maps Go.Deep

def NodeIsR (x : NodeV) (w : World) (e : Ending) (w' : World) : Prop := e = .returned (nodeAgg x) ∧ Below w.heap.size w w'
theorem nodeR_num (m : Int) (w : World) : Calls Tryz.prog 157 #[.agg #[.int .i64 m]] w fun e w' => NodeIsR ⟨1, m, ⟨#[]⟩, 0⟩ w e w' := by
  go_enter Tryz.func157, Tryz.ntmps157
  go_wp2
  exact bodyPost_ret (v := nodeAgg ⟨1, m, ⟨#[]⟩, 0⟩) (by simp [results, Tryz.results157, go_sem, nodeAgg]) rfl ⟨rfl, ((Below.refl _ _).alloc (Nat.le_refl _) _).alloc (by simp) _⟩
theorem nodeR_name (s : ByteArray) (w : World) : Calls Tryz.prog 153 #[.agg #[.string s]] w fun e w' => NodeIsR ⟨2, 0, s, 0⟩ w e w' := by
  go_enter Tryz.func153, Tryz.ntmps153
  go_wp2
  exact bodyPost_ret (v := nodeAgg ⟨2, 0, s, 0⟩) (by simp [results, Tryz.results153, go_sem, nodeAgg]) rfl ⟨rfl, ((Below.refl _ _).alloc (Nat.le_refl _) _).alloc (by simp) _⟩
theorem nodeR_ahead (k : Int) (ta : TypeId) (ua : Value) (w : World) : Calls Tryz.prog 151 #[.agg #[.int .i64 k, .iface ta ua]] w fun e w' => NodeIsR ⟨k, 0, ⟨#[]⟩, 1⟩ w e w' := by
  go_enter Tryz.func151, Tryz.ntmps151
  go_wp2
  exact bodyPost_ret (v := nodeAgg ⟨k, 0, ⟨#[]⟩, 1⟩) (by simp [results, Tryz.results151, go_sem, nodeAgg]) rfl ⟨rfl, ((Below.refl _ _).alloc (Nat.le_refl _) _).alloc (by simp) _⟩
theorem nodeR_sign (k : Int) (ta : TypeId) (ua : Value) (tb : TypeId) (ub : Value) (w : World) : Calls Tryz.prog 149 #[.agg #[.int .i64 k, .iface ta ua, .iface tb ub]] w fun e w' => NodeIsR ⟨k, 0, ⟨#[]⟩, 2⟩ w e w' := by
  go_enter Tryz.func149, Tryz.ntmps149
  go_wp2
  exact bodyPost_ret (v := nodeAgg ⟨k, 0, ⟨#[]⟩, 2⟩) (by simp [results, Tryz.results149, go_sem, nodeAgg]) rfl ⟨rfl, ((Below.refl _ _).alloc (Nat.le_refl _) _).alloc (by simp) _⟩
theorem nodeR_call (k : Int) (ad : Option Addr) (n cp : Nat) (w : World) : Calls Tryz.prog 155 #[.agg #[.int .i64 k, .slice ad n cp]] w fun e w' => NodeIsR ⟨k, 0, ⟨#[]⟩, (n : Int)⟩ w e w' := by
  go_enter Tryz.func155, Tryz.ntmps155
  go_wp2
  exact bodyPost_ret (v := nodeAgg ⟨k, 0, ⟨#[]⟩, (n : Int)⟩) (by simp [results, Tryz.results155, go_sem, nodeAgg]) rfl ⟨rfl, ((Below.refl _ _).alloc (Nat.le_refl _) _).alloc (by simp) _⟩
theorem nodeR_if (ta : TypeId) (ua : Value) (tb : TypeId) (ub : Value) (tc : TypeId) (uc : Value) (w : World) : Calls Tryz.prog 143 #[.agg #[.iface ta ua, .iface tb ub, .iface tc uc]] w fun e w' => NodeIsR ⟨21, 0, ⟨#[]⟩, 3⟩ w e w' := by
  go_enter Tryz.func143, Tryz.ntmps143
  go_wp2
  exact bodyPost_ret (v := nodeAgg ⟨21, 0, ⟨#[]⟩, 3⟩) (by simp [results, Tryz.results143, go_sem, nodeAgg]) rfl ⟨rfl, ((Below.refl _ _).alloc (Nat.le_refl _) _).alloc (by simp) _⟩
theorem nodeR_let (s : ByteArray) (ta : TypeId) (ua : Value) (tb : TypeId) (ub : Value) (w : World) : Calls Tryz.prog 145 #[.agg #[.string s, .iface ta ua, .iface tb ub]] w fun e w' => NodeIsR ⟨22, 0, s, 2⟩ w e w' := by
  go_enter Tryz.func145, Tryz.ntmps145
  go_wp2
  exact bodyPost_ret (v := nodeAgg ⟨22, 0, s, 2⟩) (by simp [results, Tryz.results145, go_sem, nodeAgg]) rfl ⟨rfl, ((Below.refl _ _).alloc (Nat.le_refl _) _).alloc (by simp) _⟩
theorem nodeR_rep (s : ByteArray) (ta : TypeId) (ua : Value) (tb : TypeId) (ub : Value) (tc : TypeId) (uc : Value) (w : World) : Calls Tryz.prog 147 #[.agg #[.string s, .iface ta ua, .iface tb ub, .iface tc uc]] w fun e w' => NodeIsR ⟨23, 0, s, 3⟩ w e w' := by
  go_enter Tryz.func147, Tryz.ntmps147
  go_wp2
  exact bodyPost_ret (v := nodeAgg ⟨23, 0, s, 3⟩) (by simp [results, Tryz.results147, go_sem, nodeAgg]) rfl ⟨rfl, ((Below.refl _ _).alloc (Nat.le_refl _) _).alloc (by simp) _⟩
/-- a slice of these values comes back, in a block that is known -/
def RetRowB (N : Nat → Prop) (ws : List Value) (e : Ending) (w' : World) : Prop :=
  ∃ a n cap, e = .returned (.slice a n cap) ∧ Hid (n = ws.length) ∧ (ws = [] ∨ ∃ g, a = some ⟨g, 0, none⟩ ∧ N g ∧ g < w'.heap.size ∧ RowAt w' g ws)
theorem partsB_num (m : Int) (w : World) : Calls Tryz.prog 158 #[.agg #[.int .i64 m]] w fun e w' => RetRowB (fun y => w.heap.size ≤ y) [] e w' ∧ Below w.heap.size w w' := by
  go_enter Tryz.func158, Tryz.ntmps158
  go_wp2
  go_ret
  exact ⟨⟨none, 0, 0, rfl, rfl, .inl rfl⟩, (Below.refl _ _).alloc (Nat.le_refl _) _⟩
theorem partsB_name (s : ByteArray) (w : World) : Calls Tryz.prog 154 #[.agg #[.string s]] w fun e w' => RetRowB (fun y => w.heap.size ≤ y) [] e w' ∧ Below w.heap.size w w' := by
  go_enter Tryz.func154, Tryz.ntmps154
  go_wp2
  go_ret
  exact ⟨⟨none, 0, 0, rfl, rfl, .inl rfl⟩, (Below.refl _ _).alloc (Nat.le_refl _) _⟩
theorem partsB_ahead (k : Int) (ta : TypeId) (ua : Value) (w : World) : Calls Tryz.prog 152 #[.agg #[.int .i64 k, .iface ta ua]] w fun e w' => RetRowB (fun y => w.heap.size ≤ y) [.iface ta ua] e w' ∧ Below w.heap.size w w' := by
  go_enter Tryz.func152, Tryz.ntmps152
  go_wp2
  go_ret
  exact ⟨⟨_, _, _, rfl, rfl, .inr ⟨_, rfl, by simp, by simp, rowAt_one _ _ _ _ (by simp)⟩⟩, ((Below.refl _ _).alloc (Nat.le_refl _) _).alloc (by simp) _⟩
theorem partsB_sign (k : Int) (ta : TypeId) (ua : Value) (tb : TypeId) (ub : Value) (w : World) : Calls Tryz.prog 150 #[.agg #[.int .i64 k, .iface ta ua, .iface tb ub]] w fun e w' => RetRowB (fun y => w.heap.size ≤ y) [.iface ta ua, .iface tb ub] e w' ∧ Below w.heap.size w w' := by
  go_enter Tryz.func150, Tryz.ntmps150
  go_wp2
  go_ret
  exact ⟨⟨_, _, _, rfl, rfl, .inr ⟨_, rfl, by simp, by simp, rowAt_two _ _ _ _ _ (by simp)⟩⟩, ((Below.refl _ _).alloc (Nat.le_refl _) _).alloc (by simp) _⟩
theorem partsB_call (k : Int) (g cap : Nat) (ws : List Value) (w : World) (hg : g < w.heap.size) (hr : RowAt w g ws) : Calls Tryz.prog 156 #[.agg #[.int .i64 k, .slice (some ⟨g, 0, none⟩) ws.length cap]] w fun e w' => RetRowB (fun y => y = g) ws e w' ∧ Below w.heap.size w w' := by
  have HR := hide hr
  clear hr
  go_enter Tryz.func156, Tryz.ntmps156
  go_wp2
  go_ret
  exact ⟨⟨_, _, _, rfl, rfl, .inr ⟨g, rfl, rfl, by simp; omega, (unhide HR).agree (B := 0) (Agree.of_below ((Below.refl w.heap.size w).alloc (Nat.le_refl _) _)) (Nat.zero_le _) hg⟩⟩, (Below.refl _ _).alloc (Nat.le_refl _) _⟩
theorem partsB_if (ta : TypeId) (ua : Value) (tb : TypeId) (ub : Value) (tc : TypeId) (uc : Value) (w : World) : Calls Tryz.prog 144 #[.agg #[.iface ta ua, .iface tb ub, .iface tc uc]] w fun e w' => RetRowB (fun y => w.heap.size ≤ y) [.iface ta ua, .iface tb ub, .iface tc uc] e w' ∧ Below w.heap.size w w' := by
  go_enter Tryz.func144, Tryz.ntmps144
  go_wp2
  go_ret
  exact ⟨⟨_, _, _, rfl, rfl, .inr ⟨_, rfl, by simp, by simp, rowAt_three _ _ _ _ _ _ (by simp)⟩⟩, ((Below.refl _ _).alloc (Nat.le_refl _) _).alloc (by simp) _⟩
theorem partsB_let (s : ByteArray) (ta : TypeId) (ua : Value) (tb : TypeId) (ub : Value) (w : World) : Calls Tryz.prog 146 #[.agg #[.string s, .iface ta ua, .iface tb ub]] w fun e w' => RetRowB (fun y => w.heap.size ≤ y) [.iface ta ua, .iface tb ub] e w' ∧ Below w.heap.size w w' := by
  go_enter Tryz.func146, Tryz.ntmps146
  go_wp2
  go_ret
  exact ⟨⟨_, _, _, rfl, rfl, .inr ⟨_, rfl, by simp, by simp, rowAt_two _ _ _ _ _ (by simp)⟩⟩, ((Below.refl _ _).alloc (Nat.le_refl _) _).alloc (by simp) _⟩
theorem partsB_rep (s : ByteArray) (ta : TypeId) (ua : Value) (tb : TypeId) (ub : Value) (tc : TypeId) (uc : Value) (w : World) : Calls Tryz.prog 148 #[.agg #[.string s, .iface ta ua, .iface tb ub, .iface tc uc]] w fun e w' => RetRowB (fun y => w.heap.size ≤ y) [.iface ta ua, .iface tb ub, .iface tc uc] e w' ∧ Below w.heap.size w w' := by
  go_enter Tryz.func148, Tryz.ntmps148
  go_wp2
  go_ret
  exact ⟨⟨_, _, _, rfl, rfl, .inr ⟨_, rfl, by simp, by simp, rowAt_three _ _ _ _ _ _ (by simp)⟩⟩, ((Below.refl _ _).alloc (Nat.le_refl _) _).alloc (by simp) _⟩
def AppSaid (x : NodeV) (l : BT NodeV) : Prop := ∀ (W0 w : World) (B : Nat) (v nv : Value) (ws : List Value) (us : List NodeV), FormsAre B W0 l ws → IsNode B W0 x ws v → Norm x → (∀ y ∈ fl l, Norm y) → Below W0.heap.size W0 w → NdRow W0.heap.size w nv us → us.length + (fl l).length + 1 ≤ 1000000 →
  Calls Tryz.prog 52 #[nv, v] w fun e w' => ∃ nv', e = .returned nv' ∧ Hid (NdRow W0.heap.size w' nv' (us ++ x :: fl l)) ∧ Hid (Grows w w' nv nv')
theorem nd_own {a : Option Addr} {n c : Nat} : (Value.slice a n c).ownBlock = a.map (·.block) := by cases a <;> rfl
theorem arity_one {k : Int} (h : k = 3 ∨ k = 4) : arity k = 1 := by unfold arity; rw [if_neg (by omega), if_pos (by omega)]
theorem arity_two {k : Int} (h : 5 ≤ k ∧ k ≤ 17) : arity k = 2 := by unfold arity; rw [if_neg (by omega), if_neg (by omega), if_pos (by omega)]
set_option maxHeartbeats 25600000 in
set_option maxRecDepth 100000 in
theorem app_one (x : NodeV) (l : BT NodeV) (ih : ∀ y m, InF y m l → AppSaid y m) : AppSaid x l := by
  intro W0 w B v nv ws us hf hn hx hl hb hrow hsz
  have IH := hide ih
  have hif := hf.iface
  have HF := hide hf
  have HCL := hide hf.length
  have HL := hide hl
  have HB := hide hb
  have HROW := hide hrow
  have OWN := hide (show ∀ y, nv.ownBlock = some y → W0.heap.size ≤ y from fun y hy => hrow.ge y hy)
  have HSZ := hide hsz
  have hcl : cnt l ≤ 1000000 := by have := cnt_le l; omega
  have hg0 := hb.size
  obtain ⟨k, m, s, c⟩ := x
  have h1 := hx.num
  have h2 := hx.name
  have h3 := hx.kids
  simp only at h1 h2 h3
  clear ih hf hx hl hb hrow hsz
  rcases hn with ⟨hk, rfl, rfl⟩ | ⟨hk, rfl, rfl⟩ | ⟨a, hk, rfl, rfl⟩ | ⟨a, b, hk, rfl, rfl⟩ | ⟨g, cap, hk, hwl, hBg, hgw, hrw0, rfl⟩ | ⟨a, b, d, hk, rfl, rfl⟩ | ⟨a, b, hk, rfl, rfl⟩ | ⟨a, b, d, hk, rfl, rfl⟩
  · simp only at hk
    subst hk
    obtain rfl := h2 (by decide) (by decide) (by decide)
    obtain rfl : c = 0 := h3.trans (by decide)
    try clear hif
    try clear hk
    try clear h1
    try clear h2
    try clear h3
    try dsimp only
    have HNO := hide (fun W => nodeR_num m W)
    generalize hX : (⟨1, m, ⟨#[]⟩, 0⟩ : NodeV) = X at *
    clear hX
    go_enter Tryz.func52, Tryz.ntmps52
    go_wp2_with fail
    refine (unhide HNO _).mono ?_
    rintro e w1 ⟨rfl, b1⟩
    simp only [nodeAgg]
    clear HNO
    have hbA := (Below.refl w1.heap.size w1).alloc (Nat.le_refl _) (.cells #[.int .i64 X.kind, .int .i64 X.num, .string X.name, .int .i64 X.kids] 49)
    have RA := hide (((unhide HROW).up b1).up hbA)
    have GA := hide ((Grows.of_below (nv := nv) b1).trans (Grows.of_below (nv := nv) hbA))
    have C0 := hide (show (w1.alloc (.cells #[.int .i64 X.kind, .int .i64 X.num, .string X.name, .int .i64 X.kids] 49)).cell? ⟨w1.heap.size, 0, none⟩ = some (.int .i64 X.kind) from World.cell?_alloc_at _ _ _ _ rfl)
    have C1 := hide (show (w1.alloc (.cells #[.int .i64 X.kind, .int .i64 X.num, .string X.name, .int .i64 X.kids] 49)).cell? ⟨w1.heap.size, 1, none⟩ = some (.int .i64 X.num) from World.cell?_alloc_at _ _ _ _ rfl)
    have C2 := hide (show (w1.alloc (.cells #[.int .i64 X.kind, .int .i64 X.num, .string X.name, .int .i64 X.kids] 49)).cell? ⟨w1.heap.size, 2, none⟩ = some (.string X.name) from World.cell?_alloc_at _ _ _ _ rfl)
    have C3 := hide (show (w1.alloc (.cells #[.int .i64 X.kind, .int .i64 X.num, .string X.name, .int .i64 X.kids] 49)).cell? ⟨w1.heap.size, 3, none⟩ = some (.int .i64 X.kids) from World.cell?_alloc_at _ _ _ _ rfl)
    have HW := hide (show W0.heap.size ≤ (w1.alloc (.cells #[.int .i64 X.kind, .int .i64 X.num, .string X.name, .int .i64 X.kids] 49)).heap.size from Nat.le_trans hg0 (Nat.le_trans b1.size hbA.size))
    clear b1 hbA HROW
    go_wp2_with (first
      | (at_builtin; refine wpList_ndAppend rfl _ _ rfl W0.heap.size nv us X w1.heap.size rfl rfl (unhide RA) (unhide C0) (unhide C1) (unhide C2) (unhide C3) (by have := unhide HSZ; omega) (unhide HW) ?_; intro g2 n2 c2 w2 r2 gr2 o2; have en2 := nd_len r2; subst en2; have R2 := hide r2; have G2 := hide (Grows.trans (unhide GA) (show Grows _ w2 nv (.slice (some ⟨g2, 0, none⟩) (us ++ [X]).length c2) from ⟨gr2, (by rcases o2 with o2 | o2; exact .inl o2.symm; exact .inr (fun y hy => by cases hy; exact Nat.le_of_eq o2.symm))⟩)); clear r2 gr2 o2 RA GA C0 C1 C2 C3 HW)
      | fail)
    refine (partsB_num _ _).mono ?_
    rintro e w3 ⟨⟨a1, n1, cap1, rfl, hn1, hrw⟩, b3⟩
    have HR := hide (show ([] : List Value) = [] ∨ ∃ g, a1 = some ⟨g, 0, none⟩ ∧ g < w3.heap.size ∧ (Value.slice (some ⟨g2, 0, none⟩) (us ++ [X]).length c2).ownBlock ≠ some g ∧ RowAt w3 g [] from by
      rcases hrw with h | ⟨g', h1, h2, h3, h4⟩
      · exact .inl h
      · have q1 := (unhide R2).ge g2 rfl
        have q2 := (unhide R2).lt g2 rfl
        exact .inr ⟨g', h1, h3, by simp only [Value.ownBlock]; intro e; injection e with e; subst e; omega, h4⟩)
    clear hrw
    obtain ⟨wl, hws⟩ : ∃ u : List Value, u = [] := ⟨_, rfl⟩
    replace HF : Hid (FormsAre B W0 l wl) := by rw [hws]; exact HF
    replace HCL : Hid (wl.length = cnt l) := by rw [hws]; exact HCL
    replace hn1 : Hid (n1 = wl.length) := by rw [hws]; exact hn1
    replace HR : Hid (wl = [] ∨ ∃ g, a1 = some ⟨g, 0, none⟩ ∧ g < w3.heap.size ∧ (Value.slice (some ⟨g2, 0, none⟩) (us ++ [X]).length c2).ownBlock ≠ some g ∧ RowAt w3 g wl) := by rw [hws]; exact HR
    clear hws
    have hnl : n1 = cnt l := (unhide hn1).trans (unhide HCL)
    subst hnl
    have R3 := hide ((unhide R2).up b3)
    have G3 := hide ((unhide G2).trans (Grows.of_below b3))
    have B3 := hide ((unhide G3).below (unhide HB) (fun y hy => (unhide OWN) y hy))
    have OWN3 := hide (fun y (hy : (Value.slice (some ⟨g2, 0, none⟩) (us ++ [X]).length c2).ownBlock = some y) => (unhide R3).ge y hy)
    clear b3 R2 G2
    have hlen2 : (us ++ [X]).length = us.length + 1 := by simp
    rw [hlen2] at R3 G3 HR OWN3
    try rw [hlen2]
    clear hlen2
    generalize us.length + 1 = m2 at *
    go_wp2_with fail
    go_loopw [0, 15] (fun lv i wr => ∃ (done todo : BT NodeV) (j : Nat) (va : Option Addr) (vn vc : Nat), Hid (l = app done todo) ∧ Hid (j = cnt done) ∧ lv = .slice va vn vc ∧ i = .int .i64 j ∧ Hid (NdRow W0.heap.size wr (.slice va vn vc) (us ++ X :: fl done)) ∧ Hid (Grows w3 wr (.slice (some ⟨g2, 0, none⟩) m2 c2) (.slice va vn vc))) (fun _ i _ => cnt l - (intOf i).toNat)
    case atStart => exact ⟨.nil, l, 0, _, _, _, hide rfl, hide rfl, rfl, rfl, R3, hide (Grows.refl _ _)⟩
    case round =>
      obtain ⟨done, todo, j, va, vn, vc, hle, hj, rfl, rfl, RR, GR⟩ := hrel
      cases todo with
      | nil =>
        have he := unhide hle
        rw [app_nil] at he
        have hz : ¬ (j : Int) < (cnt l : Int) := by rw [unhide hj, he]; omega
        have RF := unhide RR
        rw [← he] at RF
        have HRF := hide RF
        have GF := hide ((unhide G3).trans (unhide GR))
        clear he RF
        go_wp2_with fail
        go_ret
        exact ⟨_, rfl, HRF, GF⟩
      | node b' o' y p r =>
        have BW := hide ((unhide GR).below (unhide B3) (unhide OWN3))
        have hfr : FormsAre B W0 (app done (.node b' o' y p r)) wl := by rw [← unhide hle]; exact unhide HF
        obtain ⟨hjl, ty, uy, wy, hv, hfm, hny⟩ := hfr.next
        have hin : y ∈ fl l ∧ ∀ z ∈ fl p, z ∈ fl l := by
          rw [unhide hle, fl_app]
          exact ⟨by simp [fl], fun z hz => by simp [fl, hz]⟩
        have hln : (us ++ X :: fl done).length + (fl p).length + 1 ≤ 1000000 := by
          have h9 := unhide HSZ
          rw [unhide hle, fl_app] at h9
          simp only [List.length_append, List.length_cons, fl] at h9 ⊢
          omega
        have HD := hide (unhide IH y p (by rw [unhide hle]; exact inF_app y p done b' o' r) W0 wr B (.iface ty uy) (.slice va vn vc) wy (us ++ X :: fl done) hfm hny (unhide HL y hin.1) (fun z hz => unhide HL z (hin.2 z hz)) (unhide BW) (unhide RR) hln)
        have hjc : (j : Int) < (cnt l : Int) := by rw [unhide hj, ← unhide HCL]; omega
        obtain ⟨g1, ha1, hg1, hne1, hrow1⟩ : ∃ g, a1 = some ⟨g, 0, none⟩ ∧ g < w3.heap.size ∧ (Value.slice (some ⟨g2, 0, none⟩) m2 c2).ownBlock ≠ some g ∧ RowAt w3 g wl := by
          rcases unhide HR with h | h
          · subst h; simp at hjl
          · exact h
        subst ha1
        have hcell : wr.cell? ⟨g1, j, none⟩ = some (.iface ty uy) := by
          rw [(unhide GR).cell hg1 hne1, unhide hj, hrow1 _ hjl, hv]
        have hle' := hide ((unhide hle).trans (app_snoc done b' o' y p r))
        have hj' := hide (show j + 1 = cnt (app done (.node b' o' y p .nil)) by rw [unhide hj, cnt_app]; rfl)
        have HFL := hide (show (us ++ X :: fl done) ++ y :: fl p = us ++ X :: fl (app done (.node b' o' y p .nil)) by rw [fl_app]; simp [fl])
        clear hfr hv hfm hny hrow1 hjl hin hln
        go_wp2_with fail
        refine (unhide HD).mono ?_
        rintro e w4 ⟨nv4, rfl, R4, G4⟩
        obtain ⟨a4, c4, e4⟩ := (unhide R4).slice
        subst e4
        generalize ((us ++ X :: fl done) ++ y :: fl p).length = m4 at *
        rw [unhide HFL] at R4
        have GG := hide ((unhide GR).trans (unhide G4))
        clear HD R3 GR RR G4
        go_wp2_with fail
        go_roundw
        case rel => exact ⟨_, r, _, _, _, _, hle', hj', rfl, by go_num, R4, GG⟩
        case measure => simp [intOf]; omega
  · simp only at hk
    subst hk
    obtain rfl := h1 (by decide)
    obtain rfl : c = 0 := h3.trans (by decide)
    try clear hif
    try clear hk
    try clear h1
    try clear h2
    try clear h3
    try dsimp only
    have HNO := hide (fun W => nodeR_name s W)
    generalize hX : (⟨2, 0, s, 0⟩ : NodeV) = X at *
    clear hX
    go_enter Tryz.func52, Tryz.ntmps52
    go_wp2_with fail
    refine (unhide HNO _).mono ?_
    rintro e w1 ⟨rfl, b1⟩
    simp only [nodeAgg]
    clear HNO
    have hbA := (Below.refl w1.heap.size w1).alloc (Nat.le_refl _) (.cells #[.int .i64 X.kind, .int .i64 X.num, .string X.name, .int .i64 X.kids] 49)
    have RA := hide (((unhide HROW).up b1).up hbA)
    have GA := hide ((Grows.of_below (nv := nv) b1).trans (Grows.of_below (nv := nv) hbA))
    have C0 := hide (show (w1.alloc (.cells #[.int .i64 X.kind, .int .i64 X.num, .string X.name, .int .i64 X.kids] 49)).cell? ⟨w1.heap.size, 0, none⟩ = some (.int .i64 X.kind) from World.cell?_alloc_at _ _ _ _ rfl)
    have C1 := hide (show (w1.alloc (.cells #[.int .i64 X.kind, .int .i64 X.num, .string X.name, .int .i64 X.kids] 49)).cell? ⟨w1.heap.size, 1, none⟩ = some (.int .i64 X.num) from World.cell?_alloc_at _ _ _ _ rfl)
    have C2 := hide (show (w1.alloc (.cells #[.int .i64 X.kind, .int .i64 X.num, .string X.name, .int .i64 X.kids] 49)).cell? ⟨w1.heap.size, 2, none⟩ = some (.string X.name) from World.cell?_alloc_at _ _ _ _ rfl)
    have C3 := hide (show (w1.alloc (.cells #[.int .i64 X.kind, .int .i64 X.num, .string X.name, .int .i64 X.kids] 49)).cell? ⟨w1.heap.size, 3, none⟩ = some (.int .i64 X.kids) from World.cell?_alloc_at _ _ _ _ rfl)
    have HW := hide (show W0.heap.size ≤ (w1.alloc (.cells #[.int .i64 X.kind, .int .i64 X.num, .string X.name, .int .i64 X.kids] 49)).heap.size from Nat.le_trans hg0 (Nat.le_trans b1.size hbA.size))
    clear b1 hbA HROW
    go_wp2_with (first
      | (at_builtin; refine wpList_ndAppend rfl _ _ rfl W0.heap.size nv us X w1.heap.size rfl rfl (unhide RA) (unhide C0) (unhide C1) (unhide C2) (unhide C3) (by have := unhide HSZ; omega) (unhide HW) ?_; intro g2 n2 c2 w2 r2 gr2 o2; have en2 := nd_len r2; subst en2; have R2 := hide r2; have G2 := hide (Grows.trans (unhide GA) (show Grows _ w2 nv (.slice (some ⟨g2, 0, none⟩) (us ++ [X]).length c2) from ⟨gr2, (by rcases o2 with o2 | o2; exact .inl o2.symm; exact .inr (fun y hy => by cases hy; exact Nat.le_of_eq o2.symm))⟩)); clear r2 gr2 o2 RA GA C0 C1 C2 C3 HW)
      | fail)
    refine (partsB_name _ _).mono ?_
    rintro e w3 ⟨⟨a1, n1, cap1, rfl, hn1, hrw⟩, b3⟩
    have HR := hide (show ([] : List Value) = [] ∨ ∃ g, a1 = some ⟨g, 0, none⟩ ∧ g < w3.heap.size ∧ (Value.slice (some ⟨g2, 0, none⟩) (us ++ [X]).length c2).ownBlock ≠ some g ∧ RowAt w3 g [] from by
      rcases hrw with h | ⟨g', h1, h2, h3, h4⟩
      · exact .inl h
      · have q1 := (unhide R2).ge g2 rfl
        have q2 := (unhide R2).lt g2 rfl
        exact .inr ⟨g', h1, h3, by simp only [Value.ownBlock]; intro e; injection e with e; subst e; omega, h4⟩)
    clear hrw
    obtain ⟨wl, hws⟩ : ∃ u : List Value, u = [] := ⟨_, rfl⟩
    replace HF : Hid (FormsAre B W0 l wl) := by rw [hws]; exact HF
    replace HCL : Hid (wl.length = cnt l) := by rw [hws]; exact HCL
    replace hn1 : Hid (n1 = wl.length) := by rw [hws]; exact hn1
    replace HR : Hid (wl = [] ∨ ∃ g, a1 = some ⟨g, 0, none⟩ ∧ g < w3.heap.size ∧ (Value.slice (some ⟨g2, 0, none⟩) (us ++ [X]).length c2).ownBlock ≠ some g ∧ RowAt w3 g wl) := by rw [hws]; exact HR
    clear hws
    have hnl : n1 = cnt l := (unhide hn1).trans (unhide HCL)
    subst hnl
    have R3 := hide ((unhide R2).up b3)
    have G3 := hide ((unhide G2).trans (Grows.of_below b3))
    have B3 := hide ((unhide G3).below (unhide HB) (fun y hy => (unhide OWN) y hy))
    have OWN3 := hide (fun y (hy : (Value.slice (some ⟨g2, 0, none⟩) (us ++ [X]).length c2).ownBlock = some y) => (unhide R3).ge y hy)
    clear b3 R2 G2
    have hlen2 : (us ++ [X]).length = us.length + 1 := by simp
    rw [hlen2] at R3 G3 HR OWN3
    try rw [hlen2]
    clear hlen2
    generalize us.length + 1 = m2 at *
    go_wp2_with fail
    go_loopw [0, 15] (fun lv i wr => ∃ (done todo : BT NodeV) (j : Nat) (va : Option Addr) (vn vc : Nat), Hid (l = app done todo) ∧ Hid (j = cnt done) ∧ lv = .slice va vn vc ∧ i = .int .i64 j ∧ Hid (NdRow W0.heap.size wr (.slice va vn vc) (us ++ X :: fl done)) ∧ Hid (Grows w3 wr (.slice (some ⟨g2, 0, none⟩) m2 c2) (.slice va vn vc))) (fun _ i _ => cnt l - (intOf i).toNat)
    case atStart => exact ⟨.nil, l, 0, _, _, _, hide rfl, hide rfl, rfl, rfl, R3, hide (Grows.refl _ _)⟩
    case round =>
      obtain ⟨done, todo, j, va, vn, vc, hle, hj, rfl, rfl, RR, GR⟩ := hrel
      cases todo with
      | nil =>
        have he := unhide hle
        rw [app_nil] at he
        have hz : ¬ (j : Int) < (cnt l : Int) := by rw [unhide hj, he]; omega
        have RF := unhide RR
        rw [← he] at RF
        have HRF := hide RF
        have GF := hide ((unhide G3).trans (unhide GR))
        clear he RF
        go_wp2_with fail
        go_ret
        exact ⟨_, rfl, HRF, GF⟩
      | node b' o' y p r =>
        have BW := hide ((unhide GR).below (unhide B3) (unhide OWN3))
        have hfr : FormsAre B W0 (app done (.node b' o' y p r)) wl := by rw [← unhide hle]; exact unhide HF
        obtain ⟨hjl, ty, uy, wy, hv, hfm, hny⟩ := hfr.next
        have hin : y ∈ fl l ∧ ∀ z ∈ fl p, z ∈ fl l := by
          rw [unhide hle, fl_app]
          exact ⟨by simp [fl], fun z hz => by simp [fl, hz]⟩
        have hln : (us ++ X :: fl done).length + (fl p).length + 1 ≤ 1000000 := by
          have h9 := unhide HSZ
          rw [unhide hle, fl_app] at h9
          simp only [List.length_append, List.length_cons, fl] at h9 ⊢
          omega
        have HD := hide (unhide IH y p (by rw [unhide hle]; exact inF_app y p done b' o' r) W0 wr B (.iface ty uy) (.slice va vn vc) wy (us ++ X :: fl done) hfm hny (unhide HL y hin.1) (fun z hz => unhide HL z (hin.2 z hz)) (unhide BW) (unhide RR) hln)
        have hjc : (j : Int) < (cnt l : Int) := by rw [unhide hj, ← unhide HCL]; omega
        obtain ⟨g1, ha1, hg1, hne1, hrow1⟩ : ∃ g, a1 = some ⟨g, 0, none⟩ ∧ g < w3.heap.size ∧ (Value.slice (some ⟨g2, 0, none⟩) m2 c2).ownBlock ≠ some g ∧ RowAt w3 g wl := by
          rcases unhide HR with h | h
          · subst h; simp at hjl
          · exact h
        subst ha1
        have hcell : wr.cell? ⟨g1, j, none⟩ = some (.iface ty uy) := by
          rw [(unhide GR).cell hg1 hne1, unhide hj, hrow1 _ hjl, hv]
        have hle' := hide ((unhide hle).trans (app_snoc done b' o' y p r))
        have hj' := hide (show j + 1 = cnt (app done (.node b' o' y p .nil)) by rw [unhide hj, cnt_app]; rfl)
        have HFL := hide (show (us ++ X :: fl done) ++ y :: fl p = us ++ X :: fl (app done (.node b' o' y p .nil)) by rw [fl_app]; simp [fl])
        clear hfr hv hfm hny hrow1 hjl hin hln
        go_wp2_with fail
        refine (unhide HD).mono ?_
        rintro e w4 ⟨nv4, rfl, R4, G4⟩
        obtain ⟨a4, c4, e4⟩ := (unhide R4).slice
        subst e4
        generalize ((us ++ X :: fl done) ++ y :: fl p).length = m4 at *
        rw [unhide HFL] at R4
        have GG := hide ((unhide GR).trans (unhide G4))
        clear HD R3 GR RR G4
        go_wp2_with fail
        go_roundw
        case rel => exact ⟨_, r, _, _, _, _, hle', hj', rfl, by go_num, R4, GG⟩
        case measure => simp [intOf]; omega
  · simp only at hk
    obtain rfl := h1 (by omega)
    obtain rfl := h2 (by omega) (by omega) (by omega)
    obtain rfl : c = 1 := h3.trans (arity_one hk)
    obtain ⟨ta, ua, rfl⟩ := hif a (by simp)
    try clear hif
    try clear hk
    try clear h1
    try clear h2
    try clear h3
    try dsimp only
    have HNO := hide (fun W => nodeR_ahead k ta ua W)
    generalize hX : (⟨k, 0, ⟨#[]⟩, 1⟩ : NodeV) = X at *
    clear hX
    go_enter Tryz.func52, Tryz.ntmps52
    go_wp2_with fail
    refine (unhide HNO _).mono ?_
    rintro e w1 ⟨rfl, b1⟩
    simp only [nodeAgg]
    clear HNO
    have hbA := (Below.refl w1.heap.size w1).alloc (Nat.le_refl _) (.cells #[.int .i64 X.kind, .int .i64 X.num, .string X.name, .int .i64 X.kids] 49)
    have RA := hide (((unhide HROW).up b1).up hbA)
    have GA := hide ((Grows.of_below (nv := nv) b1).trans (Grows.of_below (nv := nv) hbA))
    have C0 := hide (show (w1.alloc (.cells #[.int .i64 X.kind, .int .i64 X.num, .string X.name, .int .i64 X.kids] 49)).cell? ⟨w1.heap.size, 0, none⟩ = some (.int .i64 X.kind) from World.cell?_alloc_at _ _ _ _ rfl)
    have C1 := hide (show (w1.alloc (.cells #[.int .i64 X.kind, .int .i64 X.num, .string X.name, .int .i64 X.kids] 49)).cell? ⟨w1.heap.size, 1, none⟩ = some (.int .i64 X.num) from World.cell?_alloc_at _ _ _ _ rfl)
    have C2 := hide (show (w1.alloc (.cells #[.int .i64 X.kind, .int .i64 X.num, .string X.name, .int .i64 X.kids] 49)).cell? ⟨w1.heap.size, 2, none⟩ = some (.string X.name) from World.cell?_alloc_at _ _ _ _ rfl)
    have C3 := hide (show (w1.alloc (.cells #[.int .i64 X.kind, .int .i64 X.num, .string X.name, .int .i64 X.kids] 49)).cell? ⟨w1.heap.size, 3, none⟩ = some (.int .i64 X.kids) from World.cell?_alloc_at _ _ _ _ rfl)
    have HW := hide (show W0.heap.size ≤ (w1.alloc (.cells #[.int .i64 X.kind, .int .i64 X.num, .string X.name, .int .i64 X.kids] 49)).heap.size from Nat.le_trans hg0 (Nat.le_trans b1.size hbA.size))
    clear b1 hbA HROW
    go_wp2_with (first
      | (at_builtin; refine wpList_ndAppend rfl _ _ rfl W0.heap.size nv us X w1.heap.size rfl rfl (unhide RA) (unhide C0) (unhide C1) (unhide C2) (unhide C3) (by have := unhide HSZ; omega) (unhide HW) ?_; intro g2 n2 c2 w2 r2 gr2 o2; have en2 := nd_len r2; subst en2; have R2 := hide r2; have G2 := hide (Grows.trans (unhide GA) (show Grows _ w2 nv (.slice (some ⟨g2, 0, none⟩) (us ++ [X]).length c2) from ⟨gr2, (by rcases o2 with o2 | o2; exact .inl o2.symm; exact .inr (fun y hy => by cases hy; exact Nat.le_of_eq o2.symm))⟩)); clear r2 gr2 o2 RA GA C0 C1 C2 C3 HW)
      | fail)
    refine (partsB_ahead _ _ _ _).mono ?_
    rintro e w3 ⟨⟨a1, n1, cap1, rfl, hn1, hrw⟩, b3⟩
    have HR := hide (show ([.iface ta ua] : List Value) = [] ∨ ∃ g, a1 = some ⟨g, 0, none⟩ ∧ g < w3.heap.size ∧ (Value.slice (some ⟨g2, 0, none⟩) (us ++ [X]).length c2).ownBlock ≠ some g ∧ RowAt w3 g [.iface ta ua] from by
      rcases hrw with h | ⟨g', h1, h2, h3, h4⟩
      · exact .inl h
      · have q1 := (unhide R2).ge g2 rfl
        have q2 := (unhide R2).lt g2 rfl
        exact .inr ⟨g', h1, h3, by simp only [Value.ownBlock]; intro e; injection e with e; subst e; omega, h4⟩)
    clear hrw
    obtain ⟨wl, hws⟩ : ∃ u : List Value, u = [.iface ta ua] := ⟨_, rfl⟩
    replace HF : Hid (FormsAre B W0 l wl) := by rw [hws]; exact HF
    replace HCL : Hid (wl.length = cnt l) := by rw [hws]; exact HCL
    replace hn1 : Hid (n1 = wl.length) := by rw [hws]; exact hn1
    replace HR : Hid (wl = [] ∨ ∃ g, a1 = some ⟨g, 0, none⟩ ∧ g < w3.heap.size ∧ (Value.slice (some ⟨g2, 0, none⟩) (us ++ [X]).length c2).ownBlock ≠ some g ∧ RowAt w3 g wl) := by rw [hws]; exact HR
    clear hws
    have hnl : n1 = cnt l := (unhide hn1).trans (unhide HCL)
    subst hnl
    have R3 := hide ((unhide R2).up b3)
    have G3 := hide ((unhide G2).trans (Grows.of_below b3))
    have B3 := hide ((unhide G3).below (unhide HB) (fun y hy => (unhide OWN) y hy))
    have OWN3 := hide (fun y (hy : (Value.slice (some ⟨g2, 0, none⟩) (us ++ [X]).length c2).ownBlock = some y) => (unhide R3).ge y hy)
    clear b3 R2 G2
    have hlen2 : (us ++ [X]).length = us.length + 1 := by simp
    rw [hlen2] at R3 G3 HR OWN3
    try rw [hlen2]
    clear hlen2
    generalize us.length + 1 = m2 at *
    go_wp2_with fail
    go_loopw [0, 15] (fun lv i wr => ∃ (done todo : BT NodeV) (j : Nat) (va : Option Addr) (vn vc : Nat), Hid (l = app done todo) ∧ Hid (j = cnt done) ∧ lv = .slice va vn vc ∧ i = .int .i64 j ∧ Hid (NdRow W0.heap.size wr (.slice va vn vc) (us ++ X :: fl done)) ∧ Hid (Grows w3 wr (.slice (some ⟨g2, 0, none⟩) m2 c2) (.slice va vn vc))) (fun _ i _ => cnt l - (intOf i).toNat)
    case atStart => exact ⟨.nil, l, 0, _, _, _, hide rfl, hide rfl, rfl, rfl, R3, hide (Grows.refl _ _)⟩
    case round =>
      obtain ⟨done, todo, j, va, vn, vc, hle, hj, rfl, rfl, RR, GR⟩ := hrel
      cases todo with
      | nil =>
        have he := unhide hle
        rw [app_nil] at he
        have hz : ¬ (j : Int) < (cnt l : Int) := by rw [unhide hj, he]; omega
        have RF := unhide RR
        rw [← he] at RF
        have HRF := hide RF
        have GF := hide ((unhide G3).trans (unhide GR))
        clear he RF
        go_wp2_with fail
        go_ret
        exact ⟨_, rfl, HRF, GF⟩
      | node b' o' y p r =>
        have BW := hide ((unhide GR).below (unhide B3) (unhide OWN3))
        have hfr : FormsAre B W0 (app done (.node b' o' y p r)) wl := by rw [← unhide hle]; exact unhide HF
        obtain ⟨hjl, ty, uy, wy, hv, hfm, hny⟩ := hfr.next
        have hin : y ∈ fl l ∧ ∀ z ∈ fl p, z ∈ fl l := by
          rw [unhide hle, fl_app]
          exact ⟨by simp [fl], fun z hz => by simp [fl, hz]⟩
        have hln : (us ++ X :: fl done).length + (fl p).length + 1 ≤ 1000000 := by
          have h9 := unhide HSZ
          rw [unhide hle, fl_app] at h9
          simp only [List.length_append, List.length_cons, fl] at h9 ⊢
          omega
        have HD := hide (unhide IH y p (by rw [unhide hle]; exact inF_app y p done b' o' r) W0 wr B (.iface ty uy) (.slice va vn vc) wy (us ++ X :: fl done) hfm hny (unhide HL y hin.1) (fun z hz => unhide HL z (hin.2 z hz)) (unhide BW) (unhide RR) hln)
        have hjc : (j : Int) < (cnt l : Int) := by rw [unhide hj, ← unhide HCL]; omega
        obtain ⟨g1, ha1, hg1, hne1, hrow1⟩ : ∃ g, a1 = some ⟨g, 0, none⟩ ∧ g < w3.heap.size ∧ (Value.slice (some ⟨g2, 0, none⟩) m2 c2).ownBlock ≠ some g ∧ RowAt w3 g wl := by
          rcases unhide HR with h | h
          · subst h; simp at hjl
          · exact h
        subst ha1
        have hcell : wr.cell? ⟨g1, j, none⟩ = some (.iface ty uy) := by
          rw [(unhide GR).cell hg1 hne1, unhide hj, hrow1 _ hjl, hv]
        have hle' := hide ((unhide hle).trans (app_snoc done b' o' y p r))
        have hj' := hide (show j + 1 = cnt (app done (.node b' o' y p .nil)) by rw [unhide hj, cnt_app]; rfl)
        have HFL := hide (show (us ++ X :: fl done) ++ y :: fl p = us ++ X :: fl (app done (.node b' o' y p .nil)) by rw [fl_app]; simp [fl])
        clear hfr hv hfm hny hrow1 hjl hin hln
        go_wp2_with fail
        refine (unhide HD).mono ?_
        rintro e w4 ⟨nv4, rfl, R4, G4⟩
        obtain ⟨a4, c4, e4⟩ := (unhide R4).slice
        subst e4
        generalize ((us ++ X :: fl done) ++ y :: fl p).length = m4 at *
        rw [unhide HFL] at R4
        have GG := hide ((unhide GR).trans (unhide G4))
        clear HD R3 GR RR G4
        go_wp2_with fail
        go_roundw
        case rel => exact ⟨_, r, _, _, _, _, hle', hj', rfl, by go_num, R4, GG⟩
        case measure => simp [intOf]; omega
  · simp only at hk
    obtain rfl := h1 (by omega)
    obtain rfl := h2 (by omega) (by omega) (by omega)
    obtain rfl : c = 2 := h3.trans (arity_two hk)
    obtain ⟨ta, ua, rfl⟩ := hif a (by simp)
    obtain ⟨tb, ub, rfl⟩ := hif b (by simp)
    try clear hif
    try clear hk
    try clear h1
    try clear h2
    try clear h3
    try dsimp only
    have HNO := hide (fun W => nodeR_sign k ta ua tb ub W)
    generalize hX : (⟨k, 0, ⟨#[]⟩, 2⟩ : NodeV) = X at *
    clear hX
    go_enter Tryz.func52, Tryz.ntmps52
    go_wp2_with fail
    refine (unhide HNO _).mono ?_
    rintro e w1 ⟨rfl, b1⟩
    simp only [nodeAgg]
    clear HNO
    have hbA := (Below.refl w1.heap.size w1).alloc (Nat.le_refl _) (.cells #[.int .i64 X.kind, .int .i64 X.num, .string X.name, .int .i64 X.kids] 49)
    have RA := hide (((unhide HROW).up b1).up hbA)
    have GA := hide ((Grows.of_below (nv := nv) b1).trans (Grows.of_below (nv := nv) hbA))
    have C0 := hide (show (w1.alloc (.cells #[.int .i64 X.kind, .int .i64 X.num, .string X.name, .int .i64 X.kids] 49)).cell? ⟨w1.heap.size, 0, none⟩ = some (.int .i64 X.kind) from World.cell?_alloc_at _ _ _ _ rfl)
    have C1 := hide (show (w1.alloc (.cells #[.int .i64 X.kind, .int .i64 X.num, .string X.name, .int .i64 X.kids] 49)).cell? ⟨w1.heap.size, 1, none⟩ = some (.int .i64 X.num) from World.cell?_alloc_at _ _ _ _ rfl)
    have C2 := hide (show (w1.alloc (.cells #[.int .i64 X.kind, .int .i64 X.num, .string X.name, .int .i64 X.kids] 49)).cell? ⟨w1.heap.size, 2, none⟩ = some (.string X.name) from World.cell?_alloc_at _ _ _ _ rfl)
    have C3 := hide (show (w1.alloc (.cells #[.int .i64 X.kind, .int .i64 X.num, .string X.name, .int .i64 X.kids] 49)).cell? ⟨w1.heap.size, 3, none⟩ = some (.int .i64 X.kids) from World.cell?_alloc_at _ _ _ _ rfl)
    have HW := hide (show W0.heap.size ≤ (w1.alloc (.cells #[.int .i64 X.kind, .int .i64 X.num, .string X.name, .int .i64 X.kids] 49)).heap.size from Nat.le_trans hg0 (Nat.le_trans b1.size hbA.size))
    clear b1 hbA HROW
    go_wp2_with (first
      | (at_builtin; refine wpList_ndAppend rfl _ _ rfl W0.heap.size nv us X w1.heap.size rfl rfl (unhide RA) (unhide C0) (unhide C1) (unhide C2) (unhide C3) (by have := unhide HSZ; omega) (unhide HW) ?_; intro g2 n2 c2 w2 r2 gr2 o2; have en2 := nd_len r2; subst en2; have R2 := hide r2; have G2 := hide (Grows.trans (unhide GA) (show Grows _ w2 nv (.slice (some ⟨g2, 0, none⟩) (us ++ [X]).length c2) from ⟨gr2, (by rcases o2 with o2 | o2; exact .inl o2.symm; exact .inr (fun y hy => by cases hy; exact Nat.le_of_eq o2.symm))⟩)); clear r2 gr2 o2 RA GA C0 C1 C2 C3 HW)
      | fail)
    refine (partsB_sign _ _ _ _ _ _).mono ?_
    rintro e w3 ⟨⟨a1, n1, cap1, rfl, hn1, hrw⟩, b3⟩
    have HR := hide (show ([.iface ta ua, .iface tb ub] : List Value) = [] ∨ ∃ g, a1 = some ⟨g, 0, none⟩ ∧ g < w3.heap.size ∧ (Value.slice (some ⟨g2, 0, none⟩) (us ++ [X]).length c2).ownBlock ≠ some g ∧ RowAt w3 g [.iface ta ua, .iface tb ub] from by
      rcases hrw with h | ⟨g', h1, h2, h3, h4⟩
      · exact .inl h
      · have q1 := (unhide R2).ge g2 rfl
        have q2 := (unhide R2).lt g2 rfl
        exact .inr ⟨g', h1, h3, by simp only [Value.ownBlock]; intro e; injection e with e; subst e; omega, h4⟩)
    clear hrw
    obtain ⟨wl, hws⟩ : ∃ u : List Value, u = [.iface ta ua, .iface tb ub] := ⟨_, rfl⟩
    replace HF : Hid (FormsAre B W0 l wl) := by rw [hws]; exact HF
    replace HCL : Hid (wl.length = cnt l) := by rw [hws]; exact HCL
    replace hn1 : Hid (n1 = wl.length) := by rw [hws]; exact hn1
    replace HR : Hid (wl = [] ∨ ∃ g, a1 = some ⟨g, 0, none⟩ ∧ g < w3.heap.size ∧ (Value.slice (some ⟨g2, 0, none⟩) (us ++ [X]).length c2).ownBlock ≠ some g ∧ RowAt w3 g wl) := by rw [hws]; exact HR
    clear hws
    have hnl : n1 = cnt l := (unhide hn1).trans (unhide HCL)
    subst hnl
    have R3 := hide ((unhide R2).up b3)
    have G3 := hide ((unhide G2).trans (Grows.of_below b3))
    have B3 := hide ((unhide G3).below (unhide HB) (fun y hy => (unhide OWN) y hy))
    have OWN3 := hide (fun y (hy : (Value.slice (some ⟨g2, 0, none⟩) (us ++ [X]).length c2).ownBlock = some y) => (unhide R3).ge y hy)
    clear b3 R2 G2
    have hlen2 : (us ++ [X]).length = us.length + 1 := by simp
    rw [hlen2] at R3 G3 HR OWN3
    try rw [hlen2]
    clear hlen2
    generalize us.length + 1 = m2 at *
    go_wp2_with fail
    go_loopw [0, 15] (fun lv i wr => ∃ (done todo : BT NodeV) (j : Nat) (va : Option Addr) (vn vc : Nat), Hid (l = app done todo) ∧ Hid (j = cnt done) ∧ lv = .slice va vn vc ∧ i = .int .i64 j ∧ Hid (NdRow W0.heap.size wr (.slice va vn vc) (us ++ X :: fl done)) ∧ Hid (Grows w3 wr (.slice (some ⟨g2, 0, none⟩) m2 c2) (.slice va vn vc))) (fun _ i _ => cnt l - (intOf i).toNat)
    case atStart => exact ⟨.nil, l, 0, _, _, _, hide rfl, hide rfl, rfl, rfl, R3, hide (Grows.refl _ _)⟩
    case round =>
      obtain ⟨done, todo, j, va, vn, vc, hle, hj, rfl, rfl, RR, GR⟩ := hrel
      cases todo with
      | nil =>
        have he := unhide hle
        rw [app_nil] at he
        have hz : ¬ (j : Int) < (cnt l : Int) := by rw [unhide hj, he]; omega
        have RF := unhide RR
        rw [← he] at RF
        have HRF := hide RF
        have GF := hide ((unhide G3).trans (unhide GR))
        clear he RF
        go_wp2_with fail
        go_ret
        exact ⟨_, rfl, HRF, GF⟩
      | node b' o' y p r =>
        have BW := hide ((unhide GR).below (unhide B3) (unhide OWN3))
        have hfr : FormsAre B W0 (app done (.node b' o' y p r)) wl := by rw [← unhide hle]; exact unhide HF
        obtain ⟨hjl, ty, uy, wy, hv, hfm, hny⟩ := hfr.next
        have hin : y ∈ fl l ∧ ∀ z ∈ fl p, z ∈ fl l := by
          rw [unhide hle, fl_app]
          exact ⟨by simp [fl], fun z hz => by simp [fl, hz]⟩
        have hln : (us ++ X :: fl done).length + (fl p).length + 1 ≤ 1000000 := by
          have h9 := unhide HSZ
          rw [unhide hle, fl_app] at h9
          simp only [List.length_append, List.length_cons, fl] at h9 ⊢
          omega
        have HD := hide (unhide IH y p (by rw [unhide hle]; exact inF_app y p done b' o' r) W0 wr B (.iface ty uy) (.slice va vn vc) wy (us ++ X :: fl done) hfm hny (unhide HL y hin.1) (fun z hz => unhide HL z (hin.2 z hz)) (unhide BW) (unhide RR) hln)
        have hjc : (j : Int) < (cnt l : Int) := by rw [unhide hj, ← unhide HCL]; omega
        obtain ⟨g1, ha1, hg1, hne1, hrow1⟩ : ∃ g, a1 = some ⟨g, 0, none⟩ ∧ g < w3.heap.size ∧ (Value.slice (some ⟨g2, 0, none⟩) m2 c2).ownBlock ≠ some g ∧ RowAt w3 g wl := by
          rcases unhide HR with h | h
          · subst h; simp at hjl
          · exact h
        subst ha1
        have hcell : wr.cell? ⟨g1, j, none⟩ = some (.iface ty uy) := by
          rw [(unhide GR).cell hg1 hne1, unhide hj, hrow1 _ hjl, hv]
        have hle' := hide ((unhide hle).trans (app_snoc done b' o' y p r))
        have hj' := hide (show j + 1 = cnt (app done (.node b' o' y p .nil)) by rw [unhide hj, cnt_app]; rfl)
        have HFL := hide (show (us ++ X :: fl done) ++ y :: fl p = us ++ X :: fl (app done (.node b' o' y p .nil)) by rw [fl_app]; simp [fl])
        clear hfr hv hfm hny hrow1 hjl hin hln
        go_wp2_with fail
        refine (unhide HD).mono ?_
        rintro e w4 ⟨nv4, rfl, R4, G4⟩
        obtain ⟨a4, c4, e4⟩ := (unhide R4).slice
        subst e4
        generalize ((us ++ X :: fl done) ++ y :: fl p).length = m4 at *
        rw [unhide HFL] at R4
        have GG := hide ((unhide GR).trans (unhide G4))
        clear HD R3 GR RR G4
        go_wp2_with fail
        go_roundw
        case rel => exact ⟨_, r, _, _, _, _, hle', hj', rfl, by go_num, R4, GG⟩
        case measure => simp [intOf]; omega
  · simp only at hk hwl
    obtain rfl := h1 (by omega)
    obtain rfl := h2 (by omega) (by omega) (by omega)
    obtain rfl : c = (ws.length : Int) := h3.trans hwl.symm
    have RW0 := hide hrw0
    clear hrw0 hwl hBg
    try clear hif
    try clear hk
    try clear h1
    try clear h2
    try clear h3
    try dsimp only
    have HNO := hide (fun W => nodeR_call k (some ⟨g, 0, none⟩) ws.length cap W)
    generalize hX : (⟨k, 0, ⟨#[]⟩, (ws.length : Int)⟩ : NodeV) = X at *
    clear hX
    go_enter Tryz.func52, Tryz.ntmps52
    go_wp2_with fail
    refine (unhide HNO _).mono ?_
    rintro e w1 ⟨rfl, b1⟩
    simp only [nodeAgg]
    clear HNO
    have hbA := (Below.refl w1.heap.size w1).alloc (Nat.le_refl _) (.cells #[.int .i64 X.kind, .int .i64 X.num, .string X.name, .int .i64 X.kids] 49)
    have RA := hide (((unhide HROW).up b1).up hbA)
    have GA := hide ((Grows.of_below (nv := nv) b1).trans (Grows.of_below (nv := nv) hbA))
    have C0 := hide (show (w1.alloc (.cells #[.int .i64 X.kind, .int .i64 X.num, .string X.name, .int .i64 X.kids] 49)).cell? ⟨w1.heap.size, 0, none⟩ = some (.int .i64 X.kind) from World.cell?_alloc_at _ _ _ _ rfl)
    have C1 := hide (show (w1.alloc (.cells #[.int .i64 X.kind, .int .i64 X.num, .string X.name, .int .i64 X.kids] 49)).cell? ⟨w1.heap.size, 1, none⟩ = some (.int .i64 X.num) from World.cell?_alloc_at _ _ _ _ rfl)
    have C2 := hide (show (w1.alloc (.cells #[.int .i64 X.kind, .int .i64 X.num, .string X.name, .int .i64 X.kids] 49)).cell? ⟨w1.heap.size, 2, none⟩ = some (.string X.name) from World.cell?_alloc_at _ _ _ _ rfl)
    have C3 := hide (show (w1.alloc (.cells #[.int .i64 X.kind, .int .i64 X.num, .string X.name, .int .i64 X.kids] 49)).cell? ⟨w1.heap.size, 3, none⟩ = some (.int .i64 X.kids) from World.cell?_alloc_at _ _ _ _ rfl)
    have HW := hide (show W0.heap.size ≤ (w1.alloc (.cells #[.int .i64 X.kind, .int .i64 X.num, .string X.name, .int .i64 X.kids] 49)).heap.size from Nat.le_trans hg0 (Nat.le_trans b1.size hbA.size))
    clear b1 hbA HROW
    go_wp2_with (first
      | (at_builtin; refine wpList_ndAppend rfl _ _ rfl W0.heap.size nv us X w1.heap.size rfl rfl (unhide RA) (unhide C0) (unhide C1) (unhide C2) (unhide C3) (by have := unhide HSZ; omega) (unhide HW) ?_; intro g2 n2 c2 w2 r2 gr2 o2; have en2 := nd_len r2; subst en2; have R2 := hide r2; have G2 := hide (Grows.trans (unhide GA) (show Grows _ w2 nv (.slice (some ⟨g2, 0, none⟩) (us ++ [X]).length c2) from ⟨gr2, (by rcases o2 with o2 | o2; exact .inl o2.symm; exact .inr (fun y hy => by cases hy; exact Nat.le_of_eq o2.symm))⟩)); clear r2 gr2 o2 RA GA C0 C1 C2 C3 HW)
      | fail)
    have BW2 := hide ((unhide G2).below (unhide HB) (unhide OWN))
    have HGW : g < w2.heap.size := Nat.lt_of_lt_of_le hgw (unhide BW2).size
    have RW2 := hide (show RowAt w2 g ws from fun i hi => ((unhide BW2).cell (by exact hgw)).trans (unhide RW0 i hi))
    refine (partsB_call k g cap ws w2 HGW (unhide RW2)).mono ?_
    rintro e w3 ⟨⟨a1, n1, cap1, rfl, hn1, hrw⟩, b3⟩
    have HR := hide (show (ws : List Value) = [] ∨ ∃ g, a1 = some ⟨g, 0, none⟩ ∧ g < w3.heap.size ∧ (Value.slice (some ⟨g2, 0, none⟩) (us ++ [X]).length c2).ownBlock ≠ some g ∧ RowAt w3 g ws from by
      rcases hrw with h | ⟨g', h1, h2, h3, h4⟩
      · exact .inl h
      · have q1 := (unhide R2).ge g2 rfl
        have q2 := (unhide R2).lt g2 rfl
        exact .inr ⟨g', h1, h3, by simp only [Value.ownBlock]; intro e; injection e with e; subst e; have := hgw; omega, h4⟩)
    clear hrw
    obtain ⟨wl, hws⟩ : ∃ u : List Value, u = ws := ⟨_, rfl⟩
    replace HF : Hid (FormsAre B W0 l wl) := by rw [hws]; exact HF
    replace HCL : Hid (wl.length = cnt l) := by rw [hws]; exact HCL
    replace hn1 : Hid (n1 = wl.length) := by rw [hws]; exact hn1
    replace HR : Hid (wl = [] ∨ ∃ g, a1 = some ⟨g, 0, none⟩ ∧ g < w3.heap.size ∧ (Value.slice (some ⟨g2, 0, none⟩) (us ++ [X]).length c2).ownBlock ≠ some g ∧ RowAt w3 g wl) := by rw [hws]; exact HR
    clear hws
    have hnl : n1 = cnt l := (unhide hn1).trans (unhide HCL)
    subst hnl
    have R3 := hide ((unhide R2).up b3)
    have G3 := hide ((unhide G2).trans (Grows.of_below b3))
    have B3 := hide ((unhide G3).below (unhide HB) (fun y hy => (unhide OWN) y hy))
    have OWN3 := hide (fun y (hy : (Value.slice (some ⟨g2, 0, none⟩) (us ++ [X]).length c2).ownBlock = some y) => (unhide R3).ge y hy)
    clear b3 R2 G2
    have hlen2 : (us ++ [X]).length = us.length + 1 := by simp
    rw [hlen2] at R3 G3 HR OWN3
    try rw [hlen2]
    clear hlen2
    generalize us.length + 1 = m2 at *
    go_wp2_with fail
    go_loopw [0, 15] (fun lv i wr => ∃ (done todo : BT NodeV) (j : Nat) (va : Option Addr) (vn vc : Nat), Hid (l = app done todo) ∧ Hid (j = cnt done) ∧ lv = .slice va vn vc ∧ i = .int .i64 j ∧ Hid (NdRow W0.heap.size wr (.slice va vn vc) (us ++ X :: fl done)) ∧ Hid (Grows w3 wr (.slice (some ⟨g2, 0, none⟩) m2 c2) (.slice va vn vc))) (fun _ i _ => cnt l - (intOf i).toNat)
    case atStart => exact ⟨.nil, l, 0, _, _, _, hide rfl, hide rfl, rfl, rfl, R3, hide (Grows.refl _ _)⟩
    case round =>
      obtain ⟨done, todo, j, va, vn, vc, hle, hj, rfl, rfl, RR, GR⟩ := hrel
      cases todo with
      | nil =>
        have he := unhide hle
        rw [app_nil] at he
        have hz : ¬ (j : Int) < (cnt l : Int) := by rw [unhide hj, he]; omega
        have RF := unhide RR
        rw [← he] at RF
        have HRF := hide RF
        have GF := hide ((unhide G3).trans (unhide GR))
        clear he RF
        go_wp2_with fail
        go_ret
        exact ⟨_, rfl, HRF, GF⟩
      | node b' o' y p r =>
        have BW := hide ((unhide GR).below (unhide B3) (unhide OWN3))
        have hfr : FormsAre B W0 (app done (.node b' o' y p r)) wl := by rw [← unhide hle]; exact unhide HF
        obtain ⟨hjl, ty, uy, wy, hv, hfm, hny⟩ := hfr.next
        have hin : y ∈ fl l ∧ ∀ z ∈ fl p, z ∈ fl l := by
          rw [unhide hle, fl_app]
          exact ⟨by simp [fl], fun z hz => by simp [fl, hz]⟩
        have hln : (us ++ X :: fl done).length + (fl p).length + 1 ≤ 1000000 := by
          have h9 := unhide HSZ
          rw [unhide hle, fl_app] at h9
          simp only [List.length_append, List.length_cons, fl] at h9 ⊢
          omega
        have HD := hide (unhide IH y p (by rw [unhide hle]; exact inF_app y p done b' o' r) W0 wr B (.iface ty uy) (.slice va vn vc) wy (us ++ X :: fl done) hfm hny (unhide HL y hin.1) (fun z hz => unhide HL z (hin.2 z hz)) (unhide BW) (unhide RR) hln)
        have hjc : (j : Int) < (cnt l : Int) := by rw [unhide hj, ← unhide HCL]; omega
        obtain ⟨g1, ha1, hg1, hne1, hrow1⟩ : ∃ g, a1 = some ⟨g, 0, none⟩ ∧ g < w3.heap.size ∧ (Value.slice (some ⟨g2, 0, none⟩) m2 c2).ownBlock ≠ some g ∧ RowAt w3 g wl := by
          rcases unhide HR with h | h
          · subst h; simp at hjl
          · exact h
        subst ha1
        have hcell : wr.cell? ⟨g1, j, none⟩ = some (.iface ty uy) := by
          rw [(unhide GR).cell hg1 hne1, unhide hj, hrow1 _ hjl, hv]
        have hle' := hide ((unhide hle).trans (app_snoc done b' o' y p r))
        have hj' := hide (show j + 1 = cnt (app done (.node b' o' y p .nil)) by rw [unhide hj, cnt_app]; rfl)
        have HFL := hide (show (us ++ X :: fl done) ++ y :: fl p = us ++ X :: fl (app done (.node b' o' y p .nil)) by rw [fl_app]; simp [fl])
        clear hfr hv hfm hny hrow1 hjl hin hln
        go_wp2_with fail
        refine (unhide HD).mono ?_
        rintro e w4 ⟨nv4, rfl, R4, G4⟩
        obtain ⟨a4, c4, e4⟩ := (unhide R4).slice
        subst e4
        generalize ((us ++ X :: fl done) ++ y :: fl p).length = m4 at *
        rw [unhide HFL] at R4
        have GG := hide ((unhide GR).trans (unhide G4))
        clear HD R3 GR RR G4
        go_wp2_with fail
        go_roundw
        case rel => exact ⟨_, r, _, _, _, _, hle', hj', rfl, by go_num, R4, GG⟩
        case measure => simp [intOf]; omega
  · simp only at hk
    subst hk
    obtain rfl := h1 (by decide)
    obtain rfl := h2 (by decide) (by decide) (by decide)
    obtain rfl : c = 3 := h3.trans (by decide)
    obtain ⟨ta, ua, rfl⟩ := hif a (by simp)
    obtain ⟨tb, ub, rfl⟩ := hif b (by simp)
    obtain ⟨td, ud, rfl⟩ := hif d (by simp)
    try clear hif
    try clear hk
    try clear h1
    try clear h2
    try clear h3
    try dsimp only
    have HNO := hide (fun W => nodeR_if ta ua tb ub td ud W)
    generalize hX : (⟨21, 0, ⟨#[]⟩, 3⟩ : NodeV) = X at *
    clear hX
    go_enter Tryz.func52, Tryz.ntmps52
    go_wp2_with fail
    refine (unhide HNO _).mono ?_
    rintro e w1 ⟨rfl, b1⟩
    simp only [nodeAgg]
    clear HNO
    have hbA := (Below.refl w1.heap.size w1).alloc (Nat.le_refl _) (.cells #[.int .i64 X.kind, .int .i64 X.num, .string X.name, .int .i64 X.kids] 49)
    have RA := hide (((unhide HROW).up b1).up hbA)
    have GA := hide ((Grows.of_below (nv := nv) b1).trans (Grows.of_below (nv := nv) hbA))
    have C0 := hide (show (w1.alloc (.cells #[.int .i64 X.kind, .int .i64 X.num, .string X.name, .int .i64 X.kids] 49)).cell? ⟨w1.heap.size, 0, none⟩ = some (.int .i64 X.kind) from World.cell?_alloc_at _ _ _ _ rfl)
    have C1 := hide (show (w1.alloc (.cells #[.int .i64 X.kind, .int .i64 X.num, .string X.name, .int .i64 X.kids] 49)).cell? ⟨w1.heap.size, 1, none⟩ = some (.int .i64 X.num) from World.cell?_alloc_at _ _ _ _ rfl)
    have C2 := hide (show (w1.alloc (.cells #[.int .i64 X.kind, .int .i64 X.num, .string X.name, .int .i64 X.kids] 49)).cell? ⟨w1.heap.size, 2, none⟩ = some (.string X.name) from World.cell?_alloc_at _ _ _ _ rfl)
    have C3 := hide (show (w1.alloc (.cells #[.int .i64 X.kind, .int .i64 X.num, .string X.name, .int .i64 X.kids] 49)).cell? ⟨w1.heap.size, 3, none⟩ = some (.int .i64 X.kids) from World.cell?_alloc_at _ _ _ _ rfl)
    have HW := hide (show W0.heap.size ≤ (w1.alloc (.cells #[.int .i64 X.kind, .int .i64 X.num, .string X.name, .int .i64 X.kids] 49)).heap.size from Nat.le_trans hg0 (Nat.le_trans b1.size hbA.size))
    clear b1 hbA HROW
    go_wp2_with (first
      | (at_builtin; refine wpList_ndAppend rfl _ _ rfl W0.heap.size nv us X w1.heap.size rfl rfl (unhide RA) (unhide C0) (unhide C1) (unhide C2) (unhide C3) (by have := unhide HSZ; omega) (unhide HW) ?_; intro g2 n2 c2 w2 r2 gr2 o2; have en2 := nd_len r2; subst en2; have R2 := hide r2; have G2 := hide (Grows.trans (unhide GA) (show Grows _ w2 nv (.slice (some ⟨g2, 0, none⟩) (us ++ [X]).length c2) from ⟨gr2, (by rcases o2 with o2 | o2; exact .inl o2.symm; exact .inr (fun y hy => by cases hy; exact Nat.le_of_eq o2.symm))⟩)); clear r2 gr2 o2 RA GA C0 C1 C2 C3 HW)
      | fail)
    refine (partsB_if _ _ _ _ _ _ _).mono ?_
    rintro e w3 ⟨⟨a1, n1, cap1, rfl, hn1, hrw⟩, b3⟩
    have HR := hide (show ([.iface ta ua, .iface tb ub, .iface td ud] : List Value) = [] ∨ ∃ g, a1 = some ⟨g, 0, none⟩ ∧ g < w3.heap.size ∧ (Value.slice (some ⟨g2, 0, none⟩) (us ++ [X]).length c2).ownBlock ≠ some g ∧ RowAt w3 g [.iface ta ua, .iface tb ub, .iface td ud] from by
      rcases hrw with h | ⟨g', h1, h2, h3, h4⟩
      · exact .inl h
      · have q1 := (unhide R2).ge g2 rfl
        have q2 := (unhide R2).lt g2 rfl
        exact .inr ⟨g', h1, h3, by simp only [Value.ownBlock]; intro e; injection e with e; subst e; omega, h4⟩)
    clear hrw
    obtain ⟨wl, hws⟩ : ∃ u : List Value, u = [.iface ta ua, .iface tb ub, .iface td ud] := ⟨_, rfl⟩
    replace HF : Hid (FormsAre B W0 l wl) := by rw [hws]; exact HF
    replace HCL : Hid (wl.length = cnt l) := by rw [hws]; exact HCL
    replace hn1 : Hid (n1 = wl.length) := by rw [hws]; exact hn1
    replace HR : Hid (wl = [] ∨ ∃ g, a1 = some ⟨g, 0, none⟩ ∧ g < w3.heap.size ∧ (Value.slice (some ⟨g2, 0, none⟩) (us ++ [X]).length c2).ownBlock ≠ some g ∧ RowAt w3 g wl) := by rw [hws]; exact HR
    clear hws
    have hnl : n1 = cnt l := (unhide hn1).trans (unhide HCL)
    subst hnl
    have R3 := hide ((unhide R2).up b3)
    have G3 := hide ((unhide G2).trans (Grows.of_below b3))
    have B3 := hide ((unhide G3).below (unhide HB) (fun y hy => (unhide OWN) y hy))
    have OWN3 := hide (fun y (hy : (Value.slice (some ⟨g2, 0, none⟩) (us ++ [X]).length c2).ownBlock = some y) => (unhide R3).ge y hy)
    clear b3 R2 G2
    have hlen2 : (us ++ [X]).length = us.length + 1 := by simp
    rw [hlen2] at R3 G3 HR OWN3
    try rw [hlen2]
    clear hlen2
    generalize us.length + 1 = m2 at *
    go_wp2_with fail
    go_loopw [0, 15] (fun lv i wr => ∃ (done todo : BT NodeV) (j : Nat) (va : Option Addr) (vn vc : Nat), Hid (l = app done todo) ∧ Hid (j = cnt done) ∧ lv = .slice va vn vc ∧ i = .int .i64 j ∧ Hid (NdRow W0.heap.size wr (.slice va vn vc) (us ++ X :: fl done)) ∧ Hid (Grows w3 wr (.slice (some ⟨g2, 0, none⟩) m2 c2) (.slice va vn vc))) (fun _ i _ => cnt l - (intOf i).toNat)
    case atStart => exact ⟨.nil, l, 0, _, _, _, hide rfl, hide rfl, rfl, rfl, R3, hide (Grows.refl _ _)⟩
    case round =>
      obtain ⟨done, todo, j, va, vn, vc, hle, hj, rfl, rfl, RR, GR⟩ := hrel
      cases todo with
      | nil =>
        have he := unhide hle
        rw [app_nil] at he
        have hz : ¬ (j : Int) < (cnt l : Int) := by rw [unhide hj, he]; omega
        have RF := unhide RR
        rw [← he] at RF
        have HRF := hide RF
        have GF := hide ((unhide G3).trans (unhide GR))
        clear he RF
        go_wp2_with fail
        go_ret
        exact ⟨_, rfl, HRF, GF⟩
      | node b' o' y p r =>
        have BW := hide ((unhide GR).below (unhide B3) (unhide OWN3))
        have hfr : FormsAre B W0 (app done (.node b' o' y p r)) wl := by rw [← unhide hle]; exact unhide HF
        obtain ⟨hjl, ty, uy, wy, hv, hfm, hny⟩ := hfr.next
        have hin : y ∈ fl l ∧ ∀ z ∈ fl p, z ∈ fl l := by
          rw [unhide hle, fl_app]
          exact ⟨by simp [fl], fun z hz => by simp [fl, hz]⟩
        have hln : (us ++ X :: fl done).length + (fl p).length + 1 ≤ 1000000 := by
          have h9 := unhide HSZ
          rw [unhide hle, fl_app] at h9
          simp only [List.length_append, List.length_cons, fl] at h9 ⊢
          omega
        have HD := hide (unhide IH y p (by rw [unhide hle]; exact inF_app y p done b' o' r) W0 wr B (.iface ty uy) (.slice va vn vc) wy (us ++ X :: fl done) hfm hny (unhide HL y hin.1) (fun z hz => unhide HL z (hin.2 z hz)) (unhide BW) (unhide RR) hln)
        have hjc : (j : Int) < (cnt l : Int) := by rw [unhide hj, ← unhide HCL]; omega
        obtain ⟨g1, ha1, hg1, hne1, hrow1⟩ : ∃ g, a1 = some ⟨g, 0, none⟩ ∧ g < w3.heap.size ∧ (Value.slice (some ⟨g2, 0, none⟩) m2 c2).ownBlock ≠ some g ∧ RowAt w3 g wl := by
          rcases unhide HR with h | h
          · subst h; simp at hjl
          · exact h
        subst ha1
        have hcell : wr.cell? ⟨g1, j, none⟩ = some (.iface ty uy) := by
          rw [(unhide GR).cell hg1 hne1, unhide hj, hrow1 _ hjl, hv]
        have hle' := hide ((unhide hle).trans (app_snoc done b' o' y p r))
        have hj' := hide (show j + 1 = cnt (app done (.node b' o' y p .nil)) by rw [unhide hj, cnt_app]; rfl)
        have HFL := hide (show (us ++ X :: fl done) ++ y :: fl p = us ++ X :: fl (app done (.node b' o' y p .nil)) by rw [fl_app]; simp [fl])
        clear hfr hv hfm hny hrow1 hjl hin hln
        go_wp2_with fail
        refine (unhide HD).mono ?_
        rintro e w4 ⟨nv4, rfl, R4, G4⟩
        obtain ⟨a4, c4, e4⟩ := (unhide R4).slice
        subst e4
        generalize ((us ++ X :: fl done) ++ y :: fl p).length = m4 at *
        rw [unhide HFL] at R4
        have GG := hide ((unhide GR).trans (unhide G4))
        clear HD R3 GR RR G4
        go_wp2_with fail
        go_roundw
        case rel => exact ⟨_, r, _, _, _, _, hle', hj', rfl, by go_num, R4, GG⟩
        case measure => simp [intOf]; omega
  · simp only at hk
    subst hk
    obtain rfl := h1 (by decide)
    obtain rfl : c = 2 := h3.trans (by decide)
    obtain ⟨ta, ua, rfl⟩ := hif a (by simp)
    obtain ⟨tb, ub, rfl⟩ := hif b (by simp)
    try clear hif
    try clear hk
    try clear h1
    try clear h2
    try clear h3
    try dsimp only
    have HNO := hide (fun W => nodeR_let s ta ua tb ub W)
    generalize hX : (⟨22, 0, s, 2⟩ : NodeV) = X at *
    clear hX
    go_enter Tryz.func52, Tryz.ntmps52
    go_wp2_with fail
    refine (unhide HNO _).mono ?_
    rintro e w1 ⟨rfl, b1⟩
    simp only [nodeAgg]
    clear HNO
    have hbA := (Below.refl w1.heap.size w1).alloc (Nat.le_refl _) (.cells #[.int .i64 X.kind, .int .i64 X.num, .string X.name, .int .i64 X.kids] 49)
    have RA := hide (((unhide HROW).up b1).up hbA)
    have GA := hide ((Grows.of_below (nv := nv) b1).trans (Grows.of_below (nv := nv) hbA))
    have C0 := hide (show (w1.alloc (.cells #[.int .i64 X.kind, .int .i64 X.num, .string X.name, .int .i64 X.kids] 49)).cell? ⟨w1.heap.size, 0, none⟩ = some (.int .i64 X.kind) from World.cell?_alloc_at _ _ _ _ rfl)
    have C1 := hide (show (w1.alloc (.cells #[.int .i64 X.kind, .int .i64 X.num, .string X.name, .int .i64 X.kids] 49)).cell? ⟨w1.heap.size, 1, none⟩ = some (.int .i64 X.num) from World.cell?_alloc_at _ _ _ _ rfl)
    have C2 := hide (show (w1.alloc (.cells #[.int .i64 X.kind, .int .i64 X.num, .string X.name, .int .i64 X.kids] 49)).cell? ⟨w1.heap.size, 2, none⟩ = some (.string X.name) from World.cell?_alloc_at _ _ _ _ rfl)
    have C3 := hide (show (w1.alloc (.cells #[.int .i64 X.kind, .int .i64 X.num, .string X.name, .int .i64 X.kids] 49)).cell? ⟨w1.heap.size, 3, none⟩ = some (.int .i64 X.kids) from World.cell?_alloc_at _ _ _ _ rfl)
    have HW := hide (show W0.heap.size ≤ (w1.alloc (.cells #[.int .i64 X.kind, .int .i64 X.num, .string X.name, .int .i64 X.kids] 49)).heap.size from Nat.le_trans hg0 (Nat.le_trans b1.size hbA.size))
    clear b1 hbA HROW
    go_wp2_with (first
      | (at_builtin; refine wpList_ndAppend rfl _ _ rfl W0.heap.size nv us X w1.heap.size rfl rfl (unhide RA) (unhide C0) (unhide C1) (unhide C2) (unhide C3) (by have := unhide HSZ; omega) (unhide HW) ?_; intro g2 n2 c2 w2 r2 gr2 o2; have en2 := nd_len r2; subst en2; have R2 := hide r2; have G2 := hide (Grows.trans (unhide GA) (show Grows _ w2 nv (.slice (some ⟨g2, 0, none⟩) (us ++ [X]).length c2) from ⟨gr2, (by rcases o2 with o2 | o2; exact .inl o2.symm; exact .inr (fun y hy => by cases hy; exact Nat.le_of_eq o2.symm))⟩)); clear r2 gr2 o2 RA GA C0 C1 C2 C3 HW)
      | fail)
    refine (partsB_let _ _ _ _ _ _).mono ?_
    rintro e w3 ⟨⟨a1, n1, cap1, rfl, hn1, hrw⟩, b3⟩
    have HR := hide (show ([.iface ta ua, .iface tb ub] : List Value) = [] ∨ ∃ g, a1 = some ⟨g, 0, none⟩ ∧ g < w3.heap.size ∧ (Value.slice (some ⟨g2, 0, none⟩) (us ++ [X]).length c2).ownBlock ≠ some g ∧ RowAt w3 g [.iface ta ua, .iface tb ub] from by
      rcases hrw with h | ⟨g', h1, h2, h3, h4⟩
      · exact .inl h
      · have q1 := (unhide R2).ge g2 rfl
        have q2 := (unhide R2).lt g2 rfl
        exact .inr ⟨g', h1, h3, by simp only [Value.ownBlock]; intro e; injection e with e; subst e; omega, h4⟩)
    clear hrw
    obtain ⟨wl, hws⟩ : ∃ u : List Value, u = [.iface ta ua, .iface tb ub] := ⟨_, rfl⟩
    replace HF : Hid (FormsAre B W0 l wl) := by rw [hws]; exact HF
    replace HCL : Hid (wl.length = cnt l) := by rw [hws]; exact HCL
    replace hn1 : Hid (n1 = wl.length) := by rw [hws]; exact hn1
    replace HR : Hid (wl = [] ∨ ∃ g, a1 = some ⟨g, 0, none⟩ ∧ g < w3.heap.size ∧ (Value.slice (some ⟨g2, 0, none⟩) (us ++ [X]).length c2).ownBlock ≠ some g ∧ RowAt w3 g wl) := by rw [hws]; exact HR
    clear hws
    have hnl : n1 = cnt l := (unhide hn1).trans (unhide HCL)
    subst hnl
    have R3 := hide ((unhide R2).up b3)
    have G3 := hide ((unhide G2).trans (Grows.of_below b3))
    have B3 := hide ((unhide G3).below (unhide HB) (fun y hy => (unhide OWN) y hy))
    have OWN3 := hide (fun y (hy : (Value.slice (some ⟨g2, 0, none⟩) (us ++ [X]).length c2).ownBlock = some y) => (unhide R3).ge y hy)
    clear b3 R2 G2
    have hlen2 : (us ++ [X]).length = us.length + 1 := by simp
    rw [hlen2] at R3 G3 HR OWN3
    try rw [hlen2]
    clear hlen2
    generalize us.length + 1 = m2 at *
    go_wp2_with fail
    go_loopw [0, 15] (fun lv i wr => ∃ (done todo : BT NodeV) (j : Nat) (va : Option Addr) (vn vc : Nat), Hid (l = app done todo) ∧ Hid (j = cnt done) ∧ lv = .slice va vn vc ∧ i = .int .i64 j ∧ Hid (NdRow W0.heap.size wr (.slice va vn vc) (us ++ X :: fl done)) ∧ Hid (Grows w3 wr (.slice (some ⟨g2, 0, none⟩) m2 c2) (.slice va vn vc))) (fun _ i _ => cnt l - (intOf i).toNat)
    case atStart => exact ⟨.nil, l, 0, _, _, _, hide rfl, hide rfl, rfl, rfl, R3, hide (Grows.refl _ _)⟩
    case round =>
      obtain ⟨done, todo, j, va, vn, vc, hle, hj, rfl, rfl, RR, GR⟩ := hrel
      cases todo with
      | nil =>
        have he := unhide hle
        rw [app_nil] at he
        have hz : ¬ (j : Int) < (cnt l : Int) := by rw [unhide hj, he]; omega
        have RF := unhide RR
        rw [← he] at RF
        have HRF := hide RF
        have GF := hide ((unhide G3).trans (unhide GR))
        clear he RF
        go_wp2_with fail
        go_ret
        exact ⟨_, rfl, HRF, GF⟩
      | node b' o' y p r =>
        have BW := hide ((unhide GR).below (unhide B3) (unhide OWN3))
        have hfr : FormsAre B W0 (app done (.node b' o' y p r)) wl := by rw [← unhide hle]; exact unhide HF
        obtain ⟨hjl, ty, uy, wy, hv, hfm, hny⟩ := hfr.next
        have hin : y ∈ fl l ∧ ∀ z ∈ fl p, z ∈ fl l := by
          rw [unhide hle, fl_app]
          exact ⟨by simp [fl], fun z hz => by simp [fl, hz]⟩
        have hln : (us ++ X :: fl done).length + (fl p).length + 1 ≤ 1000000 := by
          have h9 := unhide HSZ
          rw [unhide hle, fl_app] at h9
          simp only [List.length_append, List.length_cons, fl] at h9 ⊢
          omega
        have HD := hide (unhide IH y p (by rw [unhide hle]; exact inF_app y p done b' o' r) W0 wr B (.iface ty uy) (.slice va vn vc) wy (us ++ X :: fl done) hfm hny (unhide HL y hin.1) (fun z hz => unhide HL z (hin.2 z hz)) (unhide BW) (unhide RR) hln)
        have hjc : (j : Int) < (cnt l : Int) := by rw [unhide hj, ← unhide HCL]; omega
        obtain ⟨g1, ha1, hg1, hne1, hrow1⟩ : ∃ g, a1 = some ⟨g, 0, none⟩ ∧ g < w3.heap.size ∧ (Value.slice (some ⟨g2, 0, none⟩) m2 c2).ownBlock ≠ some g ∧ RowAt w3 g wl := by
          rcases unhide HR with h | h
          · subst h; simp at hjl
          · exact h
        subst ha1
        have hcell : wr.cell? ⟨g1, j, none⟩ = some (.iface ty uy) := by
          rw [(unhide GR).cell hg1 hne1, unhide hj, hrow1 _ hjl, hv]
        have hle' := hide ((unhide hle).trans (app_snoc done b' o' y p r))
        have hj' := hide (show j + 1 = cnt (app done (.node b' o' y p .nil)) by rw [unhide hj, cnt_app]; rfl)
        have HFL := hide (show (us ++ X :: fl done) ++ y :: fl p = us ++ X :: fl (app done (.node b' o' y p .nil)) by rw [fl_app]; simp [fl])
        clear hfr hv hfm hny hrow1 hjl hin hln
        go_wp2_with fail
        refine (unhide HD).mono ?_
        rintro e w4 ⟨nv4, rfl, R4, G4⟩
        obtain ⟨a4, c4, e4⟩ := (unhide R4).slice
        subst e4
        generalize ((us ++ X :: fl done) ++ y :: fl p).length = m4 at *
        rw [unhide HFL] at R4
        have GG := hide ((unhide GR).trans (unhide G4))
        clear HD R3 GR RR G4
        go_wp2_with fail
        go_roundw
        case rel => exact ⟨_, r, _, _, _, _, hle', hj', rfl, by go_num, R4, GG⟩
        case measure => simp [intOf]; omega
  · simp only at hk
    subst hk
    obtain rfl := h1 (by decide)
    obtain rfl : c = 3 := h3.trans (by decide)
    obtain ⟨ta, ua, rfl⟩ := hif a (by simp)
    obtain ⟨tb, ub, rfl⟩ := hif b (by simp)
    obtain ⟨td, ud, rfl⟩ := hif d (by simp)
    try clear hif
    try clear hk
    try clear h1
    try clear h2
    try clear h3
    try dsimp only
    have HNO := hide (fun W => nodeR_rep s ta ua tb ub td ud W)
    generalize hX : (⟨23, 0, s, 3⟩ : NodeV) = X at *
    clear hX
    go_enter Tryz.func52, Tryz.ntmps52
    go_wp2_with fail
    refine (unhide HNO _).mono ?_
    rintro e w1 ⟨rfl, b1⟩
    simp only [nodeAgg]
    clear HNO
    have hbA := (Below.refl w1.heap.size w1).alloc (Nat.le_refl _) (.cells #[.int .i64 X.kind, .int .i64 X.num, .string X.name, .int .i64 X.kids] 49)
    have RA := hide (((unhide HROW).up b1).up hbA)
    have GA := hide ((Grows.of_below (nv := nv) b1).trans (Grows.of_below (nv := nv) hbA))
    have C0 := hide (show (w1.alloc (.cells #[.int .i64 X.kind, .int .i64 X.num, .string X.name, .int .i64 X.kids] 49)).cell? ⟨w1.heap.size, 0, none⟩ = some (.int .i64 X.kind) from World.cell?_alloc_at _ _ _ _ rfl)
    have C1 := hide (show (w1.alloc (.cells #[.int .i64 X.kind, .int .i64 X.num, .string X.name, .int .i64 X.kids] 49)).cell? ⟨w1.heap.size, 1, none⟩ = some (.int .i64 X.num) from World.cell?_alloc_at _ _ _ _ rfl)
    have C2 := hide (show (w1.alloc (.cells #[.int .i64 X.kind, .int .i64 X.num, .string X.name, .int .i64 X.kids] 49)).cell? ⟨w1.heap.size, 2, none⟩ = some (.string X.name) from World.cell?_alloc_at _ _ _ _ rfl)
    have C3 := hide (show (w1.alloc (.cells #[.int .i64 X.kind, .int .i64 X.num, .string X.name, .int .i64 X.kids] 49)).cell? ⟨w1.heap.size, 3, none⟩ = some (.int .i64 X.kids) from World.cell?_alloc_at _ _ _ _ rfl)
    have HW := hide (show W0.heap.size ≤ (w1.alloc (.cells #[.int .i64 X.kind, .int .i64 X.num, .string X.name, .int .i64 X.kids] 49)).heap.size from Nat.le_trans hg0 (Nat.le_trans b1.size hbA.size))
    clear b1 hbA HROW
    go_wp2_with (first
      | (at_builtin; refine wpList_ndAppend rfl _ _ rfl W0.heap.size nv us X w1.heap.size rfl rfl (unhide RA) (unhide C0) (unhide C1) (unhide C2) (unhide C3) (by have := unhide HSZ; omega) (unhide HW) ?_; intro g2 n2 c2 w2 r2 gr2 o2; have en2 := nd_len r2; subst en2; have R2 := hide r2; have G2 := hide (Grows.trans (unhide GA) (show Grows _ w2 nv (.slice (some ⟨g2, 0, none⟩) (us ++ [X]).length c2) from ⟨gr2, (by rcases o2 with o2 | o2; exact .inl o2.symm; exact .inr (fun y hy => by cases hy; exact Nat.le_of_eq o2.symm))⟩)); clear r2 gr2 o2 RA GA C0 C1 C2 C3 HW)
      | fail)
    refine (partsB_rep _ _ _ _ _ _ _ _).mono ?_
    rintro e w3 ⟨⟨a1, n1, cap1, rfl, hn1, hrw⟩, b3⟩
    have HR := hide (show ([.iface ta ua, .iface tb ub, .iface td ud] : List Value) = [] ∨ ∃ g, a1 = some ⟨g, 0, none⟩ ∧ g < w3.heap.size ∧ (Value.slice (some ⟨g2, 0, none⟩) (us ++ [X]).length c2).ownBlock ≠ some g ∧ RowAt w3 g [.iface ta ua, .iface tb ub, .iface td ud] from by
      rcases hrw with h | ⟨g', h1, h2, h3, h4⟩
      · exact .inl h
      · have q1 := (unhide R2).ge g2 rfl
        have q2 := (unhide R2).lt g2 rfl
        exact .inr ⟨g', h1, h3, by simp only [Value.ownBlock]; intro e; injection e with e; subst e; omega, h4⟩)
    clear hrw
    obtain ⟨wl, hws⟩ : ∃ u : List Value, u = [.iface ta ua, .iface tb ub, .iface td ud] := ⟨_, rfl⟩
    replace HF : Hid (FormsAre B W0 l wl) := by rw [hws]; exact HF
    replace HCL : Hid (wl.length = cnt l) := by rw [hws]; exact HCL
    replace hn1 : Hid (n1 = wl.length) := by rw [hws]; exact hn1
    replace HR : Hid (wl = [] ∨ ∃ g, a1 = some ⟨g, 0, none⟩ ∧ g < w3.heap.size ∧ (Value.slice (some ⟨g2, 0, none⟩) (us ++ [X]).length c2).ownBlock ≠ some g ∧ RowAt w3 g wl) := by rw [hws]; exact HR
    clear hws
    have hnl : n1 = cnt l := (unhide hn1).trans (unhide HCL)
    subst hnl
    have R3 := hide ((unhide R2).up b3)
    have G3 := hide ((unhide G2).trans (Grows.of_below b3))
    have B3 := hide ((unhide G3).below (unhide HB) (fun y hy => (unhide OWN) y hy))
    have OWN3 := hide (fun y (hy : (Value.slice (some ⟨g2, 0, none⟩) (us ++ [X]).length c2).ownBlock = some y) => (unhide R3).ge y hy)
    clear b3 R2 G2
    have hlen2 : (us ++ [X]).length = us.length + 1 := by simp
    rw [hlen2] at R3 G3 HR OWN3
    try rw [hlen2]
    clear hlen2
    generalize us.length + 1 = m2 at *
    go_wp2_with fail
    go_loopw [0, 15] (fun lv i wr => ∃ (done todo : BT NodeV) (j : Nat) (va : Option Addr) (vn vc : Nat), Hid (l = app done todo) ∧ Hid (j = cnt done) ∧ lv = .slice va vn vc ∧ i = .int .i64 j ∧ Hid (NdRow W0.heap.size wr (.slice va vn vc) (us ++ X :: fl done)) ∧ Hid (Grows w3 wr (.slice (some ⟨g2, 0, none⟩) m2 c2) (.slice va vn vc))) (fun _ i _ => cnt l - (intOf i).toNat)
    case atStart => exact ⟨.nil, l, 0, _, _, _, hide rfl, hide rfl, rfl, rfl, R3, hide (Grows.refl _ _)⟩
    case round =>
      obtain ⟨done, todo, j, va, vn, vc, hle, hj, rfl, rfl, RR, GR⟩ := hrel
      cases todo with
      | nil =>
        have he := unhide hle
        rw [app_nil] at he
        have hz : ¬ (j : Int) < (cnt l : Int) := by rw [unhide hj, he]; omega
        have RF := unhide RR
        rw [← he] at RF
        have HRF := hide RF
        have GF := hide ((unhide G3).trans (unhide GR))
        clear he RF
        go_wp2_with fail
        go_ret
        exact ⟨_, rfl, HRF, GF⟩
      | node b' o' y p r =>
        have BW := hide ((unhide GR).below (unhide B3) (unhide OWN3))
        have hfr : FormsAre B W0 (app done (.node b' o' y p r)) wl := by rw [← unhide hle]; exact unhide HF
        obtain ⟨hjl, ty, uy, wy, hv, hfm, hny⟩ := hfr.next
        have hin : y ∈ fl l ∧ ∀ z ∈ fl p, z ∈ fl l := by
          rw [unhide hle, fl_app]
          exact ⟨by simp [fl], fun z hz => by simp [fl, hz]⟩
        have hln : (us ++ X :: fl done).length + (fl p).length + 1 ≤ 1000000 := by
          have h9 := unhide HSZ
          rw [unhide hle, fl_app] at h9
          simp only [List.length_append, List.length_cons, fl] at h9 ⊢
          omega
        have HD := hide (unhide IH y p (by rw [unhide hle]; exact inF_app y p done b' o' r) W0 wr B (.iface ty uy) (.slice va vn vc) wy (us ++ X :: fl done) hfm hny (unhide HL y hin.1) (fun z hz => unhide HL z (hin.2 z hz)) (unhide BW) (unhide RR) hln)
        have hjc : (j : Int) < (cnt l : Int) := by rw [unhide hj, ← unhide HCL]; omega
        obtain ⟨g1, ha1, hg1, hne1, hrow1⟩ : ∃ g, a1 = some ⟨g, 0, none⟩ ∧ g < w3.heap.size ∧ (Value.slice (some ⟨g2, 0, none⟩) m2 c2).ownBlock ≠ some g ∧ RowAt w3 g wl := by
          rcases unhide HR with h | h
          · subst h; simp at hjl
          · exact h
        subst ha1
        have hcell : wr.cell? ⟨g1, j, none⟩ = some (.iface ty uy) := by
          rw [(unhide GR).cell hg1 hne1, unhide hj, hrow1 _ hjl, hv]
        have hle' := hide ((unhide hle).trans (app_snoc done b' o' y p r))
        have hj' := hide (show j + 1 = cnt (app done (.node b' o' y p .nil)) by rw [unhide hj, cnt_app]; rfl)
        have HFL := hide (show (us ++ X :: fl done) ++ y :: fl p = us ++ X :: fl (app done (.node b' o' y p .nil)) by rw [fl_app]; simp [fl])
        clear hfr hv hfm hny hrow1 hjl hin hln
        go_wp2_with fail
        refine (unhide HD).mono ?_
        rintro e w4 ⟨nv4, rfl, R4, G4⟩
        obtain ⟨a4, c4, e4⟩ := (unhide R4).slice
        subst e4
        generalize ((us ++ X :: fl done) ++ y :: fl p).length = m4 at *
        rw [unhide HFL] at R4
        have GG := hide ((unhide GR).trans (unhide G4))
        clear HD R3 GR RR G4
        go_wp2_with fail
        go_roundw
        case rel => exact ⟨_, r, _, _, _, _, hle', hj', rfl, by go_num, R4, GG⟩
        case measure => simp [intOf]; omega
theorem app_all (f : BT NodeV) : ∀ y m, InF y m f → AppSaid y m := by
  induction f with
  | nil => intro y m h; exact h.elim
  | node b o x l r ihl ihr =>
    intro y m h
    rcases h with ⟨rfl, rfl⟩ | h
    · exact app_one y m ihl
    · exact ihr y m h
theorem app_any (x : NodeV) (l : BT NodeV) : AppSaid x l := app_one x l (app_all l)
end Go.Proofs.YtjfebnplffpmoaaGreatDoor
