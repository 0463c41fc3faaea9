/-
  The disk at work is cut, and nothing but its own block is written.
-/
/-
  The program's log is opened. (Made by wip/mklogopen.py.)
-/
import Derived.Test.YtddmomcanakoiaaMerged11
import Derived.Test.YtddmomcanakoiaaMerged14
import Derived.Test.YtddmomcanakoiaaBookPut
set_option linter.unusedVariables false
namespace Go.Proofs.Ytddmomcanakoiaa
open Go.RowKit Go.Maps Go.Deep

set_option maxHeartbeats 6400000 in
theorem attempt_doneT (B : Nat) (g p1 p2 : Nat) (w : World) (v1 : Value) (D : DiskV) (hgl : g < w.heap.size) (hB : B ≤ w.heap.size)
    (HA : Calls Try.prog 70 #[.func (.func 78) #[] #[.pointer (some ⟨w.heap.size, 0, none⟩)], .pointer (some ⟨p1, 0, none⟩), .pointer (some ⟨p2, 0, none⟩)] (attW w g) fun e w' => e = .returned (.tuple #[]) ∧ Hid (∃ v, Drive B w' g v v1 D ∧ Turn [g] (attW w g) w' ∧ (∀ k, v.ownBlock = some k → (attW w g).heap.size ≤ k) ∧ w'.cell? ⟨w.heap.size + 1, 0, none⟩ = some (.int .i64 0) ∧ w'.frozen? ⟨w.heap.size + 1, 0, none⟩ = false ∧ (v.ownBlock ≠ some (w.heap.size + 1)) ∧ (v1.ownBlock ≠ some (w.heap.size + 1)))) :
    Calls Try.prog 69 #[.pointer (some ⟨g, 0, none⟩), .func (.func 70) #[] #[.pointer (some ⟨p1, 0, none⟩), .pointer (some ⟨p2, 0, none⟩)]] w fun e w' => e = .returned (.int .i64 0) ∧ Hid (∃ v, Drive B w' g v v1 D ∧ Turn [g] w w' ∧ ∀ k, v.ownBlock = some k → w.heap.size ≤ k) := by
  have hmf : ∀ (fn : Fn) (first cap : Array Value) (w : World), (Instr.makeFunc fn first cap).run Try.prog w = .ok (.func fn first cap) w := fun _ _ _ _ => rfl
  have HH := hide HA
  have BU := hide (attW_up w g)
  clear HA
  go_enter_defers Try.func69, Try.ntmps69
  go_wp2_with fail
  refine (unhide HH).mono ?_
  rintro e w2 ⟨rfl, P2⟩
  obtain ⟨v, p3, p4, k0, k1, k2, k3, k4⟩ := unhide P2
  have hs := attW_size w g
  have HP := hide (show ∃ v, Drive B (w2.setCell ⟨w.heap.size + 1, 0, none⟩ (.int .i64 0)) g v v1 D ∧ Turn [g] w (w2.setCell ⟨w.heap.size + 1, 0, none⟩ (.int .i64 0)) ∧ ∀ k, v.ownBlock = some k → w.heap.size ≤ k from by
    have ht : Turn [w.heap.size + 1] w2 (w2.setCell ⟨w.heap.size + 1, 0, none⟩ (.int .i64 0)) := (Turn.refl _ w2).setCell (by simp) 0 _
    refine ⟨v, p3.turn ht (by simp; omega) (fun k hk hm => by simp at hm; subst hm; exact k3 hk) (fun k hk hm => by simp at hm; subst hm; exact k4 hk), ?_, fun k hk => by have := k0 k hk; omega⟩
    have q1 : Turn [g, w.heap.size + 1] w (w2.setCell ⟨w.heap.size + 1, 0, none⟩ (.int .i64 0)) := (Turn.trans (Turn.of_below (unhide BU)) (p4.mono (fun k hk => .inl (by simp at hk; simp [hk])))).trans (ht.mono (fun k hk => .inl (by simp at hk; simp [hk])))
    exact q1.mono (fun k hk => by simp at hk; rcases hk with rfl | rfl <;> simp))
  clear hs
  have ks : (w2.setCell ⟨w.heap.size + 1, 0, none⟩ (.int .i64 0)).cell? ⟨w.heap.size + 1, 0, none⟩ = some (.int .i64 0) := World.cell?_setCell_same _ _ _ k1
  clear P2 p3 p4 HH k0
  go_wp2_with fail
  refine leaves_cons (f := 76) (args := #[.pointer (some ⟨w.heap.size, 0, none⟩), .pointer (some ⟨w.heap.size + 1, 0, none⟩)]) (by simp) (by simp [go_sem]) ?_
  refine (catch_idle _ _ _).mono ?_
  rintro e u' w'' ⟨rfl, rfl, rfl⟩
  simp [Leaves, settle, results, Try.results69, go_sem, ks]
  exact unhide HP
theorem cut_readyT (B : Nat) (w : World) (g at' : Nat) (v0 v1 : Value) (d : DiskV) (hl : d.safe.length + d.soft.length ≤ 8000) (hB : B ≤ w.heap.size) (ha : at' ≤ d.safe.length + d.soft.length) (h : Drive B w g v0 v1 d) (hf : d.fuse ≠ 0) (hf1 : -1 ≤ d.fuse) (hf2 : d.fuse ≤ 400) :
    Calls Try.prog 69 #[.pointer (some ⟨g, 0, none⟩), .func (.func 70) #[] #[.pointer (some ⟨w.heap.size, 0, none⟩), .pointer (some ⟨w.heap.size + 1, 0, none⟩)]] (cutW w g (at' : Int)) fun e w' => e = .returned (.int .i64 0) ∧ Hid (∃ v, Drive B w' g v (.slice none 0 0) (cutD d at') ∧ Turn [g] (cutW w g (at' : Int)) w' ∧ ∀ k, v.ownBlock = some k → (cutW w g (at' : Int)).heap.size ≤ k) := by
  have hs := cutW_size w g at'
  have hup := cutW_up w g at'
  have hD := h.up hup
  have hgl := h.lt
  obtain ⟨q1, q2⟩ := cutW_cells w g (at' : Int)
  generalize cutW w g (at' : Int) = W at *
  refine attempt_doneT B g _ _ W (.slice none 0 0) (cutD d at') hD.lt (by omega) ?_
  have ua := attW_up W g
  have sa := attW_size W g
  refine (cutAct_done B (attW W g) g W.heap.size w.heap.size (w.heap.size + 1) at' v0 v1 d hl (by omega) ha (hD.up ua) (attW_gw W g) ((ua.cell (by simp only; omega)).trans q1) ((ua.cell (by simp only; omega)).trans q2) (by omega) (by omega) hf hf1 hf2).mono ?_
  rintro e w' ⟨rfl, P⟩
  obtain ⟨v, p1, p2, p3⟩ := unhide P
  obtain ⟨k0, k1, k2⟩ := attW_gc W g
  have hn : W.heap.size + 1 ∉ [g] := by have := hD.lt; simp; omega
  have kb : w'.heap[W.heap.size + 1]? = some (.cells #[.int .i64 0] 3) := (p2.block _ (by omega) hn).trans k0
  exact ⟨rfl, hide ⟨v, p1, p2, p3, (p2.cell (by omega) hn).trans k1, (p2.frozen (by omega) hn).trans k2, row_apart kb p1.r0 tIntBy, by simp [Value.ownBlock]⟩⟩
set_option maxHeartbeats 3200000 in
theorem driveCut_yes (B : Nat) (w : World) (g at' : Nat) (v0 v1 : Value) (d : DiskV) (hl : d.safe.length + d.soft.length ≤ 8000) (hB : B ≤ w.heap.size) (ha : at' ≤ d.safe.length + d.soft.length) (h : Drive B w g v0 v1 d) (hf1 : -1 ≤ d.fuse) (hf2 : d.fuse ≤ 400) (hdn : d.down = false) (hf : d.fuse ≠ 0) :
    Calls Try.prog 55 #[.pointer (some ⟨g, 0, none⟩), .int .i64 (at' : Int)] w fun e w' => e = .returned (.int .i64 0) ∧ Hid (∃ v, Drive B w' g v (.slice none 0 0) (cutD d at') ∧ Turn [g] w w' ∧ ∀ k, v.ownBlock = some k → w.heap.size ≤ k) := by
  have hmf : ∀ (fn : Fn) (first cap : Array Value) (w : World), (Instr.makeFunc fn first cap).run Try.prog w = .ok (.func fn first cap) w := fun _ _ _ _ => rfl
  have bu := cutW_up w g at'
  have hD := h.up bu
  have c3 := hD.c3
  unfold cutW at c3
  have HZ := hide (cutW_size w g at')
  have HA := hide (cut_readyT B w g at' v0 v1 d hl hB ha h hf hf1 hf2)
  have HB := hide bu
  unfold cutW at HA HB HZ
  rw [hdn] at c3
  clear h hD bu hdn
  go_enter Try.func55, Try.ntmps55
  go_wp2_with fail
  refine (unhide HA).mono ?_
  rintro e w2 ⟨rfl, P⟩
  have HP := hide (unhide P)
  clear P c3
  go_wp2_with fail
  go_ret
  obtain ⟨v, p1, p2, p3⟩ := unhide HP
  exact ⟨rfl, hide ⟨v, p1, (Turn.of_below (unhide HB)).trans p2, fun k hk => by have := p3 k hk; have := unhide HZ; omega⟩⟩
end Go.Proofs.Ytddmomcanakoiaa

set_option linter.unusedVariables false
namespace Go.Proofs.Ytddmomcanakoiaa
open Go.RowKit Go.Maps Go.Deep

/-- the row of records lies apart from what the disk has -/
def Apart3 (vr : Value) (g : Nat) (v v1 : Value) : Prop := ∀ k, vr.ownBlock = some k → k ≠ g ∧ v.ownBlock ≠ some k ∧ v1.ownBlock ≠ some k
theorem apart3_nil (g : Nat) (v v1 : Value) : Apart3 (.slice none 0 0) g v v1 := by intro k hk; simp [Value.ownBlock] at hk
theorem apart3_low {w : World} {B b g : Nat} {vr v v1 : Value} {d : DiskV} (h : Drive B w g v v1 d) (hr : ∀ k, vr.ownBlock = some k → w.heap.size ≤ k) : Apart3 vr g v v1 := by
  intro k hk
  have h0 := hr k hk
  refine ⟨?_, ?_, ?_⟩
  · have := h.lt; omega
  · intro e; have := h.r0.lt k e; omega
  · intro e; have := h.r1.lt k e; omega
def RetBo (B g : Nat) (d : DiskV) (w : World) (e : Ending) (w' : World) : Prop := ∃ ra rn rc v v1, e = .returned (.tuple #[.slice ra rn rc, .int .i64 (boI d)]) ∧ Hid (Drive B w' g v v1 (boD d)) ∧ Hid (RcRow B w' (.slice ra rn rc) (boR d)) ∧ Hid (Apart3 (.slice ra rn rc) g v v1) ∧ Below B w w'
theorem retBo_of {B g : Nat} {d : DiskV} {w w' : World} {O : DiskV} {R : List RecV} {C : Int} {ra : Option Addr} {rn rc : Nat} {v v1 : Value} (he : boD d = O ∧ boR d = R ∧ boI d = C) (D : Drive B w' g v v1 O) (r : RcRow B w' (.slice ra rn rc) R) (ha : Apart3 (.slice ra rn rc) g v v1) (hb : Below B w w') : RetBo B g d w (.returned (.tuple #[.slice ra rn rc, .int .i64 C])) w' := by
  obtain ⟨e1, e2, e3⟩ := he
  subst e1 e2 e3
  exact ⟨ra, rn, rc, v, v1, rfl, D, r, ha, hb⟩
set_option maxHeartbeats 6400000 in
theorem open_down (B : Nat) (w : World) (g : Nat) (v0 v1 : Value) (d : DiskV) (hok : diskOkB d = true) (hB : B ≤ w.heap.size) (h : Drive B w g v0 v1 d) (hd : d.down = true) :
    Calls Try.prog 31 #[.pointer (some ⟨g, 0, none⟩)] w fun e w' => RetBo B g d w e w' := by
  have HP := hide (bo_down hd)
  have HD := hide h
  have c3 := h.c3
  rw [hd] at c3
  clear h hok
  go_enter Try.func31, Try.ntmps31
  go_wp2_with fail
  go_ret2
  exact retBo_of (unhide HP) (unhide HD) (RcRow.nil _ _) (apart3_nil _ _ _) (Below.refl _ _)
set_option maxHeartbeats 6400000 in
theorem open_whole (B : Nat) (w : World) (g : Nat) (v0 v1 : Value) (d : DiskV) (hok : diskOkB d = true) (hB : B ≤ w.heap.size) (h : Drive B w g v0 v1 d) (hd : d.down = false) (h1 : logE (bookL d) = (bookL d).length) :
    Calls Try.prog 31 #[.pointer (some ⟨g, 0, none⟩)] w fun e w' => RetBo B g d w e w' := by
  have HP := hide (bo_whole hd h1)
  have hsm := disk_small hok
  have HD := hide h
  have HALL := hide (fun W (D : Drive B W g v0 v1 d) => all_any d _ W (by omega) D.rd)
  obtain ⟨a0, q0, rfl⟩ := h.r0.slice
  obtain ⟨a1, q1, rfl⟩ := h.r1.slice
  have HRD := hide (fun (v : Value) (W : World) (hv : ByRd W v (bookL d)) => implLogRead_any (bookL d) v W (by rw [bookL_len]; omega) hv)
  have hE : (((logE (bookL d) : Nat) : Int) == (d.safe.length : Int) + (d.soft.length : Int)) = true := by rw [bookL_len] at h1; rw [h1]; simp
  have HLE := hide (log_facts (bookL d)).2.1
  have HBL := hide (bookL_len d)
  have c0 := h.c0
  have c1 := h.c1
  have c2 := h.c2
  have c3 := h.c3
  rw [hd] at c3 HALL
  have HDN := hide hd
  clear h hd h1 hok
  go_enter Try.func31, Try.ntmps31
  go_wp2_with fail
  refine (unhide HALL _ (unhide HD)).mono ?_
  rintro e w1 ⟨x1, y1, z1, rfl, HN1, r1, b1⟩
  have D1 := hide ((unhide HD).up b1)
  have B1 := hide (b1.mono hB)
  have hB1 : B ≤ w1.heap.size := Nat.le_trans hB b1.size
  have RR := hide (show ByRd w1 (.slice x1 y1 z1) (bookL d) from r1.rd)
  clear b1 c0 c1 c2 c3 r1 HD HALL HN1
  go_wp2_with fail
  refine (unhide HRD _ _ (unhide RR)).mono ?_
  rintro e w2 ⟨vr, rfl, R2, b2⟩
  have AP := hide (apart3_low (b := 0) (unhide D1) (unhide R2).ge)
  obtain ⟨ra, rc, hvr⟩ := (unhide R2).slice
  subst hvr
  have RW2 := hide ((unhide R2).mono hB1)
  have D2 := hide ((unhide D1).up b2)
  have B2 := hide ((unhide B1).trans (b2.mono hB1))
  have hB2 : B ≤ w2.heap.size := Nat.le_trans hB1 b2.size
  have c0 := (unhide D2).c0
  have c1 := (unhide D2).c1
  have c2 := (unhide D2).c2
  have c3 := (unhide D2).c3
  clear b2 R2 RR D1 B1 HRD hB1
  generalize logE (bookL d) = E at *
  generalize logRs (bookL d) = RS at *
  generalize hrl : RS.length = rl at *
  have HRL := hide hrl
  clear hrl
  go_wp2_with fail
  refine (size_val _ _ _ _ _ _ _ _ _ (by omega) (by omega)).mono ?_
  rintro e w3 ⟨rfl, b3⟩
  have D3 := hide ((unhide D2).up b3)
  have RW3 := hide ((unhide RW2).up b3)
  have B3 := hide ((unhide B2).trans (b3.mono hB2))
  have hB3 : B ≤ w3.heap.size := Nat.le_trans hB2 b3.size
  clear b3 c0 c1 c2 c3 D2 B2 hB2 RW2
  go_wp2_with fail
  go_ret2
  exact retBo_of (unhide HP) (unhide D3) (unhide RW3) (unhide AP) (unhide B3)
set_option maxHeartbeats 6400000 in
theorem open_fell (B : Nat) (w : World) (g : Nat) (v0 v1 : Value) (d : DiskV) (hok : diskOkB d = true) (hB : B ≤ w.heap.size) (h : Drive B w g v0 v1 d) (hd : d.down = false) (h1 : ¬ logE (bookL d) = (bookL d).length) (hf : d.fuse = 0) :
    Calls Try.prog 31 #[.pointer (some ⟨g, 0, none⟩)] w fun e w' => RetBo B g d w e w' := by
  have HP := hide (bo_fell hd h1 hf)
  have HF := hide (diskOk_fuse hok)
  have HCT := hide (fun W (D : Drive B W g v0 v1 d) (hBW : B ≤ W.heap.size) => driveCut_any B W g (logE (bookL d)) v0 v1 d (disk_small hok) hBW (by have := (log_facts (bookL d)).2.1; rw [bookL_len] at this; exact this) D (diskOk_fuse hok).1 (diskOk_fuse hok).2)
  clear hf
  have hsm := disk_small hok
  have HD := hide h
  have HALL := hide (fun W (D : Drive B W g v0 v1 d) => all_any d _ W (by omega) D.rd)
  obtain ⟨a0, q0, rfl⟩ := h.r0.slice
  obtain ⟨a1, q1, rfl⟩ := h.r1.slice
  have HRD := hide (fun (v : Value) (W : World) (hv : ByRd W v (bookL d)) => implLogRead_any (bookL d) v W (by rw [bookL_len]; omega) hv)
  have hE : (((logE (bookL d) : Nat) : Int) == (d.safe.length : Int) + (d.soft.length : Int)) = false := by rw [bookL_len] at h1; rw [beq_eq_false_iff_ne]; omega
  have HLE := hide (log_facts (bookL d)).2.1
  have HBL := hide (bookL_len d)
  have c0 := h.c0
  have c1 := h.c1
  have c2 := h.c2
  have c3 := h.c3
  rw [hd] at c3 HALL
  have HDN := hide hd
  clear h hd h1 hok
  go_enter Try.func31, Try.ntmps31
  go_wp2_with fail
  refine (unhide HALL _ (unhide HD)).mono ?_
  rintro e w1 ⟨x1, y1, z1, rfl, HN1, r1, b1⟩
  have D1 := hide ((unhide HD).up b1)
  have B1 := hide (b1.mono hB)
  have hB1 : B ≤ w1.heap.size := Nat.le_trans hB b1.size
  have RR := hide (show ByRd w1 (.slice x1 y1 z1) (bookL d) from r1.rd)
  clear b1 c0 c1 c2 c3 r1 HD HALL HN1
  go_wp2_with fail
  refine (unhide HRD _ _ (unhide RR)).mono ?_
  rintro e w2 ⟨vr, rfl, R2, b2⟩
  have AP := hide (apart3_low (b := 0) (unhide D1) (unhide R2).ge)
  obtain ⟨ra, rc, hvr⟩ := (unhide R2).slice
  subst hvr
  have RW2 := hide ((unhide R2).mono hB1)
  have D2 := hide ((unhide D1).up b2)
  have B2 := hide ((unhide B1).trans (b2.mono hB1))
  have hB2 : B ≤ w2.heap.size := Nat.le_trans hB1 b2.size
  have c0 := (unhide D2).c0
  have c1 := (unhide D2).c1
  have c2 := (unhide D2).c2
  have c3 := (unhide D2).c3
  clear b2 R2 RR D1 B1 HRD hB1
  generalize logE (bookL d) = E at *
  generalize logRs (bookL d) = RS at *
  generalize hrl : RS.length = rl at *
  have HRL := hide hrl
  clear hrl
  go_wp2_with fail
  refine (size_val _ _ _ _ _ _ _ _ _ (by omega) (by omega)).mono ?_
  rintro e w3 ⟨rfl, b3⟩
  have D3 := hide ((unhide D2).up b3)
  have RW3 := hide ((unhide RW2).up b3)
  have B3 := hide ((unhide B2).trans (b3.mono hB2))
  have hB3 : B ≤ w3.heap.size := Nat.le_trans hB2 b3.size
  clear b3 c0 c1 c2 c3 D2 B2 hB2 RW2
  go_wp2_with fail
  refine (unhide HCT w3 (unhide D3) hB3).mono ?_
  rintro e w4 ⟨rfl, v4, v5, D4, b4⟩
  have DD4 := hide D4
  have B4 := hide ((unhide B3).trans b4)
  clear D4 b4 D3 B3 HCT RW3
  have hcc := (unhide HP).2.2.2
  rw [hcc]
  have HP2 := hide (show _ ∧ _ ∧ boI d = 2 from ⟨(unhide HP).1, (unhide HP).2.1, (unhide HP).2.2.1.trans hcc⟩)
  clear HP hcc
  go_wp2_with fail
  go_ret2
  exact retBo_of (unhide HP2) (unhide DD4) (RcRow.nil _ _) (apart3_nil _ _ _) (unhide B4)
set_option maxHeartbeats 6400000 in
theorem open_cut (B : Nat) (w : World) (g : Nat) (v0 v1 : Value) (d : DiskV) (hok : diskOkB d = true) (hB : B ≤ w.heap.size) (h : Drive B w g v0 v1 d) (hd : d.down = false) (h1 : ¬ logE (bookL d) = (bookL d).length) (hf : d.fuse ≠ 0) :
    Calls Try.prog 31 #[.pointer (some ⟨g, 0, none⟩)] w fun e w' => RetBo B g d w e w' := by
  have HP := hide (bo_cut hd h1 hf)
  have HF := hide (diskOk_fuse hok)
  have HCT := hide (fun W (D : Drive B W g v0 v1 d) (hBW : B ≤ W.heap.size) => driveCut_yes B W g (logE (bookL d)) v0 v1 d (disk_small hok) hBW (by have := (log_facts (bookL d)).2.1; rw [bookL_len] at this; exact this) D (diskOk_fuse hok).1 (diskOk_fuse hok).2 hd hf)
  clear hf
  have hsm := disk_small hok
  have HD := hide h
  have HALL := hide (fun W (D : Drive B W g v0 v1 d) => all_any d _ W (by omega) D.rd)
  obtain ⟨a0, q0, rfl⟩ := h.r0.slice
  obtain ⟨a1, q1, rfl⟩ := h.r1.slice
  have HRD := hide (fun (v : Value) (W : World) (hv : ByRd W v (bookL d)) => implLogRead_any (bookL d) v W (by rw [bookL_len]; omega) hv)
  have hE : (((logE (bookL d) : Nat) : Int) == (d.safe.length : Int) + (d.soft.length : Int)) = false := by rw [bookL_len] at h1; rw [beq_eq_false_iff_ne]; omega
  have HLE := hide (log_facts (bookL d)).2.1
  have HBL := hide (bookL_len d)
  have c0 := h.c0
  have c1 := h.c1
  have c2 := h.c2
  have c3 := h.c3
  rw [hd] at c3 HALL
  have HDN := hide hd
  clear h hd h1 hok
  go_enter Try.func31, Try.ntmps31
  go_wp2_with fail
  refine (unhide HALL _ (unhide HD)).mono ?_
  rintro e w1 ⟨x1, y1, z1, rfl, HN1, r1, b1⟩
  have D1 := hide ((unhide HD).up b1)
  have B1 := hide (b1.mono hB)
  have hB1 : B ≤ w1.heap.size := Nat.le_trans hB b1.size
  have RR := hide (show ByRd w1 (.slice x1 y1 z1) (bookL d) from r1.rd)
  clear b1 c0 c1 c2 c3 r1 HD HALL HN1
  go_wp2_with fail
  refine (unhide HRD _ _ (unhide RR)).mono ?_
  rintro e w2 ⟨vr, rfl, R2, b2⟩
  have AP := hide (apart3_low (b := 0) (unhide D1) (unhide R2).ge)
  obtain ⟨ra, rc, hvr⟩ := (unhide R2).slice
  subst hvr
  have RW2 := hide ((unhide R2).mono hB1)
  have D2 := hide ((unhide D1).up b2)
  have B2 := hide ((unhide B1).trans (b2.mono hB1))
  have hB2 : B ≤ w2.heap.size := Nat.le_trans hB1 b2.size
  have c0 := (unhide D2).c0
  have c1 := (unhide D2).c1
  have c2 := (unhide D2).c2
  have c3 := (unhide D2).c3
  clear b2 R2 RR D1 B1 HRD hB1
  generalize logE (bookL d) = E at *
  generalize logRs (bookL d) = RS at *
  generalize hrl : RS.length = rl at *
  have HRL := hide hrl
  clear hrl
  go_wp2_with fail
  refine (size_val _ _ _ _ _ _ _ _ _ (by omega) (by omega)).mono ?_
  rintro e w3 ⟨rfl, b3⟩
  have D3 := hide ((unhide D2).up b3)
  have RW3 := hide ((unhide RW2).up b3)
  have B3 := hide ((unhide B2).trans (b3.mono hB2))
  have hB3 : B ≤ w3.heap.size := Nat.le_trans hB2 b3.size
  clear b3 c0 c1 c2 c3 D2 B2 hB2 RW2
  go_wp2_with fail
  refine (unhide HCT w3 (unhide D3) hB3).mono ?_
  rintro e w4 ⟨rfl, P4⟩
  have HQ := hide (unhide P4)
  clear P4 HCT
  go_wp2_with fail
  go_ret2
  obtain ⟨v4, q1, q2, q3⟩ := unhide HQ
  have ap := unhide AP
  have rw3 := unhide RW3
  have r4 : RcRow B w4 _ RS := rw3.keep (fun k hk => q2.block k (rw3.lt k hk) (by simpa using (ap k hk).1))
  exact retBo_of (unhide HP) q1 r4 (fun k hk => ⟨(ap k hk).1, fun e => by have := q3 k e; have := rw3.lt k hk; omega, by simp [Value.ownBlock]⟩) ((unhide B3).trans (q2.below hB3 (by simpa using (unhide D3).le)))
theorem bookOpen_any (B : Nat) (w : World) (g : Nat) (v0 v1 : Value) (d : DiskV) (hok : diskOkB d = true) (hB : B ≤ w.heap.size) (h : Drive B w g v0 v1 d) :
    Calls Try.prog 31 #[.pointer (some ⟨g, 0, none⟩)] w fun e w' => RetBo B g d w e w' := by
  cases hd : d.down
  · by_cases h1 : logE (bookL d) = (bookL d).length
    · exact open_whole B w g v0 v1 d hok hB h hd h1
    · by_cases hf : d.fuse = 0
      · exact open_fell B w g v0 v1 d hok hB h hd h1 hf
      · exact open_cut B w g v0 v1 d hok hB h hd h1 hf
  · exact open_down B w g v0 v1 d hok hB h hd
end Go.Proofs.Ytddmomcanakoiaa
