/-
  The disk at work is cut.
-/
/-
  DiskCut of the program, at its face.
-/
/-
  DiskCut of the specification.
-/
import Derived.Test.YtddmomcanakoiaaMerged16
import Derived.Test.YtddmomcanakoiaaDiskCut
import Derived.Test.YtddmomcanakoiaaMerged1
set_option linter.unusedVariables false
namespace Go.Proofs.Ytddmomcanakoiaa
open Go.RowKit Go.Maps Go.Deep

def cutW (w : World) (g : Nat) (at' : Int) : World := (w.alloc (.cells #[.pointer (some ⟨g, 0, none⟩)] 109)).alloc (.cells #[.int .i64 at'] 3)
theorem cutW_size (w : World) (g : Nat) (at' : Int) : (cutW w g at').heap.size = w.heap.size + 1 + 1 := by simp [cutW]
theorem cutW_up (w : World) (g : Nat) (at' : Int) : Below w.heap.size w (cutW w g at') := ((Below.refl _ _).alloc (Nat.le_refl _) _).alloc (by simp) _
theorem cutW_cells (w : World) (g : Nat) (at' : Int) : (cutW w g at').cell? ⟨w.heap.size, 0, none⟩ = some (.pointer (some ⟨g, 0, none⟩)) ∧ (cutW w g at').cell? ⟨w.heap.size + 1, 0, none⟩ = some (.int .i64 at') := by
  unfold cutW
  refine ⟨?_, ?_⟩
  · rw [World.cell?_alloc_past _ _ _ (by simp), World.cell?_alloc_at _ _ _ _ (by simp)]
    rfl
  · rw [World.cell?_alloc_at _ _ _ _ (by simp)]
    rfl
theorem cut_ready (B : Nat) (w : World) (g at' : Nat) (v0 v1 : Value) (d : DiskV) (hl : d.safe.length + d.soft.length ≤ 8000) (hB : B ≤ w.heap.size) (ha : at' ≤ d.safe.length + d.soft.length) (h : Drive B w g v0 v1 d) (hf : d.fuse ≠ 0) (hf1 : -1 ≤ d.fuse) (hf2 : d.fuse ≤ 400) :
    Calls Try.prog 69 #[.pointer (some ⟨g, 0, none⟩), .func (.func 70) #[] #[.pointer (some ⟨w.heap.size, 0, none⟩), .pointer (some ⟨w.heap.size + 1, 0, none⟩)]] (cutW w g (at' : Int)) fun e w' => e = .returned (.int .i64 0) ∧ Drove B g (.slice none 0 0) (cutD d at') (cutW w g (at' : Int)) w' := by
  have hs := cutW_size w g at'
  have hup := cutW_up w g at'
  have hD := h.up hup
  have hgl := h.lt
  obtain ⟨q1, q2⟩ := cutW_cells w g (at' : Int)
  generalize cutW w g (at' : Int) = W at *
  refine attempt_done B g _ _ W (.slice none 0 0) (cutD d at') hD.lt (by omega) ?_
  have ua := attW_up W g
  have sa := attW_size W g
  refine (cutAct_done B (attW W g) g W.heap.size w.heap.size (w.heap.size + 1) at' v0 v1 d hl (by omega) ha (hD.up ua) (attW_gw W g) ((ua.cell (by simp only; omega)).trans q1) ((ua.cell (by simp only; omega)).trans q2) (by omega) (by omega) hf hf1 hf2).mono ?_
  rintro e w' ⟨rfl, P⟩
  obtain ⟨v, p1, p2, _⟩ := unhide P
  obtain ⟨k0, k1, k2⟩ := attW_gc W g
  have hn : W.heap.size + 1 ∉ [g] := by have := hD.lt; simp; omega
  have kb : w'.heap[W.heap.size + 1]? = some (.cells #[.int .i64 0] 3) := (p2.block _ (by omega) hn).trans k0
  exact ⟨rfl, hide ⟨v, p1, p2.below (by omega) (by simpa using h.le), (p2.cell (by omega) hn).trans k1, (p2.frozen (by omega) hn).trans k2, row_apart kb p1.r0 tIntBy, by simp [Value.ownBlock]⟩⟩
theorem cut_gone' (B : Nat) (w : World) (g at' : Nat) (v0 v1 : Value) (d : DiskV) (hl : d.safe.length + d.soft.length ≤ 8000) (hB : B ≤ w.heap.size) (h : Drive B w g v0 v1 d) (hf : d.fuse = 0) :
    Calls Try.prog 69 #[.pointer (some ⟨g, 0, none⟩), .func (.func 70) #[] #[.pointer (some ⟨w.heap.size, 0, none⟩), .pointer (some ⟨w.heap.size + 1, 0, none⟩)]] (cutW w g (at' : Int)) fun e w' => e = .returned (.int .i64 2) ∧ Drove B g (.slice none 0 0) (fellD d) (cutW w g (at' : Int)) w' := by
  have hs := cutW_size w g at'
  have hup := cutW_up w g at'
  have hD := h.up hup
  generalize cutW w g (at' : Int) = W at *
  exact attempt_gone B g _ _ W v0 v1 d (by omega) hD.lt (by omega) hD (cutAct_gone B (attW W g) g W.heap.size _ _ v0 v1 d (hD.up (attW_up W g)) (attW_gw W g) hf)
def cutOut (d : DiskV) (at' : Nat) : DiskV := if d.down then d else if d.fuse = 0 then fellD d else cutD d at'
def cutCode (d : DiskV) : Int := if d.down then 2 else if d.fuse = 0 then 2 else 0
def RetCut (B g : Nat) (d : DiskV) (at' : Nat) (w : World) (e : Ending) (w' : World) : Prop := e = .returned (.int .i64 (cutCode d)) ∧ ∃ v v1, Drive B w' g v v1 (cutOut d at') ∧ Below B w w'
set_option maxHeartbeats 3200000 in
theorem driveCut_any (B : Nat) (w : World) (g at' : Nat) (v0 v1 : Value) (d : DiskV) (hl : d.safe.length + d.soft.length ≤ 8000) (hB : B ≤ w.heap.size) (ha : at' ≤ d.safe.length + d.soft.length) (h : Drive B w g v0 v1 d) (hf1 : -1 ≤ d.fuse) (hf2 : d.fuse ≤ 400) :
    Calls Try.prog 55 #[.pointer (some ⟨g, 0, none⟩), .int .i64 (at' : Int)] w fun e w' => RetCut B g d at' w e w' := by
  have hmf : ∀ (fn : Fn) (first cap : Array Value) (w : World), (Instr.makeFunc fn first cap).run Try.prog w = .ok (.func fn first cap) w := fun _ _ _ _ => rfl
  have bu := cutW_up w g at'
  have hD := h.up bu
  have c3 := hD.c3
  unfold cutW at c3
  cases hdn : d.down
  · by_cases hf : d.fuse = 0
    · have HA := hide (cut_gone' B w g at' v0 v1 d hl hB h hf)
      have HB := hide (bu.mono hB)
      unfold cutW at HA HB
      rw [hdn] at c3
      have HE := hide (show cutCode d = 2 ∧ cutOut d at' = fellD d by simp [cutCode, cutOut, hdn, hf])
      clear h hD bu hdn
      go_enter Try.func55, Try.ntmps55
      go_wp2_with fail
      refine (unhide HA).mono ?_
      rintro e w2 ⟨rfl, P⟩
      have HP := hide P
      clear P c3
      go_wp2_with fail
      go_ret
      obtain ⟨v, p1, p2⟩ := unhide HP
      exact ⟨by rw [(unhide HE).1]; rfl, v, _, by rw [(unhide HE).2]; exact p1, (unhide HB).trans p2⟩
    · have HA := hide (cut_ready B w g at' v0 v1 d hl hB ha h hf hf1 hf2)
      have HB := hide (bu.mono hB)
      unfold cutW at HA HB
      rw [hdn] at c3
      have HE := hide (show cutCode d = 0 ∧ cutOut d at' = cutD d at' by simp [cutCode, cutOut, hdn, hf])
      clear h hD bu hdn
      go_enter Try.func55, Try.ntmps55
      go_wp2_with fail
      refine (unhide HA).mono ?_
      rintro e w2 ⟨rfl, P⟩
      have HP := hide P
      clear P c3
      go_wp2_with fail
      go_ret
      obtain ⟨v, p1, p2⟩ := unhide HP
      exact ⟨by rw [(unhide HE).1]; rfl, v, _, by rw [(unhide HE).2]; exact p1, (unhide HB).trans p2⟩
  · have HD := hide hD
    have HB := hide (bu.mono hB)
    unfold cutW at HD HB
    rw [hdn] at c3
    have HE := hide (show cutCode d = 2 ∧ cutOut d at' = d by simp [cutCode, cutOut, hdn])
    clear h hD bu hdn
    go_enter Try.func55, Try.ntmps55
    go_wp2_with fail
    go_ret
    exact ⟨by rw [(unhide HE).1]; rfl, _, _, by rw [(unhide HE).2]; exact unhide HD, unhide HB⟩
end Go.Proofs.Ytddmomcanakoiaa

set_option linter.unusedVariables false
namespace Go.Proofs.Ytddmomcanakoiaa
open Go.RowKit Go.Maps Go.Deep

def cutGood (d : DiskV) (at' : Int) : Bool := diskOkB d && decide (0 ≤ at') && decide (at' ≤ (d.safe.length + d.soft.length : Nat))
def cutV (d : DiskV) (at' : Int) : DiskV := if cutGood d at' then cutOut d at'.toNat else noDisk
def cutI (d : DiskV) (at' : Int) : Int := if cutGood d at' then cutCode d else 1
/-- a disk of one's own, and a number, are handed back -/
def RetDiskI (res : DiskV) (b : Int) (w : World) (e : Ending) (w' : World) : Prop := ∃ v S, e = .returned (.tuple #[v, .int .i64 b]) ∧ Hid (DiskOwn S w' v res) ∧ Hid (∀ k ∈ S, w.heap.size ≤ k) ∧ Below w.heap.size w w'
theorem retDiskI_no {b : Int} {w w' : World} (hb : Below w.heap.size w w') : RetDiskI noDisk b w (.returned (.tuple #[.agg #[.slice none 0 0, .slice none 0 0, .int .i64 0, .bool false], .int .i64 b])) w' :=
  ⟨_, [], rfl, ⟨_, _, [], [], rfl, rfl, ByOwn.nil _ _ _, ByOwn.nil _ _ _, by simp⟩, by intro k hk; simp at hk, hb⟩
theorem retDiskI_two {res : DiskV} {b : Int} {B : Nat} {w w' : World} {v0 v1 : Value} (h : TwoRows B w' v0 v1 res.safe res.soft) (hB : w.heap.size ≤ B) (hb : Below w.heap.size w w') :
    RetDiskI res b w (.returned (.tuple #[.agg #[v0, v1, .int .i64 res.fuse, .bool res.down], .int .i64 b])) w' := by
  obtain ⟨S, h1, h2, h3⟩ := h.1.own
  obtain ⟨T, k1, k2, k3⟩ := h.2.1.own
  exact ⟨_, S ++ T, rfl, ⟨_, _, S, T, rfl, rfl, h1, k1, fun k hk hm => h.2.2 k (h3 k hk) (k3 k hm)⟩, by intro k hk; rcases List.mem_append.1 hk with hk | hk; exact Nat.le_trans hB (h2 k hk); exact Nat.le_trans hB (k2 k hk), hb⟩
theorem cut_no {d : DiskV} {at' : Int} (h : cutGood d at' = false) : cutV d at' = noDisk ∧ cutI d at' = 1 := by simp [cutV, cutI, h]
theorem diskOk_fuse {d : DiskV} (h : diskOkB d = true) : -1 ≤ d.fuse ∧ d.fuse ≤ 400 := by
  simp only [diskOkB, Bool.and_eq_true, decide_eq_true_eq] at h
  exact ⟨h.1.1.2, h.1.2⟩
end Go.Proofs.Ytddmomcanakoiaa

set_option linter.unusedVariables false
namespace Go.Proofs.Ytddmomcanakoiaa
open Go.RowKit Go.Maps Go.Deep

/-- a disk of one's own is handed back -/
def RetDiskV (res : DiskV) (w : World) (e : Ending) (w' : World) : Prop := ∃ v0 v1, e = .returned (.agg #[v0, v1, .int .i64 res.fuse, .bool res.down]) ∧ TwoRows w.heap.size w' v0 v1 res.safe res.soft ∧ Below w.heap.size w w'
set_option maxHeartbeats 6400000 in
theorem l6Copy_any (d : DiskV) (v : Value) (w : World) (hs : SmallDisk d) (h : DiskRd w v d) : Calls Try.prog 33 #[v] w fun e w' => RetDiskV d w e w' := by
  obtain ⟨v0, v1, rfl, h0, h1⟩ := h
  obtain ⟨xs, ys, fs, dn⟩ := d
  have H0 := hide (fun W (b : Below w.heap.size w W) => l6Bytes_any W _ (.slice none 0 0) xs [] (h0.up b) (ByRd.nil _ _ _) (by have := hs.1; simp only at this; simp; omega))
  have H1 := hide (fun W (b : Below w.heap.size w W) => l6Bytes_any W _ (.slice none 0 0) ys [] (h1.up b) (ByRd.nil _ _ _) (by have := hs.2; simp only at this; simp; omega))
  simp only [List.append_nil] at H0 H1
  obtain ⟨p0, n0, p2, rfl⟩ := h0.form
  obtain ⟨p3, n1, p5, rfl⟩ := h1.form
  clear h0 h1 hs
  simp only at *
  have X0 := hide ((boxF_new4 w (.slice p0 n0 p2) (.slice p3 n1 p5) (.int .i64 fs) (.bool dn) 35).up ((Below.refl _ _).alloc (Nat.le_refl _) (.cells #[.slice none 0 0, .slice none 0 0, .int .i64 0, .bool false] 35)))
  have Y0 := hide (boxF_new4 (w.alloc (.cells #[.slice p0 n0 p2, .slice p3 n1 p5, .int .i64 fs, .bool dn] 35)) (.slice none 0 0) (.slice none 0 0) (.int .i64 0) (.bool false) 35)
  have B0 := hide (show Below w.heap.size w ((w.alloc (.cells #[.slice p0 n0 p2, .slice p3 n1 p5, .int .i64 fs, .bool dn] 35)).alloc (.cells #[.slice none 0 0, .slice none 0 0, .int .i64 0, .bool false] 35)) by go_grown)
  have Z0 := hide (show ((w.alloc (.cells #[.slice p0 n0 p2, .slice p3 n1 p5, .int .i64 fs, .bool dn] 35)).alloc (.cells #[.slice none 0 0, .slice none 0 0, .int .i64 0, .bool false] 35)).heap.size = w.heap.size + 2 by simp)
  have hsz : (w.alloc (.cells #[.slice p0 n0 p2, .slice p3 n1 p5, .int .i64 fs, .bool dn] 35)).heap.size = w.heap.size + 1 := by simp
  rw [hsz] at Y0
  clear hsz
  go_enter Try.func33, Try.ntmps33
  go_wp2_with fail
  generalize (w.alloc (.cells #[.slice p0 n0 p2, .slice p3 n1 p5, .int .i64 fs, .bool dn] 35)).alloc (.cells #[.slice none 0 0, .slice none 0 0, .int .i64 0, .bool false] 35) = W0 at *
  have HGZ := hide (show ∀ X, Below W0.heap.size W0 X → (X.cell? ⟨w.heap.size, 0, none⟩ = some (.slice p0 n0 p2) ∧ X.cell? ⟨w.heap.size, 1, none⟩ = some (.slice p3 n1 p5) ∧ X.cell? ⟨w.heap.size, 2, none⟩ = some (.int .i64 fs) ∧ X.cell? ⟨w.heap.size, 3, none⟩ = some (.bool dn)) ∧ BoxF X (w.heap.size + 1) [.slice none 0 0, .slice none 0 0, .int .i64 0, .bool false] from fun X b => by
    obtain ⟨⟨x0, x1, x2, x3⟩, _⟩ := ((unhide X0).up b).four
    exact ⟨⟨x0, x1, x2, x3⟩, (unhide Y0).up b⟩)
  have HL0 := hide (fun W (b : Below W0.heap.size W0 W) => unhide H0 W ((unhide B0).trans (b.mono (unhide B0).size)))
  have HL1 := hide (fun W (b : Below W0.heap.size W0 W) => unhide H1 W ((unhide B0).trans (b.mono (unhide B0).size)))
  have BD := hide (show Below W0.heap.size W0 W0.drew from (Below.refl _ _).drew)
  have KS := hide (show ∀ (X : World) {i : Nat} {v : Value}, (X.cell? ⟨w.heap.size, 0, none⟩ = some (.slice p0 n0 p2) ∧ X.cell? ⟨w.heap.size, 1, none⟩ = some (.slice p3 n1 p5) ∧ X.cell? ⟨w.heap.size, 2, none⟩ = some (.int .i64 fs) ∧ X.cell? ⟨w.heap.size, 3, none⟩ = some (.bool dn)) → ((X.setCell ⟨w.heap.size + 1, i, none⟩ v).cell? ⟨w.heap.size, 0, none⟩ = some (.slice p0 n0 p2) ∧ (X.setCell ⟨w.heap.size + 1, i, none⟩ v).cell? ⟨w.heap.size, 1, none⟩ = some (.slice p3 n1 p5) ∧ (X.setCell ⟨w.heap.size + 1, i, none⟩ v).cell? ⟨w.heap.size, 2, none⟩ = some (.int .i64 fs) ∧ (X.setCell ⟨w.heap.size + 1, i, none⟩ v).cell? ⟨w.heap.size, 3, none⟩ = some (.bool dn)) from fun X i v hX => by
    have ne : ∀ o, (⟨w.heap.size + 1, i, none⟩ : Addr) ≠ ⟨w.heap.size, o, none⟩ := fun o e => by have := congrArg Addr.block e; simp at this
    exact ⟨(World.cell?_setCell_other _ _ _ _ (ne _)).trans hX.1, (World.cell?_setCell_other _ _ _ _ (ne _)).trans hX.2.1, (World.cell?_setCell_other _ _ _ _ (ne _)).trans hX.2.2.1, (World.cell?_setCell_other _ _ _ _ (ne _)).trans hX.2.2.2⟩)
  have hS := (unhide HGZ W0.drew (unhide BD)).1
  clear H0 H1
  refine wp_region_held_drew (S := fun X : World => X.cell? ⟨w.heap.size, 0, none⟩ = some (.slice p0 n0 p2) ∧ X.cell? ⟨w.heap.size, 1, none⟩ = some (.slice p3 n1 p5) ∧ X.cell? ⟨w.heap.size, 2, none⟩ = some (.int .i64 fs) ∧ X.cell? ⟨w.heap.size, 3, none⟩ = some (.bool dn)) (by kernel_rfl) hS ?_
  intro hS
  --COPY
  refine wpAnyH_take (i := 0) (v := .pointer (some ⟨w.heap.size, 0, none⟩)) rfl (by kernel_rfl) (by kernel_rfl) (by kernel_rfl) (fun _ _ _ h => h) (Or.inl ⟨by rfl, ?_⟩) hS ?_
  · intro X hX
    obtain ⟨h1, h2, h3, h4⟩ := hX
    clear hS
    go_simp
    try with_reducible rfl
  try simp [Act.put]
  refine wpAnyH_take (i := 1) (v := .slice p0 n0 p2) rfl (by kernel_rfl) (by kernel_rfl) (by kernel_rfl) (fun _ _ _ h => h) (Or.inl ⟨by rfl, ?_⟩) hS ?_
  · intro X hX
    obtain ⟨h1, h2, h3, h4⟩ := hX
    clear hS
    go_simp
    try with_reducible rfl
  try simp [Act.put]
  refine wpAnyH_take (i := 3) (v := .pointer (some ⟨w.heap.size, 1, none⟩)) rfl (by kernel_rfl) (by kernel_rfl) (by kernel_rfl) (fun _ _ _ h => h) (Or.inl ⟨by rfl, ?_⟩) hS ?_
  · intro X hX
    obtain ⟨h1, h2, h3, h4⟩ := hX
    clear hS
    go_simp
    try with_reducible rfl
  try simp [Act.put]
  refine wpAnyH_take (i := 4) (v := .slice p3 n1 p5) rfl (by kernel_rfl) (by kernel_rfl) (by kernel_rfl) (fun _ _ _ h => h) (Or.inl ⟨by rfl, ?_⟩) hS ?_
  · intro X hX
    obtain ⟨h1, h2, h3, h4⟩ := hX
    clear hS
    go_simp
    try with_reducible rfl
  try simp [Act.put]
  refine wpAnyH_take (i := 6) (v := .pointer (some ⟨w.heap.size, 2, none⟩)) rfl (by kernel_rfl) (by kernel_rfl) (by kernel_rfl) (fun _ _ _ h => h) (Or.inl ⟨by rfl, ?_⟩) hS ?_
  · intro X hX
    obtain ⟨h1, h2, h3, h4⟩ := hX
    clear hS
    go_simp
    try with_reducible rfl
  try simp [Act.put]
  refine wpAnyH_take (i := 7) (v := .int .i64 fs) rfl (by kernel_rfl) (by kernel_rfl) (by kernel_rfl) (fun _ _ _ h => h) (Or.inl ⟨by rfl, ?_⟩) hS ?_
  · intro X hX
    obtain ⟨h1, h2, h3, h4⟩ := hX
    clear hS
    go_simp
    try with_reducible rfl
  try simp [Act.put]
  refine wpAnyH_take (i := 8) (v := .pointer (some ⟨w.heap.size, 3, none⟩)) rfl (by kernel_rfl) (by kernel_rfl) (by kernel_rfl) (fun _ _ _ h => h) (Or.inl ⟨by rfl, ?_⟩) hS ?_
  · intro X hX
    obtain ⟨h1, h2, h3, h4⟩ := hX
    clear hS
    go_simp
    try with_reducible rfl
  try simp [Act.put]
  refine wpAnyH_take (i := 9) (v := .bool dn) rfl (by kernel_rfl) (by kernel_rfl) (by kernel_rfl) (fun _ _ _ h => h) (Or.inl ⟨by rfl, ?_⟩) hS ?_
  · intro X hX
    obtain ⟨h1, h2, h3, h4⟩ := hX
    clear hS
    go_simp
    try with_reducible rfl
  try simp [Act.put]
  refine wpAnyH_ready (rs := [2]) (by kernel_rfl) (by simp) ?_
  refine AllReadyH.cons rfl (fun K hK => ?_) AllReadyH.nil
  go_simp
  go_wp2_with (go_at_call 56; refine (unhide HL0 _ (unhide BD)).mono ?_; rintro e w1 ⟨a1, m1, c1, rfl, hm1, r1, b1⟩; have B1 := hide ((unhide BD).trans (b1.mono (unhide BD).size)); have R1 := hide r1; have HZ1 := hide b1.size; clear r1 b1)
  refine hK.out _ _ (unhide HGZ w1 (unhide B1)).1 ?_
  clear hK K
  intro hS
  try simp [Act.put]
  refine wpAnyH_ready (rs := [5]) (by kernel_rfl) (by simp) ?_
  refine AllReadyH.cons rfl (fun K hK => ?_) AllReadyH.nil
  go_simp
  go_wp2_with (go_at_call 56; refine (unhide HL1 _ (unhide B1)).mono ?_; rintro e w2 ⟨a2, m2, c2, rfl, hm2, r2, b2⟩; have B2 := hide ((unhide B1).trans (b2.mono (unhide B1).size)); have R2 := hide r2; have R12 := hide ((unhide R1).up b2); clear r2 b2)
  refine hK.out _ _ (unhide HGZ w2 (unhide B2)).1 ?_
  clear hK K
  intro hS
  try simp [Act.put]
  have Y2 := hide (unhide HGZ w2 (unhide B2)).2
  obtain ⟨⟨y0, y1, y2, y3⟩, j0, j1, j2, j3⟩ := (unhide Y2).four
  refine wpAnyH_ready (rs := [10]) (by kernel_rfl) (by simp) ?_
  refine AllReadyH.cons rfl (fun K hK => ?_) AllReadyH.nil
  go_simp
  refine hK.out _ _ hS ?_
  clear hK K
  intro hS
  try simp [Act.put]
  refine wpAnyH_ready (rs := [11]) (by kernel_rfl) (by simp) ?_
  refine AllReadyH.cons rfl (fun K hK => ?_) AllReadyH.nil
  go_simp
  refine hK.out _ _ (unhide KS _ (unhide KS _ (unhide KS _ (unhide KS _ hS)))) ?_
  clear hK K
  intro hS
  try simp [Act.put]
  --YPOC
  refine wpAnyH_done (by kernel_rfl) ?_ _
  go_wp2_with fail
  refine bodyPost_ret (v := .agg #[.slice a1 m1 c1, .slice a2 m2 c2, .int .i64 fs, .bool dn]) (by simp [results, Try.results33, go_sem, y0, y1, y2, y3]) rfl ?_
  have key : ∀ W, Turn [w.heap.size + 1] w2 W → RetDiskV ⟨xs, ys, fs, dn⟩ w (.returned (.agg #[.slice a1 m1 c1, .slice a2 m2 c2, .int .i64 fs, .bool dn])) W := fun W ht => by
    have z0 := unhide Z0
    have z1 : W0.heap.size ≤ w1.heap.size := unhide HZ1
    have g1 : ∀ k, (Value.slice a1 m1 c1).ownBlock = some k → W0.heap.size ≤ k := (unhide R12).ge
    have l1 := (unhide R1).lt
    have g2 := (unhide R2).ge
    have b2 := (unhide B0).trans ((unhide B2).mono (by omega))
    refine ⟨_, _, rfl, ⟨((unhide R12).turn ht (fun k hk hm => by have := g1 k hk; simp at hm; omega)).mono (show w.heap.size ≤ W0.heap.size by omega), ((unhide R2).turn ht (fun k hk hm => by have := g2 k hk; simp at hm; omega)).mono (by omega), fun k hk hm => ?_⟩, b2.trans (ht.below b2.size (fun k hk => by simp at hk; omega))⟩
    have := l1 k hk
    have := g2 k hm
    omega
  exact key _ (((((Turn.refl _ _).setCell (g := w.heap.size + 1) (by simp) _ _).setCell (g := w.heap.size + 1) (by simp) _ _).setCell (g := w.heap.size + 1) (by simp) _ _).setCell (g := w.heap.size + 1) (by simp) _ _)
end Go.Proofs.Ytddmomcanakoiaa
