/-
  LogBytes of the program; both sides at any list.
-/
/-
  Disks as values, for reading and of one's own; both sides of DiskOk; the laws' own helpers over one disk.
-/
import Derived.Test.YtddmomcanakoiaaMerged10
import Derived.Test.YtddmomcanakoiaaMerged13
import Derived.Handy
set_option linter.unusedVariables false
namespace Go.Proofs.Ytddmomcanakoiaa
open Go.RowKit Go.Maps Go.Deep

set_option maxHeartbeats 6400000 in
theorem implLog_row (w : World) (b off cap : Nat) (rs : List RecV) (hl : rs.length ≤ 200) (hb : b < w.heap.size) (hc : RecAt w b off rs) (hs : RecOk rs) :
    Calls Try.prog 6 #[.slice (some ⟨b, off, none⟩) rs.length cap] w fun e w' => RetLog rs w e w' := by
  have HC := hide (show ∀ X, Below w.heap.size w X → RecAt X b off rs from fun X bx => hc.below bx hb)
  have HS := hide hs
  have hl2 : ¬ 200 < (rs.length : Int) := by omega
  have HL := hide (show logAll rs = logL rs by simp [logAll, hl])
  clear hc hs
  go_enter Try.func6, Try.ntmps6
  go_wp2_with fail
  go_loopw [4, 14] (fun v i wr => ∃ (k : Nat) (a : Option Addr) (n c : Nat) (acc : List UInt8), k ≤ rs.length ∧ i = .int .i64 k ∧ v = .slice a n c ∧ Hid (ByRow w.heap.size wr (.slice a n c) acc) ∧ Hid (logL (rs.take k) = some acc) ∧ Hid (Below w.heap.size w wr)) (fun _ i _ => rs.length - (intOf i).toNat)
  case atStart => exact ⟨0, none, 0, 0, [], Nat.zero_le _, rfl, rfl, ByRow.nil _ _, hide rfl, Below.refl _ _⟩
  case round =>
    obtain ⟨k, ar, nr, cr, acc, hk, rfl, rfl, HR, HA, HBr⟩ := hrel
    by_cases hlt : k < rs.length
    · obtain ⟨c0, c1, c2, c3⟩ := unhide HC wr (unhide HBr) k hlt
      have HRB := hide (fun W => implRecBytes_any rs[k] W (unhide HS _ (List.getElem_mem hlt)))
      unfold recVal at HRB
      have HBAD := hide (fun h => log_bad hlt (unhide HA) h)
      have HGOOD := hide (fun h => log_good hlt (unhide HA) h)
      have hnr := row_len (unhide HR)
      have hal := log_len _ _ (unhide HA)
      have hrl := recBytesL_len rs[k]
      generalize rs[k] = r at *
      have BA := hide (show Below wr.heap.size wr (wr.alloc (.cells #[.int .i64 r.kind, .string r.name, .int .i64 r.num, .string r.text] 32)) from (Below.refl _ _).alloc (Nat.le_refl _) _)
      go_wp2_with fail
      refine (unhide HRB _).mono ?_
      rintro e w1 ⟨a1, n1, c1', rfl, r1, b1⟩
      have hn1 := row_len r1
      have R1 := hide r1
      have B1 := hide ((unhide HBr).trans (((unhide BA).trans (b1.mono (unhide BA).size)).mono (unhide HBr).size))
      have HR1 := hide (((unhide HR).up (unhide BA)).up b1)
      clear r1 b1 c0 c1 c2 c3 BA
      cases hok : recOkB r
      · have HE := hide (ret_log_no ((unhide HL).trans (unhide HBAD (by rw [hok]; simp))))
        clear hn1 hnr
        go_wp2_with fail
        go_ret2
        exact ⟨none, 0, 0, by rw [(unhide HE).1]; rfl, by rw [(unhide HE).2]; exact ByRow.nil _ _, unhide B1⟩
      · by_cases hsz : acc.length + (recBytesL r).length ≤ 8000
        · have HG2 := hide (unhide HGOOD ⟨hok, hsz⟩)
          have d1 : ¬ 8000 < (nr : Int) + (n1 : Int) := by omega
          have hll := hide (show acc.length + (recBytesL r).length ≤ 140737488355328 by omega)
          have hnl : (nr : Int) ≤ 8000 := by omega
          have hnl1 : (n1 : Int) ≤ 8000 := by omega
          clear hn1 hnr hsz hal
          go_wp2_with (first
            | (at_builtin; refine wpList_byAppend rfl _ _ rfl w.heap.size _ _ acc (recBytesL r) rfl rfl (unhide HR1) (unhide R1).rd (unhide hll) (unhide B1).size ?_; intro a2 c2 w2 r2 g2 _; generalize acc.length + (recBytesL r).length = n2 at *; have R2 := hide r2; have B2 := hide ((unhide B1).grown g2 (unhide B1).size (fun y hy => (unhide HR1).ge y hy)); clear r2 g2)
            | fail)
          go_roundw
          case rel => exact ⟨k + 1, a2, n2, c2, _, by omega, by go_num, rfl, R2, HG2, B2⟩
          case measure => simp [intOf]; omega
        · have HE := hide (ret_log_no ((unhide HL).trans (unhide HBAD (fun h => hsz h.2))))
          have d1 : 8000 < (nr : Int) + (n1 : Int) := by omega
          have hnl : (nr : Int) ≤ 8000 := by omega
          have hnl1 : (n1 : Int) ≤ 8000 := by omega
          clear hn1 hnr hsz hal
          go_wp2_with fail
          go_ret2
          exact ⟨none, 0, 0, by rw [(unhide HE).1]; rfl, by rw [(unhide HE).2]; exact ByRow.nil _ _, unhide B1⟩
    · have e : k = rs.length := by omega
      have HE := hide (ret_log_yes ((unhide HL).trans (by have := unhide HA; rwa [e, List.take_of_length_le (Nat.le_refl _)] at this)))
      clear e
      go_wp2_with fail
      go_ret2
      exact ⟨ar, nr, cr, by rw [(unhide HE).1]; rfl, by rw [(unhide HE).2]; exact unhide HR, unhide HBr⟩
theorem log_long {rs : List RecV} (h : ¬ rs.length ≤ 200) : logOkB rs = false ∧ logOut rs = [] := ret_log_no (by simp [logAll, h])
theorem specLog_any (rs : List RecV) (v : Value) (w : World) (hs : SmallRecS rs) (h : RecSRd w v rs) : Calls Try.prog 7 #[v] w fun e w' => RetLog rs w e w' := by
  obtain ⟨a, c, rfl, h⟩ := h
  by_cases hl : rs.length ≤ 200
  · rcases h with rfl | ⟨b, off, rfl, hb, hc⟩
    · go_enter Try.func7, Try.ntmps7
      go_wp2
      refine wp_loop_rounds 1 ?_
      rw [rounds_succ]
      go_wp2
      go_ret2
      exact ⟨none, 0, 0, rfl, ByRow.nil _ _, Below.refl _ _⟩
    · exact specLog_row w b off c rs hl hb hc hs.2
  · have HE := hide (log_long hl)
    have hl2 : 200 < (rs.length : Int) := by omega
    have hl3 := hs.1.1
    clear hs h hl
    generalize rs.length = n at *
    go_enter Try.func7, Try.ntmps7
    go_wp2_with fail
    go_ret2
    exact ⟨none, 0, 0, by rw [(unhide HE).1]; rfl, by rw [(unhide HE).2]; exact ByRow.nil _ _, Below.refl _ _⟩
theorem implLog_any (rs : List RecV) (v : Value) (w : World) (hs : SmallRecS rs) (h : RecSRd w v rs) : Calls Try.prog 6 #[v] w fun e w' => RetLog rs w e w' := by
  obtain ⟨a, c, rfl, h⟩ := h
  by_cases hl : rs.length ≤ 200
  · rcases h with rfl | ⟨b, off, rfl, hb, hc⟩
    · go_enter Try.func6, Try.ntmps6
      go_wp2
      refine wp_loop_rounds 1 ?_
      rw [rounds_succ]
      go_wp2
      go_ret2
      exact ⟨none, 0, 0, rfl, ByRow.nil _ _, Below.refl _ _⟩
    · exact implLog_row w b off c rs hl hb hc hs.2
  · have HE := hide (log_long hl)
    have hl2 : 200 < (rs.length : Int) := by omega
    have hl3 := hs.1.1
    clear hs h hl
    generalize rs.length = n at *
    go_enter Try.func6, Try.ntmps6
    go_wp2_with fail
    go_ret2
    exact ⟨none, 0, 0, by rw [(unhide HE).1]; rfl, by rw [(unhide HE).2]; exact ByRow.nil _ _, Below.refl _ _⟩
end Go.Proofs.Ytddmomcanakoiaa

set_option linter.unusedVariables false
namespace Go.Proofs.Ytddmomcanakoiaa
open Go.RowKit Go.Maps Go.Deep

structure DiskV where
  safe : List UInt8
  soft : List UInt8
  fuse : Int
  down : Bool
def DiskFit (d : DiskV) : Prop := d.safe.length ≤ maxLen ∧ d.soft.length ≤ maxLen
def DiskRd (w : World) (v : Value) (d : DiskV) : Prop := ∃ v0 v1, v = .agg #[v0, v1, .int .i64 d.fuse, .bool d.down] ∧ ByRd w v0 d.safe ∧ ByRd w v1 d.soft
def DiskOwn (S : List Nat) (w : World) (v : Value) (d : DiskV) : Prop := ∃ v0 v1 S0 S1, S = S0 ++ S1 ∧ v = .agg #[v0, v1, .int .i64 d.fuse, .bool d.down] ∧ ByOwn S0 w v0 d.safe ∧ ByOwn S1 w v1 d.soft ∧ ∀ k ∈ S0, k ∉ S1
theorem DiskRd.up {w w' : World} {v : Value} {d : DiskV} (h : DiskRd w v d) (hb : Below w.heap.size w w') : DiskRd w' v d := by
  obtain ⟨v0, v1, e, h0, h1⟩ := h
  exact ⟨v0, v1, e, h0.up hb, h1.up hb⟩
theorem DiskOwn.rd {S : List Nat} {w : World} {v : Value} {d : DiskV} (h : DiskOwn S w v d) : DiskRd w v d := by
  obtain ⟨v0, v1, S0, S1, _, e, h0, h1, _⟩ := h
  exact ⟨v0, v1, e, h0.rd, h1.rd⟩
theorem DiskOwn.turn {S S' : List Nat} {w w' : World} {v : Value} {d : DiskV} (h : DiskOwn S w v d) (ht : Turn S' w w') (hS : ∀ k ∈ S, k ∉ S') : DiskOwn S w' v d := by
  obtain ⟨v0, v1, S0, S1, rfl, e, h0, h1, hd⟩ := h
  exact ⟨v0, v1, S0, S1, rfl, e, h0.turn ht (fun k hk => hS k (by simp [hk])), h1.turn ht (fun k hk => hS k (by simp [hk])), hd⟩
theorem DiskOwn.up {S : List Nat} {w w' : World} {v : Value} {d : DiskV} (h : DiskOwn S w v d) (hb : Below w.heap.size w w') : DiskOwn S w' v d := h.turn (Turn.of_below (S := []) hb) (by simp)
theorem DiskOwn.lt {S : List Nat} {w : World} {v : Value} {d : DiskV} (h : DiskOwn S w v d) : ∀ k ∈ S, k < w.heap.size := by
  obtain ⟨v0, v1, S0, S1, rfl, e, h0, h1, hd⟩ := h
  intro k hk
  rcases List.mem_append.1 hk with hk | hk
  · exact h0.lt k hk
  · exact h1.lt k hk

/-- which disks may be -/
def diskOkB (d : DiskV) : Bool := decide (d.safe.length + d.soft.length ≤ 8000) && decide (-1 ≤ d.fuse) && decide (d.fuse ≤ 400) && (!d.down || (decide (d.soft.length = 0) && decide (d.fuse = -1)))

set_option maxHeartbeats 3200000 in
theorem specDiskOk_val (n0 c0 n1 c1 : Nat) (a0 a1 : Option Addr) (fuse : Int) (down : Bool) (w : World) (h0 : n0 ≤ maxLen) (h1 : n1 ≤ maxLen) :
    Calls Try.prog 32 #[.agg #[.slice a0 n0 c0, .slice a1 n1 c1, .int .i64 fuse, .bool down]] w fun e w' => e = .returned (.bool (decide (n0 + n1 ≤ 8000) && decide (-1 ≤ fuse) && decide (fuse ≤ 400) && (!down || (decide (n1 = 0) && decide (fuse = -1))))) ∧ Below w.heap.size w w' := by
  unfold maxLen at h0 h1
  cases down
  all_goals
    go_enter Try.func32, Try.ntmps32
    go_wp2
    all_goals
      first
      | (exfalso; omega)
      | (go_ret
         refine ⟨ret_bool ?_, by go_grown⟩
         rw [Bool.eq_iff_iff]
         simp
         omega)

theorem size_val (n0 c0 n1 c1 : Nat) (a0 a1 : Option Addr) (fuse : Int) (down : Bool) (w : World) (h0 : n0 ≤ 281474976710656) (h1 : n1 ≤ 281474976710656) :
    Calls Try.prog 52 #[.agg #[.slice a0 n0 c0, .slice a1 n1 c1, .int .i64 fuse, .bool down]] w fun e w' => e = .returned (.int .i64 ((n0 : Int) + (n1 : Int))) ∧ Below w.heap.size w w' := by
  go_enter Try.func52, Try.ntmps52
  go_wp2
  go_ret
  exact ⟨rfl, by go_grown⟩
theorem fuseOk_any (fuse : Int) (w : World) : Calls Try.prog 53 #[.int .i64 fuse] w fun e w' => e = .returned (.bool (decide (-1 ≤ fuse) && decide (fuse ≤ 400))) ∧ w' = w := by
  by_cases g2 : -1 ≤ fuse
  all_goals
    go_enter Try.func53, Try.ntmps53
    go_wp2
    go_ret
    exact ⟨ret_bool (by rw [Bool.eq_iff_iff]; simp; omega), rfl⟩
theorem box4D {w w2 : World} {x0 x1 x2 x3 : Value} {T : TypeId} (hb : Below (w.alloc (.cells #[x0, x1, x2, x3] T)).heap.size (w.alloc (.cells #[x0, x1, x2, x3] T)) w2) :
    w2.cell? ⟨w.heap.size, 0, none⟩ = some x0 ∧ w2.cell? ⟨w.heap.size, 1, none⟩ = some x1 ∧ w2.cell? ⟨w.heap.size, 2, none⟩ = some x2 ∧ w2.cell? ⟨w.heap.size, 3, none⟩ = some x3 := by
  refine ⟨?_, ?_, ?_, ?_⟩
  all_goals
    rw [hb.cell (by simp), World.cell?_alloc_at _ _ _ _ rfl]
    rfl
set_option maxHeartbeats 3200000 in
theorem implDiskOk_val (n0 c0 n1 c1 : Nat) (a0 a1 : Option Addr) (fuse : Int) (down : Bool) (w : World) (h0 : n0 ≤ 281474976710656) (h1 : n1 ≤ 281474976710656) :
    Calls Try.prog 29 #[.agg #[.slice a0 n0 c0, .slice a1 n1 c1, .int .i64 fuse, .bool down]] w fun e w' => e = .returned (.bool (decide (n0 + n1 ≤ 8000) && decide (-1 ≤ fuse) && decide (fuse ≤ 400) && (!down || (decide (n1 = 0) && decide (fuse = -1))))) ∧ Below w.heap.size w w' := by
  have HZ := hide (fun W => size_val n0 c0 n1 c1 a0 a1 fuse down W h0 h1)
  cases down
  · go_enter Try.func29, Try.ntmps29
    go_wp2_with (first
      | (go_at_call 52; refine (unhide HZ _).mono ?_; rintro e w1 ⟨rfl, hb1⟩; obtain ⟨x0, x1, x2, x3⟩ := box4D hb1)
      | (go_at_call 53; refine (fuseOk_any _ _).mono ?_; rintro e w2 ⟨rfl, rfl⟩)
      | fail)
    all_goals
      first
      | (exfalso; omega)
      | (go_ret
         refine ⟨ret_bool ?_, by first | exact ((Below.refl _ _).alloc (Nat.le_refl _) _).trans (hb1.mono (by simp)) | go_grown⟩
         rw [Bool.eq_iff_iff]
         simp
         omega)
  · by_cases g1 : n1 = 0
    · subst g1
      by_cases g2 : fuse = -1
      · subst g2
        go_enter Try.func29, Try.ntmps29
        go_wp2_with (first
          | (go_at_call 52; refine (unhide HZ _).mono ?_; rintro e w1 ⟨rfl, hb1⟩; obtain ⟨x0, x1, x2, x3⟩ := box4D hb1)
          | (go_at_call 53; refine (fuseOk_any _ _).mono ?_; rintro e w2 ⟨rfl, rfl⟩)
          | fail)
        all_goals
          first
          | (exfalso; omega)
          | (go_ret
             refine ⟨ret_bool ?_, by first | exact ((Below.refl _ _).alloc (Nat.le_refl _) _).trans (hb1.mono (by simp)) | go_grown⟩
             rw [Bool.eq_iff_iff]
             simp
             omega)
      · have g3 : (fuse != -1) = true := by simpa using g2
        go_enter Try.func29, Try.ntmps29
        go_wp2_with (first
          | (go_at_call 52; refine (unhide HZ _).mono ?_; rintro e w1 ⟨rfl, hb1⟩; obtain ⟨x0, x1, x2, x3⟩ := box4D hb1)
          | (go_at_call 53; refine (fuseOk_any _ _).mono ?_; rintro e w2 ⟨rfl, rfl⟩)
          | fail)
        all_goals
          first
          | (exfalso; omega)
          | (go_ret
             refine ⟨ret_bool ?_, by first | exact ((Below.refl _ _).alloc (Nat.le_refl _) _).trans (hb1.mono (by simp)) | go_grown⟩
             rw [Bool.eq_iff_iff]
             simp
             omega)
    · have g3 : (0 : Int) < (n1 : Int) := by omega
      go_enter Try.func29, Try.ntmps29
      go_wp2_with (first
        | (go_at_call 52; refine (unhide HZ _).mono ?_; rintro e w1 ⟨rfl, hb1⟩; obtain ⟨x0, x1, x2, x3⟩ := box4D hb1)
        | (go_at_call 53; refine (fuseOk_any _ _).mono ?_; rintro e w2 ⟨rfl, rfl⟩)
        | fail)
      all_goals
        first
        | (exfalso; omega)
        | (go_ret
           refine ⟨ret_bool ?_, by first | exact ((Below.refl _ _).alloc (Nat.le_refl _) _).trans (hb1.mono (by simp)) | go_grown⟩
           rw [Bool.eq_iff_iff]
           simp
           omega)
theorem specDiskOk_any (d : DiskV) (v : Value) (w : World) (hf : DiskFit d) (h : DiskRd w v d) : Calls Try.prog 32 #[v] w fun e w' => e = .returned (.bool (diskOkB d)) ∧ Below w.heap.size w w' := by
  obtain ⟨v0, v1, rfl, ⟨a0, c0, rfl, _⟩, ⟨a1, c1, rfl, _⟩⟩ := h
  exact specDiskOk_val d.safe.length c0 d.soft.length c1 a0 a1 d.fuse d.down w hf.1 hf.2
theorem implDiskOk_any (d : DiskV) (v : Value) (w : World) (h0 : d.safe.length ≤ 281474976710656) (h1 : d.soft.length ≤ 281474976710656) (h : DiskRd w v d) : Calls Try.prog 29 #[v] w fun e w' => e = .returned (.bool (diskOkB d)) ∧ Below w.heap.size w w' := by
  obtain ⟨v0, v1, rfl, ⟨a0, c0, rfl, _⟩, ⟨a1, c1, rfl, _⟩⟩ := h
  exact implDiskOk_val d.safe.length c0 d.soft.length c1 a0 a1 d.fuse d.down w h0 h1
end Go.Proofs.Ytddmomcanakoiaa
