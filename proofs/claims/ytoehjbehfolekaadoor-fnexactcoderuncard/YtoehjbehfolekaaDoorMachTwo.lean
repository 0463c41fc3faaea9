/-
  What the program's machine does at one instruction that takes two off.
-/
import Derived.Test.YtoehjbehfolekaaDoorMachDo
import Derived.BigRegion
import Derived.BigGuard
import Derived.BigCall
set_option linter.unusedVariables false
namespace Go.Proofs.YtoehjbehfolekaaDoor
open Go.RowKit Go.Maps Go.Deep

set_option maxRecDepth 100000 in
set_option maxHeartbeats 1600000 in
theorem doWith_two0 (B b sg vb nb : Nat) (D : DataW Unit) (m : VM) (a top : Int) (s : ByteArray) (w : World) (h : Mach B b sg vb nb D m w) (hBw : B ≤ w.heap.size) (hl : m.st = []) :
    Calls Tryd.prog 74 #[.pointer (some ⟨b, 0, none⟩), .agg #[.int .i64 7, .int .i64 a, .string s], .int .i64 top] w fun e w' => DoSaid B b sg vb nb D (m.doWith 7 a m.st top) e w' ∧ Below B w w' := by
  obtain ⟨v, h⟩ := h
  have hlt := h.lt
  have hB := h.low
  have bA := (Below.refl w.heap.size w).alloc (Nat.le_refl _) (.cells #[.int .i64 7, .int .i64 a, .string s] 49)
  have hA := h.below bA
  have hzA : w.heap.size < (w.alloc (.cells #[.int .i64 7, .int .i64 a, .string s] 49)).heap.size := by simp
  have BA := hide ((Below.refl B w).alloc hBw (.cells #[.int .i64 7, .int .i64 a, .string s] 49))
  have c0 : (w.alloc (.cells #[.int .i64 7, .int .i64 a, .string s] 49)).cell? ⟨w.heap.size, 0, none⟩ = some (.int .i64 7) := World.cell?_alloc_at _ _ _ _ rfl
  have c1 : (w.alloc (.cells #[.int .i64 7, .int .i64 a, .string s] 49)).cell? ⟨w.heap.size, 1, none⟩ = some (.int .i64 a) := World.cell?_alloc_at _ _ _ _ rfl
  have c2 : (w.alloc (.cells #[.int .i64 7, .int .i64 a, .string s] 49)).cell? ⟨w.heap.size, 2, none⟩ = some (.string s) := World.cell?_alloc_at _ _ _ _ rfl
  have hO := hide (show m.doWith 7 a m.st top = .stuck by unfold VM.doWith; simp [hl])
  clear h bA
  go_enter Tryd.func74, Tryd.ntmps74
  go_wp2_with fail
  generalize hW : w.alloc (.cells #[.int .i64 7, .int .i64 a, .string s] 49) = W at *
  clear hW
  have HD := hide (show Mach B b sg vb nb D m W from ⟨v, hA⟩)
  clear hA
  go_wp2_with (first
    | (go_at_call 42; refine (mpop_none B b sg vb nb D m _ (unhide HD) hl).mono ?_; rintro e w2 ⟨rfl, rfl⟩)
    | go_in)
  go_quiet (fail)
  go_wp2
  go_ret
  exact ⟨do_off (unhide hO), below_dn (unhide BA) _⟩

set_option maxRecDepth 100000 in
set_option maxHeartbeats 6400000 in
theorem doWith_two (B b sg vb nb : Nat) (D : DataW Unit) (m : VM) (a top : Int) (s : ByteArray) (w : World) (h : Mach B b sg vb nb D m w) (hBw : B ≤ w.heap.size) (hl : ¬ m.st = []) (h5 : m.st.length ≤ 500) (hra : ranged a) (hrt : ranged (m.st.getLastD 0)) :
    Calls Tryd.prog 74 #[.pointer (some ⟨b, 0, none⟩), .agg #[.int .i64 7, .int .i64 a, .string s], .int .i64 top] w fun e w' => DoSaid B b sg vb nb D (m.doWith 7 a m.st top) e w' ∧ Below B w w' := by
  obtain ⟨v, h⟩ := h
  have hlt := h.lt
  have hB := h.low
  have bA := (Below.refl w.heap.size w).alloc (Nat.le_refl _) (.cells #[.int .i64 7, .int .i64 a, .string s] 49)
  have hA := h.below bA
  have hzA : w.heap.size < (w.alloc (.cells #[.int .i64 7, .int .i64 a, .string s] 49)).heap.size := by simp
  have BA := hide ((Below.refl B w).alloc hBw (.cells #[.int .i64 7, .int .i64 a, .string s] 49))
  have c0 : (w.alloc (.cells #[.int .i64 7, .int .i64 a, .string s] 49)).cell? ⟨w.heap.size, 0, none⟩ = some (.int .i64 7) := World.cell?_alloc_at _ _ _ _ rfl
  have c1 : (w.alloc (.cells #[.int .i64 7, .int .i64 a, .string s] 49)).cell? ⟨w.heap.size, 1, none⟩ = some (.int .i64 a) := World.cell?_alloc_at _ _ _ _ rfl
  have c2 : (w.alloc (.cells #[.int .i64 7, .int .i64 a, .string s] 49)).cell? ⟨w.heap.size, 2, none⟩ = some (.string s) := World.cell?_alloc_at _ _ _ _ rfl
  have hO := hide (show m.doWith 7 a m.st top = .on { m with st := m.st.dropLast ++ [opVal a (m.st.getLastD 0) top] } by unfold VM.doWith; simp [hl])
  have hl4 : (m.st.dropLast).length < 500 := by
    have := List.length_pos_iff.2 hl
    simp; omega
  clear h bA
  go_enter Tryd.func74, Tryd.ntmps74
  go_wp2_with fail
  generalize hW : w.alloc (.cells #[.int .i64 7, .int .i64 a, .string s] 49) = W at *
  clear hW
  have HD := hide (show Mach B b sg vb nb D m W from ⟨v, hA⟩)
  clear hA
  generalize hlast : m.st.getLastD 0 = x at hrt hO
  have HX := hide hlast
  clear hlast
  go_wp2_with (first
    | (go_at_call 42; refine (mpop_some B b sg vb nb D m _ (unhide HD) hl h5).mono ?_; rw [unhide HX]; rintro e w2 ⟨rfl, hM2, hb2, u2, hw2⟩; have HW2 := hide hw2; clear hw2)
    | go_in)
  have HM2 := hide (show Mach B b sg vb nb D { m with st := m.st.dropLast } w2.drew from hM2.drew)
  have HB2 := hide ((unhide BA).trans (hb2.mono (Nat.le_refl _)))
  have hzz : B ≤ w.heap.size := hBw
  obtain ⟨v2, hA2⟩ := hM2
  have HS := hide hA2.drew.signs
  have e0 : w2.drew.cell? ⟨b, 0, none⟩ = some (.map (some sg)) := hA2.c0
  have d1 : w2.drew.cell? ⟨w.heap.size, 1, none⟩ = some (.int .i64 a) := by
    rw [unhide HW2]
    exact (World.cell?_setCell_other _ _ _ _ (by intro e; injection e; omega)).trans c1
  clear hA2 hb2
  refine wp_region_any (by kernel_rfl) ?_
  change wpAny _ _ _ _ _ _ _ (World.drew _)
  refine wpAny_take (i := 0) (v := ?_) rfl (by kernel_rfl) (by kernel_rfl) (by kernel_rfl) (fun _ _ _ h => h) (Or.inl ⟨by rfl, ?_⟩) ?_
  rotate_left 1
  · intro w'
    go_simp
    try with_reducible rfl
  try simp [Act.put]
  refine wpAny_take (i := 1) (v := ?_) rfl (by kernel_rfl) (by kernel_rfl) (by kernel_rfl) (fun _ _ _ h => h) (Or.inl ⟨by rfl, ?_⟩) ?_
  rotate_left 1
  · intro w'
    go_simp
    try with_reducible rfl
  try simp [Act.put]
  refine wpAny_take (i := 2) (v := ?_) rfl (by kernel_rfl) (by kernel_rfl) (by kernel_rfl) (fun _ _ _ h => h) (Or.inl ⟨by rfl, ?_⟩) ?_
  rotate_left 1
  · intro w'
    go_simp
    try with_reducible rfl
  try simp [Act.put]
  refine wpAny_take (i := 3) (v := ?_) rfl (by kernel_rfl) (by kernel_rfl) (by kernel_rfl) (fun _ _ _ h => h) (Or.inl ⟨by rfl, ?_⟩) ?_
  rotate_left 1
  · intro w'
    go_simp
    try with_reducible rfl
  try simp [Act.put]
  refine wpAny_take (i := 4) (v := ?_) rfl (by kernel_rfl) (by kernel_rfl) (by kernel_rfl) (fun _ _ _ h => h) (Or.inl ⟨by rfl, ?_⟩) ?_
  rotate_left 1
  · intro w'
    go_simp
    try with_reducible rfl
  try simp [Act.put]
  refine wpAny_take (i := 5) (v := ?_) rfl (by kernel_rfl) (by kernel_rfl) (by kernel_rfl) (fun _ _ _ h => h) (Or.inl ⟨by rfl, ?_⟩) ?_
  rotate_left 1
  · intro w'
    go_simp
    try with_reducible rfl
  try simp [Act.put]
  refine wpAny_take (i := 6) (v := ?_) rfl (by kernel_rfl) (by kernel_rfl) (by kernel_rfl) (fun _ _ _ h => h) (Or.inl ⟨by rfl, ?_⟩) ?_
  rotate_left 1
  · intro w'
    go_simp
    try with_reducible rfl
  try simp [Act.put]
  refine wpAny_take (i := 7) (v := ?_) rfl (by kernel_rfl) (by kernel_rfl) (by kernel_rfl) (fun _ _ _ h => h) (Or.inl ⟨by rfl, ?_⟩) ?_
  rotate_left 1
  · intro w'
    go_simp
    try with_reducible rfl
  try simp [Act.put]
  refine wpAny_take (i := 9) (v := ?_) rfl (by kernel_rfl) (by kernel_rfl) (by kernel_rfl) (fun _ _ _ h => h) (Or.inl ⟨by rfl, ?_⟩) ?_
  rotate_left 1
  · intro w'
    go_simp
    try with_reducible rfl
  try simp [Act.put]
  refine wpAny_take (i := 11) (v := ?_) rfl (by kernel_rfl) (by kernel_rfl) (by kernel_rfl) (fun _ _ _ h => h) (Or.inl ⟨by rfl, ?_⟩) ?_
  rotate_left 1
  · intro w'
    go_simp
    try with_reducible rfl
  try simp [Act.put]
  refine wpAny_take (i := 12) (v := ?_) rfl (by kernel_rfl) (by kernel_rfl) (by kernel_rfl) (fun _ _ _ h => h) (Or.inl ⟨by rfl, ?_⟩) ?_
  rotate_left 1
  · intro w'
    go_simp
    try with_reducible rfl
  try simp [Act.put]
  refine wpAny_ready (rs := [8, 10]) (by kernel_rfl) (by simp) ?_
  refine AllReady.cons rfl (fun K hK => ?_) ?_
  · go_simp
    refine hK _ _ ?_
    clear hK K
    try simp [Act.put]
    refine wpAny_ready (rs := [10]) (by kernel_rfl) (by simp) ?_
    refine AllReady.cons rfl (fun K hK => ?_) AllReady.nil
    go_simp
    refine hK _ _ ?_
    clear hK K
    try simp [Act.put]
    refine wpAny_ready (rs := [13]) (by kernel_rfl) (by simp) ?_
    refine AllReady.cons rfl (fun K hK => ?_) AllReady.nil
    go_simp
    go_wp2_with (go_at_call 78; refine (of_any _ sg a x top hra hrt (unhide HS)).mono ?_; rintro e w3 ⟨rfl, rfl⟩)
    try refine hK _ _ ?_
    try clear hK K
    try simp [Act.put]
    refine wpAny_ready (rs := [14]) (by kernel_rfl) (by simp) ?_
    refine AllReady.cons rfl (fun K hK => ?_) AllReady.nil
    go_simp
    go_wp2_with (go_at_call 73; refine (mpush_room B b sg vb nb D { m with st := m.st.dropLast } _ _ (unhide HM2) hl4).mono ?_; rintro e w4 ⟨rfl, hM4, hb4⟩)
    try refine hK _ _ ?_
    try clear hK K
    try simp [Act.put]
    refine wpAny_take (i := 15) (v := ?_) rfl (by kernel_rfl) (by kernel_rfl) (by kernel_rfl) (fun _ _ _ h => h) (Or.inl ⟨by rfl, ?_⟩) ?_
    rotate_left 1
    · intro w'
      go_simp
      try with_reducible rfl
    try simp [Act.put]
    refine wpAny_take (i := 16) (v := ?_) rfl (by kernel_rfl) (by kernel_rfl) (by kernel_rfl) (fun _ _ _ h => h) (Or.inl ⟨by rfl, ?_⟩) ?_
    rotate_left 1
    · intro w'
      go_simp
      try with_reducible rfl
    try simp [Act.put]
    refine wpAny_done (by kernel_rfl) ?_ _
    have HM4 := hide hM4
    have HB4 := hide ((unhide HB2).drew.trans (hb4.mono (Nat.le_refl _)))
    clear hM4 hb4
    go_wp2
    go_ret
    exact ⟨do_on (unhide hO) (unhide HM4), unhide HB4⟩
  · refine AllReady.cons rfl (fun K hK => ?_) AllReady.nil
    go_simp
    refine hK _ _ ?_
    clear hK K
    try simp [Act.put]
    refine wpAny_ready (rs := [8]) (by kernel_rfl) (by simp) ?_
    refine AllReady.cons rfl (fun K hK => ?_) AllReady.nil
    go_simp
    refine hK _ _ ?_
    clear hK K
    try simp [Act.put]
    refine wpAny_ready (rs := [13]) (by kernel_rfl) (by simp) ?_
    refine AllReady.cons rfl (fun K hK => ?_) AllReady.nil
    go_simp
    go_wp2_with (go_at_call 78; refine (of_any _ sg a x top hra hrt (unhide HS)).mono ?_; rintro e w3 ⟨rfl, rfl⟩)
    try refine hK _ _ ?_
    try clear hK K
    try simp [Act.put]
    refine wpAny_ready (rs := [14]) (by kernel_rfl) (by simp) ?_
    refine AllReady.cons rfl (fun K hK => ?_) AllReady.nil
    go_simp
    go_wp2_with (go_at_call 73; refine (mpush_room B b sg vb nb D { m with st := m.st.dropLast } _ _ (unhide HM2) hl4).mono ?_; rintro e w4 ⟨rfl, hM4, hb4⟩)
    try refine hK _ _ ?_
    try clear hK K
    try simp [Act.put]
    refine wpAny_take (i := 15) (v := ?_) rfl (by kernel_rfl) (by kernel_rfl) (by kernel_rfl) (fun _ _ _ h => h) (Or.inl ⟨by rfl, ?_⟩) ?_
    rotate_left 1
    · intro w'
      go_simp
      try with_reducible rfl
    try simp [Act.put]
    refine wpAny_take (i := 16) (v := ?_) rfl (by kernel_rfl) (by kernel_rfl) (by kernel_rfl) (fun _ _ _ h => h) (Or.inl ⟨by rfl, ?_⟩) ?_
    rotate_left 1
    · intro w'
      go_simp
      try with_reducible rfl
    try simp [Act.put]
    refine wpAny_done (by kernel_rfl) ?_ _
    have HM4 := hide hM4
    have HB4 := hide ((unhide HB2).drew.trans (hb4.mono (Nat.le_refl _)))
    clear hM4 hb4
    go_wp2
    go_ret
    exact ⟨do_on (unhide hO) (unhide HM4), unhide HB4⟩

end Go.Proofs.YtoehjbehfolekaaDoor
