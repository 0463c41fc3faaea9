/-
  A stamp of some of four sources, at a moment.
-/
import Derived.Test.YtlbhandkpnjgmaaStory
import Derived.Deep.RegionHeld
set_option linter.unusedVariables false
namespace Go.Proofs.Ytlbhandkpnjgmaa
open Go.RowKit Go.Maps Go.Deep

def RetVec (w : World) (e : Ending) (w' : World) : Prop := ∃ a n c ms, e = .returned (.slice a n c) ∧ Hid (MkRow w.heap.size w' (.slice a n c) ms) ∧ Hid (Sm 4 ms) ∧ Below w.heap.size w w'
theorem step_mkAppend {w : World} {ops : Array Oper} {o : Oper} {a : Act} {K : Act → World → Prop} {Q : Exit → Act → World → Prop} {E : Prop} (hgd : o.guard = none) (s x : Operand)
    (ho : o.op = .call { callee := .builtin .append, args := #[s, x], argTypes := #[28, 28] }) (B : Nat) (v : Value) (ns : List MarkV) (y : MarkV) (g : Nat) (hs : a.eval s = v) (hx : a.eval x = .slice (some ⟨g, 0, none⟩) 1 1)
    (hv : MkRow B w v ns) (c0 : w.cell? ⟨g, 0, none⟩ = some (.string y.a0)) (c1 : w.cell? ⟨g, 1, none⟩ = some (.int .i64 y.a1)) (hl : ns.length ≤ 1000000) (hB : B ≤ w.heap.size)
    (h : ∀ g' n c w', MkRow B w' (.slice (some ⟨g', 0, none⟩) n c) (ns ++ [y]) → w.grownBy w' v.ownBlock → K (a.put o.dst (.slice (some ⟨g', 0, none⟩) n c)) w') :
    if Region.wanted o (yielded ops a.tmps) = true then Oper.wp Try.prog o a w K Q else E := by
  obtain ⟨i0, hi, hz0, hz1, hz2⟩ := info_parts1 infoMk
  refine step_append_lies w hgd s x 28 ho B 76 i0 _ 2 24 Try.underlying28 hi hz0 hz1 hz2 rfl (by decide) v ns.length (mkCells ns) hs hv ⟨g, 0, none⟩ 1 1 [.string y.a0, .int .i64 y.a1] hx rfl (news_mark c0 c1) (by intro u hu; simp at hu; rcases hu with rfl | rfl <;> rfl) (by decide) (by unfold maxLen; omega) (by omega) hB w.heap.size rfl ?_
  intro g' cap w' h2 h3 h4 h5
  refine h g' _ cap w' ?_ h3
  unfold MkRow
  rw [mkCells_snoc, List.length_append]
  exact h2
def nm4 (k : Nat) : ByteArray := [(⟨#[119]⟩ : ByteArray), ⟨#[120]⟩, ⟨#[121]⟩, ⟨#[122]⟩].getD k ⟨#[]⟩
theorem nm4_size (k : Nat) : (nm4 k).size ≤ 100 := by
  unfold nm4
  match k with
  | 0 => decide
  | 1 => decide
  | 2 => decide
  | 3 => decide
  | k + 4 => simp; decide
theorem nm_cells (w : World) : ∀ k, k < 4 → (w.alloc (.cells #[.string ⟨#[119]⟩, .string ⟨#[120]⟩, .string ⟨#[121]⟩, .string ⟨#[122]⟩] 9)).cell? ⟨w.heap.size, k, none⟩ = some (.string (nm4 k)) := by
  intro k hk
  have h := (boxF_new w [.string ⟨#[119]⟩, .string ⟨#[120]⟩, .string ⟨#[121]⟩, .string ⟨#[122]⟩] 9).1
  match k, hk with
  | 0, _ => exact h.at 0 _ rfl
  | 1, _ => exact h.at 1 _ rfl
  | 2, _ => exact h.at 2 _ rfl
  | 3, _ => exact h.at 3 _ rfl
set_option maxRecDepth 20000 in
set_option maxHeartbeats 6400000 in
theorem l34Vec_any (g n c : Nat) (ts : List Int) (which : Int) (w : World) (h0 : 0 ≤ which) (h1 : which ≤ 100) (h4 : Four ts) (hn : n = 4) (hg : g < w.heap.size) (hc : ∀ i (h : i < ts.length), w.cell? ⟨g, i, none⟩ = some (.int .i64 ts[i])) :
    Calls Try.prog 28 #[.slice (some ⟨g, 0, none⟩) n c, .int .i64 which] w fun e w' => RetVec w e w' := by
  subst hn
  have A1 := hide ((Below.refl w.heap.size w).alloc (Nat.le_refl _) (.cells #[.string ⟨#[119]⟩, .string ⟨#[120]⟩, .string ⟨#[121]⟩, .string ⟨#[122]⟩] 9))
  have HN := hide (nm_cells w)
  have HC := hide (fun i (h : i < ts.length) => show (w.alloc (.cells #[.string ⟨#[119]⟩, .string ⟨#[120]⟩, .string ⟨#[121]⟩, .string ⟨#[122]⟩] 9)).cell? ⟨g, i, none⟩ = some (.int .i64 ts[i]) from ((unhide A1).cell (by exact hg)).trans (hc i h))
  have H4 := hide h4
  have HW := hide (show w.heap.size < (w.alloc (.cells #[.string ⟨#[119]⟩, .string ⟨#[120]⟩, .string ⟨#[121]⟩, .string ⟨#[122]⟩] 9)).heap.size by simp)
  clear hc h4
  go_enter Try.func28, Try.ntmps28
  go_wp2_with fail
  generalize w.alloc (.cells #[.string ⟨#[119]⟩, .string ⟨#[120]⟩, .string ⟨#[121]⟩, .string ⟨#[122]⟩] 9) = W1 at *
  go_loopw [6, 7] (fun o i wr => ∃ (k : Nat) (oa : Option Addr) (on oc : Nat) (ms : List MarkV), k ≤ 4 ∧ i = .int .i64 (k : Int) ∧ o = .slice oa on oc ∧ Hid (MkRow W1.heap.size wr (.slice oa on oc) ms) ∧ Hid (Sm k ms) ∧ Hid (Below W1.heap.size W1 wr)) (fun _ i _ => 4 - (intOf i).toNat)
  case atStart => exact ⟨0, none, 0, 0, [], Nat.zero_le _, rfl, rfl, hide (MkRow.nil _ _), hide (by simp [Sm]), hide (Below.refl _ _)⟩
  case round =>
    obtain ⟨k, oa, on, oc, ms, hk, rfl, rfl, HR, HS, HB⟩ := hrel
    by_cases hlt : k < 4
    · have hk4 : (k : Int) < 4 := by omega
      have hkt : k < ts.length := by have := (unhide H4).1; omega
      have HTB := hide ((unhide H4).2 _ (List.getElem_mem hkt))
      have HCX := hide (fun (X : World) (b : Below W1.heap.size W1 X) => show X.cell? ⟨w.heap.size, k, none⟩ = some (.string (nm4 k)) ∧ X.cell? ⟨g, k, none⟩ = some (.int .i64 ts[k]) from ⟨(b.cell (by exact unhide HW)).trans (unhide HN k hlt), (b.cell (by have := unhide HW; exact Nat.lt_trans hg this)).trans (unhide HC k hkt)⟩)
      have HNS := hide (nm4_size k)
      generalize nm4 k = nm at *
      generalize ts[k] = tk at *
      go_wp2_with fail
      rotate_left
      · have HSK := hide ((unhide HS).mono (show k ≤ k + 1 by omega))
        go_roundw
        case rel => exact ⟨k + 1, oa, on, oc, ms, by omega, by go_num, rfl, HR, HSK, HB⟩
        case measure => simp [intOf]; omega
      rename_i hbit
      clear hbit
      have hS := unhide HCX wr.drew ((unhide HB).drew)
      have HRD := hide ((unhide HR).up (Below.refl wr.heap.size wr).drew)
      have HBD := hide (unhide HB).drew
      refine wp_region_held_drew (S := fun X : World => X.cell? ⟨w.heap.size, k, none⟩ = some (.string nm) ∧ X.cell? ⟨g, k, none⟩ = some (.int .i64 tk)) (by kernel_rfl) hS ?_
      intro hS
      generalize wr.drew = V at *
      clear HB HR
      refine wpAnyH_take (i := 0) (v := .slice oa on oc) rfl (by kernel_rfl) (by kernel_rfl) (by kernel_rfl) (fun _ _ _ h => h) (Or.inl ⟨by rfl, ?_⟩) hS ?_
      · intro X hX
        obtain ⟨hX1, hX2⟩ := hX
        clear hS
        go_simp
        try with_reducible rfl
      try simp [Act.put]
      refine wpAnyH_take (i := 1) (v := .slice (some ⟨w.heap.size, 0, none⟩) 4 4) rfl (by kernel_rfl) (by kernel_rfl) (by kernel_rfl) (fun _ _ _ h => h) (Or.inl ⟨by rfl, ?_⟩) hS ?_
      · intro X hX
        obtain ⟨hX1, hX2⟩ := hX
        clear hS
        go_simp
        try with_reducible rfl
      try simp [Act.put]
      refine wpAnyH_take (i := 2) (v := .int .i64 (k : Int)) rfl (by kernel_rfl) (by kernel_rfl) (by kernel_rfl) (fun _ _ _ h => h) (Or.inl ⟨by rfl, ?_⟩) hS ?_
      · intro X hX
        obtain ⟨hX1, hX2⟩ := hX
        clear hS
        go_simp
        try with_reducible rfl
      try simp [Act.put]
      refine wpAnyH_take (i := 3) (v := .pointer (some ⟨w.heap.size, k, none⟩)) rfl (by kernel_rfl) (by kernel_rfl) (by kernel_rfl) (fun _ _ _ h => h) (Or.inl ⟨by rfl, ?_⟩) hS ?_
      · intro X hX
        obtain ⟨hX1, hX2⟩ := hX
        clear hS
        go_simp
        try with_reducible rfl
      try simp [Act.put]
      refine wpAnyH_take (i := 4) (v := .string nm) rfl (by kernel_rfl) (by kernel_rfl) (by kernel_rfl) (fun _ _ _ h => h) (Or.inl ⟨by rfl, ?_⟩) hS ?_
      · intro X hX
        obtain ⟨hX1, hX2⟩ := hX
        clear hS
        go_simp
        try with_reducible rfl
      try simp [Act.put]
      refine wpAnyH_take (i := 5) (v := .slice (some ⟨g, 0, none⟩) 4 c) rfl (by kernel_rfl) (by kernel_rfl) (by kernel_rfl) (fun _ _ _ h => h) (Or.inl ⟨by rfl, ?_⟩) hS ?_
      · intro X hX
        obtain ⟨hX1, hX2⟩ := hX
        clear hS
        go_simp
        try with_reducible rfl
      try simp [Act.put]
      refine wpAnyH_take (i := 6) (v := .int .i64 (k : Int)) rfl (by kernel_rfl) (by kernel_rfl) (by kernel_rfl) (fun _ _ _ h => h) (Or.inl ⟨by rfl, ?_⟩) hS ?_
      · intro X hX
        obtain ⟨hX1, hX2⟩ := hX
        clear hS
        go_simp
        try with_reducible rfl
      try simp [Act.put]
      refine wpAnyH_take (i := 7) (v := .pointer (some ⟨g, k, none⟩)) rfl (by kernel_rfl) (by kernel_rfl) (by kernel_rfl) (fun _ _ _ h => h) (Or.inl ⟨by rfl, ?_⟩) hS ?_
      · intro X hX
        obtain ⟨hX1, hX2⟩ := hX
        clear hS
        go_simp
        try with_reducible rfl
      try simp [Act.put]
      refine wpAnyH_take (i := 8) (v := .int .i64 tk) rfl (by kernel_rfl) (by kernel_rfl) (by kernel_rfl) (fun _ _ _ h => h) (Or.inl ⟨by rfl, ?_⟩) hS ?_
      · intro X hX
        obtain ⟨hX1, hX2⟩ := hX
        clear hS
        go_simp
        try with_reducible rfl
      try simp [Act.put]
      refine wpAnyH_take (i := 9) (v := .agg #[.string nm, .int .i64 tk]) rfl (by kernel_rfl) (by kernel_rfl) (by kernel_rfl) (fun _ _ _ h => h) (Or.inl ⟨by rfl, ?_⟩) hS ?_
      · intro X hX
        obtain ⟨hX1, hX2⟩ := hX
        clear hS
        go_simp
        try with_reducible rfl
      try simp [Act.put]
      have A2 := hide ((Below.refl V.heap.size V).alloc (Nat.le_refl _) (.cells #[.string nm, .int .i64 tk] 76))
      have HB2 := hide ((unhide HBD).trans ((unhide A2).mono (unhide HBD).size))
      have R2 := hide ((unhide HRD).up (unhide A2))
      have C2 := hide (show (V.alloc (.cells #[.string nm, .int .i64 tk] 76)).cell? ⟨V.heap.size, 0, none⟩ = some (.string nm) ∧ (V.alloc (.cells #[.string nm, .int .i64 tk] 76)).cell? ⟨V.heap.size, 1, none⟩ = some (.int .i64 tk) from by have h := (boxF_new V [.string nm, .int .i64 tk] 76).1; exact ⟨h.at 0 _ rfl, h.at 1 _ rfl⟩)
      refine wpAnyH_ready (rs := [10]) (by kernel_rfl) (by simp) ?_
      refine AllReadyH.cons rfl (fun K hK => ?_) AllReadyH.nil
      go_simp
      refine hK.out _ _ (unhide HCX _ (unhide HB2)) ?_
      clear hK K hS
      intro hS
      try simp [Act.put]
      refine wpAnyH_ready (rs := [11]) (by kernel_rfl) (by simp) ?_
      refine AllReadyH.cons rfl (fun K hK => ?_) AllReadyH.nil
      have HSL := hide (unhide HS).1
      refine step_mkAppend (by rfl) _ _ (by rfl) W1.heap.size (.slice oa on oc) ms ⟨nm, tk⟩ V.heap.size (by rfl) (by rfl) (unhide R2) (unhide C2).1 (unhide C2).2 (by have := unhide HSL; omega) (unhide HB2).size ?_
      intro g3 n3 c3 w3 r3 gr3
      have R3 := hide r3
      have B3 := hide ((unhide HB2).grown gr3 (unhide HB2).size (fun y hy => (unhide R2).ge y hy))
      refine hK.out _ _ (unhide HCX _ (unhide B3)) ?_
      clear hK K hS r3 gr3
      intro hS
      try simp [Act.put]
      have HS3 := hide ((unhide HS).snoc (m := ⟨nm, tk⟩) ⟨unhide HNS, show VFit tk from by have := unhide HTB; exact ⟨by omega, by omega⟩⟩)
      refine wpAnyH_ready (rs := [12]) (by kernel_rfl) (by simp) ?_
      refine AllReadyH.cons rfl (fun K hK => ?_) AllReadyH.nil
      go_simp
      refine hK.out _ _ hS ?_
      clear hK K hS
      intro hS
      try simp [Act.put]
      refine wpAnyH_done (by kernel_rfl) ?_ _
      clear hS
      go_wp2_with fail
      go_roundw
      case rel => exact ⟨k + 1, _, n3, c3, _, by omega, by go_num, rfl, R3, HS3, B3⟩
      case measure => simp [intOf]; omega
    · have e : k = 4 := by omega
      subst e
      have hk4 : ¬ ((4 : Nat) : Int) < 4 := by omega
      have HE := hide (show RetVec w (.returned (.slice oa on oc)) wr from ⟨oa, on, oc, ms, rfl, hide ((unhide HR).mono (unhide A1).size), HS, (unhide A1).trans ((unhide HB).mono (unhide A1).size)⟩)
      clear HR HS HB
      go_wp2_with fail
      go_ret
      exact unhide HE
end Go.Proofs.Ytlbhandkpnjgmaa
