/-
  Windows: the program takes item by item.
-/
import Derived.Test.YtpiapgjiaeddjaaWinTake
set_option linter.unusedVariables false
namespace Go.Proofs.Ytpiapgjiaeddjaa
open Go.RowKit Go.Maps Go.Deep

theorem lastM_take {ns : List ItemV} {k : Nat} (h : k + 1 ≤ ns.length) : lastM (ns.take (k + 1)) = (ns[k]'(by omega)).a1 := by
  unfold lastM
  rw [List.getLast?_eq_getElem?]
  have hl : (ns.take (k + 1)).length = k + 1 := by simp; omega
  rw [hl, Nat.add_sub_cancel, List.getElem?_take, if_pos (by omega), List.getElem?_eq_getElem (by omega)]
  rfl
/-- each is taken, or it is no window -/
theorem take_step {ns : List ItemV} {k : Nat} (hk : k < ns.length) (hw : WinTo orderOut ns k) :
    (takeC (ns.take k) ns[k] = 0 → WinTo orderOut ns (k + 1)) ∧ (takeC (ns.take k) ns[k] ≠ 0 → windowB orderOut ns = false) := by
  cases hi : itemB ns[k]
  · refine ⟨fun h => ?_, fun _ => win_bad hk hi⟩
    unfold takeC at h
    rw [if_pos hi] at h
    omega
  · cases k with
    | zero =>
      refine ⟨fun _ => win_step0 hk hi, fun h => ?_⟩
      exfalso
      apply h
      unfold takeC
      rw [if_neg (by rw [hi]; simp), if_neg (by simp)]
    | succ j =>
      have hl : lastM (ns.take (j + 1)) = (ns[j]'(by omega)).a1 := lastM_take (by omega)
      have hne : ns.take (j + 1) ≠ [] := by
        intro e
        have := congrArg List.length e
        simp at this
        subst this
        simp at hk
      cases ha : aboveB orderOut (ns[j]'(by omega)).a1 ns[j + 1].a1
      · refine ⟨fun h => ?_, fun _ => win_down hk ha⟩
        unfold takeC at h
        rw [if_neg (by rw [hi]; simp), if_pos ⟨hne, by rw [hl]; exact ha⟩] at h
        omega
      · refine ⟨fun _ => win_step hk hw hi ha, fun h => ?_⟩
        exfalso
        apply h
        unfold takeC
        rw [if_neg (by rw [hi]; simp), if_neg (by rw [hl, ha]; simp)]
theorem RawIs.snoc {w : World} {xs : List RawI} {ns : List ItemV} {k : Nat} (h : RawIs w xs (ns.take k)) (hk : k < ns.length) (x : RawI) (hz : x.z = ns[k].a0) (hm : MarkSRd w x.v ns[k].a1) : RawIs w (xs ++ [x]) (ns.take (k + 1)) := by
  have hl := h.1
  simp at hl
  refine ⟨by simp; omega, fun i h1 h2 => ?_⟩
  simp at h1 h2
  have hkl : xs.length = k := by omega
  by_cases e : i = k
  · subst e
    have e1 : (xs ++ [x])[i]'(by simp; omega) = x := by
      rw [List.getElem_append_right (by omega)]
      simp [hkl]
    rw [e1, List.getElem_take]
    exact ⟨hz, hm⟩
  · rw [List.getElem_append_left (by omega), List.getElem_take]
    have := h.2 i (by omega) (by simp; omega)
    rw [List.getElem_take] at this
    exact this
/-- what windowOf answers -/
def RetWin (w : World) (ns : List ItemV) (e : Ending) (w' : World) : Prop :=
  (windowB orderOut ns = false ∧ e = .returned (.tuple #[.pointer none, .bool false])) ∨
  (windowB orderOut ns = true ∧ ∃ g xs, e = .returned (.tuple #[.pointer (some ⟨g, 0, none⟩), .bool true]) ∧ w.heap.size ≤ g ∧ RingF w' g 0 xs ∧ RawIs w xs ns)
theorem ringZero (w : World) (T : TypeId) : RingF (w.alloc (.cells #[.int .i64 0, .slice none 0 0, .int .i64 0, .slice none 0 0, .int .i64 0, .slice none 0 0, .int .i64 0, .slice none 0 0, .int .i64 0, .int .i64 0] T)) w.heap.size 0 [] := by
  have h := boxF_new w [.int .i64 0, .slice none 0 0, .int .i64 0, .slice none 0 0, .int .i64 0, .slice none 0 0, .int .i64 0, .slice none 0 0, .int .i64 0, .int .i64 0] T
  refine ⟨⟨h.1.1, by omega, by simp, h.1.2 8 _ rfl, h.1.2 9 _ rfl, fun i hi => by simp at hi⟩, fun i hi => ⟨h.2 i (by simpa using hi), ?_⟩⟩
  have hi' : i < [Value.int .i64 0, .slice none 0 0, .int .i64 0, .slice none 0 0, .int .i64 0, .slice none 0 0, .int .i64 0, .slice none 0 0, .int .i64 0, .int .i64 0].length := by simpa using hi
  exact ⟨_, h.1.2 i _ (List.getElem?_eq_getElem hi')⟩

set_option maxRecDepth 100000 in
set_option maxHeartbeats 4000000 in
theorem windowOf_row (w : World) (b off cap : Nat) (ns : List ItemV) (hl : (ns.length : Int) ≤ 4) (hs : SmallItemS ns) (hc : ItemAt w b off ns) (hb : b < w.heap.size) :
    Calls Try.prog 42 #[.slice (some ⟨b, off, none⟩) ns.length cap] w fun e w' => Hid (RetWin w ns e w') ∧ Below w.heap.size w w' := by
  have HS := hide hs.2
  have HC := hide hc
  have HZ := hide (ringZero w 96)
  clear hs hc
  go_enter Try.func42, Try.ntmps42
  go_wp2_with fail
  have hg0 : w.heap.size < (w.alloc (.cells #[.int .i64 0, .slice none 0 0, .int .i64 0, .slice none 0 0, .int .i64 0, .slice none 0 0, .int .i64 0, .slice none 0 0, .int .i64 0, .int .i64 0] 96)).heap.size := by simp
  have HB0 := hide ((Below.refl w.heap.size w).alloc (Nat.le_refl _) (.cells #[.int .i64 0, .slice none 0 0, .int .i64 0, .slice none 0 0, .int .i64 0, .slice none 0 0, .int .i64 0, .slice none 0 0, .int .i64 0, .int .i64 0] 96))
  go_loopw [14] (fun i wr => ∃ k : Nat, k ≤ ns.length ∧ i = .int .i64 k ∧ Hid (WinTo orderOut ns k ∧ ∃ xs, RingF wr w.heap.size 0 xs ∧ RawIs w xs (ns.take k)) ∧ Hid (Below w.heap.size w wr)) (fun i _ => ns.length - (intOf i).toNat)
  case atStart => exact ⟨0, Nat.zero_le _, rfl, hide ⟨win_zero _ _, [], unhide HZ, rfl, fun i h _ => absurd h (Nat.not_lt_zero _)⟩, HB0⟩
  case round =>
    obtain ⟨k, hk, rfl, HI, HBr⟩ := hrel
    by_cases hlt : k < ns.length
    · obtain ⟨HW, xs, HRG, HX⟩ := unhide HI
      have HW := hide HW
      have HRG := hide HRG
      have HX := hide HX
      have hxl : xs.length = k := by have := (unhide HX).1; simp at this; omega
      obtain ⟨c0, v, c1, hv⟩ := (unhide HC).up hb (unhide HBr) k hlt
      have hv0 : MarkSRd w v ns[k].a1 := by
        obtain ⟨d0, v', d1, hv'⟩ := unhide HC k hlt
        have e : w.cell? ⟨b, off + k * 2 + 1, none⟩ = some v := ((unhide HBr).cell (p := ⟨b, off + k * 2 + 1, none⟩) hb).symm.trans c1
        rw [d1] at e
        cases e
        exact hv'
      obtain ⟨a, n, c, rfl⟩ := hv.form
      have HTS := hide (take_step hlt (unhide HW))
      have bbr := (Below.refl wr.heap.size wr).alloc (Nat.le_refl _) (.cells #[.int .i64 ns[k].a0, .slice a n c] 55)
      have HTK := hide (take_any w w.heap.size 0 xs (ns.take k) ⟨ns[k].a0, a, n, c⟩ ns[k] (wr.alloc (.cells #[.int .i64 ns[k].a0, .slice a n c] 55)) ((unhide HBr).trans (bbr.mono (unhide HBr).size)) (Nat.le_refl _) ((unhide HRG).up bbr) (unhide HX) (fun y hy => unhide HS y (List.mem_of_mem_take hy)) hv0 (unhide HS _ (List.getElem_mem hlt)).2)
      have HSN := hide ((unhide HX).snoc hlt ⟨ns[k].a0, a, n, c⟩ rfl hv0)
      have HPL := hide (show takeC (ns.take k) ns[k] = 0 → takeSt (ns.take k) ns[k] 0 xs = 0 ∧ takeL (ns.take k) ns[k] xs ⟨ns[k].a0, a, n, c⟩ = xs ++ [⟨ns[k].a0, a, n, c⟩] from fun h => by
        obtain ⟨_, e1, e2⟩ := take_eq (ns := ns.take k) (nv := ns[k]) 0 xs ⟨ns[k].a0, a, n, c⟩ h
        rw [e1, e2]
        exact ⟨by simp [putSt, hxl]; omega, by simp [putL, hxl]; omega⟩)
      have HG := hide (show w.heap.size ≤ wr.heap.size from (unhide HBr).size)
      clear hv hv0 hxl HRG HX HI bbr
      dsimp only at HTK
      generalize takeC (ns.take k) ns[k] = tc at *
      generalize takeSt (ns.take k) ns[k] 0 xs = ts at *
      generalize takeL (ns.take k) ns[k] xs ⟨ns[k].a0, a, n, c⟩ = tl at *
      generalize ns[k].a0 = z at *
      have d2 : (k : Int) < (ns.length : Int) := by omega
      go_wp2_with fail
      refine (unhide HTK).mono ?_
      rintro e w2 ⟨rfl, HR2, HT2⟩
      have B2 := hide (show Below w.heap.size w w2 from ((unhide HBr).trans ((Below.refl _ _).alloc (unhide HBr).size _)).trans ((unhide HT2).below (by simp; have := unhide HG; omega) (by simp)))
      clear HT2 HTK c0 c1
      by_cases ht : tc = 0
      · have HN := hide (show WinTo orderOut ns (k + 1) ∧ ∃ xs, RingF w2 w.heap.size 0 xs ∧ RawIs w xs (ns.take (k + 1)) from ⟨(unhide HTS).1 ht, tl, by rw [← (unhide HPL ht).1]; exact unhide HR2, by rw [(unhide HPL ht).2]; exact unhide HSN⟩)
        have q : (tc != 0) = false := by simp [ht]
        clear ht HPL HTS HSN HR2
        go_wp2_with fail
        go_roundw
        case rel => exact ⟨k + 1, by omega, by go_num, HN, B2⟩
        case measure => simp [intOf]; omega
      · have HN := hide ((unhide HTS).2 ht)
        have q : (tc != 0) = true := by simp [ht]
        clear ht HPL HTS HSN HR2
        go_wp2_with fail
        go_ret2
        exact ⟨hide (.inl ⟨unhide HN, rfl⟩), unhide B2⟩
    · have HE := hide (show windowB orderOut ns = true ∧ ∃ xs, RingF wr w.heap.size 0 xs ∧ RawIs w xs ns from by
        obtain ⟨h1, xs, h2, h3⟩ := unhide HI
        have e : k = ns.length := by omega
        subst e
        rw [List.take_length] at h3
        exact ⟨win_good (by omega) h1, xs, h2, h3⟩)
      clear HI
      go_wp2_with fail
      go_ret2
      obtain ⟨h1, xs, h2, h3⟩ := unhide HE
      exact ⟨hide (.inr ⟨h1, _, xs, rfl, Nat.le_refl _, h2, h3⟩), unhide HBr⟩
theorem windowOf_none (w : World) (a : Option Addr) (cap : Nat) : Calls Try.prog 42 #[.slice a 0 cap] w fun e w' => Hid (RetWin w [] e w') ∧ Below w.heap.size w w' := by
  have HZ := hide (ringZero w 96)
  have HB0 := hide ((Below.refl w.heap.size w).alloc (Nat.le_refl _) (.cells #[.int .i64 0, .slice none 0 0, .int .i64 0, .slice none 0 0, .int .i64 0, .slice none 0 0, .int .i64 0, .slice none 0 0, .int .i64 0, .int .i64 0] 96))
  have HR := hide (show windowB orderOut [] = true from win_good (by simp) (win_zero orderOut []))
  go_enter Try.func42, Try.ntmps42
  go_wp2_with fail
  refine wp_loop_rounds 1 ?_
  rw [rounds_succ]
  go_wp2_with fail
  go_ret2
  exact ⟨hide (.inr ⟨unhide HR, _, [], rfl, Nat.le_refl _, unhide HZ, rfl, fun i h _ => absurd h (Nat.not_lt_zero _)⟩), unhide HB0⟩
theorem windowOf_long (w : World) (a : Option Addr) (cap : Nat) (ns : List ItemV) (hl : ¬ (ns.length : Int) ≤ 4) : Calls Try.prog 42 #[.slice a ns.length cap] w fun e w' => Hid (RetWin w ns e w') ∧ Below w.heap.size w w' := by
  have HR := hide (show windowB orderOut ns = false from win_long (by omega))
  have g : 4 < (ns.length : Int) := by omega
  have HN := hide (show ∀ e w', windowB orderOut ns = false → e = .returned (.tuple #[.pointer none, .bool false]) → Hid (RetWin w ns e w') from fun e w' h1 h2 => hide (.inl ⟨h1, h2⟩))
  generalize ns.length = n at *
  go_enter Try.func42, Try.ntmps42
  go_wp2_with fail
  go_ret2
  exact ⟨unhide HN _ _ (unhide HR) rfl, Below.refl _ _⟩
/-- a window, or none -/
theorem windowOf_any (ns : List ItemV) (v : Value) (w : World) (hs : SmallItemS ns) (h : ItemSRd w v ns) : Calls Try.prog 42 #[v] w fun e w' => Hid (RetWin w ns e w') ∧ Below w.heap.size w w' := by
  obtain ⟨a, c, rfl, h⟩ := h
  by_cases hl : (ns.length : Int) ≤ 4
  · rcases h with rfl | ⟨b, off, rfl, hb, hc⟩
    · exact windowOf_none w a c
    · exact windowOf_row w b off c ns hl hs hc hb
  · exact windowOf_long w a c ns hl
end Go.Proofs.Ytpiapgjiaeddjaa
