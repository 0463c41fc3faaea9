/-
  ChoiceCount of both sides.
-/
import Derived.Test.YtnijccmhajjdoaaCountI
import Derived.Test.YtnijccmhajjdoaaCountS
set_option linter.unusedVariables false
namespace Go.Proofs.Ytnijccmhajjdoaa
open Go.RowKit Go.Maps Go.Deep

def countN (ws : List (List ItemV)) : Nat := if winsB ws then cb ws [] else 0
theorem wins_four {ws : List (List ItemV)} (h : winsB ws = true) : ∀ x ∈ ws, x.length ≤ 4 := fun x hx => by
  have := winsB_each h x hx
  unfold windowB at this
  simp only [Bool.and_eq_true, decide_eq_true_eq] at this
  exact this.1
theorem all_all (w0 : World) (ws : List (List ItemV)) (b off c1 : Nat) (hs : SmallItemSS ws) (h4 : ∀ x ∈ ws, x.length ≤ 4) (h6 : ws.length ≤ 6) (hc : WinsAt w0 b off ws) (hb : b < w0.heap.size) : ∀ rest, AllSaid w0 ws b off c1 rest
  | [] => all_nil w0 ws b off c1 hs h6 hc hb
  | win :: rest => all_cons w0 ws b off c1 hs h4 h6 hc hb win rest (all_all w0 ws b off c1 hs h4 h6 hc hb rest)
theorem cs_all (ws : List (List ItemV)) : cs ws ws [] = cb ws [] := by
  rw [cs_cb ws ws [] (by simp)]
  simp [agB, stsL]
set_option maxHeartbeats 3200000 in
theorem specCount_any (ws : List (List ItemV)) (v : Value) (w : World) (hs : SmallItemSS ws) (h : ItemSSRd w v ws) :
    Calls Try.prog 6 #[v] w fun e w' => e = .returned (.int .i64 (countN ws : Int)) ∧ Below w.heap.size w w' := by
  have HK := hide (l15Ok_any ws v w hs h)
  obtain ⟨a, c, rfl, h⟩ := h
  have hsl := hs.1
  cases hw : winsB ws
  · have HE := hide (show countN ws = 0 by simp [countN, hw])
    rw [hw] at HK
    clear hw h hs
    go_enter Try.func6, Try.ntmps6
    go_wp2_with fail
    refine (unhide HK).mono ?_
    rintro e w1 ⟨rfl, b1⟩
    go_wp2_with fail
    go_ret
    exact ⟨by rw [unhide HE]; rfl, b1⟩
  · have HE := hide (show countN ws = cs ws ws [] by simp [countN, hw, cs_all])
    obtain ⟨h1, h6⟩ := winsB_len hw
    rcases h with rfl | ⟨b, off, rfl, hb, hc⟩
    · simp at h1
    have HA := hide (fun (W : World) (bW : Below w.heap.size w W) => all_all w ws b off c hs (wins_four hw) h6 hc hb ws [] none 0 (.slice none 0 0) 0 W (by simp) (by simp) (by simp [inB]) (by have : 4 ^ ws.length ≤ 4 ^ 6 := Nat.pow_le_pow_right (by decide) h6; omega) (.inl rfl) (FdRow.nil _ _) bW)
    simp only [List.length_nil, Nat.zero_add] at HA
    rw [hw] at HK
    clear hw hs hc
    go_enter Try.func6, Try.ntmps6
    go_wp2_with fail
    refine (unhide HK).mono ?_
    rintro e w1 ⟨rfl, b1⟩
    have B1 := hide b1
    clear b1
    go_wp2_with fail
    refine (unhide HA _ (unhide B1)).mono ?_
    rintro e w2 ⟨v2, rfl, F2, A2, T2⟩
    obtain ⟨fa, fc, rfl⟩ := (unhide F2).form
    have B2 := hide ((unhide B1).trans ((unhide T2).below (unhide B1).size (fun k hk => by simp [Value.ownBlock] at hk)))
    clear F2 A2 T2
    go_wp2_with fail
    go_ret
    exact ⟨by rw [unhide HE]; rfl, unhide B2⟩
set_option maxHeartbeats 3200000 in
theorem implCount_any (ws : List (List ItemV)) (a : Option Addr) (c : Nat) (w : World) (hs : SmallItemSS ws) (hcap : ws.length ≤ c) (h : ItemSSRd w (.slice a ws.length c) ws) :
    Calls Try.prog 8 #[.slice a ws.length c] w fun e w' => e = .returned (.int .i64 (countN ws : Int)) ∧ Below w.heap.size w w' := by
  have HK := hide (windowsOk_any ws (.slice a ws.length c) w hs h)
  obtain ⟨a', c', e, h⟩ := h
  simp only [Value.slice.injEq, true_and] at e
  obtain ⟨rfl, rfl⟩ := e
  have hsl := hs.1
  cases hw : winsB ws
  · have HE := hide (show countN ws = 0 by simp [countN, hw])
    rw [hw] at HK
    clear hw h hs
    go_enter Try.func8, Try.ntmps8
    go_wp2_with fail
    refine (unhide HK).mono ?_
    rintro e w1 ⟨rfl, b1⟩
    go_wp2_with fail
    go_ret
    exact ⟨by rw [unhide HE]; rfl, b1⟩
  · have HE := hide (show countN ws = cb ws [] by simp [countN, hw])
    obtain ⟨h1, h6⟩ := winsB_len hw
    have HA := hide (fun (W : World) (bW : Below w.heap.size w W) => count_all w ws hs (wins_four hw) a c [] [] (.slice none 0 0) W hcap h (fun _ h => by cases h) (by simp; omega) ⟨rfl, fun j h => by simp at h⟩ (SlRow.nil _ _) bW)
    rw [hw] at HK
    clear hw hs h
    go_enter Try.func8, Try.ntmps8
    go_wp2_with fail
    refine (unhide HK).mono ?_
    rintro e w1 ⟨rfl, b1⟩
    have B1 := hide b1
    clear b1
    go_wp2_with fail
    refine (unhide HA _ (unhide B1)).mono ?_
    rintro e w2 ⟨rfl, _, T2⟩
    have B2 := hide ((unhide B1).trans ((unhide T2).below (unhide B1).size (fun k hk => by simp [Value.ownBlock] at hk)))
    clear T2
    go_wp2_with fail
    go_ret
    exact ⟨by rw [unhide HE]; rfl, unhide B2⟩
end Go.Proofs.Ytnijccmhajjdoaa
