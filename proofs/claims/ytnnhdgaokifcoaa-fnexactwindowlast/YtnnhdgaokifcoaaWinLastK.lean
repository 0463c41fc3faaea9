/-
  WindowLast on both sides, as the law asks.
-/
import Derived.Test.YtnnhdgaokifcoaaWinLastS
import Derived.Test.YtnnhdgaokifcoaaItemKit
set_option linter.unusedVariables false
namespace Go.Proofs.Ytnnhdgaokifcoaa
open Go.RowKit Go.Maps Go.Deep

set_option maxHeartbeats 3200000 in
theorem specLast_nil (w : World) (a : Option Addr) (cap : Nat) :
    Calls Try.prog 6 #[.slice a 0 cap] w fun e w' => RetItemR (lastI []) (lastB []) w e w' := by
  have HK := hide (fun W (bW : Below w.heap.size w W) => specWindow_ok [] (.slice a 0 cap) W ⟨by simp, by simp⟩ ⟨_, _, rfl, .inl rfl⟩)
  have hw : windowB orderOut [] = true := by rfl
  rw [hw] at HK
  have Y0 := hide (boxF_new w [.int .i64 0, .slice none 0 0] 26)
  have NO := hide (show ∀ w1, Below w.heap.size w w1 → ∀ X, Turn [w.heap.size] w1 X → RetItemR (lastI []) (lastB []) w (.returned (.tuple #[.agg #[.int .i64 0, .slice none 0 0], .bool false])) X from fun w1 b1 X ht => 
    ⟨_, rfl, hide (markSRd_none X), b1.trans (ht.below b1.size (by simp))⟩)
  clear hw
  go_enter Try.func6, Try.ntmps6
  go_wp2_with fail
  refine (unhide HK _ (by go_grown)).mono ?_
  rintro e w1 ⟨rfl, b1⟩
  have Y1 := hide ((unhide Y0).up b1)
  have B1 := hide (show Below w.heap.size w w1 from Below.trans (by go_grown) (b1.mono (by simp)))
  clear b1 Y0
  have y0 := (unhide Y1).1.2 0 _ rfl
  have y1 := (unhide Y1).1.2 1 _ rfl
  have j0 := (unhide Y1).2 0 (by simp)
  have j1 := (unhide Y1).2 1 (by simp)
  go_wp2_with fail
  refine bodyPost_ret (v := .tuple #[.agg #[.int .i64 0, .slice none 0 0], .bool false]) (by simp [results, Try.results6, go_sem, y0, y1]) rfl ?_
  exact unhide NO _ (unhide B1) _ (((Turn.refl _ _).setCell (by simp) _ _).setCell (by simp) _ _)
theorem specLast_kit {S : List Nat} (ns : List ItemV) (v : Value) (w : World) (hs : SmallItemS ns) (h : ItemSFull S w v ns) :
    Calls Try.prog 6 #[v] w fun e w' => ∃ v, e = .returned (.tuple #[v, .bool (lastB ns)]) ∧ Hid (ItemRd w' v (lastI ns)) ∧ Below w.heap.size w w' := by
  have key : Calls Try.prog 6 #[v] w fun e w' => RetItemR (lastI ns) (lastB ns) w e w' := by
    obtain ⟨a, c, rfl, hc, hl, h⟩ := h
    rcases h with rfl | ⟨b, off, G, rfl, h⟩
    · exact specLast_nil w a c
    · exact specLast_row w b off c ns hs (hl b h.mem) h.at'.rd hc
  refine key.mono ?_
  rintro e w' ⟨u, rfl, h1, h2⟩
  exact ⟨_, rfl, hide ⟨u, rfl, unhide h1⟩, h2⟩
theorem implLast_kit {S : List Nat} (ns : List ItemV) (v : Value) (w : World) (hs : SmallItemS ns) (h : ItemSFull S w v ns) :
    Calls Try.prog 8 #[v] w fun e w' => ∃ v S, e = .returned (.tuple #[v, .bool (lastB ns)]) ∧ Hid (ItemOwn S w' v (lastI ns)) ∧ Hid (∀ k ∈ S, w.heap.size ≤ k) ∧ Below w.heap.size w w' := by
  refine (implLast_any ns v w hs h.rd).mono ?_
  rintro e w' ⟨u, rfl, h1, h2⟩
  obtain ⟨S, h1, h3, _⟩ := (unhide h1).own
  exact ⟨_, S, rfl, hide ⟨u, rfl, h1⟩, hide h3, h2⟩
theorem small_lastI {ns : List ItemV} (hs : SmallItemS ns) : SmallItem (lastI ns) := by
  have none : SmallItem ⟨0, []⟩ := ⟨by simp, ⟨by simp, by simp⟩, by intro x hx; simp at hx⟩
  unfold lastI
  split
  · cases h : ns.getLast? with
    | none => exact none
    | some x => exact hs.2 x (List.mem_of_getLast? h)
  · exact none
end Go.Proofs.Ytnnhdgaokifcoaa
