/-
  The names that a form asks for, sorted, each once; TreeFree of the program.
-/
import Derived.Test.YtogkfknfbdnkfaaDoorImplLoop
import Derived.Test.YtogkfknfbdnkfaaDoorLaid
import Derived.Sort.OwnSorted
import Derived.Sort.Grow
import Derived.Lib.OwnBridge
set_option linter.unusedVariables false
namespace Go.Proofs.YtogkfknfbdnkfaaDoor
open Go.RowKit Go.Maps Go.Deep Go.Sort

theorem str_rows (L : List ByteArray) : L.map Value.string = (L.map key).map encStr := (Lib.map_encStr L).symm

/-- what sorting and compacting leave -/
theorem names_left {w w1 : World} {g cap nn q : Nat} {os : Array Obj} {L : List ByteArray} (hown : w1.ownsRow w.heap.size 9 1 (.slice (some ⟨g, 0, none⟩) L.length cap) L.length (L.map .string)) (hbel : Below w.heap.size w w1) :
    StrRow w.heap.size (putRow encStr (Sort.ahead (grow (putRow encStr (Sort.ahead w1 nn) g 0 ((L.map key).mergeSort fun x y => decide (x ≤ y)).toArray) os) q) g 0 (Lib.compact ((L.map key).mergeSort fun x y => decide (x ≤ y)) ++ List.replicate (L.length - (Lib.compact ((L.map key).mergeSort fun x y => decide (x ≤ y))).length) []).toArray)
      (.slice (some ⟨g, 0, none⟩) (Lib.compact ((L.map key).mergeSort fun x y => decide (x ≤ y))).length cap) (L.foldl addS []) ∧
    Below w.heap.size w (putRow encStr (Sort.ahead (grow (putRow encStr (Sort.ahead w1 nn) g 0 ((L.map key).mergeSort fun x y => decide (x ≤ y)).toArray) os) q) g 0 (Lib.compact ((L.map key).mergeSort fun x y => decide (x ≤ y)) ++ List.replicate (L.length - (Lib.compact ((L.map key).mergeSort fun x y => decide (x ≤ y))).length) []).toArray) := by
  have hlen : (L.map key).length = L.length := List.length_map ..
  have hl2 : ((L.map key).mergeSort fun x y => decide (x ≤ y)).length = (L.map key).length := List.length_mergeSort _
  have hle := Lib.compact_length_le ((L.map key).mergeSort fun x y => decide (x ≤ y))
  rw [str_rows] at hown
  rcases hown.2 with ⟨h0, _⟩ | ⟨g', cap', cur, hv, hbase, hb, h1, h2, h3, h4⟩
  · cases h0
  cases hv
  have hs := ownsRow_sorted (n := nn) (os := os) (ts := (L.map key).mergeSort fun x y => decide (x ≤ y)) hl2 hbase hb (by rw [hlen]; exact h1) h2 h3
  have hc := Lib.ownsRow_putRow (q := q) (k := (Lib.compact ((L.map key).mergeSort fun x y => decide (x ≤ y))).length) (ys := Lib.compact ((L.map key).mergeSort fun x y => decide (x ≤ y)) ++ List.replicate (L.length - (Lib.compact ((L.map key).mergeSort fun x y => decide (x ≤ y))).length) []) hs (by simp; omega) (by omega)
  rw [List.take_left] at hc
  refine ⟨?_, Lib.below_putRow (hbel.grown (grownBy_sorted _) hbel.size (fun j hj => by cases hj; exact hbase)) hbase⟩
  have e := sort_compact L
  unfold StrRow
  rw [str_rows, ← e]
  have e2 : (L.foldl addS []).length = (Lib.compact ((L.map key).mergeSort fun x y => decide (x ≤ y))).length := by rw [e, List.length_map]
  rw [e2]
  exact hc

/-- the names come back in a row of the call's own -/
def RetNames (w : World) (ts : List ByteArray) (e : Ending) (w' : World) : Prop := ∃ v, e = .returned v ∧ StrRow w.heap.size w' v ts ∧ Below w.heap.size w w'
set_option maxRecDepth 100000 in
set_option maxHeartbeats 1600000 in
theorem freeNames_any (x : NodeV) (l : BT NodeV) (w : World) (B : Nat) (v : Value) (ws : List Value) (hf : FormsAre B w l ws) (hn : IsNode B w x ws v) (hd : dp l ≤ 800) (hl : (fl l).length + 1 ≤ 1000) :
    Calls Tryd.prog 18 #[v] w fun e w' => RetNames w ((freeT x l []).foldl addS []) e w' := by
  have HK := hide (free_any x l w w B v ws (.slice none 0 0) [] (.slice none 0 0) [] hf hn (Below.refl _ _) (.inl ⟨rfl, rfl⟩) (fun g hg => by cases hg) (StrRow.nil _ _) (by simpa using hd) (by simp; omega))
  have hfl := freeT_len x l []
  obtain ⟨tv, uv, rfl⟩ := hn.iface
  generalize freeT x l [] = L at HK hfl
  clear hf hn
  go_enter Tryd.func18, Tryd.ntmps18
  go_wp2_with fail
  refine (unhide HK).mono ?_
  rintro e w1 ⟨nv, rfl, HP⟩
  have HR := hide (show StrRow w.heap.size w1 nv L from (unhide HP).1)
  have HB := hide ((unhide HP).2.below (Below.refl _ _) (fun g hg => by cases hg))
  by_cases h0 : L = []
  · subst h0
    obtain ⟨p, cap, rfl⟩ : ∃ p cap, nv = .slice p 0 cap := by
      rcases (unhide HR).2 with ⟨rfl, _⟩ | ⟨g, cap, cur, rfl, _⟩
      · exact ⟨_, _, rfl⟩
      · exact ⟨_, _, rfl⟩
    have c1 := hide (Tryd.slices_Sort_string_none p cap w1)
    have c2 := hide (Tryd.slices_Compact_string_empty p cap w1)
    go_wp2_with (first
      | (go_at_call 31; refine (unhide c1).mono ?_; rintro e w2 ⟨rfl, rfl⟩)
      | (go_at_call 32; refine (unhide c2).mono ?_; rintro e w3 ⟨rfl, rfl⟩)
      | fail)
    go_ret
    exact ⟨_, rfl, unhide HR, unhide HB⟩
  · have h1 : 1 ≤ L.length := by
      cases L with
      | nil => exact absurd rfl h0
      | cons _ _ => simp
    have hown : w1.ownsRow w.heap.size 9 1 nv L.length ((L.map key).map encStr) := by rw [← str_rows]; exact unhide HR
    obtain ⟨g, cap, rfl, hbg, hgl, hncap, hcm, hlen, hH⟩ := Lib.holds_of_ownsRow hown (by
      intro e
      subst e
      rcases hown.2 with ⟨_, h⟩ | ⟨g, cap, cur, h, _⟩
      · omega
      · cases h)
    have hl2 : ((L.map key).mergeSort fun x y => decide (x ≤ y)).length = L.length := by rw [List.length_mergeSort, List.length_map]
    have c1 := Tryd.slices_Sort_string g 0 cap (L.map key) w1 hH hgl (by omega)
    rw [hlen] at c1
    have c2 := fun nn os => Tryd.slices_Compact_string g 0 cap ((L.map key).mergeSort fun x y => decide (x ≤ y)) (grow (putRow encStr (Sort.ahead w1 nn) g 0 ((L.map key).mergeSort fun x y => decide (x ≤ y)).toArray) os)
      (holds_grow encStr _ os g 0 _ (by simpa [putRow, mapBlock, Sort.ahead] using hgl) (holds_putRow encStr _ g 0 _ _ (holds_ahead encStr w1 nn g 0 _ hH) (by simp))) (by omega) (by omega)
    rw [hl2] at c2
    have C1 := hide c1
    have C2 := hide c2
    have HF := hide (fun nn os q => names_left (nn := nn) (os := os) (q := q) (show w1.ownsRow w.heap.size 9 1 (.slice (some ⟨g, 0, none⟩) L.length cap) L.length (L.map .string) by rw [str_rows]; exact hown) (unhide HB))
    clear hown hH c1 c2 hl2 hlen h0
    go_wp2_with (first
      | (go_at_call 31; refine (unhide C1).mono ?_; rintro e w2 ⟨rfl, nn, os, hw2⟩; have C3 := hide (unhide C2 nn os); rw [← hw2] at C3; have HW2 := hide hw2; clear hw2)
      | (go_at_call 32; refine (unhide C3).mono ?_; rintro e w3 ⟨rfl, q, hw3⟩; have HW3 := hide hw3; clear hw3)
      | fail)
    go_ret
    refine ⟨_, rfl, ?_⟩
    have := unhide HF nn os q
    rw [unhide HW3, unhide HW2]
    exact this
end Go.Proofs.YtogkfknfbdnkfaaDoor
