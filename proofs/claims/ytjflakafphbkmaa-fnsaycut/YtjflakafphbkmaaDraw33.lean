/-
  The specification's draws of names, of bytes and of stamps of words.
-/
import Derived.Test.YtjflakafphbkmaaRdy
import Derived.Test.YtjflakafphbkmaaByAppend
import Derived.Test.YtjflakafphbkmaaSayBytesS
import Derived.Test.YtjflakafphbkmaaVerApp
import Derived.Test.YtjflakafphbkmaaBoxes
import Derived.Handy
import Derived.Deep.DeepCutAuto
import Derived.Deep.CutBlock
set_option linter.unusedVariables false
namespace Go.Proofs.Ytjflakafphbkmaa
open Go.RowKit Go.Maps Go.Deep

theorem ByRow.turn33 {B : Nat} {g : Nat} {w w' : World} {v : Value} {bs : List UInt8} (h : ByRow B w v bs) (ht : Turn [g] w w') (hg : g < B) : ByRow B w' v bs := h.turn ht (fun k hk hm => by have := h.ge k hk; simp at hm; omega)
theorem VrRow.turn33 {B : Nat} {g : Nat} {w w' : World} {v : Value} {rs : List VerV} (h : VrRow B w v rs) (ht : Turn [g] w w') (hg : g < B) : VrRow B w' v rs := h.keep (fun k hk => ht.block k (h.lt k hk) (fun hm => by have := h.ge k hk; simp at hm; omega))
def nmF33 (j : Nat) : ByteArray := [(⟨#[120]⟩ : ByteArray), ⟨#[121]⟩, ⟨#[115, 45, 49]⟩, ⟨#[97, 98, 99, 100, 101, 102, 103, 104]⟩, ⟨#[122, 57]⟩, ⟨#[113]⟩].getD j ⟨#[]⟩
theorem nmF33_size (j : Nat) : (nmF33 j).size ≤ 100 := by
  match j with
  | 0 | 1 | 2 | 3 | 4 | 5 => decide
  | n + 6 => simp [nmF33, ByteArray.size]
def RetNm33 (base g N : Nat) (w0 w : World) (e : Ending) (w' : World) : Prop := ∃ s : ByteArray, e = .returned (.string s) ∧ Hid (s.size ≤ 100) ∧ Hid (Rdy base g (N + 1) w0 w') ∧ Hid (Turn [g] w w')
set_option maxHeartbeats 1600000 in
theorem l33Name_any (base g N : Nat) (w0 w : World) (hN : N ≤ 1000000) (h : Rdy base g N w0 w) :
    Calls Try.prog 20 #[.pointer (some ⟨g, 0, none⟩)] w fun e w' => RetNm33 base g N w0 w e w' := by
  have hgl := Nat.lt_of_lt_of_le h.lt h.turn.size
  have hc : ∀ j, j < 6 → (w.alloc (.cells #[.string ⟨#[120]⟩, .string ⟨#[121]⟩, .string ⟨#[115, 45, 49]⟩, .string ⟨#[97, 98, 99, 100, 101, 102, 103, 104]⟩, .string ⟨#[122, 57]⟩, .string ⟨#[113]⟩] 9)).cell? ⟨w.heap.size, j, none⟩ = some (.string (nmF33 j)) := fun j hj => by
    rw [World.cell?_alloc_at _ _ _ _ rfl]
    match j, hj with
    | 0, _ | 1, _ | 2, _ | 3, _ | 4, _ | 5, _ => rfl
  have bb := (Below.refl w.heap.size w).alloc (Nat.le_refl _) (.cells #[.string ⟨#[120]⟩, .string ⟨#[121]⟩, .string ⟨#[115, 45, 49]⟩, .string ⟨#[97, 98, 99, 100, 101, 102, 103, 104]⟩, .string ⟨#[122, 57]⟩, .string ⟨#[113]⟩] 9)
  have hz : w.heap.size < (w.alloc (.cells #[.string ⟨#[120]⟩, .string ⟨#[121]⟩, .string ⟨#[115, 45, 49]⟩, .string ⟨#[97, 98, 99, 100, 101, 102, 103, 104]⟩, .string ⟨#[122, 57]⟩, .string ⟨#[113]⟩] 9)).heap.size := by simp
  have HC := hide hc
  have R1 := hide (h.up bb)
  have T1 := hide (show Turn [g] w _ from Turn.of_below bb)
  clear h bb hc
  go_enter Try.func20, Try.ntmps20
  go_wp2_with fail
  generalize w.alloc (.cells #[.string ⟨#[120]⟩, .string ⟨#[121]⟩, .string ⟨#[115, 45, 49]⟩, .string ⟨#[97, 98, 99, 100, 101, 102, 103, 104]⟩, .string ⟨#[122, 57]⟩, .string ⟨#[113]⟩] 9) = W at *
  refine (pick_rdy base g N 6 w0 W (by omega) (by omega) (by omega) (unhide R1)).mono ?_
  rintro e w2 ⟨v, rfl, v1, R2, T2⟩
  have vt : v < 6 := by omega
  have c0 := ((unhide T2).cell hz (by simp; omega)).trans (unhide HC v vt)
  have T3 := hide ((unhide T1).trans (unhide T2))
  have hs := hide (nmF33_size v)
  clear T2 R1 T1 HC
  generalize nmF33 v = s at *
  go_wp2_with fail
  go_ret
  exact ⟨_, rfl, hs, R2, T3⟩
def RetRaw33 (base g N n : Nat) (w0 w : World) (e : Ending) (w' : World) : Prop := ∃ a c bs, e = .returned (.slice a n c) ∧ Hid (ByRow w.heap.size w' (.slice a n c) bs) ∧ bs.length = n ∧ Hid (Rdy base g N w0 w') ∧ Hid (w.heap.size ≤ w'.heap.size)
end Go.Proofs.Ytjflakafphbkmaa
