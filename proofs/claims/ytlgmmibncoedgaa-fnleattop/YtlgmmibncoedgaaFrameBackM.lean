/-
  Frames that are read back; frames that are cut or turned: the mathematics.
-/
import Derived.Test.YtlgmmibncoedgaaSum7
import Derived.Test.YtlgmmibncoedgaaMerged6
import Derived.Test.YtlgmmibncoedgaaFrameBytesS
set_option linter.unusedVariables false
namespace Go.Proofs.Ytlgmmibncoedgaa
open Go.RowKit Go.Maps Go.Deep

theorem hd_form (body : List UInt8) : frameHd body = [245, beB (body.length : Int) 1, beB (body.length : Int) 0] := rfl
theorem sz_hd (n : Nat) (t : List UInt8) (h1 : 1 ≤ n) (h2 : n ≤ 260) : frameSz (245 :: beB (n : Int) 1 :: beB (n : Int) 0 :: t) = (n : Int) + 5 := by
  have e0 : byN (245 :: beB (n : Int) 1 :: beB (n : Int) 0 :: t) 0 = 245 := rfl
  have e1 : byN (245 :: beB (n : Int) 1 :: beB (n : Int) 0 :: t) 1 = (beB (n : Int) 1).toNat := rfl
  have e2 : byN (245 :: beB (n : Int) 1 :: beB (n : Int) 0 :: t) 2 = (beB (n : Int) 0).toNat := rfl
  have b1 : ((beB (n : Int) 1).toNat : Int) = (n : Int) / 256 % 256 := by rw [beB_val]; rfl
  have b0 : ((beB (n : Int) 0).toNat : Int) = (n : Int) % 256 := by rw [beB_val]; simp; rfl
  have hh : headN (245 :: beB (n : Int) 1 :: beB (n : Int) 0 :: t) = (n : Int) := by
    unfold headN
    rw [e1, e2, b1, b0]
    omega
  rw [sz_else e0 (by simp), hh, if_pos (by omega)]
theorem frameL_form {body : List UInt8} (h : frameFitB body = true) : frameL body = (frameHd body ++ body) ++ beL (saySum (frameHd body ++ body)) 2 := by unfold frameL; rw [if_pos h]
theorem fit_len {body : List UInt8} (h : frameFitB body = true) : 1 ≤ body.length ∧ body.length ≤ 260 := by simpa [frameFitB] using h
theorem frameL_size {body : List UInt8} (h : frameFitB body = true) : (frameL body).length = body.length + 5 := by
  rw [frameL_form h]
  simp [beL_length, hd_len]
  omega
theorem ok_of {bs X Y : List UInt8} (e : bs = X ++ Y) (hy : Y.length = 2) (h6 : 6 ≤ bs.length) : frameOk bs = (decide (frameSz bs = bs.length) && decide (saySum X = numL Y)) := by
  have hx : bs.length - 2 = X.length := by rw [e, List.length_append, hy]; omega
  unfold frameOk
  rw [decide_eq_true h6, hx, Bool.true_and]
  congr 2
  rw [e, List.take_left, List.drop_left]
theorem frame_back {body : List UInt8} (h : frameFitB body = true) : frameOk (frameL body) = true ∧ frameOut (frameL body) = body := by
  obtain ⟨h1, h2⟩ := fit_len h
  have hl := frameL_size h
  have hs := saySum_range (frameHd body ++ body)
  have hok : frameOk (frameL body) = true := by
    rw [ok_of (frameL_form h) (by simp [beL_length]) (by omega), hl, numL_be2 _ hs.1 (by omega)]
    have : frameSz (frameL body) = ((body.length + 5 : Nat) : Int) := by
      rw [frameL_form h, hd_form]
      exact sz_hd body.length _ h1 h2
    rw [this]
    simp
  refine ⟨hok, ?_⟩
  unfold frameOut
  rw [if_pos hok]
  unfold frameBody
  rw [hl, frameL_form h, List.append_assoc]
  have h3 : (frameHd body ++ (body ++ beL (saySum (frameHd body ++ body)) 2)).drop 3 = body ++ beL (saySum (frameHd body ++ body)) 2 := by
    rw [show 3 = (frameHd body).length from (hd_len body).symm, List.drop_left]
  rw [h3, show body.length + 5 - 5 = body.length by omega, List.take_left]
theorem frame_head {body : List UInt8} (h : frameFitB body = true) : frameSz ((frameL body).take 3) = ((frameL body).length : Int) := by
  obtain ⟨h1, h2⟩ := fit_len h
  rw [frameL_size h, frameL_form h, List.append_assoc, List.take_append_of_le_length (by rw [hd_len]; omega), hd_form]
  exact sz_hd body.length [] h1 h2
theorem frame_cut {body : List UInt8} (h : frameFitB body = true) {k : Nat} (hk : k < (frameL body).length) : frameOk ((frameL body).take k) = false := by
  obtain ⟨h1, h2⟩ := fit_len h
  have hl := frameL_size h
  have hn : ((frameL body).take k).length = k := by simp; omega
  by_cases h3 : k < 3
  · have : ¬ 6 ≤ ((frameL body).take k).length := by rw [hn]; omega
    unfold frameOk
    rw [decide_eq_false this]
    rfl
  · refine ok_no (.inr ?_)
    rw [hn]
    have : frameSz ((frameL body).take k) = (body.length : Int) + 5 := by
      rw [frameL_form h, hd_form, show k = k - 3 + 3 by omega]
      exact sz_hd body.length _ h1 h2
    rw [this]
    omega
theorem frame_turn {body : List UInt8} (h : frameFitB body = true) {k : Nat} (h3 : 3 ≤ k) (hk : k < 3 + body.length) {c : UInt8} (hlt : k < (frameL body).length) (hc : c ≠ (frameL body)[k]) : frameOk ((frameL body).set k c) = false := by
  obtain ⟨h1, h2⟩ := fit_len h
  have hl := frameL_size h
  have hs := saySum_range (frameHd body ++ body)
  have hX : k < (frameHd body ++ body).length := by simp [hd_len]; omega
  have e : (frameL body).set k c = (frameHd body ++ body).set k c ++ beL (saySum (frameHd body ++ body)) 2 := by
    rw [frameL_form h, List.set_append_left _ _ hX]
  have hg : (frameL body)[k] = (frameHd body ++ body)[k] := by
    have : (frameL body)[k]? = (frameHd body ++ body)[k]? := by rw [frameL_form h, List.getElem?_append_left hX]
    rw [List.getElem?_eq_getElem hlt, List.getElem?_eq_getElem hX] at this
    exact Option.some.inj this
  rw [hg] at hc
  rw [ok_of e (by simp [beL_length]) (by simp; omega), numL_be2 _ hs.1 (by omega), decide_eq_false (sum7_set _ k hX c hc), Bool.and_false]
end Go.Proofs.Ytlgmmibncoedgaa
