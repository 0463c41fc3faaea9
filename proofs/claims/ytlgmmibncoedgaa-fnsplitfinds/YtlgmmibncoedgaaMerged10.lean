/-
  What is left of a stream waits, and may be listened to.
-/
/-
  A stream gone through in two pieces: as it is gone through at once.
-/
/-
  The sum of a word: a byte that is turned moves it.
-/
/-
  FrameBytes of the specification.
-/
/-
  Frames that are read back; frames that are cut or turned: the mathematics.
-/
import Derived.Test.YtlgmmibncoedgaaMerged3
import Derived.Test.YtlgmmibncoedgaaMerged23
import Derived.Test.YtlgmmibncoedgaaMerged4
import Derived.Handy
set_option linter.unusedVariables false
namespace Go.Proofs.Ytlgmmibncoedgaa
open Go.RowKit Go.Maps Go.Deep

theorem walk_waits (bs : List UInt8) : ∀ n, bs.length ≤ n → waitB (walkF n bs).2.1 = true := by
  intro n
  induction n generalizing bs with
  | zero =>
    intro h
    have e : bs = [] := List.eq_nil_of_length_eq_zero (by omega)
    subst e
    exact wait_nil
  | succ n ih =>
    intro h
    unfold walkF
    cases hw : waitB bs
    · have hp := wait_pos hw
      simp only [Bool.false_eq_true, if_false]
      by_cases hn : nextI bs = 1
      · obtain ⟨k, e1, e2, e3, e4⟩ := next_one hn
        simp only [hn, if_true, e1, Int.toNat_natCast]
        exact ih (bs.drop k) (by simp; omega)
      · simp only [hn, if_false]
        exact ih (bs.drop 1) (by simp; omega)
    · simp [hw]
theorem wait_short {bs : List UInt8} (h : waitB bs = true) : bs.length ≤ 270 := by
  have h' : frameSz bs = 0 ∨ (bs.length : Int) < frameSz bs := by simpa [waitB] using h
  rcases h' with h' | h'
  · unfold frameSz at h'
    split at h'
    · omega
    · split at h'
      · omega
      · split at h' <;> omega
  · rcases sz_cases bs with e | e | e <;> omega
theorem feed_ends {ys : List UInt8} (h : feedB ⟨[], 0⟩ ys = true) : endB (feedS ⟨[], 0⟩ ys) = true ∧ (feedS ⟨[], 0⟩ ys).lost + (sumB (feedH ⟨[], 0⟩ ys) : Int) + ((feedS ⟨[], 0⟩ ys).buf.length : Int) = (ys.length : Int) := by
  have h1 := walk_waits ys _ (Nat.le_refl _)
  have h2 := wait_short h1
  have h3 := walk_sum ys
  have h4 := (feed_yes h).2.2.2.1
  have e : feedS ⟨[], 0⟩ ys = ⟨(walkW ys).2.1, ((walkW ys).2.2 : Int)⟩ := by
    unfold feedS
    rw [h]
    simp
  have e2 : feedH ⟨[], 0⟩ ys = (walkW ys).1 := by
    unfold feedH
    rw [h]
    simp
  rw [e, e2]
  refine ⟨?_, by simp only; omega⟩
  have h1' : waitB (walkW ys).2.1 = true := h1
  have h2' : (walkW ys).2.1.length ≤ 270 := h2
  simp only [endB, splitOkB, h1', Bool.and_eq_true, decide_eq_true_eq, and_true]
  exact ⟨⟨by omega, h2'⟩, by omega⟩
theorem end_all {ys : List UInt8} (h : feedB ⟨[], 0⟩ ys = true) : endI (feedS ⟨[], 0⟩ ys) + (sumB (feedH ⟨[], 0⟩ ys) : Int) + (sumB (endH (feedS ⟨[], 0⟩ ys)) : Int) = (ys.length : Int) := by
  obtain ⟨h1, h2⟩ := feed_ends h
  have h3 := end_sum (feedS ⟨[], 0⟩ ys).buf _ (Nat.le_refl _)
  unfold endI endH
  rw [h1]
  simp only [if_true]
  omega
theorem endI_pos (ys : List UInt8) : 0 ≤ endI (feedS ⟨[], 0⟩ ys) := by
  unfold endI
  split
  · unfold feedS
    split <;> simp <;> omega
  · omega
theorem sumB_take (fh : List (List UInt8)) (k : Nat) (h : k < fh.length) : sumB (fh.take (k + 1)) = sumB (fh.take k) + fh[k].length + 5 := by
  rw [List.take_add_one, List.getElem?_eq_getElem h, sumB_append]
  simp [sumB]
  omega
theorem sumB_le (fh : List (List UInt8)) (k : Nat) : sumB (fh.take k) ≤ sumB fh := by
  have := sumB_append (fh.take k) (fh.drop k)
  rw [List.take_append_drop] at this
  omega
end Go.Proofs.Ytlgmmibncoedgaa

set_option linter.unusedVariables false
namespace Go.Proofs.Ytlgmmibncoedgaa
open Go.RowKit Go.Maps Go.Deep

theorem byN_app (xs ys : List UInt8) (i : Nat) (h : i < xs.length) : byN (xs ++ ys) i = byN xs i := by
  unfold byN
  rw [List.getD_eq_getElem?_getD, List.getElem?_append_left h, ← List.getD_eq_getElem?_getD]
theorem sz_app {xs : List UInt8} (ys : List UInt8) (h : waitB xs = false) : frameSz (xs ++ ys) = frameSz xs := by
  have hp := wait_pos h
  have h' : frameSz xs ≠ 0 ∧ ¬ (xs.length : Int) < frameSz xs := by simpa [waitB] using h
  have h0 := h'.1
  clear h h'
  unfold frameSz headN at h0 ⊢
  rw [byN_app _ _ 0 (by omega)]
  by_cases e : byN xs 0 ≠ 245
  · rw [if_pos ⟨by rw [List.length_append]; omega, e⟩, if_pos ⟨hp, e⟩]
  · rw [if_neg (fun c => e c.2)] at h0
    have h3 : 3 ≤ xs.length := by
      by_cases hh : xs.length < 3
      · rw [if_pos hh] at h0; exact absurd rfl h0
      · omega
    rw [byN_app _ _ 1 (by omega), byN_app _ _ 2 (by omega), List.length_append]
    rw [if_neg (show ¬ (1 ≤ xs.length + ys.length ∧ byN xs 0 ≠ 245) from fun c => e c.2), if_neg (show ¬ xs.length + ys.length < 3 by omega), if_neg (show ¬ (1 ≤ xs.length ∧ byN xs 0 ≠ 245) from fun c => e c.2), if_neg (show ¬ xs.length < 3 by omega)]
theorem wait_app {xs : List UInt8} (ys : List UInt8) (h : waitB xs = false) : waitB (xs ++ ys) = false := by
  have h' : frameSz xs ≠ 0 ∧ ¬ (xs.length : Int) < frameSz xs := by simpa [waitB] using h
  unfold waitB
  rw [sz_app ys h, List.length_append, decide_eq_false h'.1, decide_eq_false (by omega)]
  rfl
theorem next_app {xs : List UInt8} (ys : List UInt8) (h : waitB xs = false) : nextI (xs ++ ys) = nextI xs := by
  have h' : frameSz xs ≠ 0 ∧ ¬ (xs.length : Int) < frameSz xs := by simpa [waitB] using h
  unfold nextI
  rw [sz_app ys h, wait_app ys h, h]
  by_cases g : frameSz xs < 0
  · rw [if_pos g, if_pos g]
  · rw [if_neg g, if_neg g, List.take_append_of_le_length (by omega)]
theorem walk_apps (ys : List UInt8) : ∀ (n : Nat) (xs : List UInt8), xs.length ≤ n → walkW (xs ++ ys) = ((walkW xs).1 ++ (walkW ((walkW xs).2.1 ++ ys)).1, (walkW ((walkW xs).2.1 ++ ys)).2.1, (walkW xs).2.2 + (walkW ((walkW xs).2.1 ++ ys)).2.2) := by
  intro n
  induction n with
  | zero =>
    intro xs h
    have e : xs = [] := List.eq_nil_of_length_eq_zero (by omega)
    subst e
    rw [walk_wait wait_nil]
    simp
  | succ n ih =>
    intro xs h
    cases hw : waitB xs
    · have hp := wait_pos hw
      by_cases hn : nextI xs = 1
      · obtain ⟨k, e1, e2, e3, _⟩ := next_one hn
        rw [walk_hit (wait_app ys hw) ((next_app ys hw).trans hn) ((sz_app ys hw).trans e1), walk_hit hw hn e1, List.drop_append_of_le_length e3, List.take_append_of_le_length e3, ih (xs.drop k) (by simp; omega)]
        simp
      · rw [walk_miss (wait_app ys hw) (by rw [next_app ys hw]; exact hn), walk_miss hw hn, List.drop_append_of_le_length (by omega), ih (xs.drop 1) (by simp; omega)]
        simp only [Prod.mk.injEq, true_and]
        omega
    · rw [walk_wait hw]
      simp
theorem walk_app (xs ys : List UInt8) : walkW (xs ++ ys) = ((walkW xs).1 ++ (walkW ((walkW xs).2.1 ++ ys)).1, (walkW ((walkW xs).2.1 ++ ys)).2.1, (walkW xs).2.2 + (walkW ((walkW xs).2.1 ++ ys)).2.2) := walk_apps ys _ xs (Nat.le_refl _)
theorem feed_two {d : SplitV} {ys : List UInt8} (h : feedB d ys = true) (k : Nat) (hk : k ≤ ys.length) :
    feedB d (ys.take k) = true ∧ feedB (feedS d (ys.take k)) (ys.drop k) = true ∧ feedS (feedS d (ys.take k)) (ys.drop k) = feedS d ys ∧ feedH d ys = feedH d (ys.take k) ++ feedH (feedS d (ys.take k)) (ys.drop k) ∧ splitOkB (feedS d ys) = true := by
  obtain ⟨h1, h2, h3, h4, h5⟩ := feed_yes h
  have hlt : (ys.take k).length = k := by rw [List.length_take]; omega
  have f1 : feedB d (ys.take k) = true := by
    unfold feedB
    rw [h1, hlt, decide_eq_true (show k ≤ 4000 by omega), decide_eq_true (by omega)]
    rfl
  have hw := walk_waits (d.buf ++ ys.take k) _ (Nat.le_refl _)
  have hw' : waitB (walkW (d.buf ++ ys.take k)).2.1 = true := hw
  have hsh := wait_short hw'
  have hl := (walk_len (d.buf ++ ys.take k)).1
  rw [List.length_append, hlt] at hl
  have e1 : feedS d (ys.take k) = ⟨(walkW (d.buf ++ ys.take k)).2.1, d.lost + ((walkW (d.buf ++ ys.take k)).2.2 : Int)⟩ := by
    unfold feedS
    rw [f1]
    rfl
  have ha := walk_app (d.buf ++ ys.take k) (ys.drop k)
  rw [List.append_assoc, List.take_append_drop] at ha
  have f2 : feedB (feedS d (ys.take k)) (ys.drop k) = true := by
    rw [e1]
    unfold feedB splitOkB
    simp only
    rw [hw', List.length_drop, decide_eq_true (by omega), decide_eq_true hsh, decide_eq_true (by omega), decide_eq_true (by omega)]
    rfl
  refine ⟨f1, f2, ?_, ?_, ?_⟩
  · unfold feedS at f2 ⊢
    rw [f1] at f2 ⊢
    simp only [if_true] at f2 ⊢
    rw [f2, h]
    simp only [if_true]
    rw [ha]
    simp only [SplitV.mk.injEq, true_and]
    omega
  · unfold feedH
    rw [f2, f1, h, e1]
    simp only [if_true]
    rw [ha]
  · have g1 := walk_waits (d.buf ++ ys) _ (Nat.le_refl _)
    have g1' : waitB (walkW (d.buf ++ ys)).2.1 = true := g1
    have g2 := wait_short g1'
    unfold feedS
    rw [h]
    simp only [if_true]
    unfold splitOkB
    simp only
    rw [g1', decide_eq_true (by omega), decide_eq_true g2]
    rfl
end Go.Proofs.Ytlgmmibncoedgaa

set_option linter.unusedVariables false
namespace Go.Proofs.Ytlgmmibncoedgaa
open Go.RowKit Go.Maps Go.Deep

theorem sum7_apart (ys : List UInt8) : ∀ (s t : Int), 0 ≤ s → s < 65521 → 0 ≤ t → t < 65521 → s ≠ t → ys.foldl sumStep7 s ≠ ys.foldl sumStep7 t := by
  induction ys with
  | nil => exact fun s t _ _ _ _ h => h
  | cons c cs ih =>
    intro s t h0 h1 h2 h3 h
    refine ih _ _ (by unfold sumStep7; omega) (by unfold sumStep7; omega) (by unfold sumStep7; omega) (by unfold sumStep7; omega) ?_
    unfold sumStep7
    generalize (c.toNat : Int) = x
    intro e
    apply h
    omega
theorem sum7_turned (xs ys : List UInt8) (a b : UInt8) (h : a ≠ b) : saySum (xs ++ a :: ys) ≠ saySum (xs ++ b :: ys) := by
  unfold saySum
  rw [List.foldl_append, List.foldl_append, List.foldl_cons, List.foldl_cons]
  obtain ⟨h0, h1⟩ := saySum_go xs 7 (by omega)
  generalize xs.foldl sumStep7 7 = s at *
  have ha := a.toNat_lt
  have hb := b.toNat_lt
  have hne : a.toNat ≠ b.toNat := fun e => h (UInt8.toNat.inj e)
  refine sum7_apart ys _ _ (by unfold sumStep7; omega) (by unfold sumStep7; omega) (by unfold sumStep7; omega) (by unfold sumStep7; omega) ?_
  unfold sumStep7
  omega
theorem set_split7 (xs : List UInt8) (k : Nat) (h : k < xs.length) (c : UInt8) : xs.set k c = xs.take k ++ c :: xs.drop (k + 1) ∧ xs = xs.take k ++ xs[k] :: xs.drop (k + 1) := by
  constructor
  · rw [List.set_eq_take_append_cons_drop, if_pos h]
  · rw [← List.drop_eq_getElem_cons h, List.take_append_drop]
theorem sum7_set (xs : List UInt8) (k : Nat) (h : k < xs.length) (c : UInt8) (hc : c ≠ xs[k]) : saySum (xs.set k c) ≠ saySum xs := by
  obtain ⟨h1, h2⟩ := set_split7 xs k h c
  rw [h1]
  intro e
  rw [h2] at e
  have hx : (xs.take k ++ xs[k] :: xs.drop (k + 1)).take k = xs.take k := by rw [← h2]
  have hd : (xs.take k ++ xs[k] :: xs.drop (k + 1)).drop (k + 1) = xs.drop (k + 1) := by rw [← h2]
  rw [hx, hd] at e
  exact sum7_turned _ _ _ _ hc e
end Go.Proofs.Ytlgmmibncoedgaa

set_option linter.unusedVariables false
namespace Go.Proofs.Ytlgmmibncoedgaa
open Go.RowKit Go.Maps Go.Deep

theorem byRow1 (w : World) (c : UInt8) (B : Nat) (hB : B ≤ w.heap.size) : ByRow B (w.alloc (.cells #[.int .u8 (c.toNat : Int)] 5)) (.slice (some ⟨w.heap.size, 0, none⟩) 1 1) [c] := by
  have := World.ownsRow_lit (size := 1) (base := B) (e := 5) w #[.int .u8 (c.toNat : Int)] 1 hB (by unfold maxLen; omega) rfl
  unfold ByRow
  simp only [List.map, byV]
  exact this
theorem hd_len (body : List UInt8) : (frameHd body).length = 3 := by simp [frameHd, beL_length]
theorem frameL_len (body : List UInt8) : (frameL body).length ≤ 1000 := by
  unfold frameL
  split
  · rename_i h
    simp [frameFitB] at h
    simp [hd_len, beL_length]
    omega
  · simp
set_option maxHeartbeats 3200000 in
theorem specFrame_row (body : List UInt8) (v : Value) (w : World) (hl : body.length ≤ 1048576) (h : ByRd w v body) :
    Calls Try.prog 79 #[v] w fun e w' => ∃ v, e = .returned (.tuple #[v, .bool (frameFitB body)]) ∧ Hid (ByRow w.heap.size w' v (frameL body)) ∧ Below w.heap.size w w' := by
  obtain ⟨a, c, rfl⟩ := h.len
  by_cases g1 : body.length < 1
  · have HB := hide (show frameFitB body = false by simp [frameFitB]; omega)
    have HV := hide (show frameL body = [] by simp [frameL, unhide HB])
    have g1' : (body.length : Int) < 1 := by omega
    clear h g1
    generalize body.length = n at *
    go_enter Try.func79, Try.ntmps79
    go_wp2_with fail
    go_ret2
    exact ⟨_, by rw [unhide HB]; rfl, hide (by rw [unhide HV]; exact ByRow.nil _ _), Below.refl _ _⟩
  · have g1' : ¬ (body.length : Int) < 1 := by omega
    by_cases g2 : 260 < body.length
    · have HB := hide (show frameFitB body = false by simp [frameFitB]; omega)
      have HV := hide (show frameL body = [] by simp [frameL, unhide HB])
      have g2' : 260 < (body.length : Int) := by omega
      clear h g1 g2
      generalize body.length = n at *
      go_enter Try.func79, Try.ntmps79
      go_wp2_with fail
      go_ret2
      exact ⟨_, by rw [unhide HB]; rfl, hide (by rw [unhide HV]; exact ByRow.nil _ _), Below.refl _ _⟩
    · have g2' : ¬ 260 < (body.length : Int) := by omega
      have HB := hide (show frameFitB body = true by simp [frameFitB]; omega)
      have HV := hide (show frameL body = (frameHd body ++ body) ++ beL (saySum (frameHd body ++ body)) 2 by simp [frameL, unhide HB])
      have HD := hide (show [(245 : UInt8)] ++ beL (body.length : Int) 2 = frameHd body from rfl)
      have HL3 := hide (hd_len body)
      have HR := hide h
      have hn : body.length ≤ 260 := by omega
      have HN := hide (show body.length ≤ 260 by omega)
      have R0 := hide (byRow1 w 245 w.heap.size (Nat.le_refl _))
      have B0 := hide ((Below.refl w.heap.size w).alloc (Nat.le_refl _) (.cells #[.int .u8 245] 5))
      clear h g1 g2
      go_enter Try.func79, Try.ntmps79
      go_wp2_with fail
      refine (l9Put_any w.heap.size _ _ 1 1 [(245 : UInt8)] (body.length : Int) 2 (by omega) (by simp) (by simp) (unhide R0)).mono ?_
      rintro e w1 ⟨a1, n1, c1, rfl, P1⟩
      have R1 := hide (show ByRow w.heap.size w1 (.slice a1 n1 c1) (frameHd body) by rw [← unhide HD]; exact (unhide P1).1)
      have B1 := hide (show Below w.heap.size w w1 from (unhide B0).trans ((unhide P1).2.1.below (unhide B0).size (ownL_ge (unhide R0))))
      clear P1
      go_wp2_with (first
        | (at_builtin; refine wpList_byAppend rfl _ _ rfl w.heap.size _ _ (frameHd body) body rfl rfl (unhide R1) ((unhide HR).up (unhide B1)) (by rw [unhide HL3]; omega) (unhide B1).size ?_; intro a2 c2 w2 r2 g2 _; generalize (frameHd body).length + body.length = n2 at *; have R2 := hide r2; have B2 := hide ((unhide B1).grown g2 (unhide B1).size (fun y hy => (unhide R1).ge y hy)); clear r2 g2)
        | fail)
      refine (specSSum_any _ _ (frameHd body ++ body) (by rw [List.length_append, unhide HL3]; unfold maxLen; omega) (unhide R2).rd).mono ?_
      rintro e w3 ⟨rfl, hw⟩
      rw [hw]
      clear hw
      go_wp2_with fail
      refine (l9Put_any w.heap.size w2 _ _ _ (frameHd body ++ body) _ 2 (by omega) (by rw [List.length_append, unhide HL3]; omega) (unhide B2).size (unhide R2)).mono ?_
      rintro e w4 ⟨a4, n4, c4, rfl, P4⟩
      have R4 := hide (unhide P4).1
      have B4 := hide (show Below w.heap.size w w4 from (unhide B2).trans ((unhide P4).2.1.below (unhide B2).size (ownL_ge (unhide R2))))
      clear P4
      go_wp2_with fail
      go_ret2
      exact ⟨_, by rw [unhide HB]; rfl, hide (by rw [unhide HV]; exact unhide R4), unhide B4⟩
theorem specFrame_any (body : List UInt8) (v : Value) (w : World) (hl : body.length ≤ 1048576) (h : ByRd w v body) :
    Calls Try.prog 79 #[v] w fun e w' => ∃ v, e = .returned (.tuple #[v, .bool (frameFitB body)]) ∧ Hid (ByRd w' v (frameL body)) ∧ Below w.heap.size w w' := by
  refine (specFrame_row body v w hl h).mono ?_
  rintro e w' ⟨v, rfl, h1, h2⟩
  exact ⟨v, rfl, hide (unhide h1).rd, h2⟩
end Go.Proofs.Ytlgmmibncoedgaa

set_option linter.unusedVariables false
namespace Go.Proofs.Ytlgmmibncoedgaa
open Go.RowKit Go.Maps Go.Deep

theorem hd_form (body : List UInt8) : frameHd body = [245, beB (body.length : Int) 1, beB (body.length : Int) 0] := rfl
theorem sz_hd (n : Nat) (t : List UInt8) (h1 : 1 ≤ n) (h2 : n ≤ 260) : frameSz (245 :: beB (n : Int) 1 :: beB (n : Int) 0 :: t) = (n : Int) + 5 := by
  have e0 : byN (245 :: beB (n : Int) 1 :: beB (n : Int) 0 :: t) 0 = 245 := rfl
  have e1 : byN (245 :: beB (n : Int) 1 :: beB (n : Int) 0 :: t) 1 = (beB (n : Int) 1).toNat := rfl
  have e2 : byN (245 :: beB (n : Int) 1 :: beB (n : Int) 0 :: t) 2 = (beB (n : Int) 0).toNat := rfl
  have b1 : ((beB (n : Int) 1).toNat : Int) = (n : Int) / 256 % 256 := by rw [beB_val]; rfl
  have b0 : ((beB (n : Int) 0).toNat : Int) = (n : Int) % 256 := by rw [beB_val]; simp; rfl
  have hh : headN (245 :: beB (n : Int) 1 :: beB (n : Int) 0 :: t) = (n : Int) := by
    unfold headN
    rw [e1, e2, b1, b0]
    omega
  rw [sz_else e0 (by simp), hh, if_pos (by omega)]
theorem frameL_form {body : List UInt8} (h : frameFitB body = true) : frameL body = (frameHd body ++ body) ++ beL (saySum (frameHd body ++ body)) 2 := by unfold frameL; rw [if_pos h]
theorem fit_len {body : List UInt8} (h : frameFitB body = true) : 1 ≤ body.length ∧ body.length ≤ 260 := by simpa [frameFitB] using h
theorem frameL_size {body : List UInt8} (h : frameFitB body = true) : (frameL body).length = body.length + 5 := by
  rw [frameL_form h]
  simp [beL_length, hd_len]
  omega
theorem ok_of {bs X Y : List UInt8} (e : bs = X ++ Y) (hy : Y.length = 2) (h6 : 6 ≤ bs.length) : frameOk bs = (decide (frameSz bs = bs.length) && decide (saySum X = numL Y)) := by
  have hx : bs.length - 2 = X.length := by rw [e, List.length_append, hy]; omega
  unfold frameOk
  rw [decide_eq_true h6, hx, Bool.true_and]
  congr 2
  rw [e, List.take_left, List.drop_left]
theorem frame_back {body : List UInt8} (h : frameFitB body = true) : frameOk (frameL body) = true ∧ frameOut (frameL body) = body := by
  obtain ⟨h1, h2⟩ := fit_len h
  have hl := frameL_size h
  have hs := saySum_range (frameHd body ++ body)
  have hok : frameOk (frameL body) = true := by
    rw [ok_of (frameL_form h) (by simp [beL_length]) (by omega), hl, numL_be2 _ hs.1 (by omega)]
    have : frameSz (frameL body) = ((body.length + 5 : Nat) : Int) := by
      rw [frameL_form h, hd_form]
      exact sz_hd body.length _ h1 h2
    rw [this]
    simp
  refine ⟨hok, ?_⟩
  unfold frameOut
  rw [if_pos hok]
  unfold frameBody
  rw [hl, frameL_form h, List.append_assoc]
  have h3 : (frameHd body ++ (body ++ beL (saySum (frameHd body ++ body)) 2)).drop 3 = body ++ beL (saySum (frameHd body ++ body)) 2 := by
    rw [show 3 = (frameHd body).length from (hd_len body).symm, List.drop_left]
  rw [h3, show body.length + 5 - 5 = body.length by omega, List.take_left]
theorem frame_head {body : List UInt8} (h : frameFitB body = true) : frameSz ((frameL body).take 3) = ((frameL body).length : Int) := by
  obtain ⟨h1, h2⟩ := fit_len h
  rw [frameL_size h, frameL_form h, List.append_assoc, List.take_append_of_le_length (by rw [hd_len]; omega), hd_form]
  exact sz_hd body.length [] h1 h2
theorem frame_cut {body : List UInt8} (h : frameFitB body = true) {k : Nat} (hk : k < (frameL body).length) : frameOk ((frameL body).take k) = false := by
  obtain ⟨h1, h2⟩ := fit_len h
  have hl := frameL_size h
  have hn : ((frameL body).take k).length = k := by simp; omega
  by_cases h3 : k < 3
  · have : ¬ 6 ≤ ((frameL body).take k).length := by rw [hn]; omega
    unfold frameOk
    rw [decide_eq_false this]
    rfl
  · refine ok_no (.inr ?_)
    rw [hn]
    have : frameSz ((frameL body).take k) = (body.length : Int) + 5 := by
      rw [frameL_form h, hd_form, show k = k - 3 + 3 by omega]
      exact sz_hd body.length _ h1 h2
    rw [this]
    omega
theorem frame_turn {body : List UInt8} (h : frameFitB body = true) {k : Nat} (h3 : 3 ≤ k) (hk : k < 3 + body.length) {c : UInt8} (hlt : k < (frameL body).length) (hc : c ≠ (frameL body)[k]) : frameOk ((frameL body).set k c) = false := by
  obtain ⟨h1, h2⟩ := fit_len h
  have hl := frameL_size h
  have hs := saySum_range (frameHd body ++ body)
  have hX : k < (frameHd body ++ body).length := by simp [hd_len]; omega
  have e : (frameL body).set k c = (frameHd body ++ body).set k c ++ beL (saySum (frameHd body ++ body)) 2 := by
    rw [frameL_form h, List.set_append_left _ _ hX]
  have hg : (frameL body)[k] = (frameHd body ++ body)[k] := by
    have : (frameL body)[k]? = (frameHd body ++ body)[k]? := by rw [frameL_form h, List.getElem?_append_left hX]
    rw [List.getElem?_eq_getElem hlt, List.getElem?_eq_getElem hX] at this
    exact Option.some.inj this
  rw [hg] at hc
  rw [ok_of e (by simp [beL_length]) (by simp; omega), numL_be2 _ hs.1 (by omega), decide_eq_false (sum7_set _ k hX c hc), Bool.and_false]
end Go.Proofs.Ytlgmmibncoedgaa
