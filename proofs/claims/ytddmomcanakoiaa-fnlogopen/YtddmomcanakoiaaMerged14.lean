/-
  A log that is opened: what it tells and what the disk is then. (Made by wip/mklogopen.py.)
-/
/-
  What a log is: the bytes of its records, one behind the other, and something that is none.
-/
/-
  A log that is opened, opened once more, and a record put behind it.
-/
import Derived.Test.YtddmomcanakoiaaMerged6
import Derived.Test.YtddmomcanakoiaaMerged16
import Derived.Test.YtddmomcanakoiaaMerged10
set_option linter.unusedVariables false
namespace Go.Proofs.Ytddmomcanakoiaa
open Go.RowKit Go.Maps Go.Deep

def boD (d : DiskV) : DiskV := if d.down = true then d else if logE (bookL d) = (bookL d).length then d else cutOut d (logE (bookL d))
def boR (d : DiskV) : List RecV := if d.down = true then [] else if logE (bookL d) = (bookL d).length then logRs (bookL d) else if cutCode d = 0 then logRs (bookL d) else []
def boI (d : DiskV) : Int := if d.down = true then 2 else if logE (bookL d) = (bookL d).length then 0 else cutCode d
theorem bo_down {d : DiskV} (h : d.down = true) : boD d = d ∧ boR d = [] ∧ boI d = 2 := by simp [boD, boR, boI, h]
theorem bo_whole {d : DiskV} (h : d.down = false) (h1 : logE (bookL d) = (bookL d).length) : boD d = d ∧ boR d = logRs (bookL d) ∧ boI d = 0 := by simp [boD, boR, boI, h, h1]
theorem bo_fell {d : DiskV} (h : d.down = false) (h1 : ¬ logE (bookL d) = (bookL d).length) (hf : d.fuse = 0) : boD d = cutOut d (logE (bookL d)) ∧ boR d = [] ∧ boI d = cutCode d ∧ cutCode d = 2 := by simp [boD, boR, boI, h, h1, hf, cutCode]
theorem bo_cut {d : DiskV} (h : d.down = false) (h1 : ¬ logE (bookL d) = (bookL d).length) (hf : d.fuse ≠ 0) : boD d = cutD d (logE (bookL d)) ∧ boR d = logRs (bookL d) ∧ boI d = 0 := by simp [boD, boR, boI, h, h1, hf, cutOut, cutCode]
def loV (d : DiskV) : DiskV := if diskOkB d = true then boD d else noDisk
def loR (d : DiskV) : List RecV := if diskOkB d = true then boR d else []
def loI (d : DiskV) : Int := if diskOkB d = true then boI d else 1
theorem lo_bad {d : DiskV} (h : diskOkB d = false) : loV d = noDisk ∧ loR d = [] ∧ loI d = 1 := by simp [loV, loR, loI, h]
theorem lo_yes {d : DiskV} (h : diskOkB d = true) : loV d = boD d ∧ loR d = boR d ∧ loI d = boI d := by simp [loV, loR, loI, h]
theorem small_loV {d : DiskV} (h : SmallDisk d) : SmallDisk (loV d) := by
  unfold loV
  split
  · rename_i hb
    have h8 := disk_small (d := d) hb
    unfold boD
    split
    · exact h
    · split
      · exact h
      · exact small_cutOut h (by omega)
  · unfold SmallDisk noDisk
    simp
theorem small_loR (d : DiskV) : SmallRecS (loR d) := by
  have hn : SmallRecS [] := ⟨⟨by simp, fun x hx => absurd hx (by simp)⟩, fun x hx => absurd hx (by simp)⟩
  unfold loR boR
  split
  · split
    · exact hn
    · split
      · exact small_log _
      · split
        · exact small_log _
        · exact hn
  · exact hn
end Go.Proofs.Ytddmomcanakoiaa

set_option linter.unusedVariables false
namespace Go.Proofs.Ytddmomcanakoiaa
open Go.RowKit Go.Maps Go.Deep

def recsB (rs : List RecV) : List UInt8 := rs.flatMap recAll
theorem recsB_nil : recsB [] = [] := rfl
theorem recsB_cons (r : RecV) (rs : List RecV) : recsB (r :: rs) = recAll r ++ recsB rs := rfl
theorem recsB_append (a b : List RecV) : recsB (a ++ b) = recsB a ++ recsB b := by simp [recsB]
theorem recsB_snoc (a : List RecV) (r : RecV) : recsB (a ++ [r]) = recsB a ++ recAll r := by simp [recsB]
def AllOk (rs : List RecV) : Prop := ∀ r ∈ rs, RecFit r ∧ recOkB r = true
theorem recAll_pos (r : RecV) : 0 < (recAll r).length := by
  rw [recAll, List.length_append, beL_length]
  omega
theorem readI_some {r : RecV} (hf : RecFit r) (hb : recOkB r = true) (more : List UInt8) : readI (recAll r ++ more) = some (r, (recAll r).length) :=
  isRead_same (readI_is _) ⟨hf, hb, rfl, more, rfl⟩
theorem readI_nil : readI [] = none := by
  cases h : readI [] with
  | none => rfl
  | some q =>
    obtain ⟨r, n⟩ := q
    have := read_facts h
    simp at this
    omega
/-- the reading goes over all the records -/
theorem lgGo_over (rest : List UInt8) : ∀ (rs pre : List RecV) (k : Nat), AllOk rs → rs.length ≤ k → lgGo (recsB (pre ++ rs) ++ rest) k pre (recsB pre).length = lgGo (recsB (pre ++ rs) ++ rest) (k - rs.length) (pre ++ rs) (recsB (pre ++ rs)).length := by
  intro rs
  induction rs with
  | nil => intro pre k _ _; simp
  | cons r rs ih =>
    intro pre k hok hk
    simp only [List.length_cons] at hk
    obtain ⟨m, rfl⟩ : ∃ m, k = m + 1 := ⟨k - 1, by omega⟩
    have h1 := hok r (by simp)
    have hd : (recsB (pre ++ r :: rs) ++ rest).drop (recsB pre).length = recAll r ++ (recsB rs ++ rest) := by
      rw [recsB_append, recsB_cons, List.append_assoc, List.drop_left]
      simp
    rw [lgGo_some (r := r) (n := (recAll r).length) m pre (by rw [hd]; exact readI_some h1.1 h1.2 _)]
    have e : pre ++ r :: rs = (pre ++ [r]) ++ rs := by simp
    have hn : (recsB pre).length + (recAll r).length = (recsB (pre ++ [r])).length := by rw [recsB_snoc, List.length_append]
    rw [hn, e, ih (pre ++ [r]) m (fun x hx => hok x (by simp [hx])) (by omega)]
    congr 1
    simp only [List.length_cons]
    omega
/-- records, and behind them something that is none (or there are two hundred) -/
theorem log_is {rs : List RecV} {rest : List UInt8} (hok : AllOk rs) (hl : rs.length ≤ 200) (hr : rs.length = 200 ∨ readI rest = none) : logRs (recsB rs ++ rest) = rs ∧ logE (recsB rs ++ rest) = (recsB rs).length := by
  have h := lgGo_over rest rs [] 200 hok hl
  simp only [List.nil_append, recsB_nil, List.length_nil] at h
  have he : lgGo (recsB rs ++ rest) (200 - rs.length) rs (recsB rs).length = (rs, (recsB rs).length) := by
    rcases Nat.eq_zero_or_pos (200 - rs.length) with h0 | h0
    · rw [h0, lgGo_zero]
    · obtain ⟨m, hm⟩ : ∃ m, 200 - rs.length = m + 1 := ⟨200 - rs.length - 1, by omega⟩
      rw [hm, lgGo_none m rs (by rw [List.drop_left]; rcases hr with hr | hr; omega; exact hr)]
  rw [he] at h
  exact ⟨by rw [logRs, h], by rw [logE, h]⟩
theorem lgGo_form (bs : List UInt8) : ∀ (k : Nat) (rs : List RecV) (p : Nat), AllOk rs → bs.take p = recsB rs → p ≤ bs.length → (let q := lgGo bs k rs p; AllOk q.1 ∧ bs.take q.2 = recsB q.1 ∧ q.2 ≤ bs.length ∧ (q.1.length = rs.length + k ∨ readI (bs.drop q.2) = none)) := by
  intro k
  induction k with
  | zero => intro rs p h1 h2 h3; exact ⟨h1, h2, h3, .inl rfl⟩
  | succ k ih =>
    intro rs p h1 h2 h3
    cases hr : readI (bs.drop p) with
    | none =>
      rw [lgGo_none k rs hr]
      exact ⟨h1, h2, h3, .inr hr⟩
    | some q =>
      obtain ⟨r, n⟩ := q
      rw [lgGo_some k rs hr]
      have hi := readI_is (bs.drop p)
      rw [hr] at hi
      obtain ⟨f1, f2, f3, more, f4⟩ := hi
      have hl : n ≤ bs.length - p := by have := congrArg List.length f4; simp at this; omega
      have h := ih (rs ++ [r]) (p + n) (fun x hx => by
        rcases List.mem_append.1 hx with hx | hx
        · exact h1 x hx
        · simp at hx; subst hx; exact ⟨f1, f2⟩) (by
        rw [List.take_add, h2, f4, f3, List.take_left, recsB_snoc]) (by omega)
      obtain ⟨g1, g2, g3, g4⟩ := h
      refine ⟨g1, g2, g3, ?_⟩
      rcases g4 with g4 | g4
      · exact .inl (by rw [g4]; simp; omega)
      · exact .inr g4
theorem log_form (bs : List UInt8) : AllOk (logRs bs) ∧ bs.take (logE bs) = recsB (logRs bs) ∧ logE bs ≤ bs.length ∧ ((logRs bs).length = 200 ∨ readI (bs.drop (logE bs)) = none) := by
  have h := lgGo_form bs 200 [] 0 (fun x hx => by simp at hx) (by simp [recsB]) (by omega)
  simpa [logRs, logE] using h
theorem logE_len (bs : List UInt8) : logE bs = (recsB (logRs bs)).length := by
  obtain ⟨_, h2, h3, _⟩ := log_form bs
  rw [← h2]
  simp
  omega
/-- what is whole is read as it was -/
theorem log_whole (bs : List UInt8) : logRs (bs.take (logE bs)) = logRs bs ∧ logE (bs.take (logE bs)) = logE bs ∧ (bs.take (logE bs)).length = logE bs := by
  obtain ⟨h1, h2, h3, h4⟩ := log_form bs
  have hl := (log_facts bs).1
  have h := log_is (rest := []) h1 hl (.inr readI_nil)
  rw [List.append_nil] at h
  rw [h2]
  exact ⟨h.1, by rw [h.2, logE_len], (logE_len bs).symm⟩
/-- one more record behind a log that is whole -/
theorem log_more {bs : List UInt8} {r : RecV} (he : logE bs = bs.length) (hl : (logRs bs).length < 200) (hf : RecFit r) (hb : recOkB r = true) : logRs (bs ++ recAll r) = logRs bs ++ [r] ∧ logE (bs ++ recAll r) = (bs ++ recAll r).length := by
  obtain ⟨h1, h2, h3, h4⟩ := log_form bs
  rw [he, List.take_of_length_le (Nat.le_refl _)] at h2
  have h := log_is (rs := logRs bs ++ [r]) (rest := []) (fun x hx => by
    rcases List.mem_append.1 hx with hx | hx
    · exact h1 x hx
    · simp at hx; subst hx; exact ⟨hf, hb⟩) (by simp; omega) (.inr readI_nil)
  rw [List.append_nil, recsB_snoc, ← h2] at h
  exact h
/-- a beginning of a record's bytes is none -/
theorem read_short {r : RecV} (hf : RecFit r) (hb : recOkB r = true) {a b : List UInt8} (h : recAll r = a ++ b) (hne : b ≠ []) : readI a = none := by
  cases hr : readI a with
  | none => rfl
  | some q =>
    obtain ⟨s, n⟩ := q
    have hi := readI_is a
    rw [hr] at hi
    obtain ⟨f1, f2, f3, more, f4⟩ := hi
    have e1 := readI_some f1 f2 (more ++ b)
    have e2 := readI_some hf hb []
    rw [List.append_nil, h, f4, List.append_assoc] at e2
    rw [e1] at e2
    simp only [Option.some.injEq, Prod.mk.injEq] at e2
    have hs := e2.1
    subst hs
    have hl := congrArg List.length f4
    have hL := congrArg List.length h
    have hb' : 0 < b.length := List.length_pos_iff.2 hne
    simp only [List.length_append] at hl hL
    omega
end Go.Proofs.Ytddmomcanakoiaa

set_option linter.unusedVariables false
namespace Go.Proofs.Ytddmomcanakoiaa
open Go.RowKit Go.Maps Go.Deep

theorem okd_iff (d : DiskV) (h : d.down = false) : diskOkB d = true ↔ (d.safe.length + d.soft.length ≤ 8000 ∧ -1 ≤ d.fuse ∧ d.fuse ≤ 400) := by
  simp [diskOkB, h]
  omega
theorem burn_ok {f : Int} (h1 : -1 ≤ f) (h2 : f ≤ 400) (h0 : f ≠ 0) : -1 ≤ burnI f ∧ burnI f ≤ 400 := by
  unfold burnI
  split <;> omega
theorem lo_again {d : DiskV} (h : loI d = 0) : diskOkB (loV d) = true ∧ (loV d).down = false ∧ logE (bookL (loV d)) = (bookL (loV d)).length ∧ logRs (bookL (loV d)) = loR d := by
  have hok : diskOkB d = true := by
    cases hk : diskOkB d
    · rw [(lo_bad hk).2.2] at h; cases h
    · rfl
  obtain ⟨e1, e2, e3⟩ := lo_yes hok
  rw [e3] at h
  rw [e1, e2]
  have hd : d.down = false := by
    cases hk : d.down
    · rfl
    · rw [(bo_down hk).2.2] at h; cases h
  obtain ⟨o1, o2, o3⟩ := (okd_iff d hd).1 hok
  by_cases h1 : logE (bookL d) = (bookL d).length
  · obtain ⟨f1, f2, f3⟩ := bo_whole hd h1
    rw [f1, f2]
    exact ⟨hok, hd, h1, rfl⟩
  · by_cases hf : d.fuse = 0
    · obtain ⟨_, _, f3, f4⟩ := bo_fell hd h1 hf
      rw [f3, f4] at h
      cases h
    · obtain ⟨f1, f2, f3⟩ := bo_cut hd h1 hf
      rw [f1, f2]
      have hb : bookL (cutD d (logE (bookL d))) = (bookL d).take (logE (bookL d)) := by simp [bookL, cutD]
      obtain ⟨w1, w2, w3⟩ := log_whole (bookL d)
      refine ⟨?_, by simpa [cutD] using hd, by rw [hb, w2, w3], by rw [hb, w1]⟩
      rw [okd_iff _ (by simpa [cutD] using hd)]
      have := burn_ok o2 o3 hf
      have hm : min (logE (bookL d)) (d.safe.length + d.soft.length) ≤ d.safe.length + d.soft.length := Nat.min_le_right _ _
      simp only [cutD, List.length_take, List.length_append, List.length_nil]
      omega
theorem lo_same {d : DiskV} (h : loI d = 0) : loV (loV d) = loV d ∧ loR (loV d) = loR d ∧ loI (loV d) = 0 := by
  obtain ⟨h1, h2, h3, h4⟩ := lo_again h
  obtain ⟨e1, e2, e3⟩ := lo_yes h1
  obtain ⟨f1, f2, f3⟩ := bo_whole h2 h3
  exact ⟨by rw [e1, f1], by rw [e2, f2, h4], by rw [e3, f3]⟩
theorem lo_none {d : DiskV} (h : loI d ≠ 0) : loR d = [] := by
  cases hk : diskOkB d
  · exact (lo_bad hk).2.1
  · obtain ⟨e1, e2, e3⟩ := lo_yes hk
    rw [e3] at h
    rw [e2]
    cases hd : d.down
    · by_cases h1 : logE (bookL d) = (bookL d).length
      · exact absurd (bo_whole hd h1).2.2 h
      · by_cases hf : d.fuse = 0
        · exact (bo_fell hd h1 hf).2.1
        · exact absurd (bo_cut hd h1 hf).2.2 h
    · exact (bo_down hd).2.1
theorem lp_done {d : DiskV} {r : RecV} (h : lpI d r = 0) : allB (lpV d r) = true ∧ allV (lpV d r) = bookL d ++ recAll r ∧ recOkB r = true ∧ (logRs (bookL d)).length < 200 := by
  have hg : lpG d r = true := by
    cases hk : lpG d r
    · rw [(lp_bad hk).2] at h; cases h
    · rfl
  have hgg := hg
  simp only [lpG, Bool.and_eq_true] at hgg
  obtain ⟨hok, hr⟩ := hgg
  have hb : recBytesL r = recAll r := by simp [recBytesL, hr]
  have hc : ¬ pbC d (recBytesL r) = 1 := by
    intro e
    rw [(lp_cut hg e).2] at h
    cases h
  obtain ⟨e1, e2⟩ := lp_yes hg hc
  rw [e2] at h
  rw [e1]
  have hd : d.down = false := by
    cases hk : d.down
    · rfl
    · rw [(pb_down hk).2] at h; cases h
  have h1 : ¬ logE (bookL d) < (bookL d).length := by
    intro hk
    rw [(pb_cut hd hk).2] at h
    cases h
  have h2 : ¬ (logRs (bookL d)).length = 200 := by
    intro hk
    rw [(pb_full hd h1 hk).2] at h
    cases h
  have h3 : wrCode d (recBytesL r) = 0 := by
    apply Decidable.byContradiction
    intro hk
    rw [(pb_no hd h1 h2 hk).2] at h
    exact hk h
  obtain ⟨f1, f2⟩ := pb_yes hd h1 h2 h3
  rw [f2] at h
  rw [f1]
  have hl := (log_facts (bookL d)).1
  have hwo := wr_ok hok h3
  -- what was written
  have hroom : ¬ 8000 < d.safe.length + d.soft.length + (recBytesL r).length := by
    intro hk
    simp [wrCode, hd, hk] at h3
  have hact : actC d (recBytesL r) = 0 := by simpa [wrCode, hd, hroom] using h3
  have hgone : goneB d (recBytesL r) = false := by
    cases hk : goneB d (recBytesL r)
    · rfl
    · simp [actC, hk] at hact
  have hw : wrOut d (recBytesL r) = ⟨d.safe, d.soft ++ recBytesL r, fz d.fuse (recBytesL r).length, d.down⟩ := by
    simp [wrOut, hd, hroom, actD, hgone, atD]
  rw [hw] at h hwo ⊢
  have hf : fz d.fuse (recBytesL r).length ≠ 0 := by
    intro hk
    simp [cutCode, hd, hk] at h
  have hco : cutOut ⟨d.safe, d.soft ++ recBytesL r, fz d.fuse (recBytesL r).length, d.down⟩ (d.safe.length + (d.soft ++ recBytesL r).length) = cutD ⟨d.safe, d.soft ++ recBytesL r, fz d.fuse (recBytesL r).length, d.down⟩ (d.safe.length + (d.soft ++ recBytesL r).length) := by simp [cutOut, hd, hf]
  obtain ⟨o1, o2, o3⟩ := (okd_iff _ (by simpa using hd)).1 hwo
  have hbu := burn_ok o2 o3 hf
  simp only at o1 hbu
  rw [hco]
  have hsafe : (d.safe ++ (d.soft ++ recBytesL r)).take (d.safe.length + (d.soft ++ recBytesL r).length) = d.safe ++ (d.soft ++ recBytesL r) := List.take_of_length_le (by simp)
  have hab : allB (cutD ⟨d.safe, d.soft ++ recBytesL r, fz d.fuse (recBytesL r).length, d.down⟩ (d.safe.length + (d.soft ++ recBytesL r).length)) = true := by
    unfold allB
    rw [Bool.and_eq_true]
    refine ⟨(okd_iff _ (by simpa [cutD] using hd)).2 ?_, by simp [cutD, hd]⟩
    simp only [cutD, hsafe]
    simp only [List.length_append, List.length_nil] at o1 ⊢
    omega
  refine ⟨hab, ?_, hr, by omega⟩
  unfold allV
  rw [if_pos hab]
  simp only [cutD, hsafe, List.append_nil]
  rw [hb, bookL, List.append_assoc]
end Go.Proofs.Ytddmomcanakoiaa
