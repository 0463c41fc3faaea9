/-
  WindowPut of the program.
-/
import Derived.Test.YtknkdbfgfcgkiaaGreatDoorWinItems
import Derived.Test.YtknkdbfgfcgkiaaGreatDoorMerged19
set_option linter.unusedVariables false
namespace Go.Proofs.YtknkdbfgfcgkiaaGreatDoor
open Go.RowKit Go.Maps Go.Deep

/-- a window with one item more: the first one goes where there would be too many -/
def putN (ns : List ItemV) (it : ItemV) : List ItemV := if ns.length < 4 then ns ++ [it] else ns.drop 1 ++ [it]
def putI (ns : List ItemV) (it : ItemV) : Int := if windowB orderOut ns = true then takeC ns it else 1
def putV (ns : List ItemV) (it : ItemV) : List ItemV := if windowB orderOut ns = true then (if takeC ns it = 1 then [] else if takeC ns it = 0 then putN ns it else ns) else []
theorem takeC_form (ns : List ItemV) (it : ItemV) : (takeC ns it = 1 ∧ itemB it = false) ∨ ((takeC ns it = 0 ∨ takeC ns it = 2) ∧ itemB it = true) := by
  unfold takeC
  split
  · exact .inl ⟨rfl, by assumption⟩
  · refine .inr ⟨?_, by simp_all⟩
    split
    · exact .inr rfl
    · exact .inl rfl
theorem RawIs.put {w : World} {xs : List RawI} {ns : List ItemV} {x : RawI} {it : ItemV} (h : RawIs w xs ns) (hz : x.z = it.a0) (hm : MarkSRd w x.v it.a1) : RawIs w (putL xs x) (putN ns it) := by
  have snoc : ∀ (ys : List RawI) (ms : List ItemV), RawIs w ys ms → RawIs w (ys ++ [x]) (ms ++ [it]) := by
    intro ys ms h
    refine ⟨by simp [h.1], fun i h1 h2 => ?_⟩
    by_cases hi : i < ys.length
    · rw [List.getElem_append_left hi, List.getElem_append_left (by rw [← h.1]; exact hi)]
      exact h.2 i hi (by rw [← h.1]; exact hi)
    · have e : i = ys.length := by simp at h1; omega
      subst e
      rw [List.getElem_append_right (Nat.le_refl _), List.getElem_append_right (by rw [h.1]; exact Nat.le_refl _)]
      simpa using ⟨hz, hm⟩
  unfold putL putN
  rw [h.1]
  split
  · exact snoc _ _ h
  · refine snoc _ _ ⟨by simp [h.1], fun i h1 h2 => ?_⟩
    simp only [List.getElem_drop]
    exact h.2 _ _ _
theorem RawIs.take {w : World} {xs : List RawI} {ns : List ItemV} {x : RawI} {it : ItemV} (h : RawIs w xs ns) (hz : x.z = it.a0) (hm : MarkSRd w x.v it.a1) : RawIs w (takeL ns it xs x) (if takeC ns it = 0 then putN ns it else ns) := by
  unfold takeL
  split
  · exact h.put hz hm
  · exact h
theorem RawIs.up {w w' : World} {xs : List RawI} {ns : List ItemV} (h : RawIs w xs ns) (hb : Below w.heap.size w w') : RawIs w' xs ns := ⟨h.1, fun i h1 h2 => ⟨(h.2 i h1 h2).1, (h.2 i h1 h2).2.up hb⟩⟩
theorem win_len {ns : List ItemV} (hw : windowB orderOut ns = true) (it : ItemV) : (if takeC ns it = 0 then putN ns it else ns).length ≤ 4 := by
  have := (win_item hw).1
  unfold putN
  split
  · split
    · simp; omega
    · simp; omega
  · exact this
theorem win_small {ns : List ItemV} {it : ItemV} (hs : SmallItemS ns) (hi : SmallItem it) (hw : windowB orderOut ns = true) (hit : itemB it = true) : ∀ x ∈ (if takeC ns it = 0 then putN ns it else ns), SmallItem x ∧ x.a1.length ≤ 1000000 := by
  have old : ∀ x ∈ ns, SmallItem x ∧ x.a1.length ≤ 1000000 := fun x hx => by
    obtain ⟨j, hj, rfl⟩ := List.getElem_of_mem hx
    have := ((win_item hw).2 j hj).2
    exact ⟨hs.2 _ hx, by omega⟩
  have new : SmallItem it ∧ it.a1.length ≤ 1000000 := ⟨hi, by
    simp only [itemB, mstampB, Bool.and_eq_true, decide_eq_true_eq] at hit
    omega⟩
  intro x hx
  unfold putN at hx
  split at hx
  · split at hx
    · rcases List.mem_append.1 hx with h | h
      · exact old x h
      · simp at h; subst h; exact new
    · rcases List.mem_append.1 hx with h | h
      · exact old x (List.mem_of_mem_drop h)
      · simp at h; subst h; exact new
  · exact old x hx
theorem items_any (g st : Nat) (xs : List RawI) (ns : List ItemV) (w : World) (hr : RingAt w g st xs) (hx : RawIs w xs ns) (hs : ∀ x ∈ ns, SmallItem x ∧ x.a1.length ≤ 1000000) (h4 : ns.length ≤ 4) :
    Calls Tryz.prog 91 #[.pointer (some ⟨g, 0, none⟩)] w fun e w' => ∃ u S, e = .returned u ∧ Hid (ItemSFull S w' u ns) ∧ (∀ k ∈ S, w.heap.size ≤ k) ∧ Below w.heap.size w w' := (callsIn_wide (n := 3)).1 (items_in g st xs ns w hr hx hs h4)
def RetPut (ns : List ItemV) (it : ItemV) (w : World) (e : Ending) (w' : World) : Prop := ∃ v S, e = .returned (.tuple #[v, .int .i64 (putI ns it)]) ∧ Hid (ItemSFull S w' v (putV ns it)) ∧ Hid (∀ k ∈ S, w.heap.size ≤ k) ∧ Below w.heap.size w w'
theorem full_none (w : World) : ItemSFull [] w (.slice none 0 0) [] := ⟨none, 0, rfl, Nat.le_refl _, by simp, .inl rfl⟩
set_option maxHeartbeats 3200000 in
theorem implPut_any (ns : List ItemV) (v : Value) (it : ItemV) (u : Value) (w : World) (hs : SmallItemS ns) (hi : SmallItem it) (h : ItemSRd w v ns) (h' : ItemRd w u it) : Calls Tryz.prog 66 #[v, u] w fun e w' => RetPut ns it w e w' := by
  have HW := hide (fun W (b : Below w.heap.size w W) => windowOf_any ns v W hs (h.up b))
  have HS := hide hs
  have HI := hide hi
  obtain ⟨u1, rfl, hm⟩ := h'
  have HM := hide (fun W (b : Below w.heap.size w W) => hm.up b)
  obtain ⟨ua, un, uc, rfl⟩ := hm.form
  obtain ⟨a, n, c, rfl⟩ := h.form
  clear h hs hi hm
  go_enter Tryz.func66, Tryz.ntmps66
  go_wp2_with fail
  refine (unhide HW _ (by go_grown)).mono ?_
  rintro e w1 ⟨HR, b1⟩
  rcases unhide HR with ⟨hb, rfl⟩ | ⟨hb, g, xs, rfl, hg, hr, hx⟩
  · have B1 := hide (show Below w.heap.size w w1 from Below.trans (by go_grown) (b1.mono (by simp)))
    have HE := hide (show putI ns it = 1 ∧ putV ns it = [] by simp [putI, putV, hb])
    clear b1 HR hb HW
    go_wp2_with fail
    refine bodyPost_ret (v := .tuple #[.slice none 0 0, .int .i64 1]) (by simp [results, Tryz.results66, go_sem]) rfl ?_
    exact ⟨_, [], by rw [(unhide HE).1], by rw [(unhide HE).2]; exact hide (full_none _), hide (by simp), unhide B1⟩
  · have b0 := (Below.refl w.heap.size w).alloc (Nat.le_refl _) (.cells #[.int .i64 it.a0, .slice ua un uc] 44)
    have B1 := hide (show Below w.heap.size w w1 from b0.trans (b1.mono (by simp)))
    obtain ⟨y0, y1⟩ := vbox b1
    have HT := hide (take_any (w.alloc (.cells #[.int .i64 it.a0, .slice ua un uc] 44)) g 0 xs ns ⟨it.a0, ua, un, uc⟩ it w1 b1 hg hr hx (unhide HS).2 (unhide HM _ b0) (unhide HI).2)
    have hgw : w.heap.size < g := by simp at hg; omega
    have HRX := hide (fun (W : World) (bb : Below (w.alloc (.cells #[.int .i64 it.a0, .slice ua un uc] 44)).heap.size (w.alloc (.cells #[.int .i64 it.a0, .slice ua un uc] 44)) W) => (hx.take (x := ⟨it.a0, ua, un, uc⟩) (it := it) rfl (unhide HM _ b0)).up bb)
    have BW1 := hide b1
    have HV := hide (show putI ns it = takeC ns it ∧ putV ns it = if takeC ns it = 1 then [] else if takeC ns it = 0 then putN ns it else ns by simp [putI, putV, hb])
    have HB := hide hb
    clear b1 b0 HR hr hx HW hb
    generalize hl : takeL ns it xs ⟨it.a0, ua, un, uc⟩ = ys at *
    generalize hst : takeSt ns it 0 xs = st at *
    clear hl hst
    go_wp2_with fail
    refine (unhide HT).mono ?_
    rintro e w2 ⟨rfl, R2, T2⟩
    have B2 := hide ((unhide B1).trans ((unhide T2).below (unhide B1).size (by simp; omega)))
    have X2 := hide (unhide HRX w2 ((unhide BW1).trans ((unhide T2).below (unhide BW1).size (by simpa using hg))))
    clear T2 B1 BW1 HRX HT y0 y1
    rcases takeC_form ns it with ⟨hc, hit⟩ | ⟨hc, hit⟩
    · have HE := hide (show putI ns it = 1 ∧ putV ns it = [] by rw [(unhide HV).1, (unhide HV).2, hc]; simp)
      rw [hc]
      clear hc hit X2 R2
      go_wp2_with fail
      refine bodyPost_ret (v := .tuple #[.slice none 0 0, .int .i64 1]) (by simp [results, Tryz.results66, go_sem]) rfl ?_
      exact ⟨_, [], by rw [(unhide HE).1], by rw [(unhide HE).2]; exact hide (full_none _), hide (by simp), unhide B2⟩
    · have HIT := hide (items_any g st ys _ w2 (unhide R2).1 (unhide X2) (win_small (unhide HS) (unhide HI) (unhide HB) hit) (win_len (unhide HB) it))
      have hne : ¬ takeC ns it = 1 := by omega
      have HE := hide (show putI ns it = takeC ns it ∧ putV ns it = if takeC ns it = 0 then putN ns it else ns by rw [(unhide HV).1, (unhide HV).2, if_neg hne]; simp)
      have q1 : (takeC ns it == 1) = false := by rw [beq_eq_false_iff_ne]; exact hne
      generalize (if takeC ns it = 0 then putN ns it else ns) = ps at *
      generalize takeC ns it = cc at *
      clear hc hit X2 R2 hne HV HB
      go_wp2_with fail
      refine (unhide HIT).mono ?_
      rintro e w3 ⟨u, S, rfl, F3, S3, b3⟩
      have B3 := hide ((unhide B2).trans (b3.mono (unhide B2).size))
      have S3' := hide (fun k hk => Nat.le_trans (unhide B2).size (S3 k hk))
      obtain ⟨fa, fn, fc, rfl⟩ := (unhide F3).rd.form
      clear b3 S3 HIT
      go_wp2_with fail
      refine bodyPost_ret (v := .tuple #[.slice fa fn fc, .int .i64 cc]) (by simp [results, Tryz.results66, go_sem]) rfl ?_
      exact ⟨_, S, by rw [(unhide HE).1], by rw [(unhide HE).2]; exact F3, S3', unhide B3⟩
end Go.Proofs.YtknkdbfgfcgkiaaGreatDoor
