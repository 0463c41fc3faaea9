/-
  What the laws on stamps draw: marks.
-/
import Derived.Test.YteonbigmggeneaaDoorSpoilMk
import Derived.Test.YteonbigmggeneaaDoorDec13
set_option linter.unusedVariables false
namespace Go.Proofs.YteonbigmggeneaaDoor
open Go.RowKit Go.Maps Go.Deep

theorem MkRow.turn {B g : Nat} {w w' : World} {v : Value} {xs : List MarkV} (h : MkRow B w v xs) (t : Turn [g] w w') (hg : g < B) : MkRow B w' v xs :=
  h.keep (fun y hy => t.block y (h.lt y hy) (by have := h.ge y hy; simp; omega))
theorem MkRow.cut {B : Nat} {w : World} {b off n c : Nat} {xs : List MarkV} (h : MkRow B w (.slice (some ⟨b, off, none⟩) n c) xs) (k : Nat) (hk : k ≤ xs.length) : xs.length ≤ c ∧ MkHi B w (.slice (some ⟨b, off, none⟩) k c) (xs.take k) := by
  obtain ⟨S, ho, hS, _⟩ := h.own
  have hcap : xs.length ≤ c := by
    rcases h.2 with ⟨e, _⟩ | ⟨g, cap, cur, e, _, _, hnc, _⟩
    · simp at e
    · simp only [Value.slice.injEq] at e
      rw [e.2.2]
      exact hnc
  refine ⟨hcap, ?_⟩
  rcases ho with ⟨rfl, e, _⟩ | ⟨b', off', cap, hSb, e, hb, hx, hf⟩
  · subst e
    simp at hk
    subst hk
    exact mkHi_nil _ _ _ _
  · simp only [Value.slice.injEq, Option.some.injEq, Addr.mk.injEq, and_true] at e
    obtain ⟨⟨rfl, rfl⟩, _, rfl⟩ := e
    have hl : (xs.take k).length = k := by simp; omega
    refine ⟨[b], .inr ⟨b, off, c, rfl, by rw [hl], hb, fun i hi => ?_, fun i hi => hf i (by omega)⟩, by simpa using hS b (by rw [hSb]; simp)⟩
    rw [List.getElem_take]
    exact hx i (by omega)
theorem Sm.take {n : Nat} {xs : List MarkV} (h : Sm n xs) (k : Nat) : Sm n (xs.take k) := ⟨by have := h.1; simp; omega, fun x hx => h.2 x (List.mem_of_mem_take hx)⟩
theorem turn_join {g b : Nat} {w W X : World} (h : Turn [g] w W) (k : Turn [g, b] W X) (hb : w.heap.size ≤ b) : Turn [g] w X :=
  ⟨k.os.trans h.os, k.tape.trans h.tape, k.output.trans h.output, Nat.le_trans h.size k.size, fun i hi hS => (k.block i (Nat.lt_of_lt_of_le hi h.size) (by simp at hS ⊢; omega)).trans (h.block i hi hS)⟩
/-- marks are drawn -/
def RetMarks (base g p : Nat) (w : World) (e : Ending) (w' : World) : Prop := ∃ v xs, e = .returned v ∧ Hid (MkHi w.heap.size w' v xs) ∧ Hid (Sm 40 xs) ∧ Hid (∃ q, q ≤ p + 60 ∧ RdIn base w' g q) ∧ Hid (Turn [g] w w')
/-- what stands between the rounds -/
structure Mid (base g p : Nat) (w : World) (o : Value) (n q : Nat) (wr : World) : Prop where
  row : ∃ xs, MkRow w.heap.size wr o xs ∧ Sm n xs
  rd : ∃ r, r ≤ p + q ∧ RdIn base wr g r
  turn : Turn [g] w wr
theorem Mid.form {base g p : Nat} {w : World} {o : Value} {n q : Nat} {wr : World} (h : Mid base g p w o n q wr) : ∃ a n c, o = .slice a n c := by
  obtain ⟨xs, h1, _⟩ := h.row
  obtain ⟨a, c, e⟩ := h1.slice
  exact ⟨a, _, c, e⟩
theorem Mid.step {base g p : Nat} {w : World} {o : Value} {n q : Nat} {wr : World} (h : Mid base g p w o n q wr) (hg : g < w.heap.size) {W : World} (t : Turn [g] wr W) {r : Nat} (hr : RdIn base W g r) {q' : Nat} (hq : r ≤ p + q') : Mid base g p w o n q' W := by
  obtain ⟨xs, h1, h2⟩ := h.row
  exact ⟨⟨xs, h1.turn t hg, h2⟩, ⟨r, hq, hr⟩, h.turn.trans t⟩
theorem Mid.set {base g p : Nat} {w : World} {o : Value} {n q : Nat} {wr : World} (h : Mid base g p w o n q wr) (m : MarkV) (hm : m.a0.size ≤ 100 ∧ VFit m.a1) (hn : n ≤ 900) :
    Calls Tryd.prog 31 #[o, .agg #[.string m.a0, .int .i64 m.a1]] wr fun e w' => ∃ v, e = .returned v ∧ Hid (Mid base g p w v (n + 1) q w') := by
  obtain ⟨xs, h1, h2⟩ := h.row
  obtain ⟨r, h3, h4⟩ := h.rd
  refine (l13Set_any xs o m wr (by have := h2.1; omega) h1.rd).mono ?_
  rintro e w' ⟨v, rfl, hv, hb⟩
  exact ⟨v, rfl, hide ⟨⟨_, (unhide hv).mono h.turn.size, h2.set hm⟩, ⟨r, h3, RdIn.turn (S := []) h4 (Turn.of_below hb) (by simp) (by simp)⟩, h.turn.trans (Turn.of_below hb)⟩⟩
theorem dec_small (n : Nat) (h : n < 100) : (⟨(Lib.decDigits n).toArray⟩ : ByteArray).size ≤ 2 := by
  have := dec_len n 1 h
  simpa [ByteArray.size] using this

set_option maxRecDepth 20000 in
set_option maxHeartbeats 6400000 in
theorem l34Marks_any (base g p : Nat) (w : World) (hp : p ≤ 1000000) (hr : RdIn base w g p) :
    Calls Tryd.prog 17 #[.pointer (some ⟨g, 0, none⟩)] w fun e w' => RetMarks base g p w e w' := by
  have hgl := hr.lt
  have R0 := hide hr
  clear hr
  go_enter Tryd.func17, Tryd.ntmps17
  go_wp2_with fail
  refine (pick_any w base g p 5 (by omega) (by omega) (by omega) (unhide R0)).mono ?_
  rintro e w1 ⟨n', rfl, n0, n5, hr1, ht1⟩
  obtain ⟨n, rfl⟩ := Int.eq_ofNat_of_zero_le n0
  have M1 := hide (show Mid base g p w (.slice none 0 0) 0 1 w1 from ⟨⟨[], MkRow.nil _ _, by simp [Sm]⟩, ⟨_, Nat.le_refl _, hr1⟩, ht1⟩)
  clear hr1 ht1 R0
  -- behind the second part
  have HEND := hide (show ∀ (o : Value) (q : Nat) (W : World), Mid base g p w o 20 q W → q ≤ 50 → ∀ (k : Nat) (o' : Value), (o' = o ∨ ∃ b off m c, o = .slice (some ⟨b, off, none⟩) m c ∧ k ≤ m ∧ o' = .slice (some ⟨b, off, none⟩) k c) → Calls Tryd.prog 33 #[.pointer (some ⟨g, 0, none⟩), o'] W fun e w' => RetMarks base g p w e w' from fun o q W h hq k o' ho => by
    obtain ⟨xs, h1, h2⟩ := h.row
    obtain ⟨r, h3, h4⟩ := h.rd
    have hi : ∃ ys, MkHi w.heap.size W o' ys ∧ Sm 20 ys := by
      rcases ho with rfl | ⟨b, off, m, c, rfl, hk, rfl⟩
      · exact ⟨xs, h1.hi, h2⟩
      · obtain ⟨_, c', e⟩ := h1.slice
        simp only [Value.slice.injEq] at e
        exact ⟨xs.take k, (h1.cut k (by omega)).2, h2.take k⟩
    obtain ⟨ys, h5, h6⟩ := hi
    refine (l34Spoil_any w.heap.size base g r 20 o' ys W (by omega) (by omega) h.turn.size hgl h4 h5 h6).mono ?_
    rintro e w' ⟨v, zs, rfl, k1, k2, ⟨q2, k3, k4⟩, b, k5, k6⟩
    exact ⟨v, zs, rfl, hide k1, hide (k2.mono (by omega)), hide ⟨q2, by omega, k4⟩, hide (turn_join h.turn k6 k5)⟩)
  go_wp2_with fail
  go_loopw [3, 5] (fun o i wr => ∃ k : Nat, k ≤ n ∧ i = .int .i64 k ∧ Hid (Mid base g p w o k (1 + 2 * k) wr)) (fun _ i _ => n - (intOf i).toNat)
  case atStart => exact ⟨0, Nat.zero_le _, rfl, M1⟩
  case round =>
    obtain ⟨k, hk, rfl, HM⟩ := hrel
    obtain ⟨oa, on, oc, rfl⟩ := (unhide HM).form
    by_cases hlt : k < n
    · obtain ⟨r, hrq, hrr⟩ := (unhide HM).rd
      have HR := hide hrr
      have HRQ := hide hrq
      clear hrr hrq
      go_wp2_with fail
      refine (l34Src_any wr base g r (by have := unhide HRQ; omega) (unhide HR)).mono ?_
      rintro e w2 ⟨s, rfl, hs, hr2, ht2⟩
      have M2 := hide ((unhide HM).step hgl ht2 hr2 (q' := 1 + 2 * k + 1) (by have := unhide HRQ; omega))
      have R2 := hide hr2
      clear hr2 ht2 HM HR
      go_wp2_with fail
      refine (pick_any w2 base g (r + 1) 4 (by omega) (by omega) (by have := unhide HRQ; omega) (unhide R2)).mono ?_
      rintro e w3 ⟨y, rfl, y0, y1, hr3, ht3⟩
      have M3 := hide ((unhide M2).step hgl ht3 hr3 (q' := 1 + 2 * (k + 1)) (by have := unhide HRQ; omega))
      have HST := hide ((unhide M3).set ⟨s, 1 + y⟩ ⟨hs, show VFit (1 + y) from ⟨by omega, by omega⟩⟩ (by omega))
      clear hr3 ht3 M2 R2
      go_wp2_with fail
      refine (unhide HST).mono ?_
      rintro e w4 ⟨v, rfl, HV⟩
      obtain ⟨a4, n4, c4, rfl⟩ := (unhide HV).form
      clear HST M3
      go_wp2_with fail
      go_roundw
      case rel => exact ⟨k + 1, by omega, by go_num, HV⟩
      case measure => simp [intOf]; omega
    · have M5 := hide (show Mid base g p w (.slice oa on oc) 4 9 wr from by
        obtain ⟨⟨xs, h1, h2⟩, ⟨r, h3, h4⟩, h5⟩ := unhide HM
        exact ⟨⟨xs, h1, h2.mono (by omega)⟩, ⟨r, by omega, h4⟩, h5⟩)
      obtain ⟨r, hrq, hrr⟩ := (unhide M5).rd
      have HR := hide hrr
      have HRQ := hide hrq
      clear hrr hrq HM M1
      go_wp2_with fail
      refine (pick_any wr base g r 24 (by omega) (by omega) (by have := unhide HRQ; omega) (unhide HR)).mono ?_
      rintro e w6 ⟨y, rfl, y0, y1, hr6, ht6⟩
      have M6 := hide ((unhide M5).step hgl ht6 hr6 (q' := 10) (by have := unhide HRQ; omega))
      clear hr6 ht6 M5 HR
      by_cases hy : y = 0
      · subst hy
        go_wp2_with fail
        go_loopw [3, 6] (fun o i wr => ∃ k : Nat, k ≤ 12 ∧ i = .int .i64 k ∧ Hid (Mid base g p w o (4 + k) (10 + k) wr)) (fun _ i _ => 12 - (intOf i).toNat)
        case atStart => exact ⟨0, Nat.zero_le _, rfl, M6⟩
        case round =>
          obtain ⟨j, hj, rfl, HN⟩ := hrel
          obtain ⟨pa, pn, pc, rfl⟩ := (unhide HN).form
          by_cases hjt : j < 12
          · have hjt' : (j : Int) < 12 := by omega
            obtain ⟨r2, hrq, hrr⟩ := (unhide HN).rd
            have HR := hide hrr
            have HRQ2 := hide hrq
            have hds := dec_small j (by omega)
            have HD := hide (fun W => l13Dec_pos (j : Int) (by omega) (by omega) W)
            rw [Int.toNat_natCast] at HD
            clear hrr hrq
            generalize (⟨(Lib.decDigits j).toArray⟩ : ByteArray) = dd at *
            have lsz : ¬ 9223372036854775807 < (⟨#[113]⟩ : ByteArray).size + dd.size := by have : (⟨#[113]⟩ : ByteArray).size = 1 := rfl; omega
            have hcs : ((⟨#[113]⟩ : ByteArray) ++ dd).size ≤ 100 := by have : (⟨#[113]⟩ : ByteArray).size = 1 := rfl; rw [size_app]; omega
            go_wp2_with fail
            refine (unhide HD _).mono ?_
            rintro e w8 ⟨rfl, b8⟩
            have R8 := hide (RdIn.turn (S := []) (unhide HR) (Turn.of_below b8) (by simp) (by simp))
            have M8 := hide ((unhide HN).step hgl (Turn.of_below b8) (unhide R8) (q' := 10 + j) (unhide HRQ2))
            clear b8 HD HR HN
            go_wp2_with fail
            refine (pick_any w8 base g r2 3 (by omega) (by omega) (by have := unhide HRQ2; omega) (unhide R8)).mono ?_
            rintro e w9 ⟨z, rfl, z0, z1, hr9, ht9⟩
            have M9 := hide ((unhide M8).step hgl ht9 hr9 (q' := 10 + (j + 1)) (by have := unhide HRQ2; omega))
            have HST := hide ((unhide M9).set ⟨⟨#[113]⟩ ++ dd, 1 + z⟩ ⟨hcs, show VFit (1 + z) from ⟨by omega, by omega⟩⟩ (by omega))
            clear hr9 ht9 M8 R8
            go_wp2_with fail
            refine (unhide HST).mono ?_
            rintro e w10 ⟨v, rfl, HV⟩
            obtain ⟨a4, n4, c4, rfl⟩ := (unhide HV).form
            clear HST M9
            go_wp2_with fail
            go_roundw
            case rel => exact ⟨j + 1, by omega, by go_num, HV⟩
            case measure => simp [intOf]; omega
          · have hjt' : ¬ (j : Int) < 12 := by omega
            have M11 := hide (show Mid base g p w (.slice pa pn pc) 20 22 wr from by
              obtain ⟨⟨xs, h1, h2⟩, ⟨r, h3, h4⟩, h5⟩ := unhide HN
              exact ⟨⟨xs, h1, h2.mono (by omega)⟩, ⟨r, by omega, h4⟩, h5⟩)
            obtain ⟨r2, hrq, hrr⟩ := (unhide M11).rd
            have HR := hide hrr
            have HRQ2 := hide hrq
            clear hrr hrq HN M6
            by_cases hbig : (12 : Int) < (pn : Int)
            · obtain ⟨b, off, hpa, hpc⟩ : ∃ b off, pa = some ⟨b, off, none⟩ ∧ pn ≤ pc := by
                obtain ⟨⟨xs, h1, h2⟩, _⟩ := unhide M11
                obtain ⟨_, _, e⟩ := h1.slice
                simp only [Value.slice.injEq] at e
                rcases h1.2 with ⟨e2, _⟩ | ⟨g', cap, cur, e2, _, _, hnc, _⟩
                · simp only [Value.slice.injEq] at e2; omega
                · simp only [Value.slice.injEq] at e2
                  exact ⟨g', 0, e2.1, by rw [e.2.1, e2.2.2]; exact hnc⟩
              subst hpa
              go_wp2_with fail
              refine (pick_any wr base g r2 2 (by omega) (by omega) (by have := unhide HRQ2; omega) (unhide HR)).mono ?_
              rintro e w12 ⟨z, rfl, z0, z1, hr12, ht12⟩
              have M12 := hide ((unhide M11).step hgl ht12 hr12 (q' := 23) (by have := unhide HRQ2; omega))
              clear hr12 ht12 M11 HR
              by_cases hz : z = 0
              · subst hz
                have HE := hide (unhide HEND (.slice (some ⟨b, off, none⟩) pn pc) 23 w12 (unhide M12) (by omega) 12 _ (.inr ⟨b, off, pn, pc, rfl, by omega, rfl⟩))
                have h12 : (12 : Int) ≤ (pc : Int) := by omega
                go_wp2_with fail
                refine (unhide HE).mono ?_
                rintro e w7 ⟨v, xs, rfl, k1, k2, k3, k4⟩
                go_wp2_with fail
                go_ret
                exact ⟨v, xs, rfl, k1, k2, k3, k4⟩
              · have ez : (z == 0) = false := by rw [beq_eq_false_iff_ne]; exact hz
                have HE := hide (unhide HEND (.slice (some ⟨b, off, none⟩) pn pc) 23 w12 (unhide M12) (by omega) 0 _ (.inl rfl))
                clear hz
                go_wp2_with fail
                refine (unhide HE).mono ?_
                rintro e w7 ⟨v, xs, rfl, k1, k2, k3, k4⟩
                go_wp2_with fail
                go_ret
                exact ⟨v, xs, rfl, k1, k2, k3, k4⟩
            · have HE := hide (unhide HEND (.slice pa pn pc) 22 wr (unhide M11) (by omega) 0 _ (.inl rfl))
              go_wp2_with fail
              refine (unhide HE).mono ?_
              rintro e w7 ⟨v, xs, rfl, k1, k2, k3, k4⟩
              go_wp2_with fail
              go_ret
              exact ⟨v, xs, rfl, k1, k2, k3, k4⟩
      · have ey : (y == 0) = false := by rw [beq_eq_false_iff_ne]; exact hy
        have HE := hide (unhide HEND (.slice oa on oc) 10 w6 (by
          obtain ⟨⟨xs, h1, h2⟩, h3, h5⟩ := unhide M6
          exact ⟨⟨xs, h1, h2.mono (by omega)⟩, h3, h5⟩) (by omega) 0 _ (.inl rfl))
        clear hy
        go_wp2_with fail
        refine (unhide HE).mono ?_
        rintro e w7 ⟨v, xs, rfl, k1, k2, k3, k4⟩
        go_wp2_with fail
        go_ret
        exact ⟨v, xs, rfl, k1, k2, k3, k4⟩
end Go.Proofs.YteonbigmggeneaaDoor
