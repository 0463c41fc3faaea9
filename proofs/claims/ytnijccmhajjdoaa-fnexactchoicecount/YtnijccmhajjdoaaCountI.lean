/-
  The program's countBehind.
-/
import Derived.Test.YtnijccmhajjdoaaCountM
import Derived.Test.YtnijccmhajjdoaaCountF
import Derived.Handy
set_option linter.unusedVariables false
namespace Go.Proofs.Ytnijccmhajjdoaa
open Go.RowKit Go.Maps Go.Deep

/-- a row's cells are lists of marks that could be read from the beginning -/
def StsRd (w0 : World) (vs : List Value) (ss : List (List MarkV)) : Prop := vs.length = ss.length ∧ ∀ j (h : j < ss.length), ∃ a n c, vs[j]? = some (.slice a n c) ∧ MarkSRd w0 (.slice a n c) ss[j]
theorem StsRd.snoc {w0 : World} {vs : List Value} {ss : List (List MarkV)} {a : Option Addr} {n c : Nat} {s : List MarkV} (h : StsRd w0 vs ss) (hm : MarkSRd w0 (.slice a n c) s) : StsRd w0 (vs ++ [.slice a n c]) (ss ++ [s]) := by
  refine ⟨by simp [h.1], fun j hj => ?_⟩
  by_cases e : j < ss.length
  · obtain ⟨a', n', c', h1, h2⟩ := h.2 j e
    exact ⟨a', n', c', by rw [List.getElem?_append_left (by rw [h.1]; exact e)]; exact h1, by rw [List.getElem_append_left e]; exact h2⟩
  · obtain rfl : j = ss.length := by simp at hj; omega
    exact ⟨a, n, c, by rw [List.getElem?_append_right (by rw [h.1]; exact Nat.le_refl _), h.1]; simp, by simpa using hm⟩
set_option maxHeartbeats 1600000 in
theorem agreesWithAll_nil (v : Value) (w : World) {s : List MarkV} (hv : MarkSRd w v s) :
    Calls Try.prog 38 #[v, .slice none 0 0] w fun e w' => e = .returned (.bool true) ∧ Below w.heap.size w w' := by
  obtain ⟨a, n, c, rfl⟩ := hv.form
  clear hv
  go_enter Try.func38, Try.ntmps38
  go_wp2_with fail
  refine wp_loop_rounds 1 ?_
  rw [rounds_succ]
  go_wp2_with fail
  go_ret
  exact ⟨rfl, Below.refl _ _⟩
theorem agreesWithAll_sl (w0 : World) (s : List MarkV) (ss : List (List MarkV)) (sv v : Value) (vs : List Value) (B : Nat) (w : World) (hs : SmallMarkS s) (hss : ∀ x ∈ ss, SmallMarkS x) (hl : ss.length ≤ 6) (hv : MarkSRd w sv s) (hst : StsRd w0 vs ss) (hr : SlRow B w v vs) (hb : Below w0.heap.size w0 w) :
    Calls Try.prog 38 #[sv, v] w fun e w' => e = .returned (.bool (agAll s ss)) ∧ Below w.heap.size w w' := by
  rcases hr.slice with ⟨rfl, rfl⟩ | ⟨g, c, rfl, hnc, hg, hcell⟩
  · have h0 : ss = [] := List.eq_nil_of_length_eq_zero (by have := hst.1; simpa using this.symm)
    subst h0
    exact agreesWithAll_nil sv w hv
  · rw [hst.1]
    refine agreesWithAll_row s ss sv g c w hs hss (by omega) hv hg (fun i hi => ?_)
    obtain ⟨a, n, c', h1, h2⟩ := hst.2 i hi
    have hi' : i < vs.length := by rw [hst.1]; exact hi
    refine ⟨a, n, c', ?_, h2.up hb⟩
    rw [hcell i hi']
    rw [List.getElem?_eq_getElem hi'] at h1
    exact h1
theorem wrap_small {x : Int} (h0 : 0 ≤ x) (h1 : x ≤ 1000000) : IntKind.i64.wrap x = x := by
  rw [IntKind.wrap_i64]
  omega
/-- what countBehind says at some windows -/
def CountSaid (w0 : World) (ws : List (List ItemV)) : Prop :=
  ∀ (a1 : Option Addr) (c1 : Nat) (ss : List (List MarkV)) (vs : List Value) (v : Value) (w : World), ws.length ≤ c1 → WinsIn w0 a1 ws → (∀ x ∈ ss, SmallMarkS x) → ss.length + ws.length ≤ 6 → StsRd w0 vs ss → SlRow w0.heap.size w v vs → Below w0.heap.size w0 w →
    Calls Try.prog 24 #[v, .slice a1 ws.length c1] w fun e w' => e = .returned (.int .i64 (cb ws ss : Int)) ∧ Hid (SlRow w0.heap.size w' v vs) ∧ Hid (Turn v.ownBlock.toList w w')
theorem SlRow.form {B : Nat} {w : World} {v : Value} {vs : List Value} (h : SlRow B w v vs) : ∃ a c, v = .slice a vs.length c := by
  rcases h.slice with ⟨e, rfl⟩ | ⟨g, c, e, _⟩
  · exact ⟨_, _, e⟩
  · exact ⟨_, _, e⟩
set_option maxHeartbeats 1600000 in
theorem count_nil (w0 : World) : CountSaid w0 [] := by
  intro a1 c1 ss vs v w hc hw hss hl hst hr hb
  have HR := hide hr
  obtain ⟨va, vc, rfl⟩ := hr.form
  clear hr hst hss hw
  generalize vs.length = vn at *
  go_enter Try.func24, Try.ntmps24
  go_wp2_with fail
  go_ret
  exact ⟨rfl, HR, Turn.refl _ _⟩
set_option maxHeartbeats 6400000 in
theorem count_more (w0 : World) (win : List ItemV) (rest : List (List ItemV)) (hs : SmallItemSS (win :: rest)) (h4 : ∀ x ∈ win :: rest, x.length ≤ 4) (ih : CountSaid w0 rest) (a1 : Option Addr) (c1 : Nat) (hc2 : ¬ c1 = 1) (ss : List (List MarkV)) (vs : List Value) (v : Value) (w : World) (hc : (win :: rest).length ≤ c1) (hw : WinsIn w0 a1 (win :: rest)) (hss : ∀ x ∈ ss, SmallMarkS x) (hl : ss.length + (win :: rest).length ≤ 6) (hst : StsRd w0 vs ss) (hr : SlRow w0.heap.size w v vs) (hb : Below w0.heap.size w0 w) :
    Calls Try.prog 24 #[v, .slice a1 (win :: rest).length c1] w fun e w' => e = .returned (.int .i64 (cb (win :: rest) ss : Int)) ∧ Hid (SlRow w0.heap.size w' v vs) ∧ Hid (Turn v.ownBlock.toList w w') := by
  rcases hw with h0 | ⟨b, off, rfl, hbl, hat⟩
  · cases h0
  have hlr : (win :: rest).length = rest.length + 1 := by simp
  rw [hlr] at hl hc ⊢
  have h4w := h4 win (by simp)
  have hcb := cb_le rest
  have h4r : ∀ x ∈ rest, x.length ≤ 4 := fun x hx => h4 x (by simp [hx])
  have hrl : rest.length ≤ 5 := by omega
  have hpow : 4 ^ rest.length ≤ 1024 := Nat.le_trans (Nat.pow_le_pow_right (by decide) hrl) (by decide)
  have HCB := hide (show ∀ ss, cb rest ss ≤ 1024 from fun ss => Nat.le_trans (cb_le rest ss h4r) hpow)
  have HCT := hide (show ∀ k, cbTo win rest ss k ≤ 4096 from fun k => by
    have h1 := sum_le4 ((win.take k).map (fun it => if agAll it.a1 ss then cb rest (ss ++ [it.a1]) else 0)) 1024 (fun x hx => by
      obtain ⟨it, _, rfl⟩ := List.mem_map.1 hx
      split
      · exact unhide HCB _
      · exact Nat.zero_le _)
    have h2 : ((win.take k).map (fun it => if agAll it.a1 ss then cb rest (ss ++ [it.a1]) else 0)).length ≤ 4 := by simp; omega
    unfold cbTo
    exact Nat.le_trans h1 (Nat.le_trans (Nat.mul_le_mul_right 1024 h2) (by decide)))
  have IH := hide (fun (ss' : List (List MarkV)) (vs' : List Value) (v' : Value) (W : World) (a' : Option Addr) (ha : WinsIn w0 a' rest) (h1 : ∀ x ∈ ss', SmallMarkS x) (h2 : ss'.length + rest.length ≤ 6) (h3 : StsRd w0 vs' ss') (h4 : SlRow w0.heap.size W v' vs') (h5 : Below w0.heap.size w0 W) => ih a' (c1 - 1) ss' vs' v' W (by omega) ha h1 h2 h3 h4 h5)
  have HRW := hide (show WinsIn w0 (some ⟨b, off + 1, none⟩) rest from .inr ⟨b, off + 1, rfl, hbl, fun i hi => by
    obtain ⟨v, c, hv⟩ := hat (i + 1) (by simp; omega)
    exact ⟨v, by rw [show off + 1 + i = off + (i + 1) by omega]; exact c, by simpa using hv⟩⟩)
  obtain ⟨iv, ic0, hiv⟩ := hat 0 (by simp)
  simp only [List.getElem_cons_zero] at hiv
  have HSI := hide (hs.2 win (by simp))
  have HSS := hide hss
  have HST := hide hst
  have HB := hide hb
  have hvl : vs.length ≤ 6 := by rw [hst.1]; omega
  have HRS := hide hr
  have hge := hide hr.ge
  have hlt := hide hr.lt
  obtain ⟨va, vc, rfl⟩ := hr.form
  obtain ⟨ia, ic, rfl, hin⟩ := hiv
  have HIN := hide hin
  have i0 := (hb.cell (show b < w0.heap.size from hbl)).trans ic0
  simp only [Nat.add_zero] at i0
  clear ih hat hss hst hr hb hs ic0 h4 h4r hcb hpow hin hlr
  go_enter Try.func24, Try.ntmps24
  go_wp2_with fail
  clear i0
  rw [show (((rest.length : Int) + 1) == 0) = false from by simp; omega]
  go_loopw [5, 15] (fun cv i wr => ∃ (k q : Nat), k ≤ win.length ∧ i = .int .i64 k ∧ cv = .int .i64 (q : Int) ∧ Hid (q = cbTo win rest ss k) ∧ Hid (SlRow w0.heap.size wr (.slice va vs.length vc) vs) ∧ Hid (Turn (Value.slice va vs.length vc).ownBlock.toList w wr)) (fun _ i _ => win.length - (intOf i).toNat)
  case atStart => exact ⟨0, 0, Nat.zero_le _, rfl, rfl, hide (by simp [cbTo]), HRS, Turn.refl _ _⟩
  case round =>
    obtain ⟨k, q, hk, rfl, rfl, HQ, HR, HT⟩ := hrel
    have hq : q ≤ 4096 := by have := unhide HQ; have := unhide HCT k; omega
    have HBr := hide ((unhide HB).trans ((unhide HT).below (unhide HB).size (fun j hj => unhide hge j (by simpa using hj))))
    by_cases hkl : k < win.length
    · rcases unhide HIN with h0 | ⟨bi, oi, rfl, hbi, hit⟩
      · rw [h0] at hkl; simp at hkl
      obtain ⟨c0, mv, c1', hmv⟩ := hit k hkl
      have c0w := ((unhide HBr).cell (show bi < w0.heap.size from hbi)).trans c0
      have c1w := ((unhide HBr).cell (show bi < w0.heap.size from hbi)).trans c1'
      have HMV := hide hmv
      obtain ⟨ma, mn, mc, rfl⟩ := hmv.form
      have HSM := hide ((unhide HSI).2 _ (List.getElem_mem hkl)).2
      have HQ1 := hide (cbTo_step win rest ss k hkl)
      obtain ⟨bx, bb, zz⟩ := boxNew2 wr (.int .i64 win[k].a0) (.slice ma mn mc) 52
      clear c0 c1' hmv hit
      generalize win[k].a0 = z0 at *
      generalize win[k].a1 = ms at *
      obtain ⟨d0, d1⟩ := bx.two
      go_wp2_with fail
      have OBL := hide (show ∀ j ∈ (Value.slice va vs.length vc).ownBlock.toList, j < wr.heap.size from fun j hj => (unhide HR).lt j (by simpa using hj))
      have OBG := hide (show ∀ j ∈ (Value.slice va vs.length vc).ownBlock.toList, w0.heap.size ≤ j from fun j hj => unhide hge j (by simpa using hj))
      have RW := hide ((unhide HR).up bb)
      have BW := hide ((unhide HBr).trans (bb.mono (unhide HBr).size))
      have TW := hide ((unhide HT).trans (Turn.of_below bb))
      have BX := hide bx
      have hzz := hide zz
      generalize wr.alloc (.cells #[.int .i64 z0, .slice ma mn mc] 52) = W1 at *
      clear d0 d1 bx bb zz c0w c1w
      refine (agreesWithAll_sl w0 ms ss (.slice ma mn mc) (.slice va vs.length vc) vs w0.heap.size W1 (unhide HSM) (unhide HSS) (by omega) ((unhide HMV).up (unhide BW)) (unhide HST) (unhide RW) (unhide BW)).mono ?_
      rintro e w2 ⟨rfl, b2⟩
      have R2 := hide ((unhide RW).up b2)
      have B2 := hide ((unhide BW).trans (b2.mono (unhide BW).size))
      have T2 := hide ((unhide TW).trans (Turn.of_below b2))
      have X2 := hide ((unhide BX).up b2)
      clear b2 RW BW TW BX
      cases hag : agAll ms ss
      · have HQ2 := hide (show q = cbTo win rest ss (k + 1) by rw [unhide HQ1, hag, unhide HQ]; simp)
        clear hag
        go_wp2_with fail
        go_roundw
        case rel => exact ⟨k + 1, q, by omega, by go_num, rfl, HQ2, R2, T2⟩
        case measure => simp [intOf]; omega
      · have HQ2 := hide (show q + cb rest (ss ++ [ms]) = cbTo win rest ss (k + 1) by rw [unhide HQ1, hag, unhide HQ]; simp)
        have hcb := unhide HCB (ss ++ [ms])
        have hXl : wr.heap.size < w2.heap.size := (unhide X2).1
        have ba : Below w2.heap.size w2 (w2.alloc (.cells #[.slice ma mn mc] 30)).drew := ((Below.refl _ _).alloc (Nat.le_refl _) _).drew
        have RA := hide ((unhide R2).up ba)
        have TA := hide (show Turn (Value.slice va vs.length vc).ownBlock.toList w2 (w2.alloc (.cells #[.slice ma mn mc] 30)).drew from Turn.of_below ba)
        have CA := hide (show (w2.alloc (.cells #[.slice ma mn mc] 30)).drew.cell? ⟨w2.heap.size, 0, none⟩ = some (.slice ma mn mc) from World.cell?_alloc_at _ _ _ _ rfl)
        have TD := hide (show Turn (Value.slice va vs.length vc).ownBlock.toList w2 w2.drew from Turn.of_below ((Below.refl _ _).drew))
        have hzA : w0.heap.size ≤ (w2.alloc (.cells #[.slice ma mn mc] 30)).drew.heap.size := Nat.le_trans (unhide B2).size ba.size
        have KP := hide (show ∀ X : World, Turn (Value.slice va vs.length vc).ownBlock.toList w2 X → X.cell? ⟨wr.heap.size, 1, none⟩ = some (.slice ma mn mc) from fun X t => (t.cell hXl (fun hm => by have := unhide OBL _ hm; omega)).trans (unhide X2).two.2)
        have x1 := (unhide X2).two.2
        have j1 : (1 : Int) ≤ (rest.length : Int) + 1 := by omega
        have j2 : (rest.length : Int) + 1 ≤ (c1 : Int) := by omega
        have j3 : (1 : Int) ≤ ((rest.length + 1 : Nat) : Int) := by omega
        have j4 : ((rest.length + 1 : Nat) : Int) ≤ (c1 : Int) := by omega
        have j5 : 1 ≤ rest.length + 1 := by omega
        have HSX := hide (show ∀ x ∈ ss ++ [ms], SmallMarkS x from fun x hx => by
          rcases List.mem_append.1 hx with h | h
          · exact unhide HSS x h
          · simp at h; subst h; exact unhide HSM)
        have HLX := hide (show (ss ++ [ms]).length + rest.length ≤ 6 by simp; omega)
        have HTX := hide ((unhide HST).snoc (unhide HMV))
        clear hag ba
        have hwr : IntKind.i64.wrap ((q : Int) + ((cb rest (ss ++ [ms]) : Nat) : Int)) = (q : Int) + ((cb rest (ss ++ [ms]) : Nat) : Int) := wrap_small (by omega) (by omega)
        go_wp2_with fail
        go_region_held3 (fun X => X.cell? ⟨wr.heap.size, 1, none⟩ = some (.slice ma mn mc)) ((refine unhide KP _ ?_; exact unhide (by assumption)))
          (first
            | (refine step_slFork (w := (w2.alloc (.cells #[.slice ma mn mc] 30)).drew) (by first | rfl | simp [Region.wanted, yielded]) (.tmp 24) (.tmp 27) (by rfl) w0.heap.size (.slice va vs.length vc) vs ma mn mc w2.heap.size (by rfl) (by rfl) (unhide RA) (unhide CA) (by omega) hzA ?_; intro g3 c3 w3 r3 t3 hg3 keep3; have R3 := hide r3; have T3 := hide ((unhide TA).trans t3); have K3 := hide keep3; have G3 := hide hg3; clear r3 t3 keep3 hg3)
            | (go_at_call 24; have _t := T3; refine (unhide IH (ss ++ [ms]) (vs ++ [.slice ma mn mc]) _ w3 _ (unhide HRW) (unhide HSX) (unhide HLX) (unhide HTX) (unhide R3) ((unhide B2).trans ((unhide T3).below (unhide B2).size (unhide OBG)))).mono ?_; rintro e w4 ⟨rfl, R4, T4⟩; have R5 := hide (unhide K3 w4 (unhide T4) (unhide R4)).1; have T5 := hide ((unhide TA).trans (unhide K3 w4 (unhide T4) (unhide R4)).2); clear R4 T4))
        all_goals
          have T6 := hide ((unhide T2).trans (unhide T5))
          clear x1
          generalize cb rest (ss ++ [ms]) = cc at *
          go_wp2_with fail
          go_roundw
          case rel => exact ⟨k + 1, q + cc, by omega, by go_num, by go_num, HQ2, R5, T6⟩
          case measure => simp [intOf]; omega
    · obtain rfl : k = win.length := by omega
      have HE := hide (show q = cb (win :: rest) ss by rw [← cbTo_all]; exact unhide HQ)
      go_wp2_with fail
      go_ret
      exact ⟨by rw [← unhide HE]; rfl, HR, HT⟩
set_option maxHeartbeats 6400000 in
theorem count_one (w0 : World) (win : List ItemV) (hs : SmallItemSS ([win])) (h4 : ∀ x ∈ [win], x.length ≤ 4) (ih : CountSaid w0 []) (a1 : Option Addr) (ss : List (List MarkV)) (vs : List Value) (v : Value) (w : World) (hw : WinsIn w0 a1 ([win])) (hss : ∀ x ∈ ss, SmallMarkS x) (hl : ss.length + ([win]).length ≤ 6) (hst : StsRd w0 vs ss) (hr : SlRow w0.heap.size w v vs) (hb : Below w0.heap.size w0 w) :
    Calls Try.prog 24 #[v, .slice a1 1 1] w fun e w' => e = .returned (.int .i64 (cb ([win]) ss : Int)) ∧ Hid (SlRow w0.heap.size w' v vs) ∧ Hid (Turn v.ownBlock.toList w w') := by
  rcases hw with h0 | ⟨b, off, rfl, hbl, hat⟩
  · cases h0
  have hlr : ([win]).length = 1 := by simp
  rw [hlr] at hl
  have h4w := h4 win (by simp)
  have hcb := cb_le []
  have h4r : ∀ x ∈ ([] : List (List ItemV)), x.length ≤ 4 := fun x hx => h4 x (by simp [hx])
  have hrl : 0 ≤ 5 := by omega
  have hpow : 4 ^ 0 ≤ 1024 := Nat.le_trans (Nat.pow_le_pow_right (by decide) hrl) (by decide)
  have HCB := hide (show ∀ ss, cb [] ss ≤ 1024 from fun ss => Nat.le_trans (cb_le [] ss h4r) hpow)
  have HCT := hide (show ∀ k, cbTo win [] ss k ≤ 4096 from fun k => by
    have h1 := sum_le4 ((win.take k).map (fun it => if agAll it.a1 ss then cb [] (ss ++ [it.a1]) else 0)) 1024 (fun x hx => by
      obtain ⟨it, _, rfl⟩ := List.mem_map.1 hx
      split
      · exact unhide HCB _
      · exact Nat.zero_le _)
    have h2 : ((win.take k).map (fun it => if agAll it.a1 ss then cb [] (ss ++ [it.a1]) else 0)).length ≤ 4 := by simp; omega
    unfold cbTo
    exact Nat.le_trans h1 (Nat.le_trans (Nat.mul_le_mul_right 1024 h2) (by decide)))
  have IH := hide (fun (ss' : List (List MarkV)) (vs' : List Value) (v' : Value) (W : World) (a' : Option Addr) (ha : WinsIn w0 a' []) (h1 : ∀ x ∈ ss', SmallMarkS x) (h2 : ss'.length + 0 ≤ 6) (h3 : StsRd w0 vs' ss') (h4 : SlRow w0.heap.size W v' vs') (h5 : Below w0.heap.size w0 W) => ih a' 0 ss' vs' v' W (Nat.le_refl _) ha h1 h2 h3 h4 h5)
  have HRW := hide (show WinsIn w0 (some ⟨b, off, none⟩) ([] : List (List ItemV)) from .inl rfl)
  obtain ⟨iv, ic0, hiv⟩ := hat 0 (by simp)
  simp only [List.getElem_cons_zero] at hiv
  have HSI := hide (hs.2 win (by simp))
  have HSS := hide hss
  have HST := hide hst
  have HB := hide hb
  have hvl : vs.length ≤ 6 := by rw [hst.1]; omega
  have HRS := hide hr
  have hge := hide hr.ge
  have hlt := hide hr.lt
  obtain ⟨va, vc, rfl⟩ := hr.form
  obtain ⟨ia, ic, rfl, hin⟩ := hiv
  have HIN := hide hin
  have i0 := (hb.cell (show b < w0.heap.size from hbl)).trans ic0
  simp only [Nat.add_zero] at i0
  clear ih hat hss hst hr hb hs ic0 h4 h4r hcb hpow hin hlr
  go_enter Try.func24, Try.ntmps24
  go_wp2_with fail
  clear i0
  go_loopw [5, 15] (fun cv i wr => ∃ (k q : Nat), k ≤ win.length ∧ i = .int .i64 k ∧ cv = .int .i64 (q : Int) ∧ Hid (q = cbTo win [] ss k) ∧ Hid (SlRow w0.heap.size wr (.slice va vs.length vc) vs) ∧ Hid (Turn (Value.slice va vs.length vc).ownBlock.toList w wr)) (fun _ i _ => win.length - (intOf i).toNat)
  case atStart => exact ⟨0, 0, Nat.zero_le _, rfl, rfl, hide (by simp [cbTo]), HRS, Turn.refl _ _⟩
  case round =>
    obtain ⟨k, q, hk, rfl, rfl, HQ, HR, HT⟩ := hrel
    have hq : q ≤ 4096 := by have := unhide HQ; have := unhide HCT k; omega
    have HBr := hide ((unhide HB).trans ((unhide HT).below (unhide HB).size (fun j hj => unhide hge j (by simpa using hj))))
    by_cases hkl : k < win.length
    · rcases unhide HIN with h0 | ⟨bi, oi, rfl, hbi, hit⟩
      · rw [h0] at hkl; simp at hkl
      obtain ⟨c0, mv, c1', hmv⟩ := hit k hkl
      have c0w := ((unhide HBr).cell (show bi < w0.heap.size from hbi)).trans c0
      have c1w := ((unhide HBr).cell (show bi < w0.heap.size from hbi)).trans c1'
      have HMV := hide hmv
      obtain ⟨ma, mn, mc, rfl⟩ := hmv.form
      have HSM := hide ((unhide HSI).2 _ (List.getElem_mem hkl)).2
      have HQ1 := hide (cbTo_step win [] ss k hkl)
      obtain ⟨bx, bb, zz⟩ := boxNew2 wr (.int .i64 win[k].a0) (.slice ma mn mc) 52
      clear c0 c1' hmv hit
      generalize win[k].a0 = z0 at *
      generalize win[k].a1 = ms at *
      obtain ⟨d0, d1⟩ := bx.two
      go_wp2_with fail
      have OBL := hide (show ∀ j ∈ (Value.slice va vs.length vc).ownBlock.toList, j < wr.heap.size from fun j hj => (unhide HR).lt j (by simpa using hj))
      have OBG := hide (show ∀ j ∈ (Value.slice va vs.length vc).ownBlock.toList, w0.heap.size ≤ j from fun j hj => unhide hge j (by simpa using hj))
      have RW := hide ((unhide HR).up bb)
      have BW := hide ((unhide HBr).trans (bb.mono (unhide HBr).size))
      have TW := hide ((unhide HT).trans (Turn.of_below bb))
      have BX := hide bx
      have hzz := hide zz
      generalize wr.alloc (.cells #[.int .i64 z0, .slice ma mn mc] 52) = W1 at *
      clear d0 d1 bx bb zz c0w c1w
      refine (agreesWithAll_sl w0 ms ss (.slice ma mn mc) (.slice va vs.length vc) vs w0.heap.size W1 (unhide HSM) (unhide HSS) (by omega) ((unhide HMV).up (unhide BW)) (unhide HST) (unhide RW) (unhide BW)).mono ?_
      rintro e w2 ⟨rfl, b2⟩
      have R2 := hide ((unhide RW).up b2)
      have B2 := hide ((unhide BW).trans (b2.mono (unhide BW).size))
      have T2 := hide ((unhide TW).trans (Turn.of_below b2))
      have X2 := hide ((unhide BX).up b2)
      clear b2 RW BW TW BX
      cases hag : agAll ms ss
      · have HQ2 := hide (show q = cbTo win [] ss (k + 1) by rw [unhide HQ1, hag, unhide HQ]; simp)
        clear hag
        go_wp2_with fail
        go_roundw
        case rel => exact ⟨k + 1, q, by omega, by go_num, rfl, HQ2, R2, T2⟩
        case measure => simp [intOf]; omega
      · have HQ2 := hide (show q + cb [] (ss ++ [ms]) = cbTo win [] ss (k + 1) by rw [unhide HQ1, hag, unhide HQ]; simp)
        have hcb := unhide HCB (ss ++ [ms])
        have hXl : wr.heap.size < w2.heap.size := (unhide X2).1
        have ba : Below w2.heap.size w2 (w2.alloc (.cells #[.slice ma mn mc] 30)).drew := ((Below.refl _ _).alloc (Nat.le_refl _) _).drew
        have RA := hide ((unhide R2).up ba)
        have TA := hide (show Turn (Value.slice va vs.length vc).ownBlock.toList w2 (w2.alloc (.cells #[.slice ma mn mc] 30)).drew from Turn.of_below ba)
        have CA := hide (show (w2.alloc (.cells #[.slice ma mn mc] 30)).drew.cell? ⟨w2.heap.size, 0, none⟩ = some (.slice ma mn mc) from World.cell?_alloc_at _ _ _ _ rfl)
        have TD := hide (show Turn (Value.slice va vs.length vc).ownBlock.toList w2 w2.drew from Turn.of_below ((Below.refl _ _).drew))
        have hzA : w0.heap.size ≤ (w2.alloc (.cells #[.slice ma mn mc] 30)).drew.heap.size := Nat.le_trans (unhide B2).size ba.size
        have KP := hide (show ∀ X : World, Turn (Value.slice va vs.length vc).ownBlock.toList w2 X → X.cell? ⟨wr.heap.size, 1, none⟩ = some (.slice ma mn mc) from fun X t => (t.cell hXl (fun hm => by have := unhide OBL _ hm; omega)).trans (unhide X2).two.2)
        have x1 := (unhide X2).two.2
        have j1 : (1 : Int) ≤ (1 : Int) := by omega
        have j2 : (1 : Int) ≤ (1 : Int) := by omega
        have j3 : (1 : Int) ≤ ((1 : Nat) : Int) := by omega
        have j4 : ((1 : Nat) : Int) ≤ (1 : Int) := by omega
        have j5 : 1 ≤ 1 := by omega
        have HSX := hide (show ∀ x ∈ ss ++ [ms], SmallMarkS x from fun x hx => by
          rcases List.mem_append.1 hx with h | h
          · exact unhide HSS x h
          · simp at h; subst h; exact unhide HSM)
        have HLX := hide (show (ss ++ [ms]).length + 0 ≤ 6 by simp; omega)
        have HTX := hide ((unhide HST).snoc (unhide HMV))
        clear hag ba
        have hwr : IntKind.i64.wrap ((q : Int) + ((cb [] (ss ++ [ms]) : Nat) : Int)) = (q : Int) + ((cb [] (ss ++ [ms]) : Nat) : Int) := wrap_small (by omega) (by omega)
        go_wp2_with fail
        go_region_held3 (fun X => X.cell? ⟨wr.heap.size, 1, none⟩ = some (.slice ma mn mc)) ((refine unhide KP _ ?_; exact unhide (by assumption)))
          (first
            | (refine step_slFork (w := (w2.alloc (.cells #[.slice ma mn mc] 30)).drew) (by first | rfl | simp [Region.wanted, yielded]) (.tmp 24) (.tmp 27) (by rfl) w0.heap.size (.slice va vs.length vc) vs ma mn mc w2.heap.size (by rfl) (by rfl) (unhide RA) (unhide CA) (by omega) hzA ?_; intro g3 c3 w3 r3 t3 hg3 keep3; have R3 := hide r3; have T3 := hide ((unhide TA).trans t3); have K3 := hide keep3; have G3 := hide hg3; clear r3 t3 keep3 hg3)
            | (go_at_call 24; have _t := T3; refine (unhide IH (ss ++ [ms]) (vs ++ [.slice ma mn mc]) _ w3 _ (unhide HRW) (unhide HSX) (unhide HLX) (unhide HTX) (unhide R3) ((unhide B2).trans ((unhide T3).below (unhide B2).size (unhide OBG)))).mono ?_; rintro e w4 ⟨rfl, R4, T4⟩; have R5 := hide (unhide K3 w4 (unhide T4) (unhide R4)).1; have T5 := hide ((unhide TA).trans (unhide K3 w4 (unhide T4) (unhide R4)).2); clear R4 T4))
        all_goals
          have T6 := hide ((unhide T2).trans (unhide T5))
          clear x1
          generalize cb [] (ss ++ [ms]) = cc at *
          go_wp2_with fail
          go_roundw
          case rel => exact ⟨k + 1, q + cc, by omega, by go_num, by go_num, HQ2, R5, T6⟩
          case measure => simp [intOf]; omega
    · obtain rfl : k = win.length := by omega
      have HE := hide (show q = cb ([win]) ss by rw [← cbTo_all]; exact unhide HQ)
      go_wp2_with fail
      go_ret
      exact ⟨by rw [← unhide HE]; rfl, HR, HT⟩
theorem count_all (w0 : World) : ∀ (ws : List (List ItemV)), SmallItemSS ws → (∀ x ∈ ws, x.length ≤ 4) → CountSaid w0 ws
  | [], _, _ => count_nil w0
  | win :: rest, hs, h4 => by
    have ih := count_all w0 rest ⟨by have := hs.1; simp only [List.length_cons] at this; omega, fun x hx => hs.2 x (by simp [hx])⟩ (fun x hx => h4 x (by simp [hx]))
    intro a1 c1 ss vs v w hc hw hss hl hst hr hb
    by_cases hc1 : c1 = 1
    · subst hc1
      obtain rfl : rest = [] := List.eq_nil_of_length_eq_zero (by simp only [List.length_cons] at hc; omega)
      exact count_one w0 win hs h4 ih a1 ss vs v w hw hss hl hst hr hb
    · exact count_more w0 win rest hs h4 ih a1 c1 hc1 ss vs v w hc hw hss hl hst hr hb
end Go.Proofs.Ytnijccmhajjdoaa
