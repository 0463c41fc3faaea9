/-
  The program's chosenStamps: the stamps of a choice.
-/
import Derived.Test.YtnijccmhajjdoaaChoiceI1
import Derived.Test.YtnijccmhajjdoaaMerged6
set_option linter.unusedVariables false
namespace Go.Proofs.Ytnijccmhajjdoaa
open Go.RowKit Go.Maps Go.Deep

def pickB (ws : List (List ItemV)) (ps : List Int) : Bool := winsB ws && (decide (ps.length = ws.length) && inB ws ps)
theorem pick_no1 {ws : List (List ItemV)} {ps : List Int} (h : winsB ws = false) : pickB ws ps = false := by simp [pickB, h]
theorem pick_no2 {ws : List (List ItemV)} {ps : List Int} (h : ps.length ≠ ws.length) : pickB ws ps = false := by simp [pickB, h]
theorem pick_no3 {ws : List (List ItemV)} {ps : List Int} (h : inB ws ps = false) : pickB ws ps = false := by simp [pickB, h]
theorem pick_yes {ws : List (List ItemV)} {ps : List Int} (h1 : winsB ws = true) (h2 : ps.length = ws.length) (h3 : inB ws ps = true) : pickB ws ps = true := by simp [pickB, h1, h2, h3]
/-- the cells of a row are the stamps of the chosen items (of the world where they were handed in) -/
def StampsTo (w : World) (ws : List (List ItemV)) (ps : List Int) (vs : List Value) : Prop := ∀ j (h : j < vs.length), ∃ a n c, vs[j] = .slice a n c ∧ MarkSRd w (.slice a n c) (stampAt ws ps j) ∧ SmallMarkS (stampAt ws ps j)
theorem stampsTo_nil (w : World) (ws : List (List ItemV)) (ps : List Int) : StampsTo w ws ps [] := fun j h => by simp at h
theorem stampsTo_snoc {w : World} {ws : List (List ItemV)} {ps : List Int} {vs : List Value} {a : Option Addr} {n c : Nat} (h : StampsTo w ws ps vs) (hm : MarkSRd w (.slice a n c) (stampAt ws ps vs.length)) (hs : SmallMarkS (stampAt ws ps vs.length)) : StampsTo w ws ps (vs ++ [.slice a n c]) := by
  intro j hj
  by_cases e : j < vs.length
  · obtain ⟨a', n', c', h1, h2⟩ := h j e
    exact ⟨a', n', c', by rw [List.getElem_append_left e]; exact h1, h2⟩
  · obtain rfl : j = vs.length := by simp at hj; omega
    exact ⟨a, n, c, by simp, hm, hs⟩
def RetChosen (ws : List (List ItemV)) (ps : List Int) (w : World) (e : Ending) (w' : World) : Prop :=
  (pickB ws ps = false ∧ e = .returned (.tuple #[.slice none 0 0, .bool false]) ∧ Below w.heap.size w w') ∨
  (pickB ws ps = true ∧ ∃ a n c vs, e = .returned (.tuple #[.slice a n c, .bool true]) ∧ n = ps.length ∧ Hid (SlRow w.heap.size w' (.slice a n c) vs) ∧ Hid (vs.length = ps.length) ∧ Hid (StampsTo w ws ps vs) ∧ Below w.heap.size w w')
theorem place_facts {w : World} {b off : Nat} {ws : List (List ItemV)} {ps : List Int} {i : Nat} (hs : SmallItemSS ws) (hc : WinsAt w b off ws) (hi : i < ps.length) (hl : ps.length ≤ ws.length) (hp : placeB ws ps i = true) :
    ∃ (q bi oi ni ci : Nat) (ma : Option Addr) (mn mc : Nat), ps[i] = (q : Int) ∧ q < ni ∧ ni ≤ 1048576 ∧ w.cell? ⟨b, off + i, none⟩ = some (.slice (some ⟨bi, oi, none⟩) ni ci) ∧ w.cell? ⟨bi, oi + q * 2 + 1, none⟩ = some (.slice ma mn mc) ∧ MarkSRd w (.slice ma mn mc) (stampAt ws ps i) ∧ SmallMarkS (stampAt ws ps i) ∧ bi < w.heap.size ∧ (∃ n : Int, w.cell? ⟨bi, oi + q * 2, none⟩ = some (.int .i64 n)) := by
  have hiw : i < ws.length := by omega
  unfold placeB at hp
  simp only [List.getD_eq_getElem?_getD, List.getElem?_eq_getElem hi, List.getElem?_eq_getElem hiw, Option.getD_some, Bool.and_eq_true, decide_eq_true_eq] at hp
  obtain ⟨q, hq⟩ : ∃ q : Nat, ps[i] = (q : Int) := ⟨ps[i].toNat, by omega⟩
  have hqn : q < ws[i].length := by omega
  obtain ⟨v, c, hv⟩ := hc i hiw
  have hsm := hs.2 _ (List.getElem_mem hiw)
  obtain ⟨a, cc, rfl, hin'⟩ := hv
  rcases hin' with h0 | ⟨bi, oi, rfl, hbi, hat⟩
  · rw [h0] at hqn; simp at hqn
  obtain ⟨e0, v', e1, hm⟩ := hat q hqn
  have hst : stampAt ws ps i = ws[i][q].a1 := by
    unfold stampAt
    simp only [List.getD_eq_getElem?_getD, List.getElem?_eq_getElem hi, List.getElem?_eq_getElem hiw, Option.getD_some, hq, Int.toNat_natCast, List.getElem?_eq_getElem hqn, Option.map_some]
  obtain ⟨ma, mn, mc, rfl⟩ := hm.form
  exact ⟨q, bi, oi, ws[i].length, cc, ma, mn, mc, hq, hqn, hsm.1, c, e1, hst ▸ hm, hst ▸ (hsm.2 _ (List.getElem_mem hqn)).2, hbi, ⟨_, e0⟩⟩
set_option maxHeartbeats 6400000 in
theorem chosen_any (ws : List (List ItemV)) (v : Value) (ps : List Int) (u : Value) (w : World) (hs : SmallItemSS ws) (hsp : SmallIntS ps) (h : ItemSSRd w v ws) (hp : IntSRd w u ps) :
    Calls Try.prog 43 #[v, u] w fun e w' => RetChosen ws ps w e w' := by
  have HK := hide (windowsOk_any ws v w hs h)
  have hsl := hs.1
  have hpl := hsp.1
  obtain ⟨a, c, rfl, h⟩ := h
  obtain ⟨a2, c2, rfl, hp⟩ := hp
  cases hw : winsB ws
  · rw [hw] at HK
    have HE := hide (pick_no1 (ps := ps) hw)
    clear h hp hw
    go_enter Try.func43, Try.ntmps43
    go_wp2_with fail
    refine (unhide HK).mono ?_
    rintro e w1 ⟨rfl, b1⟩
    go_wp2_with fail
    go_ret2
    exact .inl ⟨unhide HE, rfl, b1⟩
  rw [hw] at HK
  by_cases hlen : ps.length = ws.length
  · have HL := hide hlen
    obtain ⟨h1, h6⟩ := winsB_len hw
    rcases h with rfl | ⟨b, off, rfl, hb, hc⟩
    · simp at h1
    rcases hp with rfl | ⟨b2, off2, rfl, hb2, hpc⟩
    · simp at hlen; omega
    have HC := hide hc
    have HP := hide hpc
    have HS := hide hs
    have HCA := hide (fun h3 => pick_yes hw hlen h3)
    rw [← hlen] at HK ⊢
    have hl6 : ps.length ≤ 6 := by omega
    have HL6 := hide hl6
    clear hc hpc hs hw hlen h1 h6 hsl hpl
    go_enter Try.func43, Try.ntmps43
    go_wp2_with fail
    refine (unhide HK).mono ?_
    rintro e w1 ⟨rfl, b1⟩
    have B1 := hide b1
    clear b1
    go_wp2_with fail
    go_loopw [6, 21] (fun o i wr => ∃ (k : Nat) (a : Option Addr) (cc : Nat) (vs : List Value), k ≤ ps.length ∧ i = .int .i64 k ∧ o = .slice a k cc ∧ Hid (SlRow w.heap.size wr (.slice a k cc) vs) ∧ Hid (vs.length = k) ∧ Hid (StampsTo w ws ps vs) ∧ Hid (∀ j, j < k → placeB ws ps j = true) ∧ Hid (Below w.heap.size w wr)) (fun _ i _ => ps.length - (intOf i).toNat)
    case atStart => exact ⟨0, none, 0, [], Nat.zero_le _, rfl, rfl, hide (SlRow.nil _ _), hide rfl, hide (stampsTo_nil _ _ _), hide (fun j hj => absurd hj (Nat.not_lt_zero _)), B1⟩
    case round =>
      obtain ⟨k, ar, cr, vs, hk, rfl, rfl, HR, HVL, HT, HN, HB⟩ := hrel
      by_cases hlt : k < ps.length
      · have hkw : k < ws.length := by have := unhide HL; omega
        have p1 := (unhide HP).up hb2 (unhide HB) k hlt
        have HNO := hide (fun h => pick_no3 (place_no (ws := ws) hlt h))
        have HYES := hide (show placeB ws ps k = true → ∀ j, j < k + 1 → placeB ws ps j = true from fun h j hjk => by
          by_cases e : j = k
          · subst e; exact h
          · exact unhide HN j (by omega))
        cases hpb : placeB ws ps k
        · obtain ⟨v, c1, hv⟩ := (unhide HC).up hb (unhide HB) k hkw
          have hwl := ((unhide HS).2 _ (List.getElem_mem hkw)).1
          have HPB := hide hpb
          have HE := hide (unhide HNO hpb)
          unfold placeB at HPB
          simp only [List.getD_eq_getElem?_getD, List.getElem?_eq_getElem hlt, List.getElem?_eq_getElem hkw, Option.getD_some] at HPB
          obtain ⟨va, vc, rfl, _⟩ := hv
          clear HNO HYES hpb HN HT HVL HR
          generalize ps[k] = p at *
          generalize ws[k].length = n at *
          by_cases h0 : p < 0
          · go_wp2_with fail
            go_ret2
            exact .inl ⟨unhide HE, rfl, unhide HB⟩
          · have h2 : (n : Int) ≤ p := by
              have := unhide HPB
              rw [decide_eq_true (by omega : 0 ≤ p)] at this
              simp at this
              exact this
            go_wp2_with fail
            go_ret2
            exact .inl ⟨unhide HE, rfl, unhide HB⟩
        · have HY := hide (unhide HYES hpb)
          obtain ⟨q, bi, oi, ni, ci, ma, mn, mc, e1, hq, hni, c1, d1, hm1, hsm1, hbi, -⟩ := place_facts (unhide HS) (unhide HC) hlt (by have := unhide HL; omega) hpb
          have c1' := ((unhide HB).cell (show b < w.heap.size from hb)).trans c1
          have d1' := ((unhide HB).cell (show bi < w.heap.size from hbi)).trans d1
          have HT2 := hide (show StampsTo w ws ps (vs ++ [.slice ma mn mc]) from stampsTo_snoc (unhide HT) (by rw [unhide HVL]; exact hm1) (by rw [unhide HVL]; exact hsm1))
          rw [e1] at p1
          have R1 := hide ((unhide HR).up ((Below.refl _ _).alloc (Nat.le_refl _) (.cells #[.slice ma mn mc] 30)))
          have B1 := hide ((unhide HB).alloc (unhide HB).size (.cells #[.slice ma mn mc] 30))
          have hnew : (wr.alloc (.cells #[.slice ma mn mc] 30)).cell? ⟨wr.heap.size, 0, none⟩ = some (.slice ma mn mc) := by
            rw [World.cell?_alloc_at _ _ _ _ rfl]
            rfl
          have HC0 := hide hnew
          clear hnew HNO HYES hpb HN HT HR hm1 hsm1 c1 d1 e1
          have h0 : ¬ (q : Int) < 0 := by omega
          have h2 : ¬ (ni : Int) ≤ (q : Int) := by omega
          go_wp2_with (first
            | (at_builtin; refine wpList_slAppend rfl _ _ rfl w.heap.size (.slice ar k cr) vs ma mn mc wr.heap.size rfl rfl (unhide R1) (unhide HC0) (by have := unhide HVL; omega) (unhide B1).size ?_; intro g2 n2 c2 w2 r2 hn2 gr2; have R2 := hide r2; have HN2 := hide hn2; have B2 := hide ((unhide B1).grown gr2 (unhide B1).size (fun y hy => (unhide R1).ge y hy)); clear r2 gr2 R1 hn2)
            | fail)
          obtain rfl : n2 = k + 1 := by have := unhide HVL; have := unhide HN2; omega
          go_roundw
          case rel => exact ⟨k + 1, some ⟨g2, 0, none⟩, c2, _, by omega, by go_num, rfl, R2, hide (by have := unhide HVL; simp; omega), HT2, HY, B2⟩
          case measure => simp [intOf]; omega
      · have HE := hide (unhide HCA (place_yes (fun j hj => unhide HN j (by omega))))
        obtain rfl : k = ps.length := by omega
        go_wp2_with fail
        go_ret2
        exact .inr ⟨unhide HE, ar, _, cr, vs, rfl, rfl, HR, HVL, HT, unhide HB⟩
  · have HE := hide (pick_no2 hlen)
    have q1 : ((ps.length : Int) == (ws.length : Int)) = false := by simp; omega
    have q2 : ((ps.length : Int) != (ws.length : Int)) = true := by simp; omega
    have HPN := hide (fun W (b : Below w.heap.size w W) => show RetChosen ws ps w (.returned (.tuple #[.slice none 0 0, .bool false])) W from .inl ⟨unhide HE, rfl, b⟩)
    generalize ps.length = n at *
    generalize ws.length = m at *
    clear h hp hw HE hlen
    go_enter Try.func43, Try.ntmps43
    go_wp2_with fail
    refine (unhide HK).mono ?_
    rintro e w1 ⟨rfl, b1⟩
    go_wp2_with fail
    go_ret2
    exact unhide HPN _ b1
end Go.Proofs.Ytnijccmhajjdoaa
