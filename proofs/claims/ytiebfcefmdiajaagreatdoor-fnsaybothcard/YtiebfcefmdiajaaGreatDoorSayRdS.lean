/-
  The specification's reader of words: a number, a name; where it stands, and whether once there were too few bytes.
-/
import Derived.Test.YtiebfcefmdiajaaGreatDoorMerged19
import Derived.Test.YtiebfcefmdiajaaGreatDoorByReader
import Derived.Test.YtiebfcefmdiajaaGreatDoorBoxes
import Derived.Test.YtiebfcefmdiajaaGreatDoorMerged11
import Derived.Handy
import Derived.BigQuiet
import Derived.Deep.QuietTactic
set_option linter.unusedVariables false
namespace Go.Proofs.YtiebfcefmdiajaaGreatDoor
open Go.RowKit Go.Maps Go.Deep

structure SR (B g : Nat) (w : World) (v : Value) (bs : List UInt8) (p : Nat) (bad : Bool) : Prop where
  le : B ≤ g
  box : BoxF w g [v, .int .i64 (p : Int), .bool bad]
  by' : ByRd w v bs
  away : AwayFrom B v bs
  at' : p ≤ bs.length
theorem BoxF.three' {w : World} {g : Nat} {a b c : Value} (h : BoxF w g [a, b, c]) : (w.cell? ⟨g, 0, none⟩ = some a ∧ w.cell? ⟨g, 1, none⟩ = some b ∧ w.cell? ⟨g, 2, none⟩ = some c) ∧ (w.frozen? ⟨g, 0, none⟩ = false ∧ w.frozen? ⟨g, 1, none⟩ = false ∧ w.frozen? ⟨g, 2, none⟩ = false) :=
  ⟨⟨h.1.2 0 _ rfl, h.1.2 1 _ rfl, h.1.2 2 _ rfl⟩, h.2 0 (by simp), h.2 1 (by simp), h.2 2 (by simp)⟩
theorem SR.bad {B g : Nat} {w : World} {v : Value} {bs : List UInt8} {p : Nat} {bad : Bool} (h : SR B g w v bs p bad) : SR B g (w.setCell ⟨g, 2, none⟩ (.bool true)) v bs p true :=
  ⟨h.le, by simpa using h.box.set 2 (.bool true) (by simp), ByIn.set h.by' h.away h.le, h.away, h.at'⟩
theorem SR.go {B g : Nat} {w : World} {v : Value} {bs : List UInt8} {p : Nat} {bad : Bool} (h : SR B g w v bs p bad) (q : Nat) (hq : q ≤ bs.length) : SR B g (w.setCell ⟨g, 1, none⟩ (.int .i64 (q : Int))) v bs q bad :=
  ⟨h.le, by simpa using h.box.set 1 (.int .i64 (q : Int)) (by simp), ByIn.set h.by' h.away h.le, h.away, hq⟩
theorem SR.turn {B g : Nat} {S : List Nat} {w w' : World} {v : Value} {bs : List UInt8} {p : Nat} {bad : Bool} (h : SR B g w v bs p bad) (t : Turn S w w') (hg : g ∉ S) (hS : ∀ k ∈ S, B ≤ k) : SR B g w' v bs p bad := by
  refine ⟨h.le, h.box.turn t hg, ?_, h.away, h.at'⟩
  obtain ⟨a, c, rfl, hin, hc⟩ := h.by'
  refine ⟨a, c, rfl, ?_, hc⟩
  rcases hin with h0 | ⟨b, off, rfl, hb, hx⟩
  · exact .inl h0
  · by_cases h0 : bs.length = 0
    · exact .inl (List.eq_nil_of_length_eq_zero h0)
    · have h5 : b < B := h.away _ _ _ rfl (by omega)
      exact .inr ⟨b, off, rfl, Nat.lt_of_lt_of_le hb t.size, fun j hj => (t.cell hb (fun hm => by have := hS b hm; omega)).trans (hx j hj)⟩
def StepN (bs : List UInt8) (p : Nat) (bad : Bool) (n : Nat) (x : Int) (p' : Nat) (bad' : Bool) : Prop :=
  (bad = false ∧ p + n ≤ bs.length ∧ x = numL ((bs.drop p).take n) ∧ p' = p + n ∧ bad' = false) ∨ ((bad = true ∨ bs.length < p + n) ∧ x = 0 ∧ p' = p ∧ bad' = true)
def StepT (bs : List UInt8) (p : Nat) (bad : Bool) (s : ByteArray) (p' : Nat) (bad' : Bool) : Prop :=
  (bad = false ∧ ∃ k r, rdN 1 (bs.drop p) = some (k, r) ∧ rdB k.toNat r = some (s, bs.drop p') ∧ p' ≤ bs.length ∧ bad' = false) ∨ ((bad = true ∨ rdT (bs.drop p) = none) ∧ s = ⟨#[]⟩ ∧ p' ≤ bs.length ∧ bad' = true)
def RetSN (B g : Nat) (w : World) (v : Value) (bs : List UInt8) (p : Nat) (bad : Bool) (n : Nat) (e : Ending) (w' : World) : Prop := ∃ x p' bad', e = .returned (.int .i64 x) ∧ Hid (StepN bs p bad n x p' bad') ∧ Hid (SR B g w' v bs p' bad') ∧ Hid (Turn [g] w w')
theorem by_from {w : World} {a : Option Addr} {m c : Nat} {bs : List UInt8} (h : ByRd w (.slice a m c) bs) (k : Nat) (hk : k ≤ bs.length) : ByRd w (.slice (a.map (fun x => x.add k)) (m - k) (c - k)) (bs.drop k) ∧ (c = k → ByRd w (.slice a (m - k) 0) (bs.drop k)) ∧ m = bs.length ∧ m ≤ c := by
  obtain ⟨a', c', e, hin, hc⟩ := h
  simp only [Value.slice.injEq] at e
  obtain ⟨rfl, rfl, rfl⟩ := e
  refine ⟨cut_drop hin hc k _ rfl hk, fun e => ?_, rfl, hc⟩
  have h0 : bs.length - k = 0 := by omega
  have h1 : bs.drop k = [] := List.eq_nil_of_length_eq_zero (by simpa using h0)
  rw [h0, h1]
  exact ByRd.nil _ _ _
theorem SR.up {B g : Nat} {w w' : World} {v : Value} {bs : List UInt8} {p : Nat} {bad : Bool} (h : SR B g w v bs p bad) (b : Below w.heap.size w w') : SR B g w' v bs p bad := h.turn (Turn.of_below (S := []) b) (by simp) (by simp)
set_option maxHeartbeats 3200000 in
theorem number_any (B g : Nat) (w : World) (v : Value) (bs : List UInt8) (p : Nat) (bad : Bool) (n : Nat) (hn1 : 1 ≤ n) (hn : n ≤ 8) (hl : bs.length ≤ 1000) (h : SR B g w v bs p bad) :
    Calls Tryz.prog 41 #[.pointer (some ⟨g, 0, none⟩), .int .i64 (n : Int)] w fun e w' => RetSN B g w v bs p bad n e w' := by
  have hp := h.at'
  have HB := hide (fun (W : World) (b : Below w.heap.size w W) => show (bad = true ∨ bs.length < p + n) → RetSN B g w v bs p bad n (.returned (.int .i64 0)) (W.setCell ⟨g, 2, none⟩ (.bool true)) from fun hh => ⟨0, p, true, rfl, hide (.inr ⟨hh, rfl, rfl, rfl⟩), hide (h.up b).bad, hide ((Turn.of_below b).setCell (by simp) _ _)⟩)
  have HH := hide (fun (W : World) (b : Below w.heap.size w W) => h.up b)
  obtain ⟨⟨c0, c1, c2⟩, -⟩ := h.box.three'
  obtain ⟨a, cc, rfl⟩ := h.by'.len
  clear h
  cases bad
  · by_cases hfew : bs.length < p + n
    · have HE := hide (fun W b => unhide HB W b (.inr hfew))
      have hlt : (bs.length : Int) < (p : Int) + (n : Int) := by omega
      clear HB hfew
      generalize bs.length = m at *
      go_enter Tryz.func41, Tryz.ntmps41
      go_wp2_with fail
      go_quiet (fail)
      have bq := belowN w nq
      obtain ⟨⟨q0, q1, q2⟩, f0, f1, f2⟩ := (unhide HH _ bq).box.three'
      have HE2 := hide (unhide HE _ bq)
      clear bq c0 c1 c2 HE
      generalize w.drewN nq = W at *
      go_wp2_with fail
      go_ret
      exact unhide HE2
    · have hpn : p + n ≤ bs.length := by omega
      have hlt : ¬ (bs.length : Int) < (p : Int) + (n : Int) := by omega
      clear HB hfew
      go_enter Tryz.func41, Tryz.ntmps41
      go_wp2_with fail
      go_quiet (fail)
      have bq := belowN w nq
      have H2 := hide (unhide HH _ bq)
      have BQ := hide bq
      obtain ⟨⟨q0, q1, q2⟩, f0, f1, f2⟩ := (unhide HH _ bq).box.three'
      clear bq c0 c1 c2 HH
      generalize w.drewN nq = W at *
      go_wp2_with fail
      have hg2 : SR B g (W.setCell ⟨g, 1, none⟩ (.int .i64 ((p : Int) + (n : Int)))) (.slice a bs.length cc) bs (p + n) false := by
        have := (unhide H2).go (p + n) hpn
        rwa [Int.natCast_add] at this
      have T1 : Turn [g] w (W.setCell ⟨g, 1, none⟩ (.int .i64 ((p : Int) + (n : Int)))) := (Turn.of_below (unhide BQ)).setCell (by simp) _ _
      have HG := hide hg2
      have HT := hide T1
      have hcc : bs.length ≤ cc := by obtain ⟨a', c', e, _, hc⟩ := hg2.by'; simp only [Value.slice.injEq] at e; omega
      have HD := hide (by_from hg2.by' p hp).1
      have HGET := hide (fun v W h => l9Get_any v (bs.drop p) n W (by simp; omega) (by simp; omega) h)
      obtain ⟨⟨r0, r1, r2⟩, -⟩ := hg2.box.three'
      rw [Int.natCast_add] at r1
      have HR := hide (show ∀ k, RetSN B g w (.slice a bs.length cc) bs p false n (.returned (.int .i64 (numL ((bs.drop p).take n)))) ((W.setCell ⟨g, 1, none⟩ (.int .i64 ((p : Int) + (n : Int)))).drewN k) from fun k => ⟨_, p + n, false, rfl, hide (.inl ⟨rfl, hpn, rfl, rfl, rfl⟩), hide (hg2.up (belowN _ k)), hide (T1.trans (Turn.of_below (belowN _ k)))⟩)
      clear hg2 T1 q0 q1 q2 f0 f1 f2 H2 BQ
      have e1 : (p : Int) + (n : Int) - (n : Int) = (p : Int) := by omega
      have hwr : IntKind.i64.wrap (p : Int) = (p : Int) := wrap_small _ (by omega) (by omega)
      have d6 : p < cc := by omega
      have d5 : (bs.length : Int) ≤ (cc : Int) := by omega
      have d4 : (p : Int) ≤ (bs.length : Int) := by omega
      have d8 : ¬ cc = p := by omega
      generalize numL ((bs.drop p).take n) = x at *
      generalize W.setCell ⟨g, 1, none⟩ (.int .i64 ((p : Int) + (n : Int))) = W1 at *
      go_quiet (first
        | (go_at_call 63; refine Calls.quiet_of_same (unhide HGET _ _ ?_); exact ByRd.up (unhide HD) (belowN _ _)))
      go_wp2_with fail
      go_ret
      exact unhide HR _
  · have HE := hide (fun W b => unhide HB W b (.inl rfl))
    clear HB
    generalize bs.length = m at *
    go_enter Tryz.func41, Tryz.ntmps41
    go_wp2_with fail
    go_quiet (fail)
    have bq := belowN w nq
    obtain ⟨⟨q0, q1, q2⟩, f0, f1, f2⟩ := (unhide HH _ bq).box.three'
    have HE2 := hide (unhide HE _ bq)
    clear bq c0 c1 c2 HE
    generalize w.drewN nq = W at *
    go_wp2_with fail
    go_ret
    exact unhide HE2
def RetST (B g : Nat) (w : World) (v : Value) (bs : List UInt8) (p : Nat) (bad : Bool) (e : Ending) (w' : World) : Prop := ∃ s p' bad', e = .returned (.string s) ∧ Hid (StepT bs p bad s p' bad') ∧ Hid (SR B g w' v bs p' bad') ∧ Hid (Turn [g] w w')
theorem rdN_few {n : Nat} {r : List UInt8} (h : r.length < n) : rdN n r = none := by unfold rdN; rw [if_neg (by omega)]
theorem rdN_much {n : Nat} {r : List UInt8} (h : n ≤ r.length) : rdN n r = some (numL (r.take n), r.drop n) := by unfold rdN; rw [if_pos h]
theorem by_mid {w : World} {a : Option Addr} {m c : Nat} {bs : List UInt8} (h : ByRd w (.slice a m c) bs) (p k : Nat) (hk : p + k ≤ bs.length) : ByRd w (.slice (a.map (fun x => x.add p)) k (c - p)) ((bs.drop p).take k) ∧ (c = p → ByRd w (.slice a k 0) ((bs.drop p).take k)) := by
  obtain ⟨h1, h2, h3, h4⟩ := by_from h p (by omega)
  obtain ⟨a', c', e, hin, hc⟩ := h1
  simp only [Value.slice.injEq] at e
  obtain ⟨rfl, e2, rfl⟩ := e
  refine ⟨cut_take hin hc k (by simp; omega), fun e => ?_⟩
  have hk0 : k = 0 := by omega
  subst hk0
  rw [List.take_zero]
  exact ByRd.nil _ _ _
set_option maxHeartbeats 6400000 in
theorem name_any (B g : Nat) (w : World) (v : Value) (bs : List UInt8) (p : Nat) (bad : Bool) (hl : bs.length ≤ 1000) (h : SR B g w v bs p bad) :
    Calls Tryz.prog 42 #[.pointer (some ⟨g, 0, none⟩)] w fun e w' => RetST B g w v bs p bad e w' := by
  have HN := hide (number_any B g w v bs p bad 1 (by omega) (by omega) hl h)
  have hp := h.at'
  obtain ⟨a, cc, rfl⟩ := h.by'.len
  have hcc : bs.length ≤ cc := by obtain ⟨a', c', e, _, hc⟩ := h.by'; simp only [Value.slice.injEq] at e; omega
  clear h
  go_enter Tryz.func42, Tryz.ntmps42
  go_wp2_with fail
  refine (unhide HN).mono ?_
  rintro e w1 ⟨x, p1, bad1, rfl, HS, H1, T1⟩
  clear HN
  have hp1 := (unhide H1).at'
  obtain ⟨⟨c0, c1, c2⟩, -⟩ := (unhide H1).box.three'
  rcases unhide HS with ⟨rfl, s1, s2, hp1e, rfl⟩ | ⟨s1, rfl, rfl, rfl⟩
  · have hrd : rdN 1 (bs.drop p) = some (x, bs.drop p1) := by
      rw [rdN_much (by simp; omega), List.drop_drop, s2, hp1e]
    obtain ⟨x0, x1, -⟩ := rdN_byte hrd
    obtain ⟨k, rfl⟩ : ∃ k : Nat, x = (k : Int) := ⟨x.toNat, by omega⟩
    have HRD := hide hrd
    clear hrd s2 HS hp1e s1
    by_cases hfew : bs.length < p1 + k
    · have HE := hide (fun (W : World) (b : Below w1.heap.size w1 W) => show RetST B g w (.slice a bs.length cc) bs p false (.returned (.string ⟨#[]⟩)) (W.setCell ⟨g, 2, none⟩ (.bool true)) from
        ⟨_, p1, true, rfl, hide (.inr ⟨.inr (by unfold rdT; rw [unhide HRD]; simp only [Option.bind_some]; unfold rdB; rw [if_neg (by simp; omega)]), rfl, hp1, rfl⟩), hide ((unhide H1).up b).bad, hide ((unhide T1).trans ((Turn.of_below b).setCell (by simp) _ _))⟩)
      have HH := hide (fun (W : World) (b : Below w1.heap.size w1 W) => (unhide H1).up b)
      have hlt : (bs.length : Int) < (p1 : Int) + (k : Int) := by omega
      clear hfew H1 T1 HRD
      go_wp2_with fail
      go_quiet (fail)
      have bq := belowN w1 nq
      obtain ⟨⟨q0, q1, q2⟩, f0, f1, f2⟩ := (unhide HH _ bq).box.three'
      have HE2 := hide (unhide HE _ bq)
      clear bq c0 c1 c2 HE
      generalize w1.drewN nq = W at *
      go_wp2_with fail
      go_ret
      exact unhide HE2
    · obtain ⟨r, hr⟩ : ∃ r, r = p1 + k := ⟨_, rfl⟩
      have hpn : r ≤ bs.length := by omega
      have hlt : ¬ (bs.length : Int) < (p1 : Int) + (k : Int) := by omega
      have HH := hide (fun (W : World) (b : Below w1.heap.size w1 W) => (unhide H1).up b)
      have hrc : (r : Int) = (p1 : Int) + (k : Int) := by omega
      have HRC := hide hrc
      have hk : k = r - p1 := by omega
      have HK := hide hk
      have e1 : (r : Int) - (k : Int) = (p1 : Int) := by omega
      have HRE := hide (show rdB ((k : Int)).toNat (bs.drop p1) = some (⟨((bs.drop p1).take k).toArray⟩, bs.drop r) by
        unfold rdB
        rw [Int.toNat_natCast, if_pos (by simp; omega), List.drop_drop, hr])
      clear hfew hr hrc hk
      go_wp2_with fail
      go_quiet (fail)
      have bq := belowN w1 nq
      have H2 := hide (unhide HH _ bq)
      have BQ := hide bq
      obtain ⟨⟨q0, q1, q2⟩, f0, f1, f2⟩ := (unhide HH _ bq).box.three'
      clear bq c0 c1 c2 HH H1
      generalize w1.drewN nq = W at *
      go_wp2_with fail
      have hg2 : SR B g (W.setCell ⟨g, 1, none⟩ (.int .i64 ((p1 : Int) + (k : Int)))) (.slice a bs.length cc) bs r false := by
        have := (unhide H2).go r hpn
        rwa [unhide HRC] at this
      have T2 : Turn [g] w (W.setCell ⟨g, 1, none⟩ (.int .i64 ((p1 : Int) + (k : Int)))) := (unhide T1).trans ((Turn.of_below (unhide BQ)).setCell (by simp) _ _)
      have hkk := unhide HK
      have HC1 := hide (fun (q : Nat) => conv_back (by_mid (hg2.up (belowN _ q)).by' p1 (r - p1) (by omega)).1)
      have HC2 := hide (fun (q : Nat) (e : cc = p1) => conv_back ((by_mid (hg2.up (belowN _ q)).by' p1 (r - p1) (by omega)).2 e))
      obtain ⟨⟨r0, r1, r2⟩, -⟩ := hg2.box.three'
      have HR := hide (show ∀ q, RetST B g w (.slice a bs.length cc) bs p false (.returned (.string ⟨((bs.drop p1).take (r - p1)).toArray⟩)) ((W.setCell ⟨g, 1, none⟩ (.int .i64 ((p1 : Int) + (k : Int)))).drewN q) from fun q => ⟨_, r, false, rfl, hide (.inl ⟨rfl, _, _, unhide HRD, by rw [← hkk]; exact unhide HRE, hpn, rfl⟩), hide (hg2.up (belowN _ q)), hide (T2.trans (Turn.of_below (belowN _ q)))⟩)
      have hpr : p1 ≤ r := by omega
      clear hg2 T1 T2 q0 q1 q2 f0 f1 f2 H2 BQ HRD HRE hlt
      have hwr : IntKind.i64.wrap (p1 : Int) = (p1 : Int) := wrap_small _ (by omega) (by omega)
      have d4 : (p1 : Int) ≤ (r : Int) := by omega
      have d5 : (r : Int) ≤ (cc : Int) := by omega
      generalize W.setCell ⟨g, 1, none⟩ (.int .i64 ((p1 : Int) + (k : Int))) = W1 at *
      generalize (⟨((bs.drop p1).take (r - p1)).toArray⟩ : ByteArray) = st at *
      clear hkk HK HRC
      by_cases hcp : cc = p1
      · have hcv := fun q => unhide HC2 q hcp
        obtain rfl : r = p1 := by omega
        subst hcp
        simp only [Nat.sub_self] at hcv
        clear HC1 HC2
        go_quiet (fail)
        go_wp2_with fail
        go_ret
        exact unhide HR _
      · have hcv := fun q => unhide HC1 q
        have d6 : p1 < cc := by omega
        go_quiet (fail)
        go_wp2_with fail
        go_ret
        exact unhide HR _
  · have HE := hide (fun (W : World) (b : Below w1.heap.size w1 W) => show RetST B g w (.slice a bs.length cc) bs p1 bad (.returned (.string ⟨#[]⟩)) (W.setCell ⟨g, 2, none⟩ (.bool true)) from
      ⟨_, p1, true, rfl, hide (.inr ⟨s1.elim .inl (fun h => .inr (by unfold rdT; rw [rdN_few (by simp; omega)]; rfl)), rfl, hp1, rfl⟩), hide ((unhide H1).up b).bad, hide ((unhide T1).trans ((Turn.of_below b).setCell (by simp) _ _))⟩)
    have HH := hide (fun (W : World) (b : Below w1.heap.size w1 W) => (unhide H1).up b)
    clear s1 HS H1 T1
    go_wp2_with fail
    go_quiet (fail)
    have bq := belowN w1 nq
    obtain ⟨⟨q0, q1, q2⟩, f0, f1, f2⟩ := (unhide HH _ bq).box.three'
    have HE2 := hide (unhide HE _ bq)
    clear bq c0 c1 c2 HE
    generalize w1.drewN nq = W at *
    go_wp2_with fail
    go_ret
    exact unhide HE2
end Go.Proofs.YtiebfcefmdiajaaGreatDoor
