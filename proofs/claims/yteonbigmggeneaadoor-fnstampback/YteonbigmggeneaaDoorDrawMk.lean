/-
  What the laws on stamps draw: small facts; a source; a version.
-/
import Derived.Test.YteonbigmggeneaaDoorReader
import Derived.Test.YteonbigmggeneaaDoorJoinSet
import Derived.Test.YteonbigmggeneaaDoorMarkRowsOwn
import Derived.Test.YteonbigmggeneaaDoorBoxes
import Derived.Handy
set_option linter.unusedVariables false
namespace Go.Proofs.YteonbigmggeneaaDoor
open Go.RowKit Go.Maps Go.Deep

/-- a version that is not great -/
def VFit (n : Int) : Prop := -1125899906842624 ≤ n ∧ n ≤ 1125899906842624
/-- few marks, with short texts -/
def Sm (n : Nat) (xs : List MarkV) : Prop := xs.length ≤ n ∧ ∀ x ∈ xs, x.a0.size ≤ 100 ∧ VFit x.a1
theorem Sm.small {n : Nat} {xs : List MarkV} (h : Sm n xs) (hn : n ≤ 1048576) : SmallMarkS xs :=
  ⟨⟨by have := h.1; omega, fun x hx => by have := (h.2 x hx).1; omega⟩, fun x hx => ⟨by have := (h.2 x hx).1; unfold maxLen; omega, by have := (h.2 x hx).2; unfold VFit at this; omega⟩⟩
theorem Sm.mono {n m : Nat} {xs : List MarkV} (h : Sm n xs) (hn : n ≤ m) : Sm m xs := ⟨by have := h.1; omega, h.2⟩
theorem step_room (m : MarkV) (p : List MarkV × Bool) (x : MarkV) : (setStep m p x).1.length + (!(setStep m p x).2).toNat ≤ p.1.length + (!p.2).toNat + 1 := by
  obtain ⟨o, b⟩ := p
  unfold setStep
  dsimp only
  by_cases h : x.a0 = m.a0
  · rw [if_pos h]
    cases b <;> cases lessS x.a0 m.a0 <;> simp
  · rw [if_neg h]
    cases b <;> cases lessS x.a0 m.a0 <;> simp
theorem fold_room (m : MarkV) : ∀ (ns : List MarkV) (p : List MarkV × Bool), (ns.foldl (setStep m) p).1.length + (!(ns.foldl (setStep m) p).2).toNat ≤ p.1.length + (!p.2).toNat + ns.length
  | [], p => Nat.le_refl _
  | x :: t, p => by
    have h1 := fold_room m t (setStep m p x)
    have h2 := step_room m p x
    rw [List.foldl_cons, List.length_cons]
    omega
theorem setF_len (ns : List MarkV) (m : MarkV) : (setF ns m).length ≤ ns.length + 1 := by
  have h := fold_room m ns ([], false)
  unfold setF setTo
  cases hh : (ns.foldl (setStep m) ([], false)).2
  · rw [hh] at h
    simp at h ⊢
    omega
  · rw [hh] at h
    simp at h ⊢
    omega
theorem step_mem (m : MarkV) (p : List MarkV × Bool) (x y : MarkV) (h : y ∈ (setStep m p x).1) : y ∈ p.1 ∨ y = m ∨ y = x := by
  obtain ⟨o, b⟩ := p
  unfold setStep at h
  grind
theorem fold_mem (m : MarkV) : ∀ (ns : List MarkV) (p : List MarkV × Bool) (y : MarkV), y ∈ (ns.foldl (setStep m) p).1 → y ∈ p.1 ∨ y = m ∨ y ∈ ns
  | [], p, y, h => .inl h
  | x :: t, p, y, h => by
    rcases fold_mem m t (setStep m p x) y h with h | h | h
    · rcases step_mem m p x y h with h | h | h
      · exact .inl h
      · exact .inr (.inl h)
      · exact .inr (.inr (by rw [h]; simp))
    · exact .inr (.inl h)
    · exact .inr (.inr (by simp [h]))
theorem setF_mem {ns : List MarkV} {m y : MarkV} (h : y ∈ setF ns m) : y = m ∨ y ∈ ns := by
  unfold setF setTo at h
  split at h
  · rcases fold_mem m ns ([], false) y h with h | h | h
    · simp at h
    · exact .inl h
    · exact .inr h
  · rcases List.mem_append.1 h with h | h
    · rcases fold_mem m ns ([], false) y h with h | h | h
      · simp at h
      · exact .inl h
      · exact .inr h
    · exact .inl (by simpa using h)
theorem Sm.set {n : Nat} {xs : List MarkV} (h : Sm n xs) {m : MarkV} (hm : m.a0.size ≤ 100 ∧ VFit m.a1) : Sm (n + 1) (setF xs m) :=
  ⟨by have := h.1; have := setF_len xs m; omega, fun x hx => (setF_mem hx).elim (fun e => by rw [e]; exact hm) (h.2 x)⟩
/-- a row of marks above a base -/
def MkHi (B : Nat) (w : World) (v : Value) (xs : List MarkV) : Prop := ∃ S, MarkSOwn S w v xs ∧ ∀ k ∈ S, B ≤ k
theorem MkHi.rd {B : Nat} {w : World} {v : Value} {xs : List MarkV} (h : MkHi B w v xs) : MarkSRd w v xs := by
  obtain ⟨S, h1, _⟩ := h
  exact h1.rd
theorem MkHi.turn {B g : Nat} {w w' : World} {v : Value} {xs : List MarkV} (h : MkHi B w v xs) (ht : Turn [g] w w') (hg : g < B) : MkHi B w' v xs := by
  obtain ⟨S, h1, h2⟩ := h
  exact ⟨S, h1.turn ht (fun k hk hm => by have := h2 k hk; simp at hm; omega), h2⟩
theorem MkHi.up {B : Nat} {w w' : World} {v : Value} {xs : List MarkV} (h : MkHi B w v xs) (hb : Below w.heap.size w w') : MkHi B w' v xs := by
  obtain ⟨S, h1, h2⟩ := h
  exact ⟨S, h1.up hb, h2⟩
theorem MkHi.mono {B B' : Nat} {w : World} {v : Value} {xs : List MarkV} (h : MkHi B w v xs) (hb : B' ≤ B) : MkHi B' w v xs := by
  obtain ⟨S, h1, h2⟩ := h
  exact ⟨S, h1, fun k hk => by have := h2 k hk; omega⟩
theorem MkRow.hi {B : Nat} {w : World} {v : Value} {xs : List MarkV} (h : MkRow B w v xs) : MkHi B w v xs := by
  obtain ⟨S, h1, h2, _⟩ := h.own
  exact ⟨S, h1, h2⟩
theorem mkHi_nil (B : Nat) (w : World) (a : Option Addr) (c : Nat) : MkHi B w (.slice a 0 c) [] := ⟨[], .inl ⟨rfl, rfl, a, c, rfl⟩, by simp⟩
theorem set_new {S : List Nat} {w W : World} {b : Nat} (h : Turn S w W) (hb : w.heap.size ≤ b) (i : Nat) (v : Value) : Turn S w (W.setCell ⟨b, i, none⟩ v) :=
  ⟨h.os, h.tape, h.output, by simpa using h.size, fun k hk hS => (Below.heap_setCell W ⟨b, i, none⟩ v k (by show k ≠ b; omega)).trans (h.block k hk hS)⟩
def srcF (j : Nat) : ByteArray := [(⟨#[120]⟩ : ByteArray), ⟨#[121]⟩, ⟨#[122]⟩, ⟨#[119]⟩, ⟨#[115, 45, 49]⟩, ⟨#[97, 98, 99, 100, 101, 102, 103, 104]⟩].getD j ⟨#[]⟩
theorem srcF_size (j : Nat) : (srcF j).size ≤ 100 := by
  match j with
  | 0 | 1 | 2 | 3 | 4 | 5 => decide
  | n + 6 => simp [srcF, ByteArray.size]
def verF (j : Nat) : Int := [(1099511627776 : Int), 1099511627775, 1, 1099511627777, 0, -1].getD j 0
theorem verF_fit (j : Nat) : VFit (verF j) := by
  match j with
  | 0 | 1 | 2 | 3 | 4 | 5 => unfold VFit; decide
  | n + 6 => simp [verF, VFit]
def RetSrc (base g p : Nat) (w : World) (e : Ending) (w' : World) : Prop := ∃ s : ByteArray, e = .returned (.string s) ∧ s.size ≤ 100 ∧ RdIn base w' g (p + 1) ∧ Turn [g] w w'
set_option maxHeartbeats 1600000 in
theorem l34Src_any (w : World) (base g p : Nat) (hp : p ≤ 100000000) (hr : RdIn base w g p) :
    Calls Tryd.prog 32 #[.pointer (some ⟨g, 0, none⟩)] w fun e w' => RetSrc base g p w e w' := by
  have hgl := hr.lt
  have bb := (Below.refl w.heap.size w).alloc (Nat.le_refl _) (.cells #[.string ⟨#[120]⟩, .string ⟨#[121]⟩, .string ⟨#[122]⟩, .string ⟨#[119]⟩, .string ⟨#[115, 45, 49]⟩, .string ⟨#[97, 98, 99, 100, 101, 102, 103, 104]⟩] 9)
  have hc : ∀ j, j < 6 → (w.alloc (.cells #[.string ⟨#[120]⟩, .string ⟨#[121]⟩, .string ⟨#[122]⟩, .string ⟨#[119]⟩, .string ⟨#[115, 45, 49]⟩, .string ⟨#[97, 98, 99, 100, 101, 102, 103, 104]⟩] 9)).cell? ⟨w.heap.size, j, none⟩ = some (.string (srcF j)) := fun j hj => by
    rw [World.cell?_alloc_at _ _ _ _ rfl]
    match j, hj with
    | 0, _ | 1, _ | 2, _ | 3, _ | 4, _ | 5, _ => rfl
  have hz : w.heap.size < (w.alloc (.cells #[.string ⟨#[120]⟩, .string ⟨#[121]⟩, .string ⟨#[122]⟩, .string ⟨#[119]⟩, .string ⟨#[115, 45, 49]⟩, .string ⟨#[97, 98, 99, 100, 101, 102, 103, 104]⟩] 9)).heap.size := by simp
  have HC := hide hc
  have R1 := hide (RdIn.turn (S := []) hr (Turn.of_below bb) (by simp) (by simp))
  have T1 := hide (show Turn [g] w _ from Turn.of_below bb)
  clear hr bb hc
  go_enter Tryd.func32, Tryd.ntmps32
  go_wp2_with fail
  generalize w.alloc (.cells #[.string ⟨#[120]⟩, .string ⟨#[121]⟩, .string ⟨#[122]⟩, .string ⟨#[119]⟩, .string ⟨#[115, 45, 49]⟩, .string ⟨#[97, 98, 99, 100, 101, 102, 103, 104]⟩] 9) = W at *
  refine (pick_any W base g p 6 (by omega) (by omega) (by omega) (unhide R1)).mono ?_
  rintro e w2 ⟨v, rfl, v0, v1, hr2, ht2⟩
  have vt : v.toNat < 6 := by omega
  have c0 := (ht2.cell hz (by simp; omega)).trans (unhide HC v.toNat vt)
  have T2 := hide ((unhide T1).trans ht2)
  have R2 := hide hr2
  have hs := hide (srcF_size v.toNat)
  clear ht2 hr2
  generalize srcF v.toNat = s at *
  go_wp2_with fail
  go_ret
  exact ⟨_, rfl, unhide hs, unhide R2, unhide T2⟩
def RetVer (base g p : Nat) (w : World) (e : Ending) (w' : World) : Prop := ∃ x : Int, e = .returned (.int .i64 x) ∧ VFit x ∧ (∃ q, q ≤ p + 2 ∧ RdIn base w' g q) ∧ Turn [g] w w'
set_option maxHeartbeats 3200000 in
theorem l34Ver_any (w : World) (base g p : Nat) (hp : p ≤ 100000000) (hr : RdIn base w g p) :
    Calls Tryd.prog 41 #[.pointer (some ⟨g, 0, none⟩)] w fun e w' => RetVer base g p w e w' := by
  have R0 := hide hr
  clear hr
  go_enter Tryd.func41, Tryd.ntmps41
  go_wp2_with fail
  refine (pick_any w base g p 20 (by omega) (by omega) (by omega) (unhide R0)).mono ?_
  rintro e w1 ⟨v, rfl, v0, v1, hr1, ht1⟩
  have R1 := hide hr1
  have T1 := hide ht1
  clear hr1 ht1
  by_cases q0 : v = 0
  · subst q0
    have hgl := (unhide R1).lt
    have bb := (Below.refl w1.heap.size w1).alloc (Nat.le_refl _) (.cells #[.int .i64 1099511627776, .int .i64 1099511627775, .int .i64 1, .int .i64 1099511627777, .int .i64 0, .int .i64 (-1)] 3)
    have HC := hide (show ∀ j, j < 6 → (w1.alloc (.cells #[.int .i64 1099511627776, .int .i64 1099511627775, .int .i64 1, .int .i64 1099511627777, .int .i64 0, .int .i64 (-1)] 3)).cell? ⟨w1.heap.size, j, none⟩ = some (.int .i64 (verF j)) from fun j hj => by
      rw [World.cell?_alloc_at _ _ _ _ rfl]
      match j, hj with
      | 0, _ | 1, _ | 2, _ | 3, _ | 4, _ | 5, _ => rfl)
    have hz : w1.heap.size < (w1.alloc (.cells #[.int .i64 1099511627776, .int .i64 1099511627775, .int .i64 1, .int .i64 1099511627777, .int .i64 0, .int .i64 (-1)] 3)).heap.size := by simp
    have R2 := hide (RdIn.turn (S := []) (unhide R1) (Turn.of_below bb) (by simp) (by simp))
    have T2 := hide ((unhide T1).trans (Turn.of_below bb))
    clear bb
    go_wp2_with fail
    generalize w1.alloc (.cells #[.int .i64 1099511627776, .int .i64 1099511627775, .int .i64 1, .int .i64 1099511627777, .int .i64 0, .int .i64 (-1)] 3) = W at *
    refine (pick_any W base g (p + 1) 6 (by omega) (by omega) (by omega) (unhide R2)).mono ?_
    rintro e w2 ⟨u, rfl, u0, u1, hr2, ht2⟩
    have ut : u.toNat < 6 := by omega
    have c0 := (ht2.cell hz (by simp; omega)).trans (unhide HC u.toNat ut)
    have T3 := hide ((unhide T2).trans ht2)
    have R3 := hide hr2
    have hs := hide (verF_fit u.toNat)
    clear ht2 hr2
    generalize verF u.toNat = s at *
    go_wp2_with fail
    go_ret
    exact ⟨_, rfl, unhide hs, ⟨_, by omega, unhide R3⟩, unhide T3⟩
  · have e1 : (v == 0) = false := by rw [beq_eq_false_iff_ne]; exact q0
    clear q0
    go_wp2_with fail
    refine (pick_any w1 base g (p + 1) 4 (by omega) (by omega) (by omega) (unhide R1)).mono ?_
    rintro e w2 ⟨u, rfl, u0, u1, hr2, ht2⟩
    have T3 := hide ((unhide T1).trans ht2)
    have R3 := hide hr2
    clear ht2 hr2
    go_wp2_with fail
    go_ret
    exact ⟨_, rfl, ⟨by omega, by omega⟩, ⟨_, by omega, unhide R3⟩, unhide T3⟩
end Go.Proofs.YteonbigmggeneaaDoor
