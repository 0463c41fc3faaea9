/-
  The records with which bytes begin, one behind the other, at most two hundred; and where they end.
-/
/-
  The attempt itself, around a closure that is done or gives up.
-/
import Derived.Test.YtddmomcanakoiaaRecMath
import Derived.Test.YtddmomcanakoiaaMerged26
import Derived.Test.YtddmomcanakoiaaAttempts
set_option linter.unusedVariables false
namespace Go.Proofs.Ytddmomcanakoiaa
open Go.RowKit Go.Maps Go.Deep

def lgGo (bs : List UInt8) : Nat → List RecV → Nat → List RecV × Nat
  | 0, rs, p => (rs, p)
  | k + 1, rs, p => match readI (bs.drop p) with
    | none => (rs, p)
    | some (r, n) => lgGo bs k (rs ++ [r]) (p + n)
theorem lgGo_zero (bs : List UInt8) (rs : List RecV) (p : Nat) : lgGo bs 0 rs p = (rs, p) := rfl
theorem lgGo_none {bs : List UInt8} {p : Nat} (k : Nat) (rs : List RecV) (h : readI (bs.drop p) = none) : lgGo bs (k + 1) rs p = (rs, p) := by simp [lgGo, h]
theorem lgGo_some {bs : List UInt8} {p : Nat} {r : RecV} {n : Nat} (k : Nat) (rs : List RecV) (h : readI (bs.drop p) = some (r, n)) : lgGo bs (k + 1) rs p = lgGo bs k (rs ++ [r]) (p + n) := by simp [lgGo, h]
def logRs (bs : List UInt8) : List RecV := (lgGo bs 200 [] 0).1
def logE (bs : List UInt8) : Nat := (lgGo bs 200 [] 0).2
/-- so many have been read, and what is still to be read is what is asked for -/
def LgTo (bs : List UInt8) (k : Nat) (rs : List RecV) (p : Nat) : Prop := k ≤ 200 ∧ rs.length = k ∧ p ≤ bs.length ∧ (∀ r ∈ rs, RecFit r ∧ recOkB r = true) ∧ lgGo bs (200 - k) rs p = lgGo bs 200 [] 0
theorem lg_zero (bs : List UInt8) : LgTo bs 0 [] 0 := ⟨by omega, rfl, by omega, by simp, rfl⟩
theorem read_facts {bs : List UInt8} {r : RecV} {n : Nat} (h : readI bs = some (r, n)) : RecFit r ∧ recOkB r = true ∧ n ≤ bs.length ∧ 0 < n := by
  have := readI_is bs
  rw [h] at this
  obtain ⟨h1, h2, h3, more, h4⟩ := this
  refine ⟨h1, h2, by rw [h4, List.length_append]; omega, ?_⟩
  rw [h3, recAll, List.length_append, beL_length]
  omega
theorem lg_step {bs : List UInt8} {k : Nat} {rs : List RecV} {p : Nat} {r : RecV} {n : Nat} (h : LgTo bs k rs p) (hk : k < 200) (hr : readI (bs.drop p) = some (r, n)) : LgTo bs (k + 1) (rs ++ [r]) (p + n) := by
  obtain ⟨h1, h2, h3, h4, h5⟩ := h
  obtain ⟨f1, f2, f3, f4⟩ := read_facts hr
  refine ⟨by omega, by simp [h2], by rw [List.length_drop] at f3; omega, fun x hx => ?_, ?_⟩
  · rcases List.mem_append.1 hx with hx | hx
    · exact h4 x hx
    · simp at hx; subst hx; exact ⟨f1, f2⟩
  · rw [← h5, show 200 - k = 200 - (k + 1) + 1 by omega, lgGo_some _ _ hr]
theorem lg_none {bs : List UInt8} {k : Nat} {rs : List RecV} {p : Nat} (h : LgTo bs k rs p) (hk : k < 200) (hr : readI (bs.drop p) = none) : logRs bs = rs ∧ logE bs = p := by
  obtain ⟨h1, h2, h3, h4, h5⟩ := h
  rw [show 200 - k = 200 - (k + 1) + 1 by omega, lgGo_none _ _ hr] at h5
  exact ⟨by rw [logRs, ← h5], by rw [logE, ← h5]⟩
theorem lg_full {bs : List UInt8} {rs : List RecV} {p : Nat} (h : LgTo bs 200 rs p) : logRs bs = rs ∧ logE bs = p := by
  obtain ⟨h1, h2, h3, h4, h5⟩ := h
  rw [Nat.sub_self, lgGo_zero] at h5
  exact ⟨by rw [logRs, ← h5], by rw [logE, ← h5]⟩
theorem lg_all (bs : List UInt8) : ∀ m k, m + k = 200 → ∀ rs p, LgTo bs k rs p → ∃ k', LgTo bs k' (logRs bs) (logE bs) := by
  intro m
  induction m with
  | zero =>
    intro k hk rs p h
    obtain rfl : k = 200 := by omega
    obtain ⟨e1, e2⟩ := lg_full h
    exact ⟨200, by rw [e1, e2]; exact h⟩
  | succ m ih =>
    intro k hk rs p h
    cases hr : readI (bs.drop p) with
    | none =>
      obtain ⟨e1, e2⟩ := lg_none h (by omega) hr
      exact ⟨k, by rw [e1, e2]; exact h⟩
    | some q =>
      obtain ⟨r, n⟩ := q
      exact ih (k + 1) (by omega) _ _ (lg_step h (by omega) hr)
theorem log_facts (bs : List UInt8) : (logRs bs).length ≤ 200 ∧ logE bs ≤ bs.length ∧ ∀ r ∈ logRs bs, RecFit r ∧ recOkB r = true := by
  obtain ⟨k, h1, h2, h3, h4, _⟩ := lg_all bs 200 0 rfl _ _ (lg_zero bs)
  exact ⟨by omega, h3, h4⟩
theorem rec_small {r : RecV} (h : recOkB r = true) : r.name.size ≤ 8 ∧ r.text.size ≤ 200 := by
  simp only [recOkB, plainB, Bool.and_eq_true, decide_eq_true_eq] at h
  refine ⟨h.1.1.2, ?_⟩
  have hf := h.2
  unfold fitsB at hf
  have em : ∀ {t : ByteArray}, emptyB t = true → t.size ≤ 200 := fun {t} ht => by have := of_decide_eq_true ht; omega
  split at hf
  · simp only [Bool.and_eq_true, decide_eq_true_eq] at hf; omega
  · split at hf
    · simp only [Bool.and_eq_true] at hf; exact em hf.2
    · split at hf
      · exact em hf
      · split at hf
        · simp only [Bool.and_eq_true] at hf; exact em hf.1.1
        · cases hf
theorem small_log (bs : List UInt8) : SmallRecS (logRs bs) := by
  obtain ⟨h1, h2, h3⟩ := log_facts bs
  refine ⟨⟨by omega, fun x hx => ?_⟩, fun x hx => (h3 x hx).1⟩
  have := rec_small (h3 x hx).2
  exact ⟨by omega, by omega⟩
end Go.Proofs.Ytddmomcanakoiaa

set_option linter.unusedVariables false
namespace Go.Proofs.Ytddmomcanakoiaa
open Go.RowKit Go.Maps Go.Deep

/-- a disk at work behind an attempt -/
def Drove (B g : Nat) (v1 : Value) (D : DiskV) (w w' : World) : Prop := ∃ v, Drive B w' g v v1 D ∧ Below B w w'
/-- the world in which the closure is called -/
def attW (w : World) (g : Nat) : World := (w.alloc (.cells #[.pointer (some ⟨g, 0, none⟩)] 109)).alloc (.cells #[.int .i64 0] 3)
theorem attW_size (w : World) (g : Nat) : (attW w g).heap.size = w.heap.size + 1 + 1 := by simp [attW]
theorem attW_up (w : World) (g : Nat) : Below w.heap.size w (attW w g) := ((Below.refl _ _).alloc (Nat.le_refl _) _).alloc (by simp) _
theorem attW_gw (w : World) (g : Nat) : (attW w g).cell? ⟨w.heap.size, 0, none⟩ = some (.pointer (some ⟨g, 0, none⟩)) := by
  unfold attW
  rw [World.cell?_alloc_past _ _ _ (by simp), World.cell?_alloc_at _ _ _ _ (by simp)]
  rfl
theorem attW_gc (w : World) (g : Nat) : (attW w g).heap[w.heap.size + 1]? = some (.cells #[.int .i64 0] 3) ∧ (attW w g).cell? ⟨w.heap.size + 1, 0, none⟩ = some (.int .i64 0) ∧ (attW w g).frozen? ⟨w.heap.size + 1, 0, none⟩ = false := by
  have h := boxF_new (w.alloc (.cells #[.pointer (some ⟨g, 0, none⟩)] 109)) [.int .i64 0] 3
  have hs : (w.alloc (.cells #[.pointer (some ⟨g, 0, none⟩)] 109)).heap.size = w.heap.size + 1 := by simp
  rw [hs] at h
  refine ⟨?_, h.1.at 0 _ rfl, h.2 0 (by simp)⟩
  have := heap_alloc_new (w.alloc (.cells #[.pointer (some ⟨g, 0, none⟩)] 109)) (.cells #[.int .i64 0] 3)
  rw [hs] at this
  exact this
theorem tIntBy : 3 ≠ 5 := by decide
set_option maxHeartbeats 6400000 in
theorem attempt_done (B : Nat) (g p1 p2 : Nat) (w : World) (v1 : Value) (D : DiskV) (hgl : g < w.heap.size) (hB : B ≤ w.heap.size)
    (HA : Calls Try.prog 70 #[.func (.func 78) #[] #[.pointer (some ⟨w.heap.size, 0, none⟩)], .pointer (some ⟨p1, 0, none⟩), .pointer (some ⟨p2, 0, none⟩)] (attW w g) fun e w' => e = .returned (.tuple #[]) ∧ Hid (∃ v, Drive B w' g v v1 D ∧ Below B (attW w g) w' ∧ w'.cell? ⟨w.heap.size + 1, 0, none⟩ = some (.int .i64 0) ∧ w'.frozen? ⟨w.heap.size + 1, 0, none⟩ = false ∧ (v.ownBlock ≠ some (w.heap.size + 1)) ∧ (v1.ownBlock ≠ some (w.heap.size + 1)))) :
    Calls Try.prog 69 #[.pointer (some ⟨g, 0, none⟩), .func (.func 70) #[] #[.pointer (some ⟨p1, 0, none⟩), .pointer (some ⟨p2, 0, none⟩)]] w fun e w' => e = .returned (.int .i64 0) ∧ Drove B g v1 D w w' := by
  have hmf : ∀ (fn : Fn) (first cap : Array Value) (w : World), (Instr.makeFunc fn first cap).run Try.prog w = .ok (.func fn first cap) w := fun _ _ _ _ => rfl
  have HH := hide HA
  have BU := hide (attW_up w g)
  clear HA
  go_enter_defers Try.func69, Try.ntmps69
  go_wp2_with fail
  refine (unhide HH).mono ?_
  rintro e w2 ⟨rfl, P2⟩
  obtain ⟨v, p3, p4, k1, k2, k3, k4⟩ := unhide P2
  have HP := hide (show Drove B g v1 D w (w2.setCell ⟨w.heap.size + 1, 0, none⟩ (.int .i64 0)) from by
    have ht : Turn [w.heap.size + 1] w2 (w2.setCell ⟨w.heap.size + 1, 0, none⟩ (.int .i64 0)) := (Turn.refl _ w2).setCell (by simp) 0 _
    refine ⟨v, p3.turn ht (by simp; omega) (fun k hk hm => by simp at hm; subst hm; exact k3 hk) (fun k hk hm => by simp at hm; subst hm; exact k4 hk), ?_⟩
    have hs := attW_size w g
    exact (Below.trans ((unhide BU).mono hB) p4).trans (ht.below (by have := p4.size; omega) (by simp; omega)))
  have ks : (w2.setCell ⟨w.heap.size + 1, 0, none⟩ (.int .i64 0)).cell? ⟨w.heap.size + 1, 0, none⟩ = some (.int .i64 0) := World.cell?_setCell_same _ _ _ k1
  clear P2 p3 p4 HH
  go_wp2_with fail
  refine leaves_cons (f := 76) (args := #[.pointer (some ⟨w.heap.size, 0, none⟩), .pointer (some ⟨w.heap.size + 1, 0, none⟩)]) (by simp) (by simp [go_sem]) ?_
  refine (catch_idle _ _ _).mono ?_
  rintro e u' w'' ⟨rfl, rfl, rfl⟩
  simp [Leaves, settle, results, Try.results69, go_sem, ks]
  exact unhide HP
set_option maxHeartbeats 6400000 in
theorem attempt_gone (B : Nat) (g p1 p2 : Nat) (w : World) (v0 v1 : Value) (d : DiskV) (hl : d.safe.length + d.soft.length ≤ 100000) (hgl : g < w.heap.size) (hB : B ≤ w.heap.size) (h : Drive B w g v0 v1 d)
    (HA : Calls Try.prog 70 #[.func (.func 78) #[] #[.pointer (some ⟨w.heap.size, 0, none⟩)], .pointer (some ⟨p1, 0, none⟩), .pointer (some ⟨p2, 0, none⟩)] (attW w g) fun e w' => e = .panicked fallenChain ∧ w' = attW w g) :
    Calls Try.prog 69 #[.pointer (some ⟨g, 0, none⟩), .func (.func 70) #[] #[.pointer (some ⟨p1, 0, none⟩), .pointer (some ⟨p2, 0, none⟩)]] w fun e w' => e = .returned (.int .i64 2) ∧ Drove B g (.slice none 0 0) (fellD d) w w' := by
  have hmf : ∀ (fn : Fn) (first cap : Array Value) (w : World), (Instr.makeFunc fn first cap).run Try.prog w = .ok (.func fn first cap) w := fun _ _ _ _ => rfl
  have HH := hide HA
  have hs := attW_size w g
  have HC := hide (catch_fallen B g w.heap.size (w.heap.size + 1) v0 v1 d 0 (attW w g) hl (by omega) (h.up (attW_up w g)) (attW_gw w g) (attW_gc w g).2.1 (attW_gc w g).2.2 (by omega) (by omega) (by omega) _ _ (attW_gc w g).1 tIntBy)
  have BU := hide (attW_up w g)
  clear HA h hs
  go_enter_defers Try.func69, Try.ntmps69
  go_wp2_with fail
  refine (unhide HH).mono ?_
  rintro e w2 ⟨rfl, rfl⟩
  clear HH
  refine leaves_cons (f := 76) (args := #[.pointer (some ⟨w.heap.size, 0, none⟩), .pointer (some ⟨w.heap.size + 1, 0, none⟩)]) (by simp) (by simp [go_sem]) ?_
  refine (unhide HC).mono ?_
  rintro e u' w'' ⟨rfl, rfl, P⟩
  obtain ⟨v, p3, p4, p5⟩ := P
  have HP := hide (show Drove B g (.slice none 0 0) (fellD d) w w'' from ⟨v, p3, Below.trans ((unhide BU).mono hB) p4⟩)
  clear p3 p4
  simp [Leaves, settle, results, Try.results69, go_sem, p5]
  exact unhide HP
end Go.Proofs.Ytddmomcanakoiaa
