/-
  SayRead of both sides at any bytes.
-/
/-
  Whole blocks in memory, kept from world to world; a row of bytes never lies in a block of another type.
-/
import Derived.Test.YtiebfcefmdiajaaGreatDoorSayReadS
import Derived.Test.YtiebfcefmdiajaaGreatDoorSayReadI
import Derived.Test.YtiebfcefmdiajaaGreatDoorVerMarks
import Derived.Test.YtiebfcefmdiajaaGreatDoorNumBytes
set_option linter.unusedVariables false
namespace Go.Proofs.YtiebfcefmdiajaaGreatDoor
open Go.RowKit Go.Maps Go.Deep

def sayV (bs : List UInt8) : SayV := (sayRd bs).getD noSay
def sayIs (bs : List UInt8) : Bool := (sayRd bs).isSome
theorem small_sayV (bs : List UInt8) : SmallSay (sayV bs) := by
  unfold sayV
  have hn : SmallSay noSay := ⟨⟨by decide, by simp [VerSmall, noSay]⟩, ⟨by decide, by simp [noSay], fun x hx => by simp [noSay] at hx⟩, by simp [noSay], by simp [noSay], by simp [noSay], by simp [noSay]⟩
  cases h : sayRd bs with
  | none => exact hn
  | some s =>
    unfold sayRd at h
    split at h
    · cases h1 : rdSay bs with
      | none => rw [h1] at h; cases h
      | some q =>
        obtain ⟨s', r⟩ := q
        rw [h1] at h
        simp only [Option.bind_some] at h
        split at h
        · simp only [Option.some.injEq] at h
          subst h
          exact rdSay_small h1
        · cases h
    · cases h
set_option maxRecDepth 20000 in
set_option maxHeartbeats 1600000 in
theorem specSayRead_own (bs : List UInt8) (v : Value) (w : World) (hs : SmallByteS bs) (h : ByRd w v bs) :
    Calls Tryz.prog 19 #[v] w fun e w' => ∃ v S, e = .returned (.tuple #[v, .bool (sayIs bs)]) ∧ Hid (SayOwn S w' v (sayV bs)) ∧ Hid (∀ k ∈ S, w.heap.size ≤ k) ∧ Below w.heap.size w w' := by
  by_cases hl : bs.length ≤ 260
  · exact specSayRead_any bs v w hl h
  · have HE := hide (sayRd_long (bs := bs) (by omega))
    obtain ⟨a, cc, rfl⟩ := h.len
    have hl' : 260 < (bs.length : Int) := by omega
    have hm : bs.length ≤ 1048576 := hs
    have x0 := boxF_new w [.int .i64 0, .int .i64 0, .int .i64 0, .string ⟨#[]⟩, .int .i64 0, .slice none 0 0] 24
    have b0 := (Below.refl w.heap.size w).alloc (Nat.le_refl _) (.cells #[.int .i64 0, .int .i64 0, .int .i64 0, .string ⟨#[]⟩, .int .i64 0, .slice none 0 0] 24)
    have HP := hide (fun (W : World) (b : Below w.heap.size w W) => show (∃ v S, Ending.returned (.tuple #[.agg #[.int .i64 0, .int .i64 0, .int .i64 0, .string ⟨#[]⟩, .int .i64 0, .slice none 0 0], .bool false]) = .returned (.tuple #[v, .bool (sayIs bs)]) ∧ Hid (SayOwn S W v (sayV bs)) ∧ Hid (∀ k ∈ S, w.heap.size ≤ k) ∧ Below w.heap.size w W) from
      ⟨_, [], by unfold sayIs; rw [unhide HE]; rfl, hide (by unfold sayV; rw [unhide HE]; exact ⟨_, rfl, .inl ⟨rfl, rfl, none, 0, rfl⟩⟩), hide (by simp), b⟩)
    obtain ⟨⟨c0, c1, c2, c3, c4, c5⟩, -⟩ := x0.six
    have HY := hide (And.intro c0 (And.intro c1 (And.intro c2 (And.intro c3 (And.intro c4 c5)))))
    have BY := hide b0
    simp only [List.toArray] at HY
    clear x0 b0 h hs hl c0 c1 c2 c3 c4 c5
    generalize bs.length = n at *
    go_enter Tryz.func19, Tryz.ntmps19
    go_wp2_with fail
    obtain ⟨y0, y1, y2, y3, y4, y5⟩ := unhide HY
    refine bodyPost_ret (v := .tuple #[.agg #[.int .i64 0, .int .i64 0, .int .i64 0, .string ⟨#[]⟩, .int .i64 0, .slice none 0 0], .bool false]) ?_ rfl ?_
    · simp [results, Tryz.results19, go_sem, y0, y1, y2, y3, y4, y5]
    · exact unhide HP _ (unhide BY)
theorem specSayRead_kit (bs : List UInt8) (v : Value) (w : World) (hs : SmallByteS bs) (h : ByRd w v bs) :
    Calls Tryz.prog 19 #[v] w fun e w' => ∃ v, e = .returned (.tuple #[v, .bool (sayIs bs)]) ∧ Hid (SayRd w' v (sayV bs)) ∧ Below w.heap.size w w' := (specSayRead_own bs v w hs h).mono fun _ _ h => by
  obtain ⟨v, S, h0, h1, _, h3⟩ := h
  exact ⟨v, h0, hide (unhide h1).rd, h3⟩
set_option maxRecDepth 20000 in
set_option maxHeartbeats 1600000 in
theorem implSayRead_kit (bs : List UInt8) (v : Value) (w : World) (hs : SmallByteS bs) (h : ByRd w v bs) :
    Calls Tryz.prog 18 #[v] w fun e w' => ∃ v S, e = .returned (.tuple #[v, .bool (sayIs bs)]) ∧ Hid (SayOwn S w' v (sayV bs)) ∧ Hid (∀ k ∈ S, w.heap.size ≤ k) ∧ Below w.heap.size w w' := by
  obtain ⟨a, cc, rfl⟩ := h.len
  by_cases hl : bs.length ≤ 260
  · have HC := hide (fun (W : World) (b : Below w.heap.size w W) => readWord_any bs (.slice a bs.length cc) W hl (h.up b))
    have hl' : ¬ 260 < (bs.length : Int) := by omega
    have x0 := boxF_new w [.int .i64 0, .int .i64 0, .int .i64 0, .string ⟨#[]⟩, .int .i64 0, .slice none 0 0] 24
    have b0 := (Below.refl w.heap.size w).alloc (Nat.le_refl _) (.cells #[.int .i64 0, .int .i64 0, .int .i64 0, .string ⟨#[]⟩, .int .i64 0, .slice none 0 0] 24)
    have X0 := hide x0
    have B0 := hide b0
    simp only [List.toArray] at X0
    have Z0 := hide (show w.heap.size < (w.alloc (.cells #[.int .i64 0, .int .i64 0, .int .i64 0, .string ⟨#[]⟩, .int .i64 0, .slice none 0 0] 24)).heap.size by simp)
    clear h hs hl x0 b0
    go_enter Tryz.func18, Tryz.ntmps18
    go_wp2_with fail
    refine (unhide HC _ (unhide B0)).mono ?_
    rintro e w1 ⟨v1, S, rfl, O1, L1, b1⟩
    have X1 := hide ((unhide X0).up b1)
    have B1 := hide ((unhide B0).trans (b1.mono (unhide B0).size))
    clear b1
    obtain ⟨k, f, t, nm, vl, sa, sn, sc, rfl⟩ := (unhide O1).rd.form
    obtain ⟨yy, ty⟩ := fill6W (unhide X1) (.int .i64 k) (.int .i64 f) (.int .i64 t) (.string nm) (.int .i64 vl) (.slice sa sn sc)
    have HP := hide (show (∃ v S, Ending.returned (.tuple #[.agg #[.int .i64 k, .int .i64 f, .int .i64 t, .string nm, .int .i64 vl, .slice sa sn sc], .bool (sayRd bs).isSome]) = .returned (.tuple #[v, .bool (sayIs bs)]) ∧ Hid (SayOwn S _ v (sayV bs)) ∧ Hid (∀ k ∈ S, w.heap.size ≤ k) ∧ Below w.heap.size w _) from
      ⟨_, S, rfl, hide ((unhide O1).turn ty (fun j hj hm => by have := unhide L1 j hj; have := unhide Z0; simp at hm; omega)), hide (fun j hj => by have := unhide L1 j hj; have := unhide Z0; omega), (unhide B1).trans (ty.below (unhide B1).size (by simp))⟩)
    obtain ⟨⟨y0, y1, y2, y3, y4, y5⟩, -⟩ := yy.sixW
    have HY := hide (And.intro y0 (And.intro y1 (And.intro y2 (And.intro y3 (And.intro y4 y5)))))
    obtain ⟨⟨c0, c1, c2, c3, c4, c5⟩, f0, f1, f2, f3, f4, f5⟩ := (unhide X1).sixW
    clear yy ty y0 y1 y2 y3 y4 y5 O1 L1 HC
    go_wp2_with fail
    obtain ⟨y0, y1, y2, y3, y4, y5⟩ := unhide HY
    refine bodyPost_ret (v := .tuple #[.agg #[.int .i64 k, .int .i64 f, .int .i64 t, .string nm, .int .i64 vl, .slice sa sn sc], .bool (sayRd bs).isSome]) ?_ rfl ?_
    · simp [results, Tryz.results18, go_sem, y0, y1, y2, y3, y4, y5]
    · exact unhide HP
  · have HE := hide (sayRd_long (bs := bs) (by omega))
    have hl' : 260 < (bs.length : Int) := by omega
    have hm : bs.length ≤ 1048576 := hs
    have x0 := boxF_new w [.int .i64 0, .int .i64 0, .int .i64 0, .string ⟨#[]⟩, .int .i64 0, .slice none 0 0] 24
    have b0 := (Below.refl w.heap.size w).alloc (Nat.le_refl _) (.cells #[.int .i64 0, .int .i64 0, .int .i64 0, .string ⟨#[]⟩, .int .i64 0, .slice none 0 0] 24)
    have HP := hide (fun (W : World) (b : Below w.heap.size w W) => show (∃ v S, Ending.returned (.tuple #[.agg #[.int .i64 0, .int .i64 0, .int .i64 0, .string ⟨#[]⟩, .int .i64 0, .slice none 0 0], .bool false]) = .returned (.tuple #[v, .bool (sayIs bs)]) ∧ Hid (SayOwn S W v (sayV bs)) ∧ Hid (∀ k ∈ S, w.heap.size ≤ k) ∧ Below w.heap.size w W) from
      ⟨_, [], by unfold sayIs; rw [unhide HE]; rfl, hide (by unfold sayV; rw [unhide HE]; exact ⟨_, rfl, .inl ⟨rfl, rfl, none, 0, rfl⟩⟩), hide (by simp), b⟩)
    obtain ⟨⟨c0, c1, c2, c3, c4, c5⟩, -⟩ := x0.sixW
    have HY := hide (And.intro c0 (And.intro c1 (And.intro c2 (And.intro c3 (And.intro c4 c5)))))
    have BY := hide b0
    simp only [List.toArray] at HY
    clear x0 b0 h hs hl c0 c1 c2 c3 c4 c5
    generalize bs.length = n at *
    go_enter Tryz.func18, Tryz.ntmps18
    go_wp2_with fail
    obtain ⟨y0, y1, y2, y3, y4, y5⟩ := unhide HY
    refine bodyPost_ret (v := .tuple #[.agg #[.int .i64 0, .int .i64 0, .int .i64 0, .string ⟨#[]⟩, .int .i64 0, .slice none 0 0], .bool false]) ?_ rfl ?_
    · simp [results, Tryz.results18, go_sem, y0, y1, y2, y3, y4, y5]
    · exact unhide HP _ (unhide BY)
end Go.Proofs.YtiebfcefmdiajaaGreatDoor

set_option linter.unusedVariables false
namespace Go.Proofs.YtiebfcefmdiajaaGreatDoor
open Go.RowKit Go.Maps Go.Deep

def BlockIs (w : World) (g : Nat) (o : Obj) : Prop := w.heap[g]? = some o
theorem BlockIs.lt {w : World} {g : Nat} {o : Obj} (h : BlockIs w g o) : g < w.heap.size := (Array.getElem?_eq_some_iff.1 h).1
theorem block_new (w : World) (o : Obj) : BlockIs (w.alloc o) w.heap.size o := by unfold BlockIs; first | exact heap_alloc_new w o | exact World.heap_alloc_new w o
theorem BlockIs.turn {S : List Nat} {w w' : World} {g : Nat} {o : Obj} (h : BlockIs w g o) (ht : Turn S w w') (hS : g ∉ S) : BlockIs w' g o := (ht.block g h.lt hS).trans h
theorem BlockIs.below {B : Nat} {w w' : World} {g : Nat} {o : Obj} (h : BlockIs w g o) (hb : Below B w w') (hB : g < B) : BlockIs w' g o := (hb.block g hB).trans h
theorem BlockIs.up {w w' : World} {g : Nat} {o : Obj} (h : BlockIs w g o) (hb : Below w.heap.size w w') : BlockIs w' g o := h.below hb h.lt
theorem BlockIs.alloc {w : World} {g : Nat} {o : Obj} (h : BlockIs w g o) (o' : Obj) : BlockIs (w.alloc o') g o := h.up ((Below.refl _ _).alloc (Nat.le_refl _) _)
theorem BlockIs.grown {w w' : World} {g : Nat} {o : Obj} {row : Option Nat} (h : BlockIs w g o) (hg : w.grownBy w' row) (hr : row ≠ some g) : BlockIs w' g o := (hg.block g h.lt (fun e => hr e.symm)).trans h
theorem BlockIs.cell {w : World} {g : Nat} {arr : Array Value} {T : TypeId} (h : BlockIs w g (.cells arr T)) (i : Nat) (v : Value) (hv : arr[i]? = some v) : w.cell? ⟨g, i, none⟩ = some v := by
  unfold BlockIs at h
  simp [World.cell?, h, hv]
theorem BlockIs.apart {B : Nat} {w : World} {v : Value} {bs : List UInt8} {g : Nat} {arr : Array Value} {T : TypeId} (h : BlockIs w g (.cells arr T)) (hr : ByRow B w v bs) (hT : T ≠ 5) : v.ownBlock ≠ some g := by
  intro e
  rcases hr with ⟨_, ⟨rfl, h0⟩ | ⟨g', cap, cur, rfl, hB, hg, hnc, _⟩⟩
  · simp [Value.ownBlock] at e
  · simp [Value.ownBlock] at e
    subst e
    unfold BlockIs at h
    rw [hg] at h
    simp at h
    exact hT h.2.symm
theorem ownL_not {v : Value} {g : Nat} (h : v.ownBlock ≠ some g) : g ∉ ownL v := by
  intro hm
  exact h (by simpa [ownL] using hm)
end Go.Proofs.YtiebfcefmdiajaaGreatDoor
