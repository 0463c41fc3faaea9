/-
  A reader at work: where it stands at most, and that nothing older than the draw was written but the reader itself.
-/
/-
  The specification's l1Many: a text so many times.
-/
/-
  The specification's draw of a text of a tree, for the laws on reading.
-/
import Derived.Test.YtjfebnplffpmoaaGreatDoorReader
import Derived.Test.YtjfebnplffpmoaaGreatDoorMerged3
import Derived.Handy
import Derived.Test.YtjfebnplffpmoaaGreatDoorMerged22
import Derived.Test.YtjfebnplffpmoaaGreatDoorMerged28
import Derived.Deep.RegionWith
import Derived.Deep.DeepCutAuto
import Derived.Deep.CutBlock
set_option linter.unusedVariables false
namespace Go.Proofs.YtjfebnplffpmoaaGreatDoor
open Go.RowKit Go.Maps Go.Deep

structure Rdy (base g N : Nat) (w0 w : World) : Prop where
  lt : g < w0.heap.size
  rd : ∃ p, p ≤ N ∧ RdIn base w g p
  turn : Turn [g] w0 w
theorem Rdy.refl {base g p N : Nat} {w : World} (h : RdIn base w g p) (hp : p ≤ N) : Rdy base g N w w := ⟨h.lt, ⟨p, hp, h⟩, Turn.refl _ _⟩
theorem Rdy.more {base g N M : Nat} {w0 w : World} (h : Rdy base g N w0 w) (hN : N ≤ M) : Rdy base g M w0 w := ⟨h.lt, let ⟨p, h1, h2⟩ := h.rd; ⟨p, Nat.le_trans h1 hN, h2⟩, h.turn⟩
/-- from the world itself -/
theorem Rdy.self {base g N : Nat} {w0 w : World} (h : Rdy base g N w0 w) : Rdy base g N w w := ⟨Nat.lt_of_lt_of_le h.lt h.turn.size, h.rd, Turn.refl _ _⟩
theorem Rdy.on {base g N M : Nat} {w0 w w' : World} (h : Rdy base g N w0 w) (k : Rdy base g M w w') : Rdy base g M w0 w' := ⟨h.lt, k.rd, h.turn.trans k.turn⟩
/-- nothing old is written: S, if any, lies behind the draw's beginning -/
theorem Rdy.turns {base g N : Nat} {S : List Nat} {w0 w w' : World} (h : Rdy base g N w0 w) (t : Turn S w w') (hS : ∀ k ∈ S, w0.heap.size ≤ k) : Rdy base g N w0 w' := by
  obtain ⟨p, hp, hr⟩ := h.rd
  refine ⟨h.lt, ⟨p, hp, hr.turn t (fun hm => by have := hS _ hm; have := h.lt; omega) (fun k hk => by have := hS k hk; have := h.lt; have := hr.above; omega)⟩, ?_⟩
  have q1 : Turn ([g] ++ S) w0 w' := (h.turn.mono (fun k hk => .inl (by simp at hk; simp [hk]))).trans (t.mono (fun k hk => .inl (by simp [hk])))
  exact q1.mono (fun k hk => by
    rcases List.mem_append.1 hk with hk | hk
    · exact .inl hk
    · exact .inr (hS k hk))
theorem Rdy.up {base g N : Nat} {w0 w w' : World} (h : Rdy base g N w0 w) (b : Below w.heap.size w w') : Rdy base g N w0 w' := h.turns (Turn.of_below (S := []) b) (by simp)
theorem Rdy.alloc {base g N : Nat} {w0 w : World} (h : Rdy base g N w0 w) (o : Obj) : Rdy base g N w0 (w.alloc o) := h.up ((Below.refl _ _).alloc (Nat.le_refl _) o)
theorem Rdy.grown {base g N : Nat} {w0 w w' : World} {row : Option Nat} (h : Rdy base g N w0 w) (hg : w.grownBy w' row) (hr : ∀ k, row = some k → w0.heap.size ≤ k) : Rdy base g N w0 w' := by
  cases row with
  | none => exact h.turns (S := []) (Turn.of_grown hg (by simp)) (by simp)
  | some k => exact h.turns (S := [k]) (Turn.of_grown hg (by simp)) (by simpa using hr k rfl)
theorem Rdy.size {base g N : Nat} {w0 w : World} (h : Rdy base g N w0 w) : w0.heap.size ≤ w.heap.size := h.turn.size
def RetPk (base g N : Nat) (m : Int) (w0 w : World) (e : Ending) (w' : World) : Prop := ∃ v : Nat, e = .returned (.int .i64 (v : Int)) ∧ (v : Int) < m ∧ Hid (Rdy base g N w0 w') ∧ Hid (Turn [g] w w')
theorem pick_rdy (base g N : Nat) (m : Int) (w0 w : World) (h1 : 1 ≤ m) (h2 : m ≤ 1048576) (hN : N ≤ 1000000000) (h : Rdy base g N w0 w) :
    Calls Tryz.prog 17 #[.pointer (some ⟨g, 0, none⟩), .int .i64 m] w fun e w' => RetPk base g (N + 1) m w0 w e w' := by
  obtain ⟨p, hp, hr⟩ := h.rd
  refine (pick_any w base g p m h1 h2 (by omega) hr).mono ?_
  rintro e w' ⟨v, rfl, h3, h4, h5, h6⟩
  obtain ⟨n, rfl⟩ := Int.eq_ofNat_of_zero_le h3
  exact ⟨n, rfl, h4, hide ⟨h.lt, ⟨p + 1, by omega, h5⟩, h.turn.trans h6⟩, hide h6⟩
end Go.Proofs.YtjfebnplffpmoaaGreatDoor

set_option linter.unusedVariables false
namespace Go.Proofs.YtjfebnplffpmoaaGreatDoor
open Go.RowKit Go.Maps

theorem many_step (a b n M : Nat) (h : a + b * n ≤ M) : (n % 2 = 1 → (a + b) + (b + b) * (n / 2) ≤ M) ∧ (n % 2 = 0 → a + (b + b) * (n / 2) ≤ M) ∧ (1 ≤ n → b ≤ M) := by
  have e : b * n = (b + b) * (n / 2) + b * (n % 2) := by
    have hn : n = 2 * (n / 2) + n % 2 := by omega
    calc b * n = b * (2 * (n / 2) + n % 2) := by rw [← hn]
      _ = (b + b) * (n / 2) + b * (n % 2) := by rw [Nat.mul_add, ← Nat.mul_assoc, Nat.mul_comm b 2, Nat.two_mul]
  refine ⟨fun h1 => ?_, fun h0 => ?_, fun h1 => ?_⟩
  · rw [h1, Nat.mul_one] at e; omega
  · rw [h0, Nat.mul_zero] at e; omega
  · have := Nat.mul_le_mul_left b h1
    omega
set_option maxHeartbeats 3200000 in
theorem many_any (s : ByteArray) (n M : Nat) (w : World) (hn : n ≤ 1000000) (hM : s.size * n ≤ M) (hs : s.size ≤ 100) (hM2 : 100 ≤ M) (hM3 : M ≤ 1000000) :
    Calls Tryz.prog 18 #[.string s, .int .i64 (n : Int)] w fun e w' => (∃ t : ByteArray, e = .returned (.string t) ∧ t.size ≤ M) ∧ w' = w := by
  go_enter Tryz.func18, Tryz.ntmps18
  go_wp2_with fail
  go_loopw [0, 1, 5] (fun x i o wr => ∃ (k : Nat) (b a : ByteArray), k ≤ n ∧ x = .string b ∧ i = .int .i64 (k : Int) ∧ o = .string a ∧ Hid (a.size + b.size * k ≤ M ∧ b.size ≤ 2 * M) ∧ wr = w) (fun _ i _ _ => (intOf i).toNat)
  case atStart => exact ⟨n, s, ⟨#[]⟩, Nat.le_refl _, rfl, rfl, rfl, hide ⟨by have e : (⟨#[]⟩ : ByteArray).size = 0 := rfl; rw [e]; omega, by omega⟩, rfl⟩
  case round =>
    obtain ⟨k, b, a, hk, rfl, rfl, rfl, HI, hwr⟩ := hrel
    by_cases h0 : 1 ≤ k
    · obtain ⟨s1, s2, s3⟩ := many_step a.size b.size k M (unhide HI).1
      have hb := s3 h0
      have ha : a.size ≤ M := by have := (unhide HI).1; omega
      have hk2 : (k : Int).tmod 2 = ((k % 2 : Nat) : Int) := by rw [Int.tmod_eq_emod_of_nonneg (by omega)]; omega
      have hd2 : (k : Int).tdiv 2 = ((k / 2 : Nat) : Int) := by rw [Int.tdiv_eq_ediv_of_nonneg (by omega)]; omega
      have l1 : ¬ 9223372036854775807 < b.size + b.size := by omega
      have l2 : ¬ 9223372036854775807 < a.size + b.size := by omega
      by_cases hodd : k % 2 = 1
      · have HI2 := hide (show (a ++ b).size + (b ++ b).size * (k / 2) ≤ M ∧ (b ++ b).size ≤ 2 * M from ⟨by simpa using s1 hodd, by simp; omega⟩)
        rw [hodd] at hk2
        clear s1 s2 s3 HI hodd
        go_wp2_with fail
        exact ⟨⟨k / 2, _, _, by omega, rfl, by rw [Int.natCast_ediv]; rfl, rfl, HI2, trivial⟩, by simp [intOf]; omega⟩
      · have HI2 := hide (show a.size + (b ++ b).size * (k / 2) ≤ M ∧ (b ++ b).size ≤ 2 * M from ⟨by simpa using s2 (by omega), by simp; omega⟩)
        have hk0 : k % 2 = 0 := by omega
        rw [hk0] at hk2
        clear s1 s2 s3 HI hodd hk0
        go_wp2_with fail
        exact ⟨⟨k / 2, _, _, by omega, rfl, by rw [Int.natCast_ediv]; rfl, rfl, HI2, trivial⟩, by simp [intOf]; omega⟩
    · have HA := hide (show a.size ≤ M by have := (unhide HI).1; omega)
      go_wp2_with fail
      go_ret
      exact ⟨⟨_, rfl, unhide HA⟩, rfl⟩
end Go.Proofs.YtjfebnplffpmoaaGreatDoor

set_option linter.unusedVariables false
namespace Go.Proofs.YtjfebnplffpmoaaGreatDoor
open Go.RowKit Go.Maps Go.Deep

def elevenT : List ByteArray := [⟨#[32]⟩, ⟨#[40]⟩, ⟨#[41]⟩, ⟨#[120]⟩, ⟨#[48]⟩, ⟨#[95]⟩, ⟨#[61]⟩, ⟨#[44]⟩, ⟨#[45]⟩, ⟨#[32, 105, 102, 32]⟩, ⟨#[10]⟩]
def nm11 (k : Nat) : ByteArray := elevenT.getD k ⟨#[]⟩
theorem nm11_size (k : Nat) : (nm11 k).size ≤ 4 := by
  unfold nm11
  have h1 : ∀ s ∈ elevenT, s.size ≤ 4 := by decide
  by_cases hk : k < elevenT.length
  · rw [List.getD_eq_getElem?_getD, List.getElem?_eq_getElem hk]; exact h1 _ (List.getElem_mem hk)
  · rw [List.getD_eq_getElem?_getD, List.getElem?_eq_none (by omega)]; decide
theorem nm11_cell (w : World) (k : Nat) (hk : k < 11) : (w.alloc (.cells #[.string ⟨#[32]⟩, .string ⟨#[40]⟩, .string ⟨#[41]⟩, .string ⟨#[120]⟩, .string ⟨#[48]⟩, .string ⟨#[95]⟩, .string ⟨#[61]⟩, .string ⟨#[44]⟩, .string ⟨#[45]⟩, .string ⟨#[32, 105, 102, 32]⟩, .string ⟨#[10]⟩] 9)).cell? ⟨w.heap.size, k, none⟩ = some (.string (nm11 k)) := by
  have h := str_cells w elevenT 9 k hk
  have e : nm11 k = elevenT[k]'hk := by unfold nm11; rw [List.getD_eq_getElem?_getD, List.getElem?_eq_getElem hk]; rfl
  rw [e]
  exact h
theorem ext_sizeT (s : ByteArray) (a b : Nat) : (s.extract a b).size ≤ s.size := by
  rw [ByteArray.size_extract]
  omega
theorem str_some (w : World) (l : List ByteArray) (T : TypeId) (M : Nat) (h : ∀ s ∈ l, s.size ≤ M) : ∀ j < l.length, ∃ s : ByteArray, s.size ≤ M ∧ (w.alloc (.cells (l.map Value.string).toArray T)).cell? ⟨w.heap.size, j, none⟩ = some (.string s) := fun j hj => ⟨_, h _ (List.getElem_mem hj), str_cells w l T j hj⟩
def RetTx (g : Nat) (w : World) (e : Ending) (w' : World) : Prop := ∃ t : ByteArray, e = .returned (.string t) ∧ t.size ≤ 30000 ∧ Hid (Turn [g] w w')
set_option maxRecDepth 20000 in
set_option maxHeartbeats 6400000 in
theorem l31Text_any (w : World) (base g : Nat) (hr : RdIn base w g 0) :
    Calls Tryz.prog 10 #[.pointer (some ⟨g, 0, none⟩)] w fun e w' => RetTx g w e w' := by
  have hgw := hr.lt
  have hgb := hr.above
  have HB := hide (l31Body_any w base g 0 (by omega) hr)
  clear hr
  go_enter Tryz.func10, Tryz.ntmps10
  go_wp2_with fail
  refine (unhide HB).mono ?_
  rintro e w2 ⟨⟨k, kc, ns, rfl, hrow, hn1, hn2, hsn⟩, ht2, q, hq1, hq2, hr2⟩
  have R2 := hide (show Rdy base g 70000 w w2 from ⟨hgw, ⟨q, by omega, hr2⟩, ht2⟩)
  have HX := hide (specShow_any w2 k 0 kc ns (by omega) hrow.nodesAt hrow.block.2 (fun x hx => by have := hsn x hx; unfold maxLen; omega))
  clear hrow hr2 hsn ht2 HB
  go_wp2_with fail
  refine (unhide HX).mono ?_
  rintro e w3 ⟨hs, b3⟩
  obtain ⟨t0, rfl, hs0⟩ := show_open hs
  have hsz := show_size hs0
  have R3 := hide ((unhide R2).up b3)
  clear hs hs0 b3 R2 HX
  go_wp2_with fail
  refine (pick_rdy base g _ 8 w w3 (by omega) (by omega) (by omega) (unhide R3)).mono ?_
  rintro e w4 ⟨x, rfl, hx, D4, T4⟩
  clear T4 R3
  go_upto_block 0 with fail
  go_cut [3, 4, 5] (fun tv k1 k2 wx => ∃ (t1 : ByteArray), tv = .string t1 ∧ t1.size ≤ 25000 ∧ Hid (Rdy base g 70010 w wx))
  case first =>
    by_cases h0 : x = 0
    · subst h0
      have hs1 : (⟨#[40, 32]⟩ ++ t0 ++ ⟨#[41]⟩ : ByteArray).size ≤ 25000 := by
        rw [ByteArray.size_append, ByteArray.size_append]
        have e1 : (⟨#[40, 32]⟩ : ByteArray).size = 2 := rfl
        have e2 : (⟨#[41]⟩ : ByteArray).size = 1 := rfl
        omega
      have hs1 := hide hs1
      go_wp2_with fail
      go_meet
      exact ⟨_, rfl, unhide hs1, hide ((unhide D4).more (by omega))⟩
    have hb0 : ((x : Int) == 0) = false := by rw [beq_eq_false_iff_ne]; omega
    by_cases h1 : x = 1
    · subst h1
      by_cases hz : 0 < t0.size
      rotate_left
      · have hz' : ¬ (0 : Int) < (t0.size : Int) := by omega
        go_wp2_with fail
        go_meet
        exact ⟨t0, rfl, by omega, hide ((unhide D4).more (by omega))⟩
      have hz' : (0 : Int) < (t0.size : Int) := by omega
      go_wp2_with fail
      refine (pick_rdy base g _ (t0.size : Int) w w4 (by omega) (by omega) (by omega) (unhide D4)).mono ?_
      rintro e w5 ⟨k, rfl, hk, D5, T5⟩
      have hkn : (k : Int) ≤ (t0.size : Int) := by omega
      have hg5 : g < w5.heap.size := Nat.lt_of_lt_of_le hgw (unhide D5).turn.size
      have TD := hide (show Turn [g] w5 w5.drew from Turn.of_below (Below.refl _ _).drew)
      have D0 := hide ((unhide D5).self.up (Below.refl _ _).drew)
      have DA := hide (((unhide D5).self.alloc (.cells #[.string ⟨#[32]⟩, .string ⟨#[40]⟩, .string ⟨#[41]⟩, .string ⟨#[120]⟩, .string ⟨#[48]⟩, .string ⟨#[95]⟩, .string ⟨#[61]⟩, .string ⟨#[44]⟩, .string ⟨#[45]⟩, .string ⟨#[32, 105, 102, 32]⟩, .string ⟨#[10]⟩] 9)).up (Below.refl _ _).drew)
      have TDA := hide (show Turn [g] w5 (w5.alloc (.cells #[.string ⟨#[32]⟩, .string ⟨#[40]⟩, .string ⟨#[41]⟩, .string ⟨#[120]⟩, .string ⟨#[48]⟩, .string ⟨#[95]⟩, .string ⟨#[61]⟩, .string ⟨#[44]⟩, .string ⟨#[45]⟩, .string ⟨#[32, 105, 102, 32]⟩, .string ⟨#[10]⟩] 9)).drew from (Turn.of_alloc [g] w5 _).trans (Turn.of_below (Below.refl _ _).drew))
      have LTA := hide (show w5.heap.size < (w5.alloc (.cells #[.string ⟨#[32]⟩, .string ⟨#[40]⟩, .string ⟨#[41]⟩, .string ⟨#[120]⟩, .string ⟨#[48]⟩, .string ⟨#[95]⟩, .string ⟨#[61]⟩, .string ⟨#[44]⟩, .string ⟨#[45]⟩, .string ⟨#[32, 105, 102, 32]⟩, .string ⟨#[10]⟩] 9)).drew.heap.size from by show w5.heap.size < (w5.alloc _).heap.size; simp)
      have KEY := hide (fun (z : Nat) (X : World) (t : Turn [g] w5 X) (d : Rdy base g 70003 w5 X) => show (∃ (t1 : ByteArray), (Value.string (t0.extract 0 k ++ nm11 z ++ t0.extract k t0.size)) = .string t1 ∧ t1.size ≤ 25000 ∧ Hid (Rdy base g 70010 w X)) from ⟨_, rfl, by have h1 := nm11_size z; have h2 := ext_sizeT t0 0 k; have h4 := @ByteArray.size_extract t0 k t0.size; have h5 := @ByteArray.size_extract t0 0 k; rw [ByteArray.size_append, ByteArray.size_append]; omega, hide (((unhide D5).on d).more (by omega))⟩)
      have hs0 : ∀ z, ¬ 9223372036854775807 < min k t0.size + (nm11 z).size := fun z => by have h1 := nm11_size z; omega
      have hs1 : ∀ z, ¬ 9223372036854775807 < min k t0.size + (nm11 z).size + (t0.size - k) := fun z => by have h1 := nm11_size z; omega
      have HS0 := hide hs0
      have HS1 := hide hs1
      clear T5 D4 hs0 hs1
      go_wp2_with fail
      go_region_with
        (first
        | (go_at_call 17; (with_reducible show Calls _ _ _ w5.drew _); refine (pick_rdy base g _ 11 w5 w5.drew (by omega) (by omega) (by omega) (unhide D0)).mono ?_; rintro e w6 ⟨z, rfl, hz7, D6, T6⟩; have TT := hide ((unhide TD).trans (unhide T6)); have c6 := nm11_cell w6 z (by omega); have hs0 := unhide HS0 z; have hs1 := unhide HS1 z; have hz0 : (0 : Int) ≤ (z : Int) := (by omega); have KK := hide (unhide KEY z _ ((unhide TT).alloc (.cells #[.string ⟨#[32]⟩, .string ⟨#[40]⟩, .string ⟨#[41]⟩, .string ⟨#[120]⟩, .string ⟨#[48]⟩, .string ⟨#[95]⟩, .string ⟨#[61]⟩, .string ⟨#[44]⟩, .string ⟨#[45]⟩, .string ⟨#[32, 105, 102, 32]⟩, .string ⟨#[10]⟩] 9)) (((unhide D6).more (by omega)).alloc (.cells #[.string ⟨#[32]⟩, .string ⟨#[40]⟩, .string ⟨#[41]⟩, .string ⟨#[120]⟩, .string ⟨#[48]⟩, .string ⟨#[95]⟩, .string ⟨#[61]⟩, .string ⟨#[44]⟩, .string ⟨#[45]⟩, .string ⟨#[32, 105, 102, 32]⟩, .string ⟨#[10]⟩] 9))); clear T6)
        | (go_at_call 17; (with_reducible show Calls _ _ _ (w5.alloc _).drew _); refine (pick_rdy base g _ 11 w5 _ (by omega) (by omega) (by omega) (unhide DA)).mono ?_; rintro e w6 ⟨z, rfl, hz7, D6, T6⟩; have TT := hide ((unhide TDA).trans (unhide T6)); have c6 := ((unhide T6).cell (unhide LTA) (fun hm => (by have h2 : w5.heap.size = g := List.mem_singleton.1 hm; omega))).trans (nm11_cell w5 z (by omega)); have hs0 := unhide HS0 z; have hs1 := unhide HS1 z; have hz0 : (0 : Int) ≤ (z : Int) := (by omega); have KK := hide (unhide KEY z w6 (unhide TT) ((unhide D6).more (by omega))); clear T6)
        | fail)
      all_goals
        go_wp2_with fail
        go_meet
        exact unhide KK
    have hb1 : ((x : Int) == 1) = false := by rw [beq_eq_false_iff_ne]; omega
    by_cases h2 : x = 2
    rotate_left
    · have hb2 : ((x : Int) == 2) = false := by rw [beq_eq_false_iff_ne]; omega
      go_wp2_with fail
      go_meet
      exact ⟨t0, rfl, by omega, hide ((unhide D4).more (by omega))⟩
    subst h2
    by_cases hz : 0 < t0.size
    rotate_left
    · have hz' : ¬ (0 : Int) < (t0.size : Int) := by omega
      go_wp2_with fail
      go_meet
      exact ⟨t0, rfl, by omega, hide ((unhide D4).more (by omega))⟩
    have hz' : (0 : Int) < (t0.size : Int) := by omega
    go_wp2_with fail
    refine (pick_rdy base g _ (t0.size : Int) w w4 (by omega) (by omega) (by omega) (unhide D4)).mono ?_
    rintro e w5 ⟨k, rfl, hk, D5, T5⟩
    have hkn : (k : Int) ≤ (t0.size : Int) := by omega
    have hkm : (k : Int) + 1 ≤ (t0.size : Int) := by omega
    have hk0 : (0 : Int) ≤ (k : Int) := by omega
    have hk1 : (0 : Int) ≤ (k : Int) + 1 := by omega
    have hs0 : ¬ 9223372036854775807 < min k t0.size + (t0.size - (k + 1)) := by omega
    have HE := hide (show ∀ X : World, Below w5.heap.size w5 X → (∃ (t1 : ByteArray), (Value.string (t0.extract 0 k ++ t0.extract (k + 1) t0.size)) = .string t1 ∧ t1.size ≤ 25000 ∧ Hid (Rdy base g 70010 w X)) from fun X b => ⟨_, rfl, by have h1 := ext_sizeT t0 0 k; have h4 := @ByteArray.size_extract t0 (k + 1) t0.size; have h5 := @ByteArray.size_extract t0 0 k; rw [ByteArray.size_append]; omega, hide (((unhide D5).up b).more (by omega))⟩)
    clear T5 D4
    go_wp2_with fail
    go_quiet (fail)
    go_wp2_with fail
    go_meet
    exact unhide HE _ (belowN _ _)
  case rest =>
  obtain ⟨t1, rfl, ht1, D6⟩ := hcut
  generalize wc = w6 at *
  clear D4
  go_wp2_with fail
  refine (pick_rdy base g _ 60 w w6 (by omega) (by omega) (by omega) (unhide D6)).mono ?_
  rintro e w7 ⟨x2, rfl, hx2, D7, T7⟩
  clear T7 D6
  by_cases h0 : x2 = 0
  rotate_left
  · have hxb : ((x2 : Int) == 0) = false := by rw [beq_eq_false_iff_ne]; omega
    have HE := hide (show RetTx g w (.returned (.string t1)) w7 from ⟨t1, rfl, by omega, hide (unhide D7).turn⟩)
    go_wp2_with fail
    go_ret
    exact unhide HE
  subst h0
  have M1 := hide (many_any ⟨#[40]⟩ 700 2000 w7 (by omega) (by decide) (by decide) (by omega) (by omega))
  have M2 := hide (many_any ⟨#[41]⟩ 700 2000 w7 (by omega) (by decide) (by decide) (by omega) (by omega))
  have M3 := hide (many_any ⟨#[32]⟩ 1500 2000 w7 (by omega) (by decide) (by decide) (by omega) (by omega))
  have M4 := hide (many_any ⟨#[32]⟩ 1501 2000 w7 (by omega) (by decide) (by decide) (by omega) (by omega))
  have M5 := hide (many_any ⟨#[43, 49]⟩ 200 2000 w7 (by omega) (by decide) (by decide) (by omega) (by omega))
  have M6 := hide (many_any ⟨#[43, 49]⟩ 199 2000 w7 (by omega) (by decide) (by decide) (by omega) (by omega))
  have M7 := hide (many_any ⟨#[57]⟩ 18 2000 w7 (by omega) (by decide) (by decide) (by omega) (by omega))
  have M8 := hide (many_any ⟨#[57]⟩ 19 2000 w7 (by omega) (by decide) (by decide) (by omega) (by omega))
  have M9 := hide (many_any ⟨#[45]⟩ 39 2000 w7 (by omega) (by decide) (by decide) (by omega) (by omega))
  have M10 := hide (many_any ⟨#[45]⟩ 40 2000 w7 (by omega) (by decide) (by decide) (by omega) (by omega))
  have hg7 : g < w7.heap.size := Nat.lt_of_lt_of_le hgw (unhide D7).turn.size
  have l1 : (⟨#[49]⟩ : ByteArray).size = 1 := rfl
  have l2 : (⟨#[48]⟩ : ByteArray).size = 1 := rfl
  go_wp2_with fail
  refine (unhide M1).mono ?_
  rintro e w8 ⟨⟨m1, rfl, k1⟩, rfl⟩
  go_wp2_with fail
  refine (unhide M2).mono ?_
  rintro e w9 ⟨⟨m2, rfl, k2⟩, rfl⟩
  go_wp2_with fail
  refine (unhide M3).mono ?_
  rintro e w10 ⟨⟨m3, rfl, k3⟩, rfl⟩
  go_wp2_with fail
  refine (unhide M4).mono ?_
  rintro e w11 ⟨⟨m4, rfl, k4⟩, rfl⟩
  go_wp2_with fail
  refine (unhide M5).mono ?_
  rintro e w12 ⟨⟨m5, rfl, k5⟩, rfl⟩
  go_wp2_with fail
  refine (unhide M6).mono ?_
  rintro e w13 ⟨⟨m6, rfl, k6⟩, rfl⟩
  go_wp2_with fail
  refine (unhide M7).mono ?_
  rintro e w14 ⟨⟨m7, rfl, k7⟩, rfl⟩
  go_wp2_with fail
  refine (unhide M8).mono ?_
  rintro e w15 ⟨⟨m8, rfl, k8⟩, rfl⟩
  go_wp2_with fail
  refine (unhide M9).mono ?_
  rintro e w16 ⟨⟨m9, rfl, k9⟩, rfl⟩
  go_wp2_with fail
  refine (unhide M10).mono ?_
  rintro e w17 ⟨⟨m10, rfl, k10⟩, rfl⟩
  clear M1 M2 M3 M4 M5 M6 M7 M8 M9 M10
  have LSZ : ∀ s ∈ [m1 ++ ⟨#[49]⟩ ++ m2, m3, m4, ⟨#[]⟩, ⟨#[49]⟩ ++ m5, ⟨#[49]⟩ ++ m6, ⟨#[48]⟩ ++ m7, m8, m9 ++ ⟨#[49]⟩, m10 ++ (⟨#[49]⟩ : ByteArray)], s.size ≤ 30000 := by
    have l0 : (⟨#[]⟩ : ByteArray).size = 0 := rfl
    intro s hs
    simp only [List.mem_cons, List.not_mem_nil, or_false] at hs
    rcases hs with rfl | rfl | rfl | rfl | rfl | rfl | rfl | rfl | rfl | rfl
    all_goals (try simp only [ByteArray.size_append]); omega
  have CEL := hide (show ∀ j < 10, ∃ s : ByteArray, s.size ≤ 30000 ∧ (w17.alloc (.cells #[Value.string (m1 ++ ⟨#[49]⟩ ++ m2), Value.string m3, Value.string m4, Value.string ⟨#[]⟩, Value.string (⟨#[49]⟩ ++ m5), Value.string (⟨#[49]⟩ ++ m6), Value.string (⟨#[48]⟩ ++ m7), Value.string m8, Value.string (m9 ++ ⟨#[49]⟩), Value.string (m10 ++ ⟨#[49]⟩)] 9)).cell? ⟨w17.heap.size, j, none⟩ = some (.string s) from str_some w17 [m1 ++ ⟨#[49]⟩ ++ m2, m3, m4, ⟨#[]⟩, ⟨#[49]⟩ ++ m5, ⟨#[49]⟩ ++ m6, ⟨#[48]⟩ ++ m7, m8, m9 ++ ⟨#[49]⟩, m10 ++ (⟨#[49]⟩ : ByteArray)] 9 30000 LSZ)
  have D8 := hide ((unhide D7).self.alloc (.cells #[Value.string (m1 ++ ⟨#[49]⟩ ++ m2), Value.string m3, Value.string m4, Value.string ⟨#[]⟩, Value.string (⟨#[49]⟩ ++ m5), Value.string (⟨#[49]⟩ ++ m6), Value.string (⟨#[48]⟩ ++ m7), Value.string m8, Value.string (m9 ++ ⟨#[49]⟩), Value.string (m10 ++ ⟨#[49]⟩)] 9))
  have TA8 := hide (Turn.of_alloc [g] w17 (.cells #[Value.string (m1 ++ ⟨#[49]⟩ ++ m2), Value.string m3, Value.string m4, Value.string ⟨#[]⟩, Value.string (⟨#[49]⟩ ++ m5), Value.string (⟨#[49]⟩ ++ m6), Value.string (⟨#[48]⟩ ++ m7), Value.string m8, Value.string (m9 ++ ⟨#[49]⟩), Value.string (m10 ++ ⟨#[49]⟩)] 9))
  clear LSZ
  have HX := hide (fun (X : World) (t : Turn [g] w17 X) => (unhide D7).turn.trans t)
  clear D7
  go_wp2_with fail
  have hwa : ∀ o : Obj, (w17.alloc o).heap.size = w17.heap.size + 1 := fun o => by simp
  refine (pick_rdy base g _ 10 w17 _ (by omega) (by omega) (by omega) (unhide D8)).mono ?_
  rintro e w18 ⟨z, rfl, hz, D9, T9⟩
  obtain ⟨s, hs, hc⟩ := unhide CEL z (by omega)
  have c9 := ((unhide T9).cell (g := w17.heap.size) (i := z) (by rw [hwa]; omega) (fun hm => (by have h2 : w17.heap.size = g := List.mem_singleton.1 hm; omega))).trans hc
  have HE := hide (show RetTx g w (.returned (.string s)) w18 from ⟨s, rfl, hs, hide (unhide HX _ ((unhide TA8).trans (unhide T9)))⟩)
  have hz0 : (0 : Int) ≤ (z : Int) := by omega
  clear D8 D9 T9 TA8 CEL HX hc
  go_wp2_with fail
  go_ret
  exact unhide HE
def RetTxD (w : World) (e : Ending) (w' : World) : Prop := ∃ t : ByteArray, e = .returned (.string t) ∧ t.size ≤ 30000 ∧ Below w.heap.size w w'
set_option maxHeartbeats 1600000 in
theorem drawBodyWords_any (w : World) (a : Option Addr) (n cap : Nat) (hn : n ≤ maxLen) (hc : n ≤ cap) (hb : BytesIn w a n) :
    Calls Tryz.prog 4 #[.slice a n cap] w fun e w' => RetTxD w e w' := by
  have HB := hide (l1Open_any w a n cap hn hc hb)
  clear hb
  go_enter Tryz.func4, Tryz.ntmps4
  go_wp2_with fail
  refine (unhide HB).mono ?_
  rintro e w1 ⟨g, rfl, hr1, ht1⟩
  have HT1 := hide ht1
  have HX := hide (l31Text_any w1 w.heap.size g hr1)
  have hgb := hr1.above
  clear ht1 hr1 HB
  go_wp2_with fail
  refine (unhide HX).mono ?_
  rintro e w2 ⟨t, rfl, hs, ht2⟩
  have HE := hide (show RetTxD w (.returned (.string t)) w2 from ⟨t, rfl, hs, ((unhide HT1).join (unhide ht2) (by simp; omega)).below (Nat.le_refl w.heap.size) (by simp)⟩)
  clear ht2 HT1 HX
  go_wp2_with fail
  go_ret
  exact unhide HE
end Go.Proofs.YtjfebnplffpmoaaGreatDoor
