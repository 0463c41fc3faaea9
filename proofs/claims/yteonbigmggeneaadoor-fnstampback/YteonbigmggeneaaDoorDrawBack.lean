/-
  The specification's draws of a stamp and of a text of one.
-/
import Derived.Test.YteonbigmggeneaaDoorDrawMarks
import Derived.Test.YteonbigmggeneaaDoorRdy
import Derived.Test.YteonbigmggeneaaDoorMany
import Derived.Test.YteonbigmggeneaaDoorTextS
import Derived.Test.YteonbigmggeneaaDoorBackM
import Derived.Test.YteonbigmggeneaaDoorByArg
import Derived.Deep.RegionWith
import Derived.Deep.DeepCutAuto
import Derived.Deep.CutBlock
set_option linter.unusedVariables false
namespace Go.Proofs.YteonbigmggeneaaDoor
open Go.RowKit Go.Maps Go.Deep

theorem bytesInB {w : World} {a : Option Addr} {bs : List UInt8} (h : ByIn w a bs) : BytesIn w a bs.length := by
  rcases h with rfl | ⟨b, off, rfl, hb, hc⟩
  · exact .inl rfl
  · exact .inr ⟨b, off, rfl, hb, fun i hi => ⟨bs[i].toNat, by have := bs[i].toNat_lt; omega, hc i hi⟩⟩
def RetDT (w : World) (e : Ending) (w' : World) : Prop := ∃ a n c ns, e = .returned (.slice a n c) ∧ Hid (MarkSRd w' (.slice a n c) ns) ∧ Hid (Sm 40 ns) ∧ Below w.heap.size w w'
set_option maxRecDepth 20000 in
set_option maxHeartbeats 3200000 in
theorem drawText_any (w : World) (a : Option Addr) (cap : Nat) (bs : List UInt8) (hl : bs.length ≤ maxLen) (hc : bs.length ≤ cap) (hb : ByIn w a bs) :
    Calls Tryd.prog 5 #[.slice a bs.length cap] w fun e w' => RetDT w e w' := by
  have HO := hide (l1Open_any w a bs.length cap hl hc (bytesInB hb))
  clear hb hl hc
  go_enter Tryd.func5, Tryd.ntmps5
  go_wp2_with fail
  refine (unhide HO).mono ?_
  rintro e w1 ⟨g, rfl, hr1, ht1⟩
  have B1 := hide (show Below w.heap.size w w1 from ht1.below (Nat.le_refl _) (by simp))
  have HGE := hide hr1.above
  have HM := hide (l34Marks_any w.heap.size g 0 w1 (by omega) hr1)
  clear hr1 ht1 HO
  go_wp2_with fail
  refine (unhide HM).mono ?_
  rintro e w2 ⟨v, xs, rfl, MH, SM, -, T⟩
  obtain ⟨va, vn, vc, rfl⟩ := (unhide MH).rd.form
  have HE := hide (show RetDT w (.returned (.slice va vn vc)) w2 from ⟨va, vn, vc, xs, rfl, hide (unhide MH).rd, SM, (unhide B1).trans ((unhide T).below (unhide B1).size (by have := unhide HGE; simp; omega))⟩)
  clear MH SM T HM B1 HGE
  go_wp2_with fail
  go_ret
  exact unhide HE
def nm7 (k : Nat) : ByteArray := [(⟨#[]⟩ : ByteArray), ⟨#[32]⟩, ⟨#[58]⟩, ⟨#[48]⟩, ⟨#[45]⟩, ⟨#[57]⟩, ⟨#[97]⟩].getD k ⟨#[]⟩
theorem nm7_size (k : Nat) : (nm7 k).size ≤ 1 := by
  unfold nm7
  match k with
  | 0 => decide
  | 1 => decide
  | 2 => decide
  | 3 => decide
  | 4 => decide
  | 5 => decide
  | 6 => decide
  | k + 7 => simp; decide
theorem nm7_cell (w : World) (k : Nat) (hk : k < 7) : (w.alloc (.cells #[.string ⟨#[]⟩, .string ⟨#[32]⟩, .string ⟨#[58]⟩, .string ⟨#[48]⟩, .string ⟨#[45]⟩, .string ⟨#[57]⟩, .string ⟨#[97]⟩] 9)).cell? ⟨w.heap.size, k, none⟩ = some (.string (nm7 k)) := by
  have h := (boxF_new w [.string ⟨#[]⟩, .string ⟨#[32]⟩, .string ⟨#[58]⟩, .string ⟨#[48]⟩, .string ⟨#[45]⟩, .string ⟨#[57]⟩, .string ⟨#[97]⟩] 9).1
  match k, hk with
  | 0, _ => exact h.at 0 _ rfl
  | 1, _ => exact h.at 1 _ rfl
  | 2, _ => exact h.at 2 _ rfl
  | 3, _ => exact h.at 3 _ rfl
  | 4, _ => exact h.at 4 _ rfl
  | 5, _ => exact h.at 5 _ rfl
  | 6, _ => exact h.at 6 _ rfl
def nm3 (k : Nat) : ByteArray := [(⟨#[]⟩ : ByteArray), ⟨#[98]⟩, ⟨#[98, 58, 49]⟩].getD k ⟨#[]⟩
theorem nm3_size (k : Nat) : (nm3 k).size ≤ 3 := by
  unfold nm3
  match k with
  | 0 => decide
  | 1 => decide
  | 2 => decide
  | k + 3 => simp; decide
theorem nm3_cell (w : World) (k : Nat) (hk : k < 3) : (w.alloc (.cells #[.string ⟨#[]⟩, .string ⟨#[98]⟩, .string ⟨#[98, 58, 49]⟩] 9)).cell? ⟨w.heap.size, k, none⟩ = some (.string (nm3 k)) := by
  have h := (boxF_new w [.string ⟨#[]⟩, .string ⟨#[98]⟩, .string ⟨#[98, 58, 49]⟩] 9).1
  match k, hk with
  | 0, _ => exact h.at 0 _ rfl
  | 1, _ => exact h.at 1 _ rfl
  | 2, _ => exact h.at 2 _ rfl
theorem ext_size (s : ByteArray) (a b : Nat) : (s.extract a b).size ≤ s.size := by
  rw [ByteArray.size_extract]
  omega
def RetDR (w : World) (e : Ending) (w' : World) : Prop := ∃ t : ByteArray, e = .returned (.string t) ∧ t.size ≤ 1000 ∧ Below w.heap.size w w'
set_option maxRecDepth 20000 in
set_option maxHeartbeats 6400000 in
theorem drawRead_any (w : World) (a : Option Addr) (cap : Nat) (bs : List UInt8) (hl : bs.length ≤ maxLen) (hc : bs.length ≤ cap) (hb : ByIn w a bs) :
    Calls Tryd.prog 11 #[.slice a bs.length cap] w fun e w' => RetDR w e w' := by
  have HO := hide (l1Open_any w a bs.length cap hl hc (bytesInB hb))
  clear hb hl hc
  go_enter Tryd.func11, Tryd.ntmps11
  go_wp2_with fail
  refine (unhide HO).mono ?_
  rintro e w1 ⟨g, rfl, hr1, ht1⟩
  have B1 := hide (show Below w.heap.size w w1 from ht1.below (Nat.le_refl _) (by simp))
  have HGE := hide hr1.above
  have HM := hide (l34Marks_any w.heap.size g 0 w1 (by omega) hr1)
  have hg1 : g < w1.heap.size := hr1.lt
  clear hr1 ht1 HO
  go_wp2_with fail
  refine (unhide HM).mono ?_
  rintro e w2 ⟨v, xs, rfl, MH, SM, RD, T⟩
  obtain ⟨va, vn, vc, rfl⟩ := (unhide MH).rd.form
  have HTX := hide (specText_any xs (.slice va vn vc) w2 ((unhide SM).small (by omega)) (unhide MH).rd)
  have hsz := textOut_size xs
  generalize textOut xs = t0 at *
  clear HM
  go_wp2_with fail
  refine (unhide HTX).mono ?_
  rintro e w3 ⟨rfl, b3⟩
  have R3 := hide (show Rdy w.heap.size g 60 w1 w3 from ⟨hg1, by obtain ⟨q, h1, h2⟩ := unhide RD; exact ⟨q, by omega, h2.turn (Turn.of_below (S := []) b3) (by simp) (by simp)⟩, (unhide T).trans (Turn.of_below b3)⟩)
  clear HTX b3 MH SM RD T
  go_upto_region 3 with fail
  go_cut [18] (fun bv wx => ∃ b : Bool, bv = .bool b ∧ (b = true → 0 < t0.size) ∧ Hid (Rdy w.heap.size g 61 w1 wx))
  case first =>
    go_wp2_with fail
    refine (pick_rdy w.heap.size g _ 3 w1 w3 (by omega) (by omega) (by omega) (unhide R3)).mono ?_
    rintro e w4 ⟨x, rfl, hx, D4, T4⟩
    clear T4 R3
    by_cases h0 : x = 0
    · subst h0
      by_cases hz : 0 < t0.size
      · have hz' : (0 : Int) < (t0.size : Int) := by omega
        go_wp2_with fail
        go_meet
        exact ⟨true, rfl, fun _ => hz, D4⟩
      · have hz' : ¬ (0 : Int) < (t0.size : Int) := by omega
        go_wp2_with fail
        go_meet
        exact ⟨false, rfl, by simp, D4⟩
    · have hb : ((x : Int) == 0) = false := by rw [beq_eq_false_iff_ne]; omega
      go_wp2_with fail
      go_meet
      exact ⟨false, rfl, by simp, D4⟩
  case rest =>
  obtain ⟨b, rfl, hb, D4⟩ := hcut
  generalize wc = w4 at *
  clear R3
  go_upto_if 18 with fail
  go_cut [4, 5] (fun tv kv wx => ∃ (t1 : ByteArray), tv = .string t1 ∧ t1.size ≤ 900 ∧ Hid (Rdy w.heap.size g 63 w1 wx))
  case first =>
    cases b
    · go_wp2_with fail
      go_meet
      exact ⟨t0, rfl, by omega, hide ((unhide D4).more (by omega))⟩
    · have hz := hb rfl
      go_wp2_with fail
      refine (pick_rdy w.heap.size g _ (t0.size : Int) w1 w4 (by omega) (by omega) (by omega) (unhide D4)).mono ?_
      rintro e w5 ⟨k, rfl, hk, D5, T5⟩
      have hkn : (k : Int) ≤ (t0.size : Int) := by omega
      have hg5 : g < w5.heap.size := Nat.lt_of_lt_of_le hg1 (unhide D5).turn.size
      have TD := hide (show Turn [g] w5 w5.drew from Turn.of_below (Below.refl _ _).drew)
      have D0 := hide ((unhide D5).self.up (Below.refl _ _).drew)
      have DA := hide (((unhide D5).self.alloc (.cells #[.string ⟨#[]⟩, .string ⟨#[32]⟩, .string ⟨#[58]⟩, .string ⟨#[48]⟩, .string ⟨#[45]⟩, .string ⟨#[57]⟩, .string ⟨#[97]⟩] 9)).up (Below.refl _ _).drew)
      have TDA := hide (show Turn [g] w5 (w5.alloc (.cells #[.string ⟨#[]⟩, .string ⟨#[32]⟩, .string ⟨#[58]⟩, .string ⟨#[48]⟩, .string ⟨#[45]⟩, .string ⟨#[57]⟩, .string ⟨#[97]⟩] 9)).drew from (Turn.of_alloc [g] w5 _).trans (Turn.of_below (Below.refl _ _).drew))
      have LTA := hide (show w5.heap.size < (w5.alloc (.cells #[.string ⟨#[]⟩, .string ⟨#[32]⟩, .string ⟨#[58]⟩, .string ⟨#[48]⟩, .string ⟨#[45]⟩, .string ⟨#[57]⟩, .string ⟨#[97]⟩] 9)).drew.heap.size from by show w5.heap.size < (w5.alloc _).heap.size; simp)
      have KEY := hide (fun (z : Nat) (X : World) (t : Turn [g] w5 X) (d : Rdy w.heap.size g 63 w5 X) => show (∃ (t1 : ByteArray), (Value.string (t0.extract 0 k ++ nm7 z ++ t0.extract k t0.size)) = .string t1 ∧ t1.size ≤ 900 ∧ Hid (Rdy w.heap.size g 63 w1 X)) from ⟨_, rfl, by have h1 := nm7_size z; have h2 := ext_size t0 0 k; have h3 := ext_size t0 k t0.size; rw [ByteArray.size_append, ByteArray.size_append]; omega, hide ((unhide D5).on d)⟩)
      have hs0 : ∀ z, ¬ 9223372036854775807 < min k t0.size + (nm7 z).size := fun z => by have h1 := nm7_size z; omega
      have hs1 : ∀ z, ¬ 9223372036854775807 < min k t0.size + (nm7 z).size + (t0.size - k) := fun z => by have h1 := nm7_size z; omega
      have HS0 := hide hs0
      have HS1 := hide hs1
      clear T5 D4 hs0 hs1
      go_wp2_with fail
      go_region_with
        (first
        | (go_at_call 25; (with_reducible show Calls _ _ _ w5.drew _); refine (pick_rdy w.heap.size g _ 7 w5 w5.drew (by omega) (by omega) (by omega) (unhide D0)).mono ?_; rintro e w6 ⟨z, rfl, hz7, D6, T6⟩; have TT := hide ((unhide TD).trans (unhide T6)); have c6 := nm7_cell w6 z (by omega); have hs0 := unhide HS0 z; have hs1 := unhide HS1 z; have hz0 : (0 : Int) ≤ (z : Int) := (by omega); have KK := hide (unhide KEY z _ ((unhide TT).alloc (.cells #[.string ⟨#[]⟩, .string ⟨#[32]⟩, .string ⟨#[58]⟩, .string ⟨#[48]⟩, .string ⟨#[45]⟩, .string ⟨#[57]⟩, .string ⟨#[97]⟩] 9)) (((unhide D6).more (by omega)).alloc (.cells #[.string ⟨#[]⟩, .string ⟨#[32]⟩, .string ⟨#[58]⟩, .string ⟨#[48]⟩, .string ⟨#[45]⟩, .string ⟨#[57]⟩, .string ⟨#[97]⟩] 9))); clear T6)
        | (go_at_call 25; (with_reducible show Calls _ _ _ (w5.alloc _).drew _); refine (pick_rdy w.heap.size g _ 7 w5 _ (by omega) (by omega) (by omega) (unhide DA)).mono ?_; rintro e w6 ⟨z, rfl, hz7, D6, T6⟩; have TT := hide ((unhide TDA).trans (unhide T6)); have c6 := ((unhide T6).cell (unhide LTA) (fun hm => (by have h2 : w5.heap.size = g := List.mem_singleton.1 hm; omega))).trans (nm7_cell w5 z (by omega)); have hs0 := unhide HS0 z; have hs1 := unhide HS1 z; have hz0 : (0 : Int) ≤ (z : Int) := (by omega); have KK := hide (unhide KEY z w6 (unhide TT) ((unhide D6).more (by omega))); clear T6)
        | fail)
      all_goals
        go_wp2_with fail
        go_meet
        exact unhide KK
  case rest =>
  obtain ⟨t1, rfl, ht1, D6⟩ := hcut
  generalize wc = w6 at *
  clear D4 hb
  go_wp2_with fail
  refine (pick_rdy w.heap.size g _ 60 w1 w6 (by omega) (by omega) (by omega) (unhide D6)).mono ?_
  rintro e w7 ⟨x, rfl, hx, D7, T7⟩
  clear T7 D6
  by_cases h0 : x = 0
  · subst h0
    have HMA := hide (many_any ⟨#[97, 58, 49, 32]⟩ 100 400 w7 (by omega) (by decide) (by decide) (by omega) (by omega))
    have hg7 : g < w7.heap.size := Nat.lt_of_lt_of_le hg1 (unhide D7).turn.size
    have KEY := hide (fun (tm : ByteArray) (hm : tm.size ≤ 400) (z : Nat) (X : World) (t : Turn [g] w7 X) => show RetDR w (.returned (.string (tm ++ nm3 z))) X from ⟨_, rfl, by have h1 := nm3_size z; rw [ByteArray.size_append]; omega, (unhide B1).trans (((unhide D7).turn.trans t).below (unhide B1).size (by have := unhide HGE; simp; omega))⟩)
    have D8 := hide ((unhide D7).self.alloc (.cells #[.string ⟨#[]⟩, .string ⟨#[98]⟩, .string ⟨#[98, 58, 49]⟩] 9))
    have TA8 := hide (Turn.of_alloc [g] w7 (.cells #[.string ⟨#[]⟩, .string ⟨#[98]⟩, .string ⟨#[98, 58, 49]⟩] 9))
    go_wp2_with fail
    refine (unhide HMA).mono ?_
    rintro e w8 ⟨⟨tm, rfl, hm⟩, rfl⟩
    have KT := hide (unhide KEY tm hm)
    clear KEY HMA D7
    go_wp2_with fail
    refine (pick_rdy w.heap.size g _ 3 w8 _ (by omega) (by omega) (by omega) (unhide D8)).mono ?_
    rintro e w9 ⟨z, rfl, hz3, D9, T9⟩
    have c9 := ((unhide T9).cell (g := w8.heap.size) (i := z) (by simp) (fun hm => (by have h2 : w8.heap.size = g := List.mem_singleton.1 hm; omega))).trans (nm3_cell w8 z (by omega))
    have HE := hide (unhide KT z w9 ((unhide TA8).trans (unhide T9)))
    have h3 := nm3_size z
    have hs0 : ¬ 9223372036854775807 < tm.size + (nm3 z).size := by omega
    have hz0 : (0 : Int) ≤ (z : Int) := by omega
    clear D8 D9 T9 TA8 KT
    go_wp2_with fail
    go_ret
    exact unhide HE
  · have hxb : ((x : Int) == 0) = false := by rw [beq_eq_false_iff_ne]; omega
    have HE := hide (show RetDR w (.returned (.string t1)) w7 from ⟨t1, rfl, by omega, (unhide B1).trans ((unhide D7).turn.below (unhide B1).size (by have := unhide HGE; simp; omega))⟩)
    go_wp2_with fail
    go_ret
    exact unhide HE
end Go.Proofs.YteonbigmggeneaaDoor
