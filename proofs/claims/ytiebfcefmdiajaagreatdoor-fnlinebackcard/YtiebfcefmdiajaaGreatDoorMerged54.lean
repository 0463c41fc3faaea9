/-
  The specification's l1Many: a text so many times.
-/
/-
  The specification's draws of a word, for its line, and of a line. (Made by wip/mkdrawline.py.)
-/
import Derived.Test.YtiebfcefmdiajaaGreatDoorMerged3
import Derived.Handy
import Derived.Test.YtiebfcefmdiajaaGreatDoorMerged18
import Derived.Test.YtiebfcefmdiajaaGreatDoorMerged51
import Derived.Deep.RegionWith
import Derived.Deep.DeepCutAuto
import Derived.Deep.CutBlock
set_option linter.unusedVariables false
namespace Go.Proofs.YtiebfcefmdiajaaGreatDoor
open Go.RowKit Go.Maps

theorem many_step (a b n M : Nat) (h : a + b * n ≤ M) : (n % 2 = 1 → (a + b) + (b + b) * (n / 2) ≤ M) ∧ (n % 2 = 0 → a + (b + b) * (n / 2) ≤ M) ∧ (1 ≤ n → b ≤ M) := by
  have e : b * n = (b + b) * (n / 2) + b * (n % 2) := by
    have hn : n = 2 * (n / 2) + n % 2 := by omega
    calc b * n = b * (2 * (n / 2) + n % 2) := by rw [← hn]
      _ = (b + b) * (n / 2) + b * (n % 2) := by rw [Nat.mul_add, ← Nat.mul_assoc, Nat.mul_comm b 2, Nat.two_mul]
  refine ⟨fun h1 => ?_, fun h0 => ?_, fun h1 => ?_⟩
  · rw [h1, Nat.mul_one] at e; omega
  · rw [h0, Nat.mul_zero] at e; omega
  · have := Nat.mul_le_mul_left b h1
    omega
set_option maxHeartbeats 3200000 in
theorem many_any (s : ByteArray) (n M : Nat) (w : World) (hn : n ≤ 1000000) (hM : s.size * n ≤ M) (hs : s.size ≤ 100) (hM2 : 100 ≤ M) (hM3 : M ≤ 1000000) :
    Calls Tryz.prog 38 #[.string s, .int .i64 (n : Int)] w fun e w' => (∃ t : ByteArray, e = .returned (.string t) ∧ t.size ≤ M) ∧ w' = w := by
  go_enter Tryz.func38, Tryz.ntmps38
  go_wp2_with fail
  go_loopw [0, 1, 5] (fun x i o wr => ∃ (k : Nat) (b a : ByteArray), k ≤ n ∧ x = .string b ∧ i = .int .i64 (k : Int) ∧ o = .string a ∧ Hid (a.size + b.size * k ≤ M ∧ b.size ≤ 2 * M) ∧ wr = w) (fun _ i _ _ => (intOf i).toNat)
  case atStart => exact ⟨n, s, ⟨#[]⟩, Nat.le_refl _, rfl, rfl, rfl, hide ⟨by have e : (⟨#[]⟩ : ByteArray).size = 0 := rfl; rw [e]; omega, by omega⟩, rfl⟩
  case round =>
    obtain ⟨k, b, a, hk, rfl, rfl, rfl, HI, hwr⟩ := hrel
    by_cases h0 : 1 ≤ k
    · obtain ⟨s1, s2, s3⟩ := many_step a.size b.size k M (unhide HI).1
      have hb := s3 h0
      have ha : a.size ≤ M := by have := (unhide HI).1; omega
      have hk2 : (k : Int).tmod 2 = ((k % 2 : Nat) : Int) := by rw [Int.tmod_eq_emod_of_nonneg (by omega)]; omega
      have hd2 : (k : Int).tdiv 2 = ((k / 2 : Nat) : Int) := by rw [Int.tdiv_eq_ediv_of_nonneg (by omega)]; omega
      have l1 : ¬ 9223372036854775807 < b.size + b.size := by omega
      have l2 : ¬ 9223372036854775807 < a.size + b.size := by omega
      by_cases hodd : k % 2 = 1
      · have HI2 := hide (show (a ++ b).size + (b ++ b).size * (k / 2) ≤ M ∧ (b ++ b).size ≤ 2 * M from ⟨by simpa using s1 hodd, by simp; omega⟩)
        rw [hodd] at hk2
        clear s1 s2 s3 HI hodd
        go_wp2_with fail
        exact ⟨⟨k / 2, _, _, by omega, rfl, by rw [Int.natCast_ediv]; rfl, rfl, HI2, trivial⟩, by simp [intOf]; omega⟩
      · have HI2 := hide (show a.size + (b ++ b).size * (k / 2) ≤ M ∧ (b ++ b).size ≤ 2 * M from ⟨by simpa using s2 (by omega), by simp; omega⟩)
        have hk0 : k % 2 = 0 := by omega
        rw [hk0] at hk2
        clear s1 s2 s3 HI hodd hk0
        go_wp2_with fail
        exact ⟨⟨k / 2, _, _, by omega, rfl, by rw [Int.natCast_ediv]; rfl, rfl, HI2, trivial⟩, by simp [intOf]; omega⟩
    · have HA := hide (show a.size ≤ M by have := (unhide HI).1; omega)
      go_wp2_with fail
      go_ret
      exact ⟨⟨_, rfl, unhide HA⟩, rfl⟩
end Go.Proofs.YtiebfcefmdiajaaGreatDoor

set_option linter.unusedVariables false
namespace Go.Proofs.YtiebfcefmdiajaaGreatDoor
open Go.RowKit Go.Maps Go.Deep

set_option maxHeartbeats 3200000 in
theorem drawSln_st (w : World) (a : Option Addr) (cap : Nat) (bs : List UInt8) (hl : bs.length ≤ maxLen) (hc : bs.length ≤ cap) (hb : ByIn w a bs) :
    Calls Tryz.prog 11 #[.slice a bs.length cap] w fun e w' => RetDT w e w' := by
  have X0 := hide (boxF_new w zero6 24)
  have B0 := hide ((Below.refl w.heap.size w).alloc (Nat.le_refl _) (.cells zero6.toArray 24))
  have HO := hide (l1Open_any (w.alloc (.cells zero6.toArray 24)) a bs.length cap hl hc (bytesIn33 (hb.up (unhide B0))))
  have HZ := hide (show (w.alloc (.cells zero6.toArray 24)).heap.size = w.heap.size + 1 by simp)
  rw [show (zero6.toArray) = #[.int .i64 0, .int .i64 0, .int .i64 0, .string ⟨#[]⟩, .int .i64 0, .slice none 0 0] from rfl] at X0 B0 HO HZ
  clear hb hl hc
  go_enter Tryz.func11, Tryz.ntmps11
  go_wp2_with fail
  generalize w.alloc (.cells #[.int .i64 0, .int .i64 0, .int .i64 0, .string ⟨#[]⟩, .int .i64 0, .slice none 0 0] 24) = W0 at *
  refine (unhide HO).mono ?_
  rintro e w1 ⟨g, rfl, hr1, ht1⟩
  have B1 := hide (show Below W0.heap.size W0 w1 from ht1.below (Nat.le_refl _) (by simp))
  have X1 := hide ((unhide X0).up (unhide B1))
  have HGA := hide hr1.above
  have HS := hide (l33Say_any W0.heap.size g 0 w1 w1 (by omega) (Rdy.refl hr1 (Nat.le_refl 0)))
  clear hr1 ht1 HO X0
  go_wp2_with fail
  refine (unhide HS).mono ?_
  rintro e w2 ⟨k, f, t, nm, v, a2, n2, c2, s, rfl, R2, F2, D2, Z2⟩
  have X2 := hide ((unhide X1).turn (unhide D2).turn (by have := unhide HGA; have := unhide HZ; simp; omega))
  have B2 := hide (((unhide B0).trans ((unhide B1).mono (unhide B0).size)).trans ((unhide D2).below33 (B := w.heap.size) (by have := (unhide B0).size; have := (unhide B1).size; omega) (unhide B0).size))
  have hz2 := unhide X2
  unfold zero6 at hz2
  obtain ⟨⟨y0, y1, y2, y3, y4, y5⟩, z0, z1, z2, z3, z4, z5⟩ := six33 hz2
  have KEY := hide (show ∀ W', Turn [w.heap.size] w2 W' → RetDT w (.returned (.agg #[.int .i64 k, .int .i64 f, .int .i64 t, .string nm, .int .i64 v, .slice a2 n2 c2])) W' from fun W' tt =>
    ⟨_, _, _, _, _, _, _, _, s, rfl, hide (fun V S tv hS => unhide R2 V (w.heap.size :: S) ((tt.mono (fun k hk => by simp at hk; exact .inl (by simp [hk]))).trans (tv.mono (fun k hk => .inl (by simp [hk])))) (by have h1 := (unhide B0).size; have h2 := (unhide B1).size; intro k hk; simp at hk; rcases hk with rfl | hk; omega; have := hS k hk; omega)), F2, (unhide B2).trans (tt.below (unhide B2).size (by simp))⟩)
  clear hz2 X1 HS R2 F2 D2 Z2
  go_wp2_with fail
  refine bodyPost_ret (v := .agg #[.int .i64 k, .int .i64 f, .int .i64 t, .string nm, .int .i64 v, .slice a2 n2 c2]) (by simp [results, Tryz.results11, go_sem, y0, y1, y2, y3, y4, y5]) rfl ?_
  exact unhide KEY _ (((((((Turn.refl [w.heap.size] w2).setCell (g := w.heap.size) (by simp) _ _).setCell (g := w.heap.size) (by simp) _ _).setCell (g := w.heap.size) (by simp) _ _).setCell (g := w.heap.size) (by simp) _ _).setCell (g := w.heap.size) (by simp) _ _).setCell (g := w.heap.size) (by simp) _ _)
theorem drawSln_any (w : World) (a : Option Addr) (cap : Nat) (bs : List UInt8) (hl : bs.length ≤ maxLen) (hc : bs.length ≤ cap) (hb : ByIn w a bs) :
    Calls Tryz.prog 11 #[.slice a bs.length cap] w fun e w' => RetDS w e w' := (drawSln_st w a cap bs hl hc hb).mono fun _ w' h => by
  obtain ⟨k, f, t, nm, v, a, n, c, s, h0, h1, h2, h3⟩ := h
  exact ⟨k, f, t, nm, v, a, n, c, s, h0, hide (unhide h1 w' [] (Turn.refl _ _) (by simp)), h2, h3⟩
def lt7 (k : Nat) : ByteArray := [(⟨#[]⟩ : ByteArray), ⟨#[32]⟩, ⟨#[48]⟩, ⟨#[45]⟩, ⟨#[57]⟩, ⟨#[58]⟩, ⟨#[97]⟩].getD k ⟨#[]⟩
theorem lt7_size (k : Nat) : (lt7 k).size ≤ 1 := by
  unfold lt7
  match k with
  | 0 => decide
  | 1 => decide
  | 2 => decide
  | 3 => decide
  | 4 => decide
  | 5 => decide
  | 6 => decide
  | k + 7 => simp; decide
theorem lt7_cell (w : World) (k : Nat) (hk : k < 7) : (w.alloc (.cells #[.string ⟨#[]⟩, .string ⟨#[32]⟩, .string ⟨#[48]⟩, .string ⟨#[45]⟩, .string ⟨#[57]⟩, .string ⟨#[58]⟩, .string ⟨#[97]⟩] 9)).cell? ⟨w.heap.size, k, none⟩ = some (.string (lt7 k)) := by
  have h := (boxF_new w [.string ⟨#[]⟩, .string ⟨#[32]⟩, .string ⟨#[48]⟩, .string ⟨#[45]⟩, .string ⟨#[57]⟩, .string ⟨#[58]⟩, .string ⟨#[97]⟩] 9).1
  match k, hk with
  | 0, _ => exact h.at 0 _ rfl
  | 1, _ => exact h.at 1 _ rfl
  | 2, _ => exact h.at 2 _ rfl
  | 3, _ => exact h.at 3 _ rfl
  | 4, _ => exact h.at 4 _ rfl
  | 5, _ => exact h.at 5 _ rfl
  | 6, _ => exact h.at 6 _ rfl
def lt2 (k : Nat) : ByteArray := [(⟨#[]⟩ : ByteArray), ⟨#[50]⟩].getD k ⟨#[]⟩
theorem lt2_size (k : Nat) : (lt2 k).size ≤ 3 := by
  unfold lt2
  match k with
  | 0 => decide
  | 1 => decide
  | k + 2 => simp; decide
theorem lt2_cell (w : World) (k : Nat) (hk : k < 2) : (w.alloc (.cells #[.string ⟨#[]⟩, .string ⟨#[50]⟩] 9)).cell? ⟨w.heap.size, k, none⟩ = some (.string (lt2 k)) := by
  have h := (boxF_new w [.string ⟨#[]⟩, .string ⟨#[50]⟩] 9).1
  match k, hk with
  | 0, _ => exact h.at 0 _ rfl
  | 1, _ => exact h.at 1 _ rfl
theorem ext_szL (s : ByteArray) (a b : Nat) : (s.extract a b).size ≤ s.size := by
  rw [ByteArray.size_extract]
  omega
theorem wrapL {x : Int} (h0 : 0 ≤ x) (h1 : x ≤ 1000000) : IntKind.i64.wrap x = x := by
  rw [IntKind.wrap_i64]
  omega
theorem lineOut_size {s : SayV} (hv : F64 s.val) : (lineOut s).size ≤ 400 := by
  cases h : sayOkB s
  · rw [lineOut_none h]; decide
  · rw [(own_line h hv).2.1]; exact (own_line h hv).1
def RetDL (w : World) (e : Ending) (w' : World) : Prop := ∃ t : ByteArray, e = .returned (.string t) ∧ t.size ≤ 1000 ∧ Below w.heap.size w w'
set_option maxRecDepth 20000 in
set_option maxHeartbeats 6400000 in
theorem drawLine_any (w : World) (a : Option Addr) (cap : Nat) (bs : List UInt8) (hl : bs.length ≤ maxLen) (hc : bs.length ≤ cap) (hb : ByIn w a bs) :
    Calls Tryz.prog 16 #[.slice a bs.length cap] w fun e w' => RetDL w e w' := by
  have HO := hide (l1Open_any w a bs.length cap hl hc (bytesIn33 hb))
  clear hb hl hc
  go_enter Tryz.func16, Tryz.ntmps16
  go_wp2_with fail
  refine (unhide HO).mono ?_
  rintro e w1 ⟨g, rfl, hr1, ht1⟩
  have B1 := hide (show Below w.heap.size w w1 from ht1.below (Nat.le_refl _) (by simp))
  have HGE := hide hr1.above
  have HM := hide (l33Say_any w.heap.size g 0 w1 w1 (by omega) (Rdy.refl hr1 (Nat.le_refl 0)))
  have hg1 : g < w1.heap.size := hr1.lt
  clear hr1 ht1 HO
  go_wp2_with fail
  refine (unhide HM).mono ?_
  rintro e w2 ⟨sk, sf, st, sn, sl, sa, sm, sc, s, rfl, R2, F2, D2, Z2⟩
  have HTX := hide (specLine_any s (.agg #[.int .i64 sk, .int .i64 sf, .int .i64 st, .string sn, .int .i64 sl, .slice sa sm sc]) w2 (unhide F2).small (unhide R2 w2 [] (Turn.refl _ _) (by simp)))
  have hsz := lineOut_size (unhide F2).2.2.2.2.1
  generalize lineOut s = t0 at *
  clear HM R2 F2
  go_wp2_with fail
  refine (unhide HTX).mono ?_
  rintro e w3 ⟨rfl, b3⟩
  have R3 := hide ((unhide D2).up b3)
  clear HTX b3 D2 Z2
  go_upto_region 3 with fail
  go_cut [18] (fun bv wx => ∃ b : Bool, bv = .bool b ∧ (b = true → 0 < t0.size) ∧ Hid (Rdy w.heap.size g 301 w1 wx))
  case first =>
    go_wp2_with fail
    refine (pick_rdy w.heap.size g _ 3 w1 w3 (by omega) (by omega) (by omega) (unhide R3)).mono ?_
    rintro e w4 ⟨x, rfl, hx, D4, T4⟩
    clear T4 R3
    by_cases h0 : x = 0
    · subst h0
      by_cases hz : 0 < t0.size
      · have hz' : (0 : Int) < (t0.size : Int) := by omega
        go_wp2_with fail
        go_meet
        exact ⟨true, rfl, fun _ => hz, D4⟩
      · have hz' : ¬ (0 : Int) < (t0.size : Int) := by omega
        go_wp2_with fail
        go_meet
        exact ⟨false, rfl, by simp, D4⟩
    · have hb : ((x : Int) == 0) = false := by rw [beq_eq_false_iff_ne]; omega
      go_wp2_with fail
      go_meet
      exact ⟨false, rfl, by simp, D4⟩
  case rest =>
  obtain ⟨b, rfl, hb, D4⟩ := hcut
  generalize wc = w4 at *
  clear R3
  go_upto_if 18 with fail
  go_cut [4, 5] (fun tv kv wx => ∃ (t1 : ByteArray), tv = .string t1 ∧ t1.size ≤ 900 ∧ Hid (Rdy w.heap.size g 310 w1 wx))
  case first =>
    cases b
    · go_wp2_with fail
      go_meet
      exact ⟨t0, rfl, by omega, hide ((unhide D4).more (by omega))⟩
    · have hz := hb rfl
      go_wp2_with fail
      refine (pick_rdy w.heap.size g _ (t0.size : Int) w1 w4 (by omega) (by omega) (by omega) (unhide D4)).mono ?_
      rintro e w5 ⟨k, rfl, hk, D5, T5⟩
      have hkn : (k : Int) ≤ (t0.size : Int) := by omega
      have hg5 : g < w5.heap.size := Nat.lt_of_lt_of_le hg1 (unhide D5).turn.size
      have D0 := hide ((unhide D5).self.up (Below.refl _ _).drew)
      have DA := hide (((unhide D5).self.alloc (.cells #[.string ⟨#[]⟩, .string ⟨#[32]⟩, .string ⟨#[48]⟩, .string ⟨#[45]⟩, .string ⟨#[57]⟩, .string ⟨#[58]⟩, .string ⟨#[97]⟩] 9)).up (Below.refl _ _).drew)
      have LTA := hide (show w5.heap.size < (w5.alloc (.cells #[.string ⟨#[]⟩, .string ⟨#[32]⟩, .string ⟨#[48]⟩, .string ⟨#[45]⟩, .string ⟨#[57]⟩, .string ⟨#[58]⟩, .string ⟨#[97]⟩] 9)).drew.heap.size from by show w5.heap.size < (w5.alloc _).heap.size; simp)
      have hwr : ∀ x : Nat, x ≤ 1000 → IntKind.i64.wrap (x : Int) = (x : Int) := fun x hx => wrapL (by omega) (by omega)
      have HWR := hide hwr
      have KEY := hide (fun (z m : Nat) (X : World) (d : Rdy w.heap.size g 304 w5 X) => show (∃ (t1 : ByteArray), (Value.string (t0.extract 0 k ++ lt7 z ++ t0.extract m t0.size)) = .string t1 ∧ t1.size ≤ 900 ∧ Hid (Rdy w.heap.size g 310 w1 X)) from ⟨_, rfl, by have h1 := lt7_size z; have h2 := ext_szL t0 0 k; have h3 := ext_szL t0 m t0.size; rw [ByteArray.size_append, ByteArray.size_append]; omega, hide (((unhide D5).on d).more (by omega))⟩)
      have hs0 : ∀ z, ¬ 9223372036854775807 < min k t0.size + (lt7 z).size := fun z => by have h1 := lt7_size z; omega
      have hs1 : ∀ z m, ¬ 9223372036854775807 < min k t0.size + (lt7 z).size + (t0.size - m) := fun z m => by have h1 := lt7_size z; omega
      have HS0 := hide hs0
      have HS1 := hide hs1
      have HK := hide hk
      clear T5 D4 hs0 hs1 hwr
      go_wp2_with fail
      go_region_with
        (first
        | (go_at_call 37; (with_reducible show Calls _ _ #[_, .int .i64 7] w5.drew _); refine (pick_rdy w.heap.size g _ 7 w5 w5.drew (by omega) (by omega) (by omega) (unhide D0)).mono ?_; rintro e w6 ⟨z, rfl, hz7, D6, T6⟩; have hs0 := unhide HS0 z; have hz0 : (0 : Int) ≤ (z : Int) := (by omega); have c6 := lt7_cell w6 z (by omega); have E6 := hide (unhide D6); have F6 := hide ((unhide D6).alloc (.cells #[.string ⟨#[]⟩, .string ⟨#[32]⟩, .string ⟨#[48]⟩, .string ⟨#[45]⟩, .string ⟨#[57]⟩, .string ⟨#[58]⟩, .string ⟨#[97]⟩] 9)); clear T6)
        | (go_at_call 37; (with_reducible show Calls _ _ #[_, .int .i64 7] (w5.alloc _).drew _); refine (pick_rdy w.heap.size g _ 7 w5 _ (by omega) (by omega) (by omega) (unhide DA)).mono ?_; rintro e w6 ⟨z, rfl, hz7, D6, T6⟩; have hs0 := unhide HS0 z; have hz0 : (0 : Int) ≤ (z : Int) := (by omega); have c6 := ((unhide T6).cell (unhide LTA) (fun hm => (by have h2 : w5.heap.size = g := List.mem_singleton.1 hm; omega))).trans (lt7_cell w5 z (by omega)); have E6 := hide (unhide D6); have LT5 := hide (Nat.lt_of_lt_of_le (unhide LTA) (unhide T6).size); have NE5 := hide (show w5.heap.size ≠ g by omega); clear T6)
        | (go_at_call 37; (with_reducible show Calls _ _ #[_, .int .i64 2] (w6.alloc _) _); refine (pick_rdy w.heap.size g _ 2 w5 _ (by omega) (by omega) (by omega) (unhide F6)).mono ?_; rintro e w7 ⟨y, rfl, hy2, D7, T7⟩; have c7 := ((unhide T7).cell (g := w6.heap.size) (i := z) (by simp) (fun hm => (by have h2 : w6.heap.size = g := List.mem_singleton.1 hm; have h3 := (unhide D6).turn.size; omega))).trans c6; obtain ⟨m, hm, hm2⟩ : ∃ m : Nat, k + y = m ∧ (m : Int) ≤ (t0.size : Int) := ⟨k + y, rfl, by have := unhide HK; omega⟩; have hs1 := unhide HS1 z m; have hsum : (k : Int) + (y : Int) = (m : Int) := (by omega); have hwr := unhide HWR m (by omega); have hm0 : (0 : Int) ≤ (m : Int) := (by omega); have KK := hide (unhide KEY z m _ ((unhide D7).more (by omega))); clear T7)
        | (go_at_call 37; (with_reducible show Calls _ _ #[_, .int .i64 2] w6 _); refine (pick_rdy w.heap.size g _ 2 w5 w6 (by omega) (by omega) (by omega) (unhide E6)).mono ?_; rintro e w7 ⟨y, rfl, hy2, D7, T7⟩; (first | have c7 := ((unhide T7).cell (unhide LT5) (fun hm => (by have h2 : w5.heap.size = g := List.mem_singleton.1 hm; omega))).trans c6 | have c7 := lt7_cell w7 z (by omega)); obtain ⟨m, hm, hm2⟩ : ∃ m : Nat, k + y = m ∧ (m : Int) ≤ (t0.size : Int) := ⟨k + y, rfl, by have := unhide HK; omega⟩; have hs1 := unhide HS1 z m; have hsum : (k : Int) + (y : Int) = (m : Int) := (by omega); have hwr := unhide HWR m (by omega); have hm0 : (0 : Int) ≤ (m : Int) := (by omega); have KK := hide (unhide KEY z m _ ((unhide D7).more (by omega))); have KA := hide (unhide KEY z m _ (((unhide D7).more (by omega)).alloc (.cells #[.string ⟨#[]⟩, .string ⟨#[32]⟩, .string ⟨#[48]⟩, .string ⟨#[45]⟩, .string ⟨#[57]⟩, .string ⟨#[58]⟩, .string ⟨#[97]⟩] 9))); clear T7)
        | fail)
      all_goals
        go_wp2_with fail
        go_meet
        first
        | exact unhide KA
        | exact unhide KK
  case rest =>
  obtain ⟨t1, rfl, ht1, D6⟩ := hcut
  generalize wc = w6 at *
  clear D4 hb
  go_wp2_with fail
  refine (pick_rdy w.heap.size g _ 40 w1 w6 (by omega) (by omega) (by omega) (unhide D6)).mono ?_
  rintro e w7 ⟨x, rfl, hx, D7, T7⟩
  clear T7 D6
  by_cases h0 : x = 0
  · subst h0
    have HMA := hide (many_any ⟨#[49, 32]⟩ 200 400 w7 (by omega) (by decide) (by decide) (by omega) (by omega))
    have hg7 : g < w7.heap.size := Nat.lt_of_lt_of_le hg1 (unhide D7).turn.size
    have KEY := hide (fun (tm : ByteArray) (hm : tm.size ≤ 400) (z : Nat) (X : World) (t : Turn [g] w7 X) => show RetDL w (.returned (.string (tm ++ lt2 z))) X from ⟨_, rfl, by have h1 := lt2_size z; rw [ByteArray.size_append]; omega, (unhide B1).trans (((unhide D7).turn.trans t).below (unhide B1).size (by have := unhide HGE; simp; omega))⟩)
    have D8 := hide ((unhide D7).self.alloc (.cells #[.string ⟨#[]⟩, .string ⟨#[50]⟩] 9))
    have TA8 := hide (Turn.of_alloc [g] w7 (.cells #[.string ⟨#[]⟩, .string ⟨#[50]⟩] 9))
    go_wp2_with fail
    refine (unhide HMA).mono ?_
    rintro e w8 ⟨⟨tm, rfl, hm⟩, rfl⟩
    have KT := hide (unhide KEY tm hm)
    clear KEY HMA D7
    go_wp2_with fail
    refine (pick_rdy w.heap.size g _ 2 w8 _ (by omega) (by omega) (by omega) (unhide D8)).mono ?_
    rintro e w9 ⟨z, rfl, hz3, D9, T9⟩
    have c9 := ((unhide T9).cell (g := w8.heap.size) (i := z) (by simp) (fun hm => (by have h2 : w8.heap.size = g := List.mem_singleton.1 hm; omega))).trans (lt2_cell w8 z (by omega))
    have HE := hide (unhide KT z w9 ((unhide TA8).trans (unhide T9)))
    have h3 := lt2_size z
    have hs0 : ¬ 9223372036854775807 < tm.size + (lt2 z).size := by omega
    have hz0 : (0 : Int) ≤ (z : Int) := by omega
    clear D8 D9 T9 TA8 KT
    go_wp2_with fail
    go_ret
    exact unhide HE
  · have hxb : ((x : Int) == 0) = false := by rw [beq_eq_false_iff_ne]; omega
    have HE := hide (show RetDL w (.returned (.string t1)) w7 from ⟨t1, rfl, by omega, (unhide B1).trans ((unhide D7).turn.below (unhide B1).size (by have := unhide HGE; simp; omega))⟩)
    go_wp2_with fail
    go_ret
    exact unhide HE
end Go.Proofs.YtiebfcefmdiajaaGreatDoor
