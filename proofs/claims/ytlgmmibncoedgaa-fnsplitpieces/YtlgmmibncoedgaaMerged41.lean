/-
  The specification's l1Many: a text so many times.
-/
/-
  The specification's draw of who listens and of bytes that come.
-/
/-
  The laws' comparison of lists of rows of bytes.
-/
import Derived.Test.YtlgmmibncoedgaaMerged1
import Derived.Handy
import Derived.Test.YtlgmmibncoedgaaDraw33Y
import Derived.Test.YtlgmmibncoedgaaMerged17
import Derived.Lib.ConvBytes
import Derived.Test.YtlgmmibncoedgaaMerged11
import Derived.Test.YtlgmmibncoedgaaByReader
import Derived.BigQuiet
import Derived.Deep.QuietTactic
set_option linter.unusedVariables false
namespace Go.Proofs.Ytlgmmibncoedgaa
open Go.RowKit Go.Maps

theorem many_step (a b n M : Nat) (h : a + b * n ≤ M) : (n % 2 = 1 → (a + b) + (b + b) * (n / 2) ≤ M) ∧ (n % 2 = 0 → a + (b + b) * (n / 2) ≤ M) ∧ (1 ≤ n → b ≤ M) := by
  have e : b * n = (b + b) * (n / 2) + b * (n % 2) := by
    have hn : n = 2 * (n / 2) + n % 2 := by omega
    calc b * n = b * (2 * (n / 2) + n % 2) := by rw [← hn]
      _ = (b + b) * (n / 2) + b * (n % 2) := by rw [Nat.mul_add, ← Nat.mul_assoc, Nat.mul_comm b 2, Nat.two_mul]
  refine ⟨fun h1 => ?_, fun h0 => ?_, fun h1 => ?_⟩
  · rw [h1, Nat.mul_one] at e; omega
  · rw [h0, Nat.mul_zero] at e; omega
  · have := Nat.mul_le_mul_left b h1
    omega
set_option maxHeartbeats 3200000 in
theorem many_any (s : ByteArray) (n M : Nat) (w : World) (hn : n ≤ 1000000) (hM : s.size * n ≤ M) (hs : s.size ≤ 100) (hM2 : 100 ≤ M) (hM3 : M ≤ 1000000) :
    Calls Try.prog 50 #[.string s, .int .i64 (n : Int)] w fun e w' => (∃ t : ByteArray, e = .returned (.string t) ∧ t.size ≤ M) ∧ w' = w := by
  go_enter Try.func50, Try.ntmps50
  go_wp2_with fail
  go_loopw [0, 1, 5] (fun x i o wr => ∃ (k : Nat) (b a : ByteArray), k ≤ n ∧ x = .string b ∧ i = .int .i64 (k : Int) ∧ o = .string a ∧ Hid (a.size + b.size * k ≤ M ∧ b.size ≤ 2 * M) ∧ wr = w) (fun _ i _ _ => (intOf i).toNat)
  case atStart => exact ⟨n, s, ⟨#[]⟩, Nat.le_refl _, rfl, rfl, rfl, hide ⟨by have e : (⟨#[]⟩ : ByteArray).size = 0 := rfl; rw [e]; omega, by omega⟩, rfl⟩
  case round =>
    obtain ⟨k, b, a, hk, rfl, rfl, rfl, HI, hwr⟩ := hrel
    by_cases h0 : 1 ≤ k
    · obtain ⟨s1, s2, s3⟩ := many_step a.size b.size k M (unhide HI).1
      have hb := s3 h0
      have ha : a.size ≤ M := by have := (unhide HI).1; omega
      have hk2 : (k : Int).tmod 2 = ((k % 2 : Nat) : Int) := by rw [Int.tmod_eq_emod_of_nonneg (by omega)]; omega
      have hd2 : (k : Int).tdiv 2 = ((k / 2 : Nat) : Int) := by rw [Int.tdiv_eq_ediv_of_nonneg (by omega)]; omega
      have l1 : ¬ 9223372036854775807 < b.size + b.size := by omega
      have l2 : ¬ 9223372036854775807 < a.size + b.size := by omega
      by_cases hodd : k % 2 = 1
      · have HI2 := hide (show (a ++ b).size + (b ++ b).size * (k / 2) ≤ M ∧ (b ++ b).size ≤ 2 * M from ⟨by simpa using s1 hodd, by simp; omega⟩)
        rw [hodd] at hk2
        clear s1 s2 s3 HI hodd
        go_wp2_with fail
        exact ⟨⟨k / 2, _, _, by omega, rfl, by rw [Int.natCast_ediv]; rfl, rfl, HI2, trivial⟩, by simp [intOf]; omega⟩
      · have HI2 := hide (show a.size + (b ++ b).size * (k / 2) ≤ M ∧ (b ++ b).size ≤ 2 * M from ⟨by simpa using s2 (by omega), by simp; omega⟩)
        have hk0 : k % 2 = 0 := by omega
        rw [hk0] at hk2
        clear s1 s2 s3 HI hodd hk0
        go_wp2_with fail
        exact ⟨⟨k / 2, _, _, by omega, rfl, by rw [Int.natCast_ediv]; rfl, rfl, HI2, trivial⟩, by simp [intOf]; omega⟩
    · have HA := hide (show a.size ≤ M by have := (unhide HI).1; omega)
      go_wp2_with fail
      go_ret
      exact ⟨⟨_, rfl, unhide HA⟩, rfl⟩
end Go.Proofs.Ytlgmmibncoedgaa

set_option linter.unusedVariables false
namespace Go.Proofs.Ytlgmmibncoedgaa
open Go.RowKit Go.Maps Go.Deep

theorem conv_rd (w : World) (t : ByteArray) : ByRd (Lib.bytesWorld w 5 t) (.slice (some ⟨w.heap.size, 0, none⟩) t.size (grownCap w t.size 0 5)) t.data.toList := by
  refine ⟨some ⟨w.heap.size, 0, none⟩, grownCap w t.size 0 5, by simp, .inr ⟨w.heap.size, 0, rfl, by rw [Lib.bytesWorld_size]; omega, fun i hi => ?_⟩, ?_⟩
  · have h := conv_cell w 5 t i (by simpa using hi)
    rw [Nat.zero_add, h]
    rfl
  · have := grownCap_ge w t.size 0 5
    simpa using this
theorem rdTz {w w' : World} {a : Option Addr} {n c : Nat} {bs : List UInt8} {S : List Nat} (h : ByRd w (.slice a n c) bs) (hS : ∀ b off, a = some ⟨b, off, none⟩ → b ∉ S) (t : Turn S w w') : ByRd w' (.slice a n c) bs := by
  obtain ⟨a', c', e, h, hc⟩ := h
  simp only [Value.slice.injEq] at e
  obtain ⟨rfl, rfl, rfl⟩ := e
  refine ⟨a, c, rfl, ?_, hc⟩
  rcases h with h | ⟨b, off, rfl, hb, h⟩
  · exact .inl h
  · exact .inr ⟨b, off, rfl, Nat.lt_of_lt_of_le hb t.size, fun i hi => (t.cell hb (hS b off rfl)).trans (h i hi)⟩
/-- what is drawn -/
def RetDF (w : World) (e : Ending) (w' : World) : Prop := ∃ sa sn sc sl sb a n c ys, e = .returned (.tuple #[.agg #[.slice sa sn sc, .int .i64 sl], .slice a n c]) ∧ Hid (ByRd w' (.slice sa sn sc) sb) ∧ Hid (sb.length ≤ 2000) ∧ Hid (ByRd w' (.slice a n c) ys) ∧ Hid (ys.length ≤ 5000) ∧ Below w.heap.size w w'
set_option maxHeartbeats 12800000 in
theorem drawFeed_any (w : World) (a : Option Addr) (cap : Nat) (bs : List UInt8) (hl : bs.length ≤ maxLen) (hc : bs.length ≤ cap) (hb : ByIn w a bs) :
    Calls Try.prog 16 #[.slice a bs.length cap] w fun e w' => RetDF w e w' := by
  have X0 := hide (boxF_new w [.slice none 0 0, .int .i64 0] 35)
  have B0 := hide ((Below.refl w.heap.size w).alloc (Nat.le_refl _) (.cells #[.slice none 0 0, .int .i64 0] 35))
  have HO := hide (l1Open_any (w.alloc (.cells #[.slice none 0 0, .int .i64 0] 35)) a bs.length cap hl hc (bytesIn33 (hb.up (unhide B0))))
  have HZ := hide (show (w.alloc (.cells #[.slice none 0 0, .int .i64 0] 35)).heap.size = w.heap.size + 1 by simp)
  simp only [List.toArray] at X0
  clear hb hl hc
  go_enter Try.func16, Try.ntmps16
  go_wp2_with fail
  generalize w.alloc (.cells #[.slice none 0 0, .int .i64 0] 35) = W1 at *
  refine (unhide HO).mono ?_
  rintro e w1 ⟨g, rfl, hr1, ht1⟩
  have B1 := hide (show Below W1.heap.size W1 w1 from ht1.below (Nat.le_refl _) (by simp))
  have X1 := hide ((unhide X0).up (unhide B1))
  have HSP := hide (l33Split_any W1.heap.size g 0 w1 w1 (by omega) (Rdy.refl hr1 (Nat.le_refl 0)))
  have HG := hide (show W1.heap.size ≤ g from by have := hr1.above; omega)
  clear hr1 ht1 HO X0
  go_wp2_with fail
  refine (unhide HSP).mono ?_
  rintro e w2 ⟨a2, n2, c2, l2, b2, rfl, R2, L2, D2, Z2⟩
  have BW1 := hide ((unhide B0).trans ((unhide B1).mono (unhide B0).size))
  have HGW := hide (show w.heap.size < g from by have := unhide HG; have := unhide HZ; omega)
  have BW2 := hide ((unhide BW1).trans ((unhide D2).below33 (unhide BW1).size (by have := unhide HZ; omega)))
  have A3 := hide ((Below.refl w2.heap.size w2).alloc (Nat.le_refl _) (.cells #[.slice a2 n2 c2, .int .i64 l2] 35))
  have XS3 := hide (boxF_new w2 [.slice a2 n2 c2, .int .i64 l2] 35)
  simp only [List.toArray] at XS3
  have X3 := hide (((unhide X1).turn (unhide D2).turn (by have := unhide HGW; simp; omega)).up (unhide A3))
  have D3 := hide ((unhide D2).up (unhide A3))
  have BW3 := hide ((unhide BW2).trans ((unhide A3).mono (unhide BW2).size))
  have HGS := hide (show g < w2.heap.size ∧ w.heap.size < w2.heap.size from ⟨Nat.lt_of_lt_of_le (unhide D2).lt (unhide D2).size, by have := unhide HGW; have := (unhide D2).lt; have := (unhide D2).size; omega⟩)
  have HGB := hide (show ∀ y, (Value.slice a2 n2 c2).ownBlock = some y → w.heap.size < y ∧ g < y from fun y hy => by have h1 := (unhide R2).ge y hy; have h2 := (unhide D2).lt; have h3 := unhide HGW; omega)
  have RB3 := hide ((unhide R2).up (unhide A3))
  have LB := hide (unhide L2)
  have HST := hide (l33Stream_any W1.heap.size g 7000 _ _ (by omega) (unhide D3).self)
  clear X1 D2 R2 L2 Z2 HSP A3 B1 BW1 BW2
  go_wp2_with fail
  generalize w2.alloc (.cells #[.slice a2 n2 c2, .int .i64 l2] 35) = W3 at *
  generalize w2.heap.size = gs at *
  refine (unhide HST).mono ?_
  rintro e w4 ⟨a4, n4, c4, st, rfl, R4, L4, D44, Z4⟩
  have XS4 := hide ((unhide XS3).turn (unhide D44).turn (by have := unhide HGS; simp; omega))
  have X4 := hide ((unhide X3).turn (unhide D44).turn (by have := unhide HGW; simp; omega))
  have RB4 := hide ((unhide RB3).turn (unhide D44).turn (fun y hy => by have := unhide HGB y hy; simp; omega))
  have D4 := hide ((unhide D3).on (unhide D44))
  have BW4 := hide ((unhide BW3).trans ((unhide D44).below33 (unhide BW3).size (by have := unhide HZ; omega)))
  have HGE := hide (show ∀ y, (Value.slice a4 n4 c4).ownBlock = some y → w.heap.size < y ∧ g < y from fun y hy => by have h1 := (unhide R4).ge y hy; have h2 := (unhide XS3).1.1; have h3 := unhide HGS; omega)
  clear XS3 X3 D3 D44 BW3 Z4 HST RB3
  go_wp2_with fail
  refine (pick_rdy W1.heap.size g _ 60 w1 w4 (by omega) (by omega) (by omega) (unhide D4)).mono ?_
  rintro e w5 ⟨z, rfl, hz, D5, T5⟩
  have XS5 := hide ((unhide XS4).turn (unhide T5) (by have := unhide HGS; simp; omega))
  have X5 := hide ((unhide X4).turn (unhide T5) (by have := unhide HGW; simp; omega))
  have R5 := hide ((unhide R4).turn (unhide T5) (fun y hy => by have := unhide HGE y hy; simp; omega))
  have RB5 := hide ((unhide RB4).turn (unhide T5) (fun y hy => by have := unhide HGB y hy; simp; omega))
  have BW5 := hide ((unhide BW4).trans ((unhide T5).below (unhide BW4).size (by have := unhide HGW; simp; omega)))
  clear XS4 X4 R4 T5 D4 BW4 RB4
  by_cases h0 : z = 0
  · subst h0
    clear R5
    go_wp2_with fail
    refine (pick_rdy W1.heap.size g _ 2 w1 w5 (by omega) (by omega) (by omega) (unhide D5)).mono ?_
    rintro e w6 ⟨k, rfl, hk, D6, T6⟩
    have XS6 := hide ((unhide XS5).turn (unhide T6) (by have := unhide HGS; simp; omega))
    have X6 := hide ((unhide X5).turn (unhide T6) (by have := unhide HGW; simp; omega))
    have RB6 := hide ((unhide RB5).turn (unhide T6) (fun y hy => by have := unhide HGB y hy; simp; omega))
    have BW6 := hide ((unhide BW5).trans ((unhide T6).below (unhide BW5).size (by have := unhide HGW; simp; omega)))
    clear XS5 X5 T6 D5 BW5 RB5
    go_wp2_with fail
    rw [show ((4000 : Int) + (k : Int)) = ((4000 + k : Nat) : Int) by omega]
    refine (many_any ⟨#[122]⟩ (4000 + k) 5000 w6 (by omega) (by simp only [show (⟨#[122]⟩ : ByteArray).size = 1 from rfl]; omega) (by simp only [show (⟨#[122]⟩ : ByteArray).size = 1 from rfl]; omega) (by omega) (by omega)).mono ?_
    rintro e w7 ⟨⟨t, rfl, ht⟩, hw7⟩
    rw [hw7]
    clear hw7 w7
    have hcv := Lib.run_convert_string_bytes (P := Try.prog) w6 9 22 5 t Try.underlying9 Try.underlying22 Try.underlying5
    have B8 := hide (conv_below w6 5 t)
    have RD8 := hide (conv_rd w6 t)
    have XS8 := hide ((unhide XS6).up (unhide B8))
    have X8 := hide ((unhide X6).up (unhide B8))
    have BW8 := hide ((unhide BW6).trans ((unhide B8).mono (unhide BW6).size))
    have RB8 := hide ((unhide RB6).up (unhide B8))
    have HW6 := hide (show w.heap.size < w6.heap.size from (unhide X6).1.1)
    have L8 := hide (show t.data.toList.length ≤ 5000 by simpa using ht)
    clear XS6 X6 BW6 B8 ht RB6
    generalize Lib.bytesWorld w6 5 t = w8 at *
    generalize grownCap w6 t.size 0 5 = cc at *
    obtain ⟨⟨s0, s1⟩, -⟩ := two33 (unhide XS8)
    obtain ⟨⟨y0, y1⟩, z0, z1⟩ := two33 (unhide X8)
    have HE := hide (fun (V : World) (tt : Turn [w.heap.size] w8 V) => show RetDF w (.returned (.tuple #[.agg #[.slice a2 n2 c2, .int .i64 l2], .slice (some ⟨w6.heap.size, 0, none⟩) t.size cc])) V from
      ⟨_, _, _, _, _, _, _, _, t.data.toList, rfl, hide ((unhide RB8).turn tt (fun y hy => by have := unhide HGB y hy; simp; omega)).rd, LB, hide (rdTz (unhide RD8) (fun b off e => by simp only [Option.some.injEq, Addr.mk.injEq] at e; have := unhide HW6; simp; omega) tt), hide (by have := unhide L8; omega), (unhide BW8).trans (tt.below (unhide BW8).size (by simp))⟩)
    clear XS8 X8 BW8
    go_wp2_with fail
    refine bodyPost_ret (v := .tuple #[.agg #[.slice a2 n2 c2, .int .i64 l2], .slice (some ⟨w6.heap.size, 0, none⟩) t.size cc]) (by simp [results, Try.results16, go_sem, y0, y1]) rfl ?_
    exact unhide HE _ (((Turn.refl [w.heap.size] w8).setCell (g := w.heap.size) (by simp) _ _).setCell (g := w.heap.size) (by simp) _ _)
  · have k0 : ((z : Int) == 0) = false := by rw [beq_eq_false_iff_ne]; omega
    obtain ⟨⟨s0, s1⟩, -⟩ := two33 (unhide XS5)
    obtain ⟨⟨y0, y1⟩, z0, z1⟩ := two33 (unhide X5)
    have HE := hide (fun (V : World) (tt : Turn [w.heap.size] w5 V) => show RetDF w (.returned (.tuple #[.agg #[.slice a2 n2 c2, .int .i64 l2], .slice a4 n4 c4])) V from
      ⟨_, _, _, _, _, _, _, _, st, rfl, hide ((unhide RB5).turn tt (fun y hy => by have := unhide HGB y hy; simp; omega)).rd, LB, hide ((fun t => ((unhide R5).turn t (fun y hy => by have := unhide HGE y hy; simp; omega)).rd) tt), hide (by have := unhide L4; omega), (unhide BW5).trans (tt.below (unhide BW5).size (by simp))⟩)
    clear XS5 X5 BW5
    go_wp2_with fail
    refine bodyPost_ret (v := .tuple #[.agg #[.slice a2 n2 c2, .int .i64 l2], .slice a4 n4 c4]) (by simp [results, Try.results16, go_sem, y0, y1]) rfl ?_
    exact unhide HE _ (((Turn.refl [w.heap.size] w5).setCell (g := w.heap.size) (by simp) _ _).setCell (g := w.heap.size) (by simp) _ _)
end Go.Proofs.Ytlgmmibncoedgaa

set_option linter.unusedVariables false
namespace Go.Proofs.Ytlgmmibncoedgaa
open Go.RowKit Go.Maps Go.Deep

set_option maxHeartbeats 3200000 in
theorem leBodies_row (w : World) (b off cap b' off' cap' : Nat) (ns : List (List UInt8)) (hs : SmallByteSS ns) (hc : BssAt w b off ns) (hc' : BssAt w b' off' ns) (hb : b < w.heap.size) (hb' : b' < w.heap.size) :
    Calls Try.prog 19 #[.slice (some ⟨b, off, none⟩) ns.length cap, .slice (some ⟨b', off', none⟩) ns.length cap'] w fun e w' => e = .returned (.bool true) ∧ Below w.heap.size w w' := by
  have HS := hide hs.2
  have hl := hs.1
  have HC := hide hc
  have HC' := hide hc'
  clear hs hc hc'
  go_enter Try.func19, Try.ntmps19
  go_wp2_with fail
  go_loopw [5] (fun i wr => ∃ (k : Nat), k ≤ ns.length ∧ i = .int .i64 k ∧ Hid (Below w.heap.size w wr)) (fun i _ => ns.length - (intOf i).toNat)
  case atStart => exact ⟨0, Nat.zero_le _, rfl, Below.refl _ _⟩
  case round =>
    obtain ⟨k, hk, rfl, HB⟩ := hrel
    by_cases hlt : k < ns.length
    · obtain ⟨v, c0, hv⟩ := (unhide HC).up hb (unhide HB) k hlt
      obtain ⟨v', d0, hv'⟩ := (unhide HC').up hb' (unhide HB) k hlt
      obtain ⟨va, vn, vc, rfl⟩ := hv.form
      obtain ⟨va', vn', vc', rfl⟩ := hv'.form
      have cv := fun n => conv_back (hv.up (belowN wr n))
      have cv' := fun n => conv_back (hv'.up (belowN wr n))
      clear hv hv'
      generalize (⟨ns[k].toArray⟩ : ByteArray) = st at *
      go_wp2_with fail
      go_quiet (fail)
      go_wp2_with fail
      go_roundw
      case rel => exact ⟨k + 1, by omega, by go_num, hide ((unhide HB).trans ((belowN _ _).mono (unhide HB).size))⟩
      case measure => simp [intOf]; omega
    · go_wp2_with fail
      go_ret
      exact ⟨rfl, unhide HB⟩
theorem leBodies_same (ns : List (List UInt8)) (v v' : Value) (w : World) (hs : SmallByteSS ns) (h : ByteSSRd w v ns) (h' : ByteSSRd w v' ns) :
    Calls Try.prog 19 #[v, v'] w fun e w' => e = .returned (.bool true) ∧ Below w.heap.size w w' := by
  have none : ∀ a a' c c', Calls Try.prog 19 #[.slice a 0 c, .slice a' 0 c'] w fun e w' => e = .returned (.bool true) ∧ Below w.heap.size w w' := by
    intro a a' c c'
    go_enter Try.func19, Try.ntmps19
    go_wp2
    refine wp_loop_rounds 1 ?_
    rw [rounds_succ]
    go_wp2
    go_ret
    exact ⟨rfl, Below.refl _ _⟩
  obtain ⟨a, c, rfl, h⟩ := h
  obtain ⟨a', c', rfl, h'⟩ := h'
  rcases h with rfl | ⟨b, off, rfl, hb, h⟩
  · exact none a a' c c'
  · rcases h' with rfl | ⟨b', off', rfl, hb', h'⟩
    · exact none _ a' c c'
    · exact leBodies_row w b off c b' off' c' ns hs h h' hb hb'
end Go.Proofs.Ytlgmmibncoedgaa
