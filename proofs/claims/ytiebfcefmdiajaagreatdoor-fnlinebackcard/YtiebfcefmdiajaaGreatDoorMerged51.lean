/-
  SayFrom of the program.
-/
/-
  How long a word's line is.
-/
import Derived.Test.YtiebfcefmdiajaaGreatDoorLooseI2
import Derived.Test.YtiebfcefmdiajaaGreatDoorLineI
import Derived.Test.YtiebfcefmdiajaaGreatDoorSayOkI
import Derived.Test.YtiebfcefmdiajaaGreatDoorLineFromS
import Derived.Test.YtiebfcefmdiajaaGreatDoorLineS
set_option linter.unusedVariables false
namespace Go.Proofs.YtiebfcefmdiajaaGreatDoor
open Go.RowKit Go.Maps Go.Deep

set_option maxRecDepth 20000 in
set_option maxHeartbeats 12800000 in
theorem implFrom_any (t : ByteArray) (w : World) (hs : t.size ≤ 1048576) (hE : ErrIn w) (hP : PowIn w) :
    Calls Tryz.prog 7 #[.string t] w fun e w' => RetSf t w e w' := by
  have NO := hide (fun (h : lnB t = false ∧ lnOut t = sayNone) (W : World) (bW : Below w.heap.size w W) => show RetSf t w (.returned (.tuple #[.agg #[.int .i64 0, .int .i64 0, .int .i64 0, .string ⟨#[]⟩, .int .i64 0, .slice none 0 0], .bool false])) W from
    ⟨_, [], by rw [h.1], hide (by rw [h.2]; exact zero_own W), hide (by simp), bW⟩)
  have X0 := hide (boxF_new w zeroC 24)
  have A0 := hide ((Below.refl _ w).alloc (Nat.le_refl _) (.cells zeroC.toArray 24))
  by_cases hbig : 400 < t.size
  · have hbig' : (400 : Int) < (t.size : Int) := by omega
    have hN := hide (ln_no (t := t) (.inl (by omega)))
    clear hbig hE hP
    go_enter Tryz.func7, Tryz.ntmps7
    go_wp2_with fail
    refine bodyPost_ret (v := .tuple #[.agg #[.int .i64 0, .int .i64 0, .int .i64 0, .string ⟨#[]⟩, .int .i64 0, .slice none 0 0], .bool false]) (by simp [results, Tryz.results7, go_sem]) rfl ?_
    refine unhide NO (unhide hN) _ ?_
    exact unhide A0
  have hbig' : ¬ (400 : Int) < (t.size : Int) := by omega
  have HLO := hide (fun (W : World) (lb kb : Nat) (hx : LexNew W lb kb) (hW : ErrIn W) => looseSay_any t W lb kb (by omega) hx hW)
  have HSM := hide (loose_small (t := t) (by omega))
  have HYS := hide (fun (h1 : sayOkB (looseS t.data.toList) = true) (h2 : lineT (looseS t.data.toList) = t) => ln_yes (t := t) (by omega) h1 h2)
  have HNS := hide (fun (h : sayOkB (looseS t.data.toList) = false ∨ lineT (looseS t.data.toList) ≠ t) => ln_no (t := t) (.inr h))
  generalize looseS t.data.toList = S at *
  have HER := hide hE
  have HPW := hide hP
  clear hE hP hbig
  go_enter Tryz.func7, Tryz.ntmps7
  go_wp2_with fail
  refine (newLex_any _).mono ?_
  rintro e w1 ⟨lb, kb, rfl, HL1, hl1, hk1, b1⟩
  have B1 := hide ((unhide A0).trans (b1.mono (unhide A0).size))
  have X1 := hide ((unhide X0).up b1)
  have hlw : w.heap.size < lb := by have := (unhide X0).1.1; exact Nat.lt_of_lt_of_le this hl1
  have hl1b : lb < w1.heap.size := (unhide HL1).box.1.1
  have E1 := hide ((unhide HER).below (unhide B1) (Nat.le_refl _))
  clear b1 hl1 hk1 A0 X0 HER
  go_wp2_with fail
  refine (unhide HLO _ lb kb (unhide HL1) (unhide E1)).mono ?_
  rintro e w2 ⟨oa, on, oc, rfl, V2, b2⟩
  obtain ⟨oa', oc', e'⟩ := (unhide V2).slice
  simp only [Value.slice.injEq] at e'
  obtain ⟨rfl, rfl, rfl⟩ := e'
  have B2 := hide ((unhide B1).trans (b2.mono (unhide B1).size))
  have X2 := hide ((unhide X1).up b2)
  have HL2 := hide (show LexNew w2 lb kb from ⟨(unhide HL1).box.up b2, (unhide HL1).kinds.turn (Turn.of_below (S := []) b2) (by simp), (unhide HL1).ne⟩)
  have hs12 : w1.heap.size ≤ w2.heap.size := b2.size
  clear b2 B1 X1 HL1 E1 HLO
  have A3 := hide ((Below.refl _ w2).alloc (Nat.le_refl _) (.cells #[.int .i64 S.kind, .int .i64 S.src, .int .i64 S.dst, .string S.name, .int .i64 S.val, .slice oa S.stamp.length oc] 24))
  have S3 := hide (boxF_new w2 [.int .i64 S.kind, .int .i64 S.src, .int .i64 S.dst, .string S.name, .int .i64 S.val, .slice oa S.stamp.length oc] 24)
  have B3 := hide ((unhide B2).trans ((unhide A3).mono (unhide B2).size))
  have X3 := hide ((unhide X2).up (unhide A3))
  have V3 := hide ((unhide V2).up (unhide A3))
  have HL3 := hide (show LexNew (w2.alloc (.cells #[.int .i64 S.kind, .int .i64 S.src, .int .i64 S.dst, .string S.name, .int .i64 S.val, .slice oa S.stamp.length oc] 24)) lb kb from ⟨(unhide HL2).box.up (unhide A3), (unhide HL2).kinds.turn (Turn.of_below (S := []) (unhide A3)) (by simp), (unhide HL2).ne⟩)
  have HGE := hide (unhide V2).ge
  clear X2 V2 HL2 B2
  have HOK := hide (fun (W : World) (bW : Below (w2.alloc (.cells #[.int .i64 S.kind, .int .i64 S.src, .int .i64 S.dst, .string S.name, .int .i64 S.val, .slice oa S.stamp.length oc] 24)).heap.size (w2.alloc (.cells #[.int .i64 S.kind, .int .i64 S.src, .int .i64 S.dst, .string S.name, .int .i64 S.val, .slice oa S.stamp.length oc] 24)) W) => implSayOk_any S (.agg #[.int .i64 S.kind, .int .i64 S.src, .int .i64 S.dst, .string S.name, .int .i64 S.val, .slice oa S.stamp.length oc]) W (unhide HSM) ⟨_, rfl, ((unhide V3).up bW).rd⟩)
  have HLN := hide (fun (hok : sayOkB S = true) (W : World) (bW : Below (w2.alloc (.cells #[.int .i64 S.kind, .int .i64 S.src, .int .i64 S.dst, .string S.name, .int .i64 S.val, .slice oa S.stamp.length oc] 24)).heap.size (w2.alloc (.cells #[.int .i64 S.kind, .int .i64 S.src, .int .i64 S.dst, .string S.name, .int .i64 S.val, .slice oa S.stamp.length oc] 24)) W) => implLine_any S oa oc w W lb kb hok (unhide HSM).2.2.2.2.2 (by
      obtain ⟨a9, c9, e9, h9⟩ := ((unhide V3).up bW).rd
      simp only [Value.slice.injEq] at e9
      obtain ⟨rfl, -, rfl⟩ := e9
      exact h9)
    (fun h0 sb off e => by
      have := unhide HGE sb (by rw [e]; rfl)
      omega)
    ⟨(unhide HL3).box.up bW, (unhide HL3).kinds.turn (Turn.of_below (S := []) bW) (by simp), (unhide HL3).ne⟩
    ⟨unhide HPW, (unhide B3).trans (bW.mono (unhide B3).size), by omega⟩)
  go_wp2_with fail
  have hw3 : w2.heap.size < (w2.alloc (.cells #[.int .i64 S.kind, .int .i64 S.src, .int .i64 S.dst, .string S.name, .int .i64 S.val, .slice oa S.stamp.length oc] 24)).heap.size := (unhide S3).1.1
  have HGW := hide (show ∀ y, (Value.slice oa S.stamp.length oc).ownBlock = some y → w.heap.size < y from fun y hy => by have := unhide HGE y hy; omega)
  generalize w2.alloc (.cells #[.int .i64 S.kind, .int .i64 S.src, .int .i64 S.dst, .string S.name, .int .i64 S.val, .slice oa S.stamp.length oc] 24) = W3 at *
  refine (unhide HOK _ (Below.refl _ _)).mono ?_
  rintro e w4 ⟨rfl, b4⟩
  have BK4 := hide b4
  have B4 := hide ((unhide B3).trans (b4.mono (unhide B3).size))
  have X4 := hide ((unhide X3).up b4)
  have S4 := hide ((unhide S3).up b4)
  clear b4 HOK B3 X3 S3 A3 HL3 HPW HSM
  obtain ⟨⟨k0, k1, k2, k3, k4, k5⟩, -⟩ := (unhide S4).six6
  cases hok : sayOkB S
  · have hN := hide (unhide HNS (.inl hok))
    obtain ⟨⟨x0, x1, x2, x3, x4, x5⟩, y0, y1, y2, y3, y4, y5⟩ := (unhide X4).six6
    clear hok HYS HNS HLN V3 X4 S4 HGW HGE
    go_wp2_with fail
    refine bodyPost_ret (v := .tuple #[.agg #[.int .i64 0, .int .i64 0, .int .i64 0, .string ⟨#[]⟩, .int .i64 0, .slice none 0 0], .bool false]) (by simp [results, Tryz.results7, go_sem, x0, x1, x2, x3, x4, x5]) rfl ?_
    refine unhide NO (unhide hN) _ ?_
    (iterate 6 (refine Below.setCell ?_ (by exact Nat.le_refl _) _))
    exact unhide B4
  have HL5 := hide (unhide HLN hok _ (unhide BK4))
  have HYK := hide (unhide HYS hok)
  have HNK := hide (fun (h : lineT S ≠ t) => unhide HNS (.inr h))
  clear hok HYS HNS HLN
  go_wp2_with fail
  refine (unhide HL5).mono ?_
  rintro e w5 ⟨rfl, t5⟩
  have T5 := hide t5
  have B5 := hide ((unhide B4).trans (t5.below (unhide B4).size (by simp; omega)))
  have X5 := hide ((unhide X4).turn t5 (by simp; omega))
  have S5 := hide ((unhide S4).turn t5 (by simp; omega))
  have V5 := hide (((unhide V3).up (unhide BK4)).keep (w' := w5) (fun y hy => t5.block y (((unhide V3).up (unhide BK4)).lt y hy) (by have := (unhide V3).ge y hy; simp; omega)))
  clear t5 HL5 BK4 B4 X4 S4 V3 k0 k1 k2 k3 k4 k5 T5
  obtain ⟨⟨k0, k1, k2, k3, k4, k5⟩, -⟩ := (unhide S5).six6
  obtain ⟨⟨x0, x1, x2, x3, x4, x5⟩, y0, y1, y2, y3, y4, y5⟩ := (unhide X5).six6
  have hsm := str_same10 (lineT S) t
  by_cases hq : lineT S = t
  · have HY := hide (unhide HYK hq)
    rw [decide_eq_true hq] at hsm
    have HEND := hide (fun (W : World) (tW : Turn [w.heap.size] w5 W) => show RetSf t w (.returned (.tuple #[.agg #[.int .i64 S.kind, .int .i64 S.src, .int .i64 S.dst, .string S.name, .int .i64 S.val, .slice oa S.stamp.length oc], .bool true])) W from by
      have hvr := (unhide V5).keep (w' := W) (fun y hy => tW.block y ((unhide V5).lt y hy) (by have := unhide HGW y hy; simp; omega))
      obtain ⟨Sv, hSv, hge, -⟩ := hvr.own
      exact ⟨_, Sv, by rw [(unhide HY).1], hide (by rw [(unhide HY).2]; exact ⟨_, rfl, hSv⟩), hide (fun k hk => by have := hge k hk; omega), (unhide B5).trans (tW.below (unhide B5).size (by simp))⟩)
    clear hq HY HYK HNK V5 HGW HGE X5 S5
    generalize lineT S = LT at *
    go_wp2_with fail
    refine bodyPost_ret (v := .tuple #[.agg #[.int .i64 S.kind, .int .i64 S.src, .int .i64 S.dst, .string S.name, .int .i64 S.val, .slice oa S.stamp.length oc], .bool true]) (by simp [results, Tryz.results7, go_sem, x0, x1, x2, x3, x4, x5]) rfl ?_
    refine unhide HEND _ ?_
    (iterate 6 (refine Turn.setCell ?_ (by simp) _ _))
    exact Turn.refl _ _
  · have hN := hide (unhide HNK hq)
    rw [decide_eq_false hq] at hsm
    clear hq HYK HNK V5 HGW HGE X5 S5
    generalize lineT S = LT at *
    go_wp2_with fail
    refine bodyPost_ret (v := .tuple #[.agg #[.int .i64 0, .int .i64 0, .int .i64 0, .string ⟨#[]⟩, .int .i64 0, .slice none 0 0], .bool false]) (by simp [results, Tryz.results7, go_sem, x0, x1, x2, x3, x4, x5]) rfl ?_
    refine unhide NO (unhide hN) _ ?_
    (iterate 6 (refine Below.setCell ?_ (by exact Nat.le_refl _) _))
    exact unhide B5
end Go.Proofs.YtiebfcefmdiajaaGreatDoor

set_option linter.unusedVariables false
namespace Go.Proofs.YtiebfcefmdiajaaGreatDoor
open Go.RowKit Go.Maps Go.Deep

theorem itoa_ver (n : Int) (h0 : 1 ≤ n) (h1 : n ≤ 1099511627776) : (itoaB n).size ≤ 13 := by
  unfold itoaB Lib.itoa
  rw [size_lit, if_neg (by omega)]
  exact dec_len n.toNat 12 (by omega)
theorem verT_short {x : VerV} (h : plainB x.a0 = true ∧ 1 ≤ x.a1 ∧ x.a1 ≤ 1099511627776) : (verT x).size ≤ 22 := by
  have h8 := (plain_size h.1).2
  have := itoa_ver x.a1 h.2.1 h.2.2
  have e : (⟨#[58]⟩ : ByteArray).size = 1 := rfl
  simp only [verT, ByteArray.size_append, e]
  omega
theorem lineT_size {s : SayV} (hok : sayOkB s = true) (hv : -9223372036854775808 ≤ s.val ∧ s.val ≤ 9223372036854775807) : (lineT s).size ≤ 400 := by
  obtain ⟨h1, h2, h3, h4⟩ := okS hok
  have hst : s.stamp.length ≤ 12 ∧ ∀ x ∈ s.stamp, plainB x.a0 = true ∧ 1 ≤ x.a1 ∧ x.a1 ≤ 1099511627776 := by
    rcases h4 with ⟨-, -, h4⟩ | ⟨-, -, h4⟩
    · exact stamp_vers h4
    · rw [h4]; simp
  have hz := joinB_len (lineW s) 22 (fun t ht => by
    unfold lineW at ht
    simp only [List.mem_append, List.mem_cons, List.not_mem_nil, or_false] at ht
    rcases ht with (rfl | rfl | rfl | rfl) | ht
    · have := itoaB_size s.src (by omega) (by omega); omega
    · have := itoaB_size s.dst (by omega) (by omega); omega
    · have := kindT_size s.kind; omega
    · have := plain_size h3; omega
    · split at ht
      · rcases List.mem_cons.1 ht with rfl | ht
        · have := itoaB_size s.val hv.1 hv.2; omega
        · obtain ⟨x, hx, rfl⟩ := List.mem_map.1 ht
          exact verT_short (hst.2 x hx)
      · cases ht)
  have hl : (lineW s).length ≤ 17 := by
    unfold lineW
    split <;> simp <;> omega
  unfold lineT
  omega
theorem own_line {s : SayV} (hok : sayOkB s = true) (hv : F64 s.val) : (lineT s).size ≤ 400 ∧ lineOut s = lineT s ∧ lnB (lineT s) = true ∧ lnOut (lineT s) = s := by
  have hz := lineT_size hok hv
  exact ⟨hz, by unfold lineOut; rw [if_pos hok], ln_line hok hv hz⟩
theorem lineOut_none {s : SayV} (h : sayOkB s = false) : lineOut s = ⟨#[]⟩ := by
  unfold lineOut
  rw [h]
  rfl
theorem ln_empty : lnB ⟨#[]⟩ = false ∧ lnOut ⟨#[]⟩ = sayNone := by
  refine ln_parts ?_
  decide
end Go.Proofs.YtiebfcefmdiajaaGreatDoor
