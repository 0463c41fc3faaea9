/-
  Marks over a list of versions, written and found again; over a word.
-/
import Derived.Test.YtiebfcefmdiajaaGreatDoorMerged12
import Derived.Test.YtiebfcefmdiajaaGreatDoorMarkText
import Derived.Deep.RegionHeld3
set_option linter.unusedVariables false
namespace Go.Proofs.YtiebfcefmdiajaaGreatDoor
open Go.RowKit Go.Maps Go.Deep

/-- the marks from k on -/
def vMark (k : Nat) (j : Nat) : VerV := ⟨mText ((k + 2 * j : Nat) : Int), ((k + 2 * j + 1 : Nat) : Int)⟩
def marksVer (k n : Nat) : List VerV := (List.range n).map (vMark k)
theorem marksVer_len (k n : Nat) : (marksVer k n).length = n := by simp [marksVer]
theorem marksVer_get (k n i : Nat) (h : i < (marksVer k n).length) : (marksVer k n)[i] = vMark k i := by simp [marksVer]
def markVTo (ns : List VerV) (k j : Nat) : List VerV := marksVer k j ++ ns.drop j
theorem markVTo_len (ns : List VerV) (k j : Nat) (h : j ≤ ns.length) : (markVTo ns k j).length = ns.length := by simp [markVTo, marksVer_len]; omega
theorem markVTo_step (ns : List VerV) (k j : Nat) (h : j < ns.length) : (markVTo ns k j).set j (vMark k j) = markVTo ns k (j + 1) := by
  unfold markVTo marksVer
  rw [List.range_succ, List.map_append, List.set_append_right _ _ (by simp)]
  simp only [List.length_map, List.length_range, Nat.sub_self]
  rw [List.append_assoc]
  congr 1
  rw [List.drop_eq_getElem_cons h]
  rfl
theorem markVTo_all (ns : List VerV) (k : Nat) : markVTo ns k ns.length = marksVer k ns.length := by simp [markVTo]
theorem VerAt.set {w : World} {b off : Nat} {ns : List VerV} (h : VerAt w b off ns) (j : Nat) (hj : j < ns.length) (t : ByteArray) (x : Int) :
    VerAt ((w.setCell ⟨b, off + j * 2, none⟩ (.string t)).setCell ⟨b, off + j * 2 + 1, none⟩ (.int .i64 x)) b off (ns.set j ⟨t, x⟩) := by
  have ne : ∀ (X : World) (p q : Nat) (v : Value), p ≠ q → (X.setCell ⟨b, q, none⟩ v).cell? ⟨b, p, none⟩ = X.cell? ⟨b, p, none⟩ := fun X p q v h => World.cell?_setCell_other _ _ _ _ (by intro e; have := congrArg Addr.off e; simp only at this; omega)
  intro i hi
  rw [List.length_set] at hi
  obtain ⟨c0, c1⟩ := h i hi
  by_cases e : i = j
  · subst e
    rw [List.getElem_set_self]
    refine ⟨?_, ?_⟩
    · rw [ne _ _ _ _ (by omega)]
      exact World.cell?_setCell_same _ _ _ c0
    · exact World.cell?_setCell_same _ _ _ (by rw [ne _ _ _ _ (by omega)]; exact c1)
  · rw [List.getElem_set_ne (fun h => e h.symm)]
    refine ⟨?_, ?_⟩
    · rw [ne _ _ _ _ (by omega), ne _ _ _ _ (by omega)]; exact c0
    · rw [ne _ _ _ _ (by omega), ne _ _ _ _ (by omega)]; exact c1
set_option maxHeartbeats 3200000 in
theorem markVerS_row (w : World) (b off cap : Nat) (ns : List VerV) (k : Nat) (hk : k ≤ 1000000000) (hl : ns.length ≤ 1048576) (hb : b < w.heap.size) (hc : VerAt w b off ns) (hf : ∀ i, i < ns.length * 2 → w.frozen? ⟨b, off + i, none⟩ = false) :
    Calls Tryz.prog 29 #[.slice (some ⟨b, off, none⟩) ns.length cap, .int .i64 (k : Int)] w fun e w' => e = .returned (.int .i64 ((k + 2 * ns.length : Nat) : Int)) ∧ Hid (VerAt w' b off (marksVer k ns.length) ∧ Turn [b] w w' ∧ ∀ i, i < ns.length * 2 → w'.frozen? ⟨b, off + i, none⟩ = false) := by
  have HC := hide hc
  clear hc
  go_enter Tryz.func29, Tryz.ntmps29
  go_wp2_with fail
  go_loopw [1, 5] (fun kv i wr => ∃ (j : Nat) (xs : List VerV), j ≤ ns.length ∧ i = .int .i64 j ∧ kv = .int .i64 ((k + 2 * j : Nat) : Int) ∧ Hid (xs = markVTo ns k j) ∧ Hid (VerAt wr b off xs) ∧ Hid (∀ i, i < ns.length * 2 → wr.frozen? ⟨b, off + i, none⟩ = false) ∧ Hid (Turn [b] w wr)) (fun _ i _ => ns.length - (intOf i).toNat)
  case atStart => exact ⟨0, _, Nat.zero_le _, rfl, rfl, rfl, HC, hide hf, Turn.refl _ _⟩
  case round =>
    obtain ⟨j, xs, hj, rfl, rfl, HXS, HV, HFZ, HT⟩ := hrel
    by_cases hlt : j < ns.length
    · have hxl : xs.length = ns.length := by rw [unhide HXS]; exact markVTo_len ns k j (by omega)
      have hjx : j < xs.length := by omega
      have hbr : b < wr.heap.size := Nat.lt_of_lt_of_le hb (unhide HT).size
      have hc0 := hide (fun (w2 : World) (hb2 : Below wr.heap.size wr w2) => show (∃ v0 v1, w2.cell? ⟨b, off + j * 2, none⟩ = some v0 ∧ w2.cell? ⟨b, off + j * 2 + 1, none⟩ = some v1) ∧ w2.frozen? ⟨b, off + j * 2, none⟩ = false ∧ w2.frozen? ⟨b, off + j * 2 + 1, none⟩ = false from by
        obtain ⟨c0, c1⟩ := unhide HV j hjx
        refine ⟨⟨_, _, (hb2.cell (by exact hbr)).trans c0, (hb2.cell (by exact hbr)).trans c1⟩, (hb2.frozen (by exact hbr)).trans (unhide HFZ _ (by omega)), (hb2.frozen (by exact hbr)).trans (by have := unhide HFZ (j * 2 + 1) (by omega); rwa [← Nat.add_assoc] at this)⟩)
      have hkj : ((k + 2 * j : Nat) : Int) ≤ 999999999999999999 := by omega
      have HM := hide (fun W => markText_any ((k + 2 * j : Nat) : Int) hkj W)
      have HXE := hide (show xs.set j ⟨mText ((k + 2 * j : Nat) : Int), ((k + 2 * j : Nat) : Int) + 1⟩ = markVTo ns k (j + 1) by rw [unhide HXS, ← markVTo_step ns k j hlt]; rfl)
      generalize mText ((k + 2 * j : Nat) : Int) = mt at *
      have hK1 : (0 : Int) ≤ ((k + 2 * j : Nat) : Int) := by omega
      have hK2 : ((k + 2 * j : Nat) : Int) ≤ 10000000000 := by omega
      clear hxl hkj
      generalize hK : ((k + 2 * j : Nat) : Int) = K at *
      have HK := hide hK
      clear hK
      go_wp2_with (first
        | (go_at_call 56; refine (unhide HM _).mono ?_; rintro e w2 ⟨rfl, hb2⟩; obtain ⟨⟨v0, v1, d0, d1⟩, f0, f1⟩ := unhide hc0 w2 hb2; have HB2 := hide hb2; clear hb2)
        | fail)
      have HV2 := hide (show VerAt ((w2.setCell ⟨b, off + j * 2, none⟩ (.string mt)).setCell ⟨b, off + j * 2 + 1, none⟩ (.int .i64 (K + 1))) b off (xs.set j ⟨mt, K + 1⟩) from VerAt.set ((unhide HV).below (unhide HB2) hbr) j hjx mt (K + 1))
      have HF2 := hide (show ∀ i, i < ns.length * 2 → ((w2.setCell ⟨b, off + j * 2, none⟩ (.string mt)).setCell ⟨b, off + j * 2 + 1, none⟩ (.int .i64 (K + 1))).frozen? ⟨b, off + i, none⟩ = false from fun i hi => by
        rw [World.frozen?_setCell, World.frozen?_setCell]
        exact ((unhide HB2).frozen (by exact hbr)).trans (unhide HFZ i hi))
      have HT2 := hide (show Turn [b] w ((w2.setCell ⟨b, off + j * 2, none⟩ (.string mt)).setCell ⟨b, off + j * 2 + 1, none⟩ (.int .i64 (K + 1))) from (((unhide HT).trans (Turn.of_below (unhide HB2))).setCell (by simp) _ _).setCell (by simp) _ _)
      have HKE := hide (show (K + 1 + 1 : Int) = ((k + 2 * (j + 1) : Nat) : Int) by have := unhide HK; omega)
      clear d0 d1 f0 f1
      go_roundw
      case rel => exact ⟨j + 1, _, by omega, by go_num, by rw [unhide HKE], HXE, HV2, HF2, HT2⟩
      case measure => simp [intOf]; omega
    · have e : j = ns.length := by omega
      subst e
      have HP := hide (show VerAt wr b off (marksVer k ns.length) by rw [← markVTo_all, ← unhide HXS]; exact unhide HV)
      go_wp2_with fail
      go_ret
      exact ⟨rfl, hide ⟨unhide HP, unhide HT, unhide HFZ⟩⟩
theorem markVerS_none (w : World) (a : Option Addr) (cap : Nat) (K : Int) : Calls Tryz.prog 29 #[.slice a 0 cap, .int .i64 K] w fun e w' => e = .returned (.int .i64 K) ∧ w' = w := by
  go_enter Tryz.func29, Tryz.ntmps29
  go_wp2
  refine wp_loop_rounds 1 ?_
  rw [rounds_succ]
  go_wp2
  go_ret
  exact ⟨rfl, rfl⟩
theorem markVerS_own (S : List Nat) (w : World) (v : Value) (ns : List VerV) (k : Nat) (hk : k ≤ 1000000000) (hl : ns.length ≤ 1048576) (h : VerOwn S w v ns) :
    Calls Tryz.prog 29 #[v, .int .i64 (k : Int)] w fun e w' => e = .returned (.int .i64 ((k + 2 * ns.length : Nat) : Int)) ∧ Hid (VerOwn S w' v (marksVer k ns.length) ∧ Turn S w w') := by
  rcases h with ⟨rfl, rfl, a, c, rfl⟩ | ⟨b, off, cap, rfl, rfl, hb, hc, hf⟩
  · refine (markVerS_none w a c k).mono ?_
    rintro e w' ⟨rfl, rfl⟩
    exact ⟨by simp, hide ⟨.inl ⟨rfl, rfl, a, c, rfl⟩, Turn.refl _ _⟩⟩
  · refine (markVerS_row w b off cap ns k hk hl hb hc hf).mono ?_
    rintro e w' ⟨rfl, P⟩
    have ht := (unhide P).2.1
    refine ⟨rfl, hide ⟨.inr ⟨b, off, cap, rfl, by rw [marksVer_len], Nat.lt_of_lt_of_le hb ht.size, (unhide P).1, by rw [marksVer_len]; exact (unhide P).2.2⟩, ht⟩⟩
set_option maxHeartbeats 3200000 in
theorem heldVerS_row (w : World) (b off cap n : Nat) (k : Nat) (hk : k ≤ 1000000000) (hl : n ≤ 1048576) (hb : b < w.heap.size) (hc : VerAt w b off (marksVer k n)) :
    Calls Tryz.prog 30 #[.slice (some ⟨b, off, none⟩) n cap, .int .i64 (k : Int)] w fun e w' => e = .returned (.int .i64 ((k + 2 * n : Nat) : Int)) ∧ Below w.heap.size w w' := by
  have HC := hide (show ∀ j, j < n → w.cell? ⟨b, off + j * 2, none⟩ = some (.string (mText ((k + 2 * j : Nat) : Int))) ∧ w.cell? ⟨b, off + j * 2 + 1, none⟩ = some (.int .i64 (((k + 2 * j : Nat) : Int) + 1)) from fun j hj => by
    have hj' : j < (marksVer k n).length := by rw [marksVer_len]; exact hj
    have := hc j hj'
    rw [marksVer_get] at this
    exact this)
  clear hc
  go_enter Tryz.func30, Tryz.ntmps30
  go_wp2_with fail
  go_loopw [1, 5] (fun kv i wr => ∃ j : Nat, j ≤ n ∧ i = .int .i64 j ∧ kv = .int .i64 ((k + 2 * j : Nat) : Int) ∧ Hid (Below w.heap.size w wr)) (fun _ i _ => n - (intOf i).toNat)
  case atStart => exact ⟨0, Nat.zero_le _, rfl, rfl, hide (Below.refl _ _)⟩
  case round =>
    obtain ⟨j, hj, rfl, rfl, HB⟩ := hrel
    by_cases hlt : j < n
    · have hkj : ((k + 2 * j : Nat) : Int) ≤ 999999999999999999 := by omega
      have HM := hide (fun W => markText_any ((k + 2 * j : Nat) : Int) hkj W)
      have HCJ := hide (fun (X : World) (bx : Below w.heap.size w X) => show X.cell? ⟨b, off + j * 2, none⟩ = some (.string (mText ((k + 2 * j : Nat) : Int))) ∧ X.cell? ⟨b, off + j * 2 + 1, none⟩ = some (.int .i64 (((k + 2 * j : Nat) : Int) + 1)) from ⟨(bx.cell (by exact hb)).trans (unhide HC j hlt).1, (bx.cell (by exact hb)).trans (unhide HC j hlt).2⟩)
      have hK1 : (0 : Int) ≤ ((k + 2 * j : Nat) : Int) := by omega
      have hK2 : ((k + 2 * j : Nat) : Int) ≤ 10000000000 := by omega
      have HKE := hide (show (((k + 2 * j : Nat) : Int) + 1 + 1 : Int) = ((k + 2 * (j + 1) : Nat) : Int) by omega)
      clear hkj
      generalize mText ((k + 2 * j : Nat) : Int) = mt at *
      generalize ((k + 2 * j : Nat) : Int) = K at *
      have HBD := hide (unhide HB).drew
      have KP := hide (show ∀ X : World, Below w.heap.size w X → X.cell? ⟨b, off + j * 2, none⟩ = some (.string mt) ∧ Hid (Below w.heap.size w X) from fun X h => ⟨(unhide HCJ X h).1, hide h⟩)
      obtain ⟨c0, c1⟩ := unhide HCJ wr (unhide HB)
      go_wp2_with fail
      go_region_held3 (fun X => X.cell? ⟨b, off + j * 2, none⟩ = some (.string mt) ∧ Hid (Below w.heap.size w X)) ((refine unhide KP _ ?_; exact unhide (by assumption)))
        (first | (go_at_call 56; refine (unhide HM _).mono ?_; rintro e w2 ⟨rfl, hb2⟩; have HB2 := hide ((unhide HBD).trans (hb2.mono (unhide HBD).size)); clear hb2))
      all_goals
        clear c0 c1
        obtain ⟨c0, c1⟩ := unhide HCJ w2 (unhide HB2)
        go_wp2_with fail
        go_roundw
        case rel => exact ⟨j + 1, by omega, by go_num, by rw [unhide HKE], HB2⟩
        case measure => simp [intOf]; omega
    · have e : j = n := by omega
      subst e
      go_wp2_with fail
      go_ret
      exact ⟨rfl, unhide HB⟩
theorem heldVerS_none (w : World) (a : Option Addr) (cap : Nat) (K : Int) : Calls Tryz.prog 30 #[.slice a 0 cap, .int .i64 K] w fun e w' => e = .returned (.int .i64 K) ∧ w' = w := by
  go_enter Tryz.func30, Tryz.ntmps30
  go_wp2
  refine wp_loop_rounds 1 ?_
  rw [rounds_succ]
  go_wp2
  go_ret
  exact ⟨rfl, rfl⟩
theorem heldVerS_rd (w : World) (v : Value) (n k : Nat) (hk : k ≤ 1000000000) (hl : n ≤ 1048576) (h : VerRd w v (marksVer k n)) :
    Calls Tryz.prog 30 #[v, .int .i64 (k : Int)] w fun e w' => e = .returned (.int .i64 ((k + 2 * n : Nat) : Int)) ∧ Below w.heap.size w w' := by
  obtain ⟨a, c, rfl, h⟩ := h
  rw [marksVer_len]
  rcases h with h0 | ⟨b, off, rfl, hb, hc⟩
  · have hn : n = 0 := by have := congrArg List.length h0; rwa [marksVer_len] at this
    subst hn
    refine (heldVerS_none w a c k).mono ?_
    rintro e w' ⟨rfl, rfl⟩
    exact ⟨by simp, Below.refl _ _⟩
  · exact heldVerS_row w b off c n k hk hl hb hc
def marksSay (k : Nat) (s : SayV) : SayV := { s with stamp := marksVer k s.stamp.length }
set_option maxHeartbeats 1600000 in
theorem markSay_kit (S : List Nat) (d : SayV) (v : Value) (w : World) (k n : Nat) (K : Int) (hK : K = (k : Int)) (hn : nSay d = n) (hk : k ≤ 1000000000) (hs : SmallSay d) (h : SayOwn S w v d) :
    Calls Tryz.prog 9 #[v, .int .i64 K] w fun e w' => e = .returned (.int .i64 (K + (n : Int))) ∧ Hid (SayOwn S w' v (marksSay k d) ∧ Turn S w w') := by
  subst hK hn
  obtain ⟨v5, rfl, h5⟩ := h
  obtain ⟨kind, src, dst, name, val, stamp⟩ := d
  have hl := hs.1.2.1
  simp only [nSay, marksSay] at hl h5 ⊢
  have HM := hide (fun W (b : Below w.heap.size w W) => markVerS_own S W v5 stamp k hk hl (h5.up b))
  obtain ⟨a, c, rfl⟩ := h5.rd.len
  have HL := hide h5.lt
  have HE := hide (show ((k + 2 * stamp.length : Nat) : Int) = (k : Int) + ((2 * stamp.length : Nat) : Int) by omega)
  clear h5 hs
  go_enter Tryz.func9, Tryz.ntmps9
  go_wp2_with fail
  refine (unhide HM _ (by go_grown)).mono ?_
  rintro e w1 ⟨rfl, P1⟩
  have HO := hide (unhide P1).1
  have HT := hide (show Turn S w w1 from (Turn.of_alloc S w _).trans (unhide P1).2)
  clear P1
  go_wp2_with fail
  go_ret
  exact ⟨ret_int (unhide HE), hide ⟨⟨_, rfl, unhide HO⟩, unhide HT⟩⟩
set_option maxHeartbeats 1600000 in
theorem heldSay_kit (d : SayV) (v : Value) (w : World) (k n : Nat) (K : Int) (hK : K = (k : Int)) (hn : nSay d = n) (hk : k ≤ 1000000000) (hs : SmallSay d) (h : SayRd w v (marksSay k d)) :
    Calls Tryz.prog 10 #[v, .int .i64 K] w fun e w' => e = .returned (.int .i64 (K + (n : Int))) ∧ Below w.heap.size w w' := by
  subst hK hn
  obtain ⟨v5, rfl, h5⟩ := h
  obtain ⟨kind, src, dst, name, val, stamp⟩ := d
  have hl := hs.1.2.1
  simp only [nSay, marksSay] at hl h5 ⊢
  have HM := hide (fun W (b : Below w.heap.size w W) => heldVerS_rd W v5 stamp.length k hk hl (h5.up b))
  obtain ⟨a, c, rfl⟩ := h5.len
  rw [marksVer_len] at HM ⊢
  have HE := hide (show ((k + 2 * stamp.length : Nat) : Int) = (k : Int) + ((2 * stamp.length : Nat) : Int) by omega)
  have hge : ¬ ((k + 2 * stamp.length : Nat) : Int) < 0 := by omega
  clear h5 hs
  generalize ((k + 2 * stamp.length : Nat) : Int) = K2 at *
  generalize stamp.length = m at *
  go_enter Tryz.func10, Tryz.ntmps10
  go_wp2_with fail
  refine (unhide HM _ (by go_grown)).mono ?_
  rintro e w1 ⟨rfl, b1⟩
  have B1 := hide (show Below w.heap.size w w1 from Below.trans (by go_grown) (b1.mono (by simp)))
  clear b1
  go_wp2_with fail
  go_ret
  exact ⟨ret_int (unhide HE), unhide B1⟩
end Go.Proofs.YtiebfcefmdiajaaGreatDoor
