/-
  The specification's draw of a stamp of a word. (Made by wip/mkdrawsay.py.)
-/
import Derived.Test.YtiebfcefmdiajaaGreatDoorMerged14
import Derived.Test.YtiebfcefmdiajaaGreatDoorByReader
import Derived.Laws.BytesArg
set_option linter.unusedVariables false
namespace Go.Proofs.YtiebfcefmdiajaaGreatDoor
open Go.RowKit Go.Maps Go.Deep

def stF33 (j : Nat) : ByteArray := [(⟨#[97, 98, 99, 100, 101, 102, 103, 104]⟩ : ByteArray), ⟨#[113]⟩, ⟨#[115, 45, 49]⟩, ⟨#[120]⟩, ⟨#[121]⟩, ⟨#[122, 57]⟩].getD j ⟨#[]⟩
theorem stF33_size (j : Nat) : (stF33 j).size ≤ 100 := by
  match j with
  | 0 | 1 | 2 | 3 | 4 | 5 => decide
  | n + 6 => simp [stF33, ByteArray.size]
def vrF33 (j : Nat) : Int := [(1099511627776 : Int), 1099511627775, 1].getD j 0
def VF33 (x : VerV) : Prop := x.a0.size ≤ 100 ∧ -10 ≤ x.a1 ∧ x.a1 ≤ 1000000000000000
theorem vrF33_fit (j : Nat) : -10 ≤ vrF33 j ∧ vrF33 j ≤ 1000000000000000 := by
  match j with
  | 0 | 1 | 2 => unfold vrF33; decide
  | n + 3 => simp [vrF33]
theorem vf_snoc {vs : List VerV} {x : VerV} (h : ∀ y ∈ vs, VF33 y) (hx : VF33 x) : ∀ y ∈ vs ++ [x], VF33 y := fun y hy => by
  rcases List.mem_append.1 hy with hy | hy
  · exact h y hy
  · simp at hy
    subst hy
    exact hx
def RetSt33 (base g N : Nat) (w0 w : World) (e : Ending) (w' : World) : Prop := ∃ a n c vs, e = .returned (.slice a n c) ∧ Hid (VrRow w.heap.size w' (.slice a n c) vs) ∧ Hid (vs.length ≤ 20) ∧ Hid (∀ x ∈ vs, VF33 x) ∧ Hid (Rdy base g (N + 100) w0 w') ∧ Hid (w.heap.size ≤ w'.heap.size)
set_option maxHeartbeats 12800000 in
theorem l33Stamp_any (base g N : Nat) (w0 w : World) (hN : N ≤ 1000000) (h : Rdy base g N w0 w) :
    Calls Tryz.prog 58 #[.pointer (some ⟨g, 0, none⟩)] w fun e w' => RetSt33 base g N w0 w e w' := by
  have HZ := hide (Nat.lt_of_lt_of_le h.lt h.turn.size)
  have HR := hide h
  have bb := (Below.refl w.heap.size w).alloc (Nat.le_refl _) (.cells #[.string ⟨#[97, 98, 99, 100, 101, 102, 103, 104]⟩, .string ⟨#[113]⟩, .string ⟨#[115, 45, 49]⟩, .string ⟨#[120]⟩, .string ⟨#[121]⟩, .string ⟨#[122, 57]⟩] 9)
  have NMS := hide (show ∀ j, j < 6 → (w.alloc (.cells #[.string ⟨#[97, 98, 99, 100, 101, 102, 103, 104]⟩, .string ⟨#[113]⟩, .string ⟨#[115, 45, 49]⟩, .string ⟨#[120]⟩, .string ⟨#[121]⟩, .string ⟨#[122, 57]⟩] 9)).cell? ⟨w.heap.size, j, none⟩ = some (.string (stF33 j)) from fun j hj => by
    rw [World.cell?_alloc_at _ _ _ _ rfl]
    match j, hj with
    | 0, _ | 1, _ | 2, _ | 3, _ | 4, _ | 5, _ => rfl)
  have D0 := hide (h.up bb)
  have S0 := hide (show w.heap.size + 1 ≤ (w.alloc (.cells #[.string ⟨#[97, 98, 99, 100, 101, 102, 103, 104]⟩, .string ⟨#[113]⟩, .string ⟨#[115, 45, 49]⟩, .string ⟨#[120]⟩, .string ⟨#[121]⟩, .string ⟨#[122, 57]⟩] 9)).heap.size by simp)
  clear h bb
  go_enter Tryz.func58, Tryz.ntmps58
  go_wp2_with fail
  generalize w.alloc (.cells #[.string ⟨#[97, 98, 99, 100, 101, 102, 103, 104]⟩, .string ⟨#[113]⟩, .string ⟨#[115, 45, 49]⟩, .string ⟨#[120]⟩, .string ⟨#[121]⟩, .string ⟨#[122, 57]⟩] 9) = W0 at *
  have V0 := hide (VrRow.nil (w.heap.size + 1) W0)
  go_loopw [3, 5, 6] (fun o i q wr => ∃ (k : Nat) (a : Option Addr) (m c : Nat) (vs : List VerV), k ≤ 6 ∧ i = .int .i64 (k : Int) ∧ o = .slice a m c ∧ Hid (VrRow (w.heap.size + 1) wr (.slice a m c) vs) ∧ Hid (vs.length ≤ k) ∧ Hid (m = vs.length) ∧ Hid (∀ x ∈ vs, VF33 x) ∧ Hid (Rdy base g (N + 5 * k) w0 wr) ∧ Hid (∀ j, j < 6 → wr.cell? ⟨w.heap.size, j, none⟩ = some (.string (stF33 j))) ∧ Hid (w.heap.size + 1 ≤ wr.heap.size)) (fun _ i _ _ => 6 - (intOf i).toNat)
  case atStart => exact ⟨0, none, 0, 0, [], by omega, rfl, rfl, V0, hide (by simp), hide rfl, hide (by simp), D0, NMS, S0⟩
  case round =>
    clear V0 D0 NMS S0
    obtain ⟨k, a, m, c, vs, hk, rfl, rfl, VR, HL, HM, HA, HD, HNM, HS⟩ := hrel
    have VGE := hide (unhide VR).ge
    by_cases hlt : k < 6
    · go_wp2_with fail
      refine (pick_rdy base g (N + 5 * k) 3 w0 wr (by omega) (by omega) (by omega) (unhide HD)).mono ?_
      rintro e w1 ⟨p0, rfl, hp0, D1, T1⟩
      have V1 := hide ((unhide VR).turn33 (unhide T1) (by have := unhide HZ; omega))
      have N1 := hide (fun j hj => ((unhide T1).cell (g := w.heap.size) (i := j) (by have := unhide HS; omega) (by have := unhide HZ; simp; omega)).trans (unhide HNM j hj))
      have S1 := hide (Nat.le_trans (unhide HS) (unhide T1).size)
      clear VR HD HNM HS T1
      by_cases hp : p0 = 0
      · subst hp
        go_wp2_with fail
        refine (pick_rdy base g (N + 5 * k + 1) 300 w0 w1 (by omega) (by omega) (by omega) (unhide D1)).mono ?_
        rintro e w2 ⟨p1, rfl, hp1, D2, T2⟩
        have V2 := hide ((unhide V1).turn33 (unhide T2) (by have := unhide HZ; omega))
        have N2 := hide (fun j hj => ((unhide T2).cell (g := w.heap.size) (i := j) (by have := unhide S1; omega) (by have := unhide HZ; simp; omega)).trans (unhide N1 j hj))
        have S2 := hide (Nat.le_trans (unhide S1) (unhide T2).size)
        clear V1 D1 N1 S1 T2
        go_wp2_with fail
        refine (pick_rdy base g (N + 5 * k + 2) 12 w0 w2 (by omega) (by omega) (by omega) (unhide D2)).mono ?_
        rintro e w3 ⟨p2, rfl, hp2, D3, T3⟩
        have V3 := hide ((unhide V2).turn33 (unhide T3) (by have := unhide HZ; omega))
        have N3 := hide (fun j hj => ((unhide T3).cell (g := w.heap.size) (i := j) (by have := unhide S2; omega) (by have := unhide HZ; simp; omega)).trans (unhide N2 j hj))
        have S3 := hide (Nat.le_trans (unhide S2) (unhide T3).size)
        clear V2 D2 N2 S2 T3
        by_cases hq : p2 = 0
        · subst hq
          have bL := (Below.refl w3.heap.size w3).alloc (Nat.le_refl _) (.cells #[.int .i64 1099511627776, .int .i64 1099511627775, .int .i64 1] 3)
          have HLC := hide (show ∀ j, j < 3 → (w3.alloc (.cells #[.int .i64 1099511627776, .int .i64 1099511627775, .int .i64 1] 3)).cell? ⟨w3.heap.size, j, none⟩ = some (.int .i64 (vrF33 j)) from fun j hj => by
            rw [World.cell?_alloc_at _ _ _ _ rfl]
            match j, hj with
            | 0, _ | 1, _ | 2, _ => rfl)
          have V4 := hide ((unhide V3).up bL)
          have D4 := hide ((unhide D3).up bL)
          have N4 := hide (fun j hj => (bL.cell (p := ⟨w.heap.size, j, none⟩) (by show w.heap.size < w3.heap.size; have := unhide S3; omega)).trans (unhide N3 j hj))
          have S4 := hide (Nat.le_trans (unhide S3) bL.size)
          have hzl : w3.heap.size < (w3.alloc (.cells #[.int .i64 1099511627776, .int .i64 1099511627775, .int .i64 1] 3)).heap.size := by simp
          have HZL := hide hzl
          have HGL := hide (show g < w3.heap.size from Nat.lt_of_lt_of_le (unhide D3).lt (unhide D3).size)
          clear V3 D3 N3 S3 bL hzl
          go_wp2_with fail
          generalize w3.alloc (.cells #[.int .i64 1099511627776, .int .i64 1099511627775, .int .i64 1] 3) = W3 at *
          refine (pick_rdy base g (N + 5 * k + 3) 3 w0 W3 (by omega) (by omega) (by omega) (unhide D4)).mono ?_
          rintro e w4 ⟨p3, rfl, hp3, D5a, T5⟩
          have cL := ((unhide T5).cell (unhide HZL) (by have := unhide HGL; simp; omega)).trans (unhide HLC p3 (by omega))
          have V5a := hide ((unhide V4).turn33 (unhide T5) (by have := unhide HZ; omega))
          have N5a := hide (fun j hj => ((unhide T5).cell (g := w.heap.size) (i := j) (by have := unhide S4; omega) (by have := unhide HZ; simp; omega)).trans (unhide N4 j hj))
          have S5a := hide (Nat.le_trans (unhide S4) (unhide T5).size)
          have HVF := hide (vrF33_fit p3)
          have hvf := vrF33_fit p3
          clear V4 D4 N4 S4 T5 HLC
          generalize vrF33 p3 = x at *
          have cN := unhide N5a k hlt
          have HNS := hide (stF33_size k)
          generalize stF33 k = nm at cN HNS
          have RA := hide ((unhide V5a).up ((Below.refl _ _).alloc (Nat.le_refl _) (.cells #[.string nm, .int .i64 x] 57)))
          have DA := hide ((unhide D5a).alloc (.cells #[.string nm, .int .i64 x] 57))
          have SA := hide (Nat.le_trans (unhide S5a) (show w4.heap.size ≤ (w4.alloc (.cells #[.string nm, .int .i64 x] 57)).heap.size by simp))
          have HC := hide (boxF_new w4 [.string nm, .int .i64 x] 57).1.two
          clear V5a D5a S5a
          go_wp2_with (first
            | (at_builtin; refine wpList_vrAppend rfl _ _ rfl (w.heap.size + 1) (.slice a m c) vs ⟨nm, x⟩ (w4.heap.size) rfl rfl (unhide RA) (unhide HC).1 (unhide HC).2 (by have := unhide HL; omega) (unhide SA) ?_; intro g5 m5 c5 w5 r5 gr5 _; have R5 := hide r5; have D5 := hide ((unhide DA).grown gr5 (fun y hy => Nat.le_trans (Nat.le_trans (unhide HR).size (Nat.le_succ _)) ((unhide RA).ge y hy))); have S5 := hide (Nat.le_trans (unhide SA) gr5.size); have GR := hide gr5; clear r5 gr5 RA DA SA)
            | fail)
          have N6 := hide (fun j hj => show w5.cell? ⟨w.heap.size, j, none⟩ = some (.string (stF33 j)) from by
            have b1 := (Below.refl w4.heap.size w4).alloc (Nat.le_refl _) (.cells #[.string nm, .int .i64 x] 57)
            have c1 := (b1.cell (p := ⟨w.heap.size, j, none⟩) (by show w.heap.size < w4.heap.size; exact lt_of_cell0 (unhide N5a j hj))).trans (unhide N5a j hj)
            refine (unhide GR).cell c1 ?_
            intro hh
            have := unhide VGE w.heap.size hh.symm
            omega)
          obtain ⟨_, _, em⟩ := (unhide R5).slice
          have HM5 := hide (show m5 = (vs ++ [(⟨nm, x⟩ : VerV)]).length by simp only [Value.slice.injEq] at em; exact em.2.1)
          clear em GR
          go_roundw
          case rel => exact ⟨k + 1, some ⟨g5, 0, none⟩, m5, c5, _, by omega, by go_num, rfl, R5, hide (by have := unhide HL; simp; omega), HM5, hide (vf_snoc (unhide HA) ⟨unhide HNS, hvf⟩), hide ((unhide D5).more (by omega)), N6, S5⟩
          case measure => simp [intOf]; omega
        · have hqb : ((p2 : Int) == 0) = false := by simp; omega
          clear hq
          have cN := unhide N3 k hlt
          have HNS := hide (stF33_size k)
          generalize stF33 k = nm at cN HNS
          have hvf : (-10 : Int) ≤ 1 + (p1 : Int) ∧ 1 + (p1 : Int) ≤ 1000000000000000 := by omega
          have RA := hide ((unhide V3).up ((Below.refl _ _).alloc (Nat.le_refl _) (.cells #[.string nm, .int .i64 (1 + (p1 : Int))] 57)))
          have DA := hide ((unhide D3).alloc (.cells #[.string nm, .int .i64 (1 + (p1 : Int))] 57))
          have SA := hide (Nat.le_trans (unhide S3) (show w3.heap.size ≤ (w3.alloc (.cells #[.string nm, .int .i64 (1 + (p1 : Int))] 57)).heap.size by simp))
          have HC := hide (boxF_new w3 [.string nm, .int .i64 (1 + (p1 : Int))] 57).1.two
          clear V3 D3 S3
          go_wp2_with (first
            | (at_builtin; refine wpList_vrAppend rfl _ _ rfl (w.heap.size + 1) (.slice a m c) vs ⟨nm, (1 + (p1 : Int))⟩ (w3.heap.size) rfl rfl (unhide RA) (unhide HC).1 (unhide HC).2 (by have := unhide HL; omega) (unhide SA) ?_; intro g5 m5 c5 w5 r5 gr5 _; have R5 := hide r5; have D5 := hide ((unhide DA).grown gr5 (fun y hy => Nat.le_trans (Nat.le_trans (unhide HR).size (Nat.le_succ _)) ((unhide RA).ge y hy))); have S5 := hide (Nat.le_trans (unhide SA) gr5.size); have GR := hide gr5; clear r5 gr5 RA DA SA)
            | fail)
          have N6 := hide (fun j hj => show w5.cell? ⟨w.heap.size, j, none⟩ = some (.string (stF33 j)) from by
            have b1 := (Below.refl w3.heap.size w3).alloc (Nat.le_refl _) (.cells #[.string nm, .int .i64 (1 + (p1 : Int))] 57)
            have c1 := (b1.cell (p := ⟨w.heap.size, j, none⟩) (by show w.heap.size < w3.heap.size; exact lt_of_cell0 (unhide N3 j hj))).trans (unhide N3 j hj)
            refine (unhide GR).cell c1 ?_
            intro hh
            have := unhide VGE w.heap.size hh.symm
            omega)
          obtain ⟨_, _, em⟩ := (unhide R5).slice
          have HM5 := hide (show m5 = (vs ++ [(⟨nm, (1 + (p1 : Int))⟩ : VerV)]).length by simp only [Value.slice.injEq] at em; exact em.2.1)
          clear em GR
          go_roundw
          case rel => exact ⟨k + 1, some ⟨g5, 0, none⟩, m5, c5, _, by omega, by go_num, rfl, R5, hide (by have := unhide HL; simp; omega), HM5, hide (vf_snoc (unhide HA) ⟨unhide HNS, hvf⟩), hide ((unhide D5).more (by omega)), N6, S5⟩
          case measure => simp [intOf]; omega
      · have hpb : ((p0 : Int) == 0) = false := by simp; omega
        clear hp
        go_wp2_with fail
        go_roundw
        case rel => exact ⟨k + 1, a, m, c, vs, by omega, by go_num, rfl, V1, hide (by have := unhide HL; omega), HM, HA, hide ((unhide D1).more (by omega)), N1, S1⟩
        case measure => simp [intOf]; omega
    · obtain rfl : k = 6 := by omega
      go_upto_if 38 with fail
      go_cut [3] (fun s3 wx => ∃ (a : Option Addr) (m c : Nat) (vs : List VerV), s3 = .slice a m c ∧ Hid (VrRow (w.heap.size + 1) wx (.slice a m c) vs) ∧ Hid (vs.length ≤ 20) ∧ Hid (∀ x ∈ vs, VF33 x) ∧ Hid (Rdy base g (N + 40) w0 wx) ∧ Hid (w.heap.size + 1 ≤ wx.heap.size))
      case first =>
        by_cases hz : m = 0
        · have hvn := hide (show vs = [] from List.eq_nil_of_length_eq_zero (by have := unhide HM; omega))
          subst hz
          go_wp2_with fail
          refine (pick_rdy base g (N + 5 * 6) 9 w0 wr (by omega) (by omega) (by omega) (unhide HD)).mono ?_
          rintro e w1 ⟨p0, rfl, hp0, D1, T1⟩
          have V1 := hide ((unhide VR).turn33 (unhide T1) (by have := unhide HZ; omega))
          have S1 := hide (Nat.le_trans (unhide HS) (unhide T1).size)
          have hvf : (-10 : Int) ≤ 1 + (p0 : Int) ∧ 1 + (p0 : Int) ≤ 1000000000000000 := by omega
          clear VR HD HS T1
          have RA := hide ((unhide V1).up ((Below.refl _ _).alloc (Nat.le_refl _) (.cells #[.string ⟨#[120]⟩, .int .i64 (1 + (p0 : Int))] 57)))
          have DA := hide ((unhide D1).alloc (.cells #[.string ⟨#[120]⟩, .int .i64 (1 + (p0 : Int))] 57))
          have SA := hide (Nat.le_trans (unhide S1) (show w1.heap.size ≤ (w1.alloc (.cells #[.string ⟨#[120]⟩, .int .i64 (1 + (p0 : Int))] 57)).heap.size by simp))
          have HC := hide (boxF_new w1 [.string ⟨#[120]⟩, .int .i64 (1 + (p0 : Int))] 57).1.two
          clear V1 D1 S1
          go_wp2_with (first
            | (at_builtin; refine wpList_vrAppend rfl _ _ rfl (w.heap.size + 1) (.slice a 0 c) vs ⟨⟨#[120]⟩, (1 + (p0 : Int))⟩ (w1.heap.size) rfl rfl (unhide RA) (unhide HC).1 (unhide HC).2 (by have := unhide HL; omega) (unhide SA) ?_; intro g5 m5 c5 w5 r5 gr5 _; have R5 := hide r5; have D5 := hide ((unhide DA).grown gr5 (fun y hy => Nat.le_trans (Nat.le_trans (unhide HR).size (Nat.le_succ _)) ((unhide RA).ge y hy))); have S5 := hide (Nat.le_trans (unhide SA) gr5.size); clear r5 gr5 RA DA SA)
            | fail)
          go_meet
          exact ⟨_, _, _, _, rfl, R5, hide (by have := unhide HL; simp; omega), hide (vf_snoc (unhide HA) ⟨show (⟨#[120]⟩ : ByteArray).size ≤ 100 by decide, hvf⟩), hide ((unhide D5).more (by omega)), S5⟩
        · have hzb : ((m : Int) == 0) = false := by simp; omega
          go_wp2_with fail
          go_meet
          exact ⟨_, _, _, _, rfl, VR, hide (by have := unhide HL; omega), HA, hide ((unhide HD).more (by omega)), HS⟩
      case rest =>
      clear VR HL HM HA HD HNM HS VGE
      obtain ⟨a, m, c, vs, rfl, VR, HL, HA, HD, HS⟩ := hcut
      go_wp2_with fail
      refine (pick_rdy base g (N + 40) 24 w0 wc (by omega) (by omega) (by omega) (unhide HD)).mono ?_
      rintro e w1 ⟨p0, rfl, hp0, D1, T1⟩
      have V1 := hide ((unhide VR).turn33 (unhide T1) (by have := unhide HZ; omega))
      have S1 := hide (Nat.le_trans (unhide HS) (unhide T1).size)
      clear VR HD HS T1
      by_cases hp : p0 = 0
      · subst hp
        have VN := hide (VrRow.nil (w.heap.size + 1) w1)
        clear V1 HL HA
        go_wp2_with fail
        go_loopw [3, 7] (fun o i wr => ∃ (k : Nat) (a : Option Addr) (m c : Nat) (vs : List VerV), k ≤ 13 ∧ i = .int .i64 (k : Int) ∧ o = .slice a m c ∧ Hid (VrRow (w.heap.size + 1) wr (.slice a m c) vs) ∧ Hid (vs.length ≤ k) ∧ Hid (∀ x ∈ vs, VF33 x) ∧ Hid (Rdy base g (N + 40 + 1 + k) w0 wr) ∧ Hid (w.heap.size + 1 ≤ wr.heap.size)) (fun _ i _ => 14 - (intOf i).toNat)
        case atStart => exact ⟨0, none, 0, 0, [], by omega, rfl, rfl, VN, hide (by simp), hide (by simp), D1, S1⟩
        case round =>
        clear VN D1 S1
        obtain ⟨k, a, m, c, vs, hk, rfl, rfl, VR, HL, HA, HD, HS⟩ := hrel
        go_wp2_with fail
        refine (pick_rdy base g (N + 40 + 1 + k) 3 w0 wr (by omega) (by omega) (by omega) (unhide HD)).mono ?_
        rintro e w2 ⟨p2, rfl, hp2, D2, T2⟩
        have V2 := hide ((unhide VR).turn33 (unhide T2) (by have := unhide HZ; omega))
        have S2 := hide (Nat.le_trans (unhide HS) (unhide T2).size)
        clear VR HD HS T2
        by_cases hlt2 : (k : Int) < 11 + (p2 : Int)
        · have hcv : (convert 30 9 (.slice (some ⟨w2.heap.size, 0, none⟩) 1 1)).run Tryz.prog (w2.alloc (.cells #[.int .u8 (97 + (k : Int))] 5)) = .ok (.string (strOfNums [97 + (k : Int)])) (w2.alloc (.cells #[.int .u8 (97 + (k : Int))] 5)) :=
            run_convert_bytes_arg _ 30 5 Tryz.underlying30 Tryz.underlying5 w2.heap.size 0 1 1 [97 + (k : Int)] rfl (fun i hi => by
              obtain rfl : i = 0 := by omega
              exact World.cell?_alloc_at _ _ _ _ rfl) 9 Tryz.underlying9
          have HNS := hide (show ((⟨#[97, 97, 97, 97, 97, 97, 97]⟩ : ByteArray) ++ strOfNums [97 + (k : Int)]).size ≤ 100 by rw [ByteArray.size_append, strOfNums_size, show (⟨#[97, 97, 97, 97, 97, 97, 97]⟩ : ByteArray).size = 7 from rfl]; simp)
          have hss : (strOfNums [97 + (k : Int)]).size = 1 := strOfNums_size _
          have bL := (Below.refl w2.heap.size w2).alloc (Nat.le_refl _) (.cells #[.int .u8 (97 + (k : Int))] 5)
          have V3 := hide ((unhide V2).up bL)
          have D3 := hide ((unhide D2).up bL)
          have S3 := hide (Nat.le_trans (unhide S2) bL.size)
          clear V2 D2 S2 bL
          generalize strOfNums [97 + (k : Int)] = sk at *
          have RA := hide ((unhide V3).up ((Below.refl _ _).alloc (Nat.le_refl _) (.cells #[.string ((⟨#[97, 97, 97, 97, 97, 97, 97]⟩ : ByteArray) ++ sk), .int .i64 1099511627776] 57)))
          have DA := hide ((unhide D3).alloc (.cells #[.string ((⟨#[97, 97, 97, 97, 97, 97, 97]⟩ : ByteArray) ++ sk), .int .i64 1099511627776] 57))
          have SA := hide (Nat.le_trans (unhide S3) (show (w2.alloc (.cells #[.int .u8 (97 + (k : Int))] 5)).heap.size ≤ ((w2.alloc (.cells #[.int .u8 (97 + (k : Int))] 5)).alloc (.cells #[.string ((⟨#[97, 97, 97, 97, 97, 97, 97]⟩ : ByteArray) ++ sk), .int .i64 1099511627776] 57)).heap.size by simp))
          have HC := hide (boxF_new (w2.alloc (.cells #[.int .u8 (97 + (k : Int))] 5)) [.string ((⟨#[97, 97, 97, 97, 97, 97, 97]⟩ : ByteArray) ++ sk), .int .i64 1099511627776] 57).1.two
          rw [show (w2.alloc (.cells #[.int .u8 (97 + (k : Int))] 5)).heap.size = w2.heap.size + 1 by simp] at HC
          clear V3 D3 S3
          go_wp2_with (first
            | (at_builtin; refine wpList_vrAppend rfl _ _ rfl (w.heap.size + 1) (.slice a m c) vs ⟨((⟨#[97, 97, 97, 97, 97, 97, 97]⟩ : ByteArray) ++ sk), 1099511627776⟩ (w2.heap.size + 1) rfl rfl (unhide RA) (unhide HC).1 (unhide HC).2 (by have := unhide HL; omega) (unhide SA) ?_; intro g5 m5 c5 w5 r5 gr5 _; have R5 := hide r5; have D5 := hide ((unhide DA).grown gr5 (fun y hy => Nat.le_trans (Nat.le_trans (unhide HR).size (Nat.le_succ _)) ((unhide RA).ge y hy))); have S5 := hide (Nat.le_trans (unhide SA) gr5.size); clear r5 gr5 RA DA SA)
            | fail)
          go_roundw
          case rel => exact ⟨k + 1, some ⟨g5, 0, none⟩, m5, c5, _, by omega, by go_num, rfl, R5, hide (by have := unhide HL; simp; omega), hide (vf_snoc (unhide HA) ⟨unhide HNS, by simp⟩), D5, S5⟩
          case measure => simp [intOf]; omega
        · go_wp2_with fail
          go_ret
          exact ⟨_, _, _, vs, rfl, hide ((unhide V2).mono (by omega)), hide (by have := unhide HL; omega), HA, hide ((unhide D2).more (by omega)), hide (Nat.le_trans (Nat.le_succ _) (unhide S2))⟩
      · have hpb : ((p0 : Int) == 0) = false := by simp; omega
        go_wp2_with fail
        go_ret
        exact ⟨_, _, _, vs, rfl, hide ((unhide V1).mono (by omega)), HL, HA, hide ((unhide D1).more (by omega)), hide (Nat.le_trans (Nat.le_succ _) (unhide S1))⟩
end Go.Proofs.YtiebfcefmdiajaaGreatDoor
