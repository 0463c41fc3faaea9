/-
  The specification's draw of a file: the bytes of some records, cut, lengthened or with a bit turned.
-/
import Derived.Test.YtddmomcanakoiaaDrawRecs
import Derived.Test.YtddmomcanakoiaaMerged22
import Derived.Test.YtddmomcanakoiaaMerged10
import Derived.Test.YtddmomcanakoiaaDiskCut
set_option linter.unusedVariables false
namespace Go.Proofs.Ytddmomcanakoiaa
open Go.RowKit Go.Maps Go.Deep

theorem small_recs {rs : List RecV} {M : Nat} (hM : M ≤ 1000) (h : rs.length ≤ M) (ha : ∀ r ∈ rs, Small4 r) : SmallRecS rs :=
  ⟨⟨by omega, fun x hx => by have := ha x hx; unfold Small4 at this; omega⟩, fun x hx => fit_of' (ha x hx)⟩
theorem log_len5 {rs : List RecV} {k : Nat} (h : rs.length ≤ k) (hk : k ≤ 20) : (logOut rs).length ≤ 300 * k := by
  have key : ∀ (l : List RecV) (a b : List UInt8), l.foldl logStep (some a) = some b → b.length ≤ a.length + 300 * l.length := by
    intro l
    induction l with
    | nil => intro a b h; simp at h; subst h; simp
    | cons x l ih =>
      intro a b h
      rw [List.foldl_cons] at h
      cases hx : logStep (some a) x with
      | none =>
        rw [hx] at h
        have : ∀ l : List RecV, l.foldl logStep none = none := by
          intro l
          induction l with
          | nil => rfl
          | cons y l ih => rw [List.foldl_cons]; exact ih
        rw [this] at h
        cases h
      | some c =>
        rw [hx] at h
        have h1 := ih c b h
        have h2 : c.length ≤ a.length + 300 := by
          have h3 := recBytesL_len x
          simp only [logStep] at hx
          split at hx
          · simp at hx
            subst hx
            simp
            omega
          · cases hx
        simp only [List.length_cons]
        omega
  unfold logOut logAll
  split
  · cases hl : logL rs with
    | none => simp
    | some b =>
      have := key rs [] b hl
      simp at this ⊢
      omega
  · simp
def RetFile (base g N : Nat) (w0 w : World) (e : Ending) (w' : World) : Prop := ∃ a n c bs, e = .returned (.slice a n c) ∧ Hid (ByRow w.heap.size w' (.slice a n c) bs) ∧ Hid (bs.length ≤ 2000) ∧ Hid (Rdy base g N w0 w')
theorem row_len' {B : Nat} {w : World} {a : Option Addr} {n c : Nat} {bs : List UInt8} (h : ByRow B w (.slice a n c) bs) : n = bs.length := by
  obtain ⟨a', c', e⟩ := h.slice
  simp only [Value.slice.injEq] at e
  exact e.2.1
theorem row_form {B : Nat} {w : World} {a : Option Addr} {n c : Nat} {bs : List UInt8} (h : ByRow B w (.slice a n c) bs) (h0 : 0 < n) : ∃ gb, a = some ⟨gb, 0, none⟩ ∧ n ≤ c ∧ B ≤ gb ∧ gb < w.heap.size := by
  have hl := h.lt
  have hg := h.ge
  rcases h with ⟨hx, ⟨e, h0'⟩ | ⟨g, cap, cur, e, hB, hg', hnc, hcm, hs, ht⟩⟩
  · simp only [Value.slice.injEq] at e
    omega
  · simp only [Value.slice.injEq] at e
    obtain ⟨rfl, rfl, rfl⟩ := e
    exact ⟨g, rfl, by omega, hB, hl g rfl⟩
theorem row_cell {B : Nat} {w : World} {gb c : Nat} {bs : List UInt8} (h : ByRow B w (.slice (some ⟨gb, 0, none⟩) bs.length c) bs) (j : Nat) (hj : j < bs.length) : ∃ x : UInt8, w.cell? ⟨gb, j, none⟩ = some (.int .u8 (x.toNat : Int)) ∧ w.frozen? ⟨gb, j, none⟩ = false := by
  have hh : w.ownsRow B 5 1 (.slice (some ⟨gb, 0, none⟩) bs.length c) bs.length (bs.map byV) := h
  refine ⟨bs[j], ?_, hh.frozenAt _⟩
  have := hh.cellAt j (by simp; omega)
  rw [this]
  simp [hj, byV]
theorem xorU8 (x y : UInt8) : bits .xor .u8 (x.toNat : Int) (y.toNat : Int) = ((x ^^^ y).toNat : Int) := by
  have h1 : (BitVec.ofInt 8 (x.toNat : Int)).toNat = x.toNat := by
    rw [BitVec.ofInt_natCast, BitVec.toNat_ofNat]; exact Nat.mod_eq_of_lt x.toNat_lt
  have h2 : (BitVec.ofInt 8 (y.toNat : Int)).toNat = y.toNat := by
    rw [BitVec.ofInt_natCast, BitVec.toNat_ofNat]; exact Nat.mod_eq_of_lt y.toNat_lt
  show IntKind.u8.wrap ((BitVec.ofInt 8 (x.toNat : Int) ^^^ BitVec.ofInt 8 (y.toNat : Int)).toNat : Int) = _
  rw [BitVec.toNat_xor, h1, h2, ← UInt8.toNat_xor]
  have := (x ^^^ y).toNat_lt
  show ((x ^^^ y).toNat : Int) % 256 = _
  omega
theorem pow_u8 (q : Nat) (hq : q < 8) : ∃ yb : UInt8, IntKind.u8.wrap ((2 : Int) ^ q) = (yb.toNat : Int) := by
  match q, hq with
  | 0, _ => exact ⟨1, by decide⟩
  | 1, _ => exact ⟨2, by decide⟩
  | 2, _ => exact ⟨4, by decide⟩
  | 3, _ => exact ⟨8, by decide⟩
  | 4, _ => exact ⟨16, by decide⟩
  | 5, _ => exact ⟨32, by decide⟩
  | 6, _ => exact ⟨64, by decide⟩
  | 7, _ => exact ⟨128, by decide⟩
theorem row_set {B : Nat} {w : World} {gb c : Nat} {bs : List UInt8} (h : ByRow B w (.slice (some ⟨gb, 0, none⟩) bs.length c) bs) (j : Nat) (hj : j < bs.length) (y : UInt8) : ByRow B (w.setCell ⟨gb, j, none⟩ (.int .u8 (y.toNat : Int))) (.slice (some ⟨gb, 0, none⟩) bs.length c) (bs.set j y) := by
  rcases h with ⟨hx, ⟨e, h0'⟩ | ⟨g, cap, cur, e, hB, hg, hnc, hcm, hs, ht⟩⟩
  · simp at e
  · simp only [Value.slice.injEq, Option.some.injEq, Addr.mk.injEq] at e
    obtain ⟨⟨rfl, _⟩, _, rfl⟩ := e
    refine ⟨by simp, .inr ⟨gb, c, cur.setIfInBounds j (.int .u8 (y.toNat : Int)), by simp, hB, ?_, by simpa using hnc, hcm, by simpa using hs, ?_⟩⟩
    · show (w.heap.modify gb _)[gb]? = _
      rw [Array.getElem?_modify]
      simp [hg]
    · simp only [Array.toList_setIfInBounds, List.length_set, Nat.mul_one] at ht ⊢
      rw [List.take_set, ht, List.map_set]
      rfl
set_option maxHeartbeats 6400000 in
theorem l32File_any (base g N : Nat) (w0 w : World) (hN : N ≤ 1000000) (h : Rdy base g N w0 w) :
    Calls Try.prog 51 #[.pointer (some ⟨g, 0, none⟩)] w fun e w' => RetFile base g (N + 200) w0 w e w' := by
  have HZ := hide (Nat.lt_of_lt_of_le h.lt h.turn.size)
  have HR := hide h
  clear h
  go_enter Try.func51, Try.ntmps51
  go_wp2_with fail
  refine (pick_rdy base g N 6 w0 w (by omega) (by omega) (by omega) (unhide HR)).mono ?_
  rintro e w1 ⟨n, rfl, hn, D1, T1⟩
  have Z1 := hide (unhide T1).size
  clear T1
  go_wp2_with fail
  refine (l32Recs_any base g (N + 1) n w0 w1 (by omega) (by omega) (unhide D1)).mono ?_
  rintro e w2 ⟨a2, m2, c2, rs, rfl, R2, hl, HA, D2, ZZ2⟩
  have HLB := hide (fun W (hr : RecSRd W (.slice a2 m2 c2) rs) => specLog_any rs _ W (small_recs (M := n) (by omega) hl (unhide HA)) hr)
  have HLL := hide (log_len5 hl (by omega))
  have Z2 := hide (Nat.le_trans (unhide Z1) (unhide ZZ2))
  clear D1 HA hl
  go_wp2_with fail
  refine (unhide HLB _ (unhide R2).rd).mono ?_
  rintro e w3 ⟨a3, m3, c3, rfl, r3, b3⟩
  have R3 := hide (r3.mono (unhide Z2))
  have D3 := hide ((unhide D2).up b3)
  have Z3 := hide (Nat.le_trans (unhide Z2) b3.size)
  clear r3 b3 R2 D2 HLB
  go_upto_if 15 with fail
  go_cut [3, 4] (fun s3 s4 wx => ∃ a n c bs, s3 = .slice a n c ∧ Hid (ByRow w.heap.size wx (.slice a n c) bs) ∧ Hid (bs.length ≤ 1500) ∧ Hid (Rdy base g (N + 60) w0 wx) ∧ Hid (w.heap.size ≤ wx.heap.size))
  case first =>
    have D5 := hide ((unhide D3).more (show N + 1 + 11 * n ≤ N + 60 by omega))
    have L5 := hide (show (logOut rs).length ≤ 1500 by have := unhide HLL; omega)
    cases logOkB rs
    · go_wp2_with fail
      go_meet
      exact ⟨none, 0, 0, [], rfl, hide (ByRow.nil _ _), hide (by simp), D5, Z3⟩
    · go_wp2_with fail
      go_meet
      exact ⟨a3, m3, c3, _, rfl, R3, L5, D5, Z3⟩
  case rest =>
    obtain ⟨a4, n4, c4, bs, rfl, R4, L4, D4, Z4⟩ := hcut
    clear R3 HLL D3 Z3 Z2 Z1 ZZ2
    obtain rfl := row_len' (unhide R4)
    go_wp2_with fail
    refine (pick_rdy base g (N + 60) 6 w0 wc (by omega) (by omega) (by omega) (unhide D4)).mono ?_
    rintro e w5 ⟨k, rfl, hk, D5, T5⟩
    have R5 := hide ((unhide R4).turnG (unhide T5) (unhide HZ))
    have Z5 := hide (Nat.le_trans (unhide Z4) (unhide T5).size)
    clear T5 R4 D4 Z4
    by_cases k0 : k = 0
    · subst k0
      by_cases hbb : ¬ (0 : Int) < (bs.length : Int)
      · skip
        go_wp2_with fail
        go_ret
        exact ⟨_, _, _, bs, rfl, R5, hide (by have := unhide L4; omega), hide ((unhide D5).more (by omega))⟩
      · have hbb : (0 : Int) < (bs.length : Int) := by omega
        go_wp2_with fail
        refine (pick_rdy base g (N + 60 + 1) (bs.length : Int) w0 w5 (by omega) (by have := unhide L4; omega) (by omega) (unhide D5)).mono ?_
        rintro e w6 ⟨j, rfl, hj, D6, T6⟩
        have R6 := hide ((unhide R5).turnG (unhide T6) (unhide HZ))
        clear T6 R5 D5
        obtain ⟨gb, rfl, hc, hB, hgb⟩ := row_form (unhide R6) (by omega)
        have hj0 : (j : Int) ≤ (c4 : Int) := by omega
        go_wp2_with fail
        go_ret
        exact ⟨_, _, _, bs.take j, rfl, hide ((unhide R6).prefix j (by omega)), hide (by have := unhide L4; simp; omega), hide ((unhide D6).more (by omega))⟩
    · have k0b : ((k : Int) == 0) = false := by simp; omega
      by_cases k1 : k = 1
      · subst k1
        go_wp2_with fail
        refine (pick_rdy base g (N + 60 + 1) 12 w0 w5 (by omega) (by omega) (by omega) (unhide D5)).mono ?_
        rintro e w6 ⟨j, rfl, hj, D6, T6⟩
        have R6 := hide ((unhide R5).turnG (unhide T6) (unhide HZ))
        have Z6 := hide (Nat.le_trans (unhide Z5) (unhide T6).size)
        clear T6 R5 D5 Z5
        have HRW := hide (l32Raw_any base g (N + 60 + 1 + 1) (1 + j) w6 w6 (by omega) (by omega) (unhide D6).self)
        rw [show ((1 + j : Nat) : Int) = 1 + (j : Int) by omega] at HRW
        go_wp2_with (first
          | (go_at_call 67; refine (unhide HRW).mono ?_; rintro e w7 ⟨a7, c7, ys, rfl, R7, hy, DX, Z7⟩; have HY := hide hy; clear hy; have D7 := hide ((unhide D6).on (unhide DX)); have R8 := hide ((unhide R6).turnG (unhide DX).turn (unhide HZ)); have SZ := hide (Nat.le_trans (unhide Z6) (unhide Z7)); have hyl := hide (show bs.length + ys.length ≤ 140737488355328 by have := unhide L4; have := unhide HY; omega); clear HRW D6)
          | (at_builtin; have _t := R8; refine wpList_byAppend rfl _ _ rfl w.heap.size _ _ bs ys rfl rfl (unhide R8) (unhide R7).rd (unhide hyl) (unhide SZ) ?_; intro a9 c9 w9 r9 g9 _; have R9 := hide r9; have D9 := hide ((unhide D7).grown g9 (fun y hy => Nat.le_trans (unhide HR).size ((unhide R8).ge y hy))); clear r9 g9)
          | fail)
        go_ret
        exact ⟨_, _, _, bs ++ ys, rfl, R9, hide (by have := unhide L4; have := unhide HY; simp; omega), hide ((unhide D9).more (by omega))⟩
      · have k1b : ((k : Int) == 1) = false := by simp; omega
        by_cases k2 : k = 2
        · subst k2
          by_cases hbb : ¬ (0 : Int) < (bs.length : Int)
          · go_wp2_with fail
            go_ret
            exact ⟨_, _, _, bs, rfl, R5, hide (by have := unhide L4; omega), hide ((unhide D5).more (by omega))⟩
          · have hbb : (0 : Int) < (bs.length : Int) := by omega
            go_wp2_with fail
            refine (pick_rdy base g (N + 60 + 1) (bs.length : Int) w0 w5 (by omega) (by have := unhide L4; omega) (by omega) (unhide D5)).mono ?_
            rintro e w6 ⟨j, rfl, hj, D6, T6⟩
            have R6 := hide ((unhide R5).turnG (unhide T6) (unhide HZ))
            clear T6 R5 D5
            obtain ⟨gb, rfl, hc, hB, hgb⟩ := row_form (unhide R6) (by omega)
            obtain ⟨x6, c6, f6⟩ := row_cell (unhide R6) j (by omega)
            have hjl : (j : Int) < (bs.length : Int) := by omega
            have CD := hide (show w6.drew.cell? ⟨gb, j, none⟩ = some (.int .u8 (x6.toNat : Int)) from c6)
            go_wp2_with fail
            go_region_with (first
              | (go_at_call 21
                 refine (pick_rdy base g (N + 60 + 1 + 1) 8 w0 _ (by omega) (by omega) (by omega) ((unhide D6).up ((Below.refl _ _).drew))).mono ?_
                 rintro e w7 ⟨q, rfl, hq, D7, T7⟩
                 have R7 := hide (((unhide R6).up ((Below.refl _ _).drew)).turnG (unhide T7) (unhide HZ))
                 have hq0 : (0 : Int) ≤ (q : Int) := by omega
                 have c7 : w7.cell? ⟨gb, j, none⟩ = some (.int .u8 (x6.toNat : Int)) := ((unhide T7).cell (by show gb < w6.drew.heap.size; exact hgb) (by have := unhide HZ; simp; omega)).trans (unhide CD)
                 obtain ⟨_, _, f7⟩ := row_cell (unhide R7) j (by omega))
              | fail)
            all_goals
              obtain ⟨yb, hyb⟩ := pow_u8 q (by omega)
              have E7 := hide (show bits .xor .u8 (x6.toNat : Int) (IntKind.u8.wrap (2 ^ q)) = (((x6 ^^^ yb).toNat : Nat) : Int) by rw [hyb]; exact xorU8 x6 yb)
              have R8 := hide (row_set (unhide R7) j (by omega) (x6 ^^^ yb))
              have D8 := hide ((unhide D7).turns (S := [gb]) ((Turn.refl [gb] w7).setCell (g := gb) (by simp) j (.int .u8 (((x6 ^^^ yb).toNat : Nat) : Int))) (by have := (unhide HR).size; simp; omega))
              rw [unhide E7]
              clear hyb E7
              go_wp2_with fail
              go_ret
              exact ⟨_, _, _, bs.set j (x6 ^^^ yb), rfl, R8, hide (by have := unhide L4; simp; omega), hide ((unhide D8).more (by omega))⟩
        · have k2b : ((k : Int) == 2) = false := by simp; omega
          go_wp2_with fail
          go_ret
          exact ⟨_, _, _, bs, rfl, R5, hide (by have := unhide L4; omega), hide ((unhide D5).more (by omega))⟩
end Go.Proofs.Ytddmomcanakoiaa
