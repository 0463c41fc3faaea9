/-
  FrameSize of the program: the head as an array of three bytes.
-/
/-
  Who listens to a stream: where one waits; what stands at the beginning of bytes: both sides of it.
-/
/-
  A list of bytes that comes in, opened.
-/
/-
  Who listens to a stream, as a value: for reading and of one's own; both sides of SplitOk; the laws' own helpers over one.
-/
import Derived.Test.YtlgmmibncoedgaaMerged6
import Derived.BigRegion
import Derived.Test.YtlgmmibncoedgaaMerged1
import Derived.ProofKit
import Derived.OpenShut
import Derived.Test.YtlgmmibncoedgaaMerged3
set_option linter.unusedVariables false
namespace Go.Proofs.Ytlgmmibncoedgaa
open Go.RowKit Go.Maps Go.Deep

def headVal (x0 x1 x2 : Nat) : Value := .agg #[.int .u8 (x0 : Int), .int .u8 (x1 : Int), .int .u8 (x2 : Int)]
set_option maxHeartbeats 3200000 in
theorem headOf_any (a : Option Addr) (c : Nat) (bs : List UInt8) (w : World) (hl : bs.length ≤ 1048576) (h3 : 3 ≤ bs.length) (h : ByIn w a bs) : Calls Try.prog 89 #[.slice a bs.length c] w fun e w' => e = .returned (headVal (byN bs 0) (byN bs 1) (byN bs 2)) ∧ Below w.heap.size w w' := by
  obtain ⟨b, off, rfl, hb, hc⟩ : ∃ b off, a = some ⟨b, off, none⟩ ∧ b < w.heap.size ∧ ByAt w b off bs := by
    rcases h with h0 | h0
    · rw [h0] at h3; simp at h3
    · exact h0
  have c0 : w.cell? ⟨b, off, none⟩ = some (.int .u8 (byN bs 0 : Int)) := byAt_byN hc 0 (by omega)
  have c1 := byAt_byN hc 1 (by omega)
  have c2 := byAt_byN hc 2 (by omega)
  have i0 : 0 < bs.length := by omega
  have i1 : 1 < bs.length := by omega
  have i2 : 2 < bs.length := by omega
  clear hc
  unfold headVal
  generalize byN bs 0 = x0 at *
  generalize byN bs 1 = x1 at *
  generalize byN bs 2 = x2 at *
  generalize bs.length = n at *
  go_enter Try.func89, Try.ntmps89
  go_wp2_with fail
  go_region
  all_goals
    go_wp2
    exact bodyPost_ret (v := .agg #[.int .u8 (x0 : Int), .int .u8 (x1 : Int), .int .u8 (x2 : Int)]) (by simp [results, Try.results89, go_sem]) rfl ⟨rfl, by go_grown⟩
theorem or_two (x y : Nat) (hx : x < 256) (hy : y < 256) : bits .or .i64 ((x : Int) * 256) (y : Int) = (x : Int) * 256 + (y : Int) := by
  rw [or_low _ y hy (by omega)]
  unfold wrap64
  omega
set_option maxHeartbeats 3200000 in
theorem headSize_any (x0 x1 x2 : Nat) (w : World) (h1 : x1 < 256) (h2 : x2 < 256) : Calls Try.prog 90 #[headVal x0 x1 x2] w fun e w' => e = .returned (.int .i64 ((x1 : Int) * 256 + (x2 : Int))) ∧ Below w.heap.size w w' := by
  have HO := hide (or_two x1 x2 h1 h2)
  unfold headVal
  go_enter Try.func90, Try.ntmps90
  go_wp2_with fail
  all_goals
    go_ret
    exact ⟨ret_int (unhide HO), by go_grown⟩
def fitI (x : Int) : Bool := decide (1 ≤ x) && decide (x ≤ 260)
theorem bodySizeOk_any (x : Int) (w : World) : Calls Try.prog 38 #[.int .i64 x] w fun e w' => e = .returned (.bool (fitI x)) ∧ w' = w := by
  by_cases q1 : 1 ≤ x
  · have HR := hide (show decide (x ≤ 260) = fitI x by simp [fitI, q1])
    go_enter Try.func38, Try.ntmps38
    go_wp2
    go_ret
    exact ⟨ret_bool (unhide HR), rfl⟩
  · have HR := hide (show false = fitI x by simp [fitI, q1])
    go_enter Try.func38, Try.ntmps38
    go_wp2
    go_ret
    exact ⟨ret_bool (unhide HR), rfl⟩
set_option maxHeartbeats 3200000 in
theorem implSz_any (v : Value) (bs : List UInt8) (w : World) (hl : bs.length ≤ 1048576) (h : ByRd w v bs) : Calls Try.prog 71 #[v] w fun e w' => e = .returned (.int .i64 (frameSz bs)) ∧ Below w.heap.size w w' := by
  obtain ⟨a, c, rfl, hin, hcap⟩ := h
  have hin' := hin
  rcases hin' with rfl | ⟨b, off, rfl, hb, hc⟩
  · go_enter Try.func71, Try.ntmps71
    go_wp2_with fail
    go_ret
    exact ⟨rfl, Below.refl _ _⟩
  · by_cases h0 : bs.length = 0
    · obtain rfl := List.eq_nil_of_length_eq_zero h0
      go_enter Try.func71, Try.ntmps71
      go_wp2_with fail
      go_ret
      exact ⟨rfl, Below.refl _ _⟩
    · have c0 : w.cell? ⟨b, off, none⟩ = some (.int .u8 (byN bs 0 : Int)) := byAt_byN hc 0 (by omega)
      have hn0 : (0 : Int) < (bs.length : Int) := by omega
      have i0 : 0 < bs.length := by omega
      by_cases hm : byN bs 0 = 245
      · by_cases h3 : bs.length < 3
        · rw [sz_few hm h3]
          have h3' : (bs.length : Int) < 3 := by omega
          rw [hm] at c0
          clear hm h0 h3 hin hc
          generalize bs.length = n at *
          go_enter Try.func71, Try.ntmps71
          go_wp2_with fail
          go_ret
          exact ⟨rfl, Below.refl _ _⟩
        · rw [sz_else hm h3]
          have h3' : ¬ (bs.length : Int) < 3 := by omega
          rw [hm] at c0
          have HH := hide (headOf_any (some ⟨b, off, none⟩) c bs w hl (by omega) hin)
          have HS := hide (fun W => headSize_any (byN bs 0) (byN bs 1) (byN bs 2) W (byN_lt _ _) (byN_lt _ _))
          have HE := hide (show (byN bs 1 : Int) * 256 + (byN bs 2 : Int) = headN bs from rfl)
          obtain ⟨n0, n1⟩ := headN_range bs
          obtain ⟨R, HR⟩ : ∃ R, Hid ((if 1 ≤ headN bs ∧ headN bs ≤ 260 then headN bs + 5 else -1) = R) := ⟨_, rfl⟩
          rw [unhide HR]
          clear hm h0 hin hc
          go_enter Try.func71, Try.ntmps71
          go_wp2_with fail
          refine (unhide HH).mono ?_
          rintro e w1 ⟨rfl, b1⟩
          go_wp2_with fail
          refine (unhide HS _).mono ?_
          rintro e w2 ⟨rfl, b2⟩
          rw [unhide HE]
          have B2 := hide (b1.trans (b2.mono b1.size))
          generalize headN bs = q at *
          clear HH HS HE b1 b2
          go_wp2_with fail
          refine (bodySizeOk_any q _).mono ?_
          rintro e w3 ⟨rfl, hw⟩
          rw [hw]
          cases hq : fitI q
          · have HR := hide ((if_neg (by intro hh; simp [fitI, hh.1, hh.2] at hq)).symm.trans (unhide HR))
            go_wp2_with fail
            go_ret
            exact ⟨ret_int (unhide HR), unhide B2⟩
          · have HR := hide ((if_pos (by simpa [fitI] using hq)).symm.trans (unhide HR))
            go_wp2_with fail
            go_ret
            exact ⟨ret_int (unhide HR), unhide B2⟩
      · rw [sz_mark (by omega) hm]
        have hm' : ((byN bs 0 : Int) == 245) = false := by simp; omega
        clear h0 hin hc
        generalize byN bs 0 = x at *
        generalize bs.length = n at *
        go_enter Try.func71, Try.ntmps71
        go_wp2_with fail
        go_ret
        exact ⟨rfl, Below.refl _ _⟩
end Go.Proofs.Ytlgmmibncoedgaa

set_option linter.unusedVariables false
namespace Go.Proofs.Ytlgmmibncoedgaa
open Go.RowKit Go.Maps Go.Deep

def waitB (bs : List UInt8) : Bool := decide (frameSz bs = 0) || decide ((bs.length : Int) < frameSz bs)
def nextI (bs : List UInt8) : Int := if frameSz bs < 0 then -1 else if waitB bs then 0 else if frameOk (bs.take (frameSz bs).toNat) then 1 else -1
set_option maxHeartbeats 3200000 in
theorem next_any (bs : List UInt8) (v : Value) (w : World) (hl : bs.length ≤ 1048576) (h : ByRd w v bs) :
    Calls Try.prog 82 #[v] w fun e w' => e = .returned (.int .i64 (nextI bs)) ∧ Below w.heap.size w w' := by
  have HS := hide (specSz_any v bs w hl h)
  obtain ⟨a, c, rfl, hin, hcap⟩ := h
  by_cases g1 : frameSz bs < 0
  · have HV := hide (show -1 = nextI bs by simp [nextI, g1])
    clear hin
    go_enter Try.func82, Try.ntmps82
    go_wp2_with fail
    refine (unhide HS).mono ?_
    rintro e w1 ⟨rfl, hw⟩
    rw [hw]
    clear hw w1 HS
    generalize frameSz bs = q at *
    go_wp2_with fail
    go_ret
    exact ⟨ret_int (unhide HV), Below.refl _ _⟩
  · cases g2 : waitB bs
    · have g3 : frameSz bs ≠ 0 ∧ ¬ (bs.length : Int) < frameSz bs := by simpa [waitB] using g2
      obtain ⟨g3, g4⟩ := g3
      have HV := hide (show (if frameOk (bs.take (frameSz bs).toNat) then (1 : Int) else -1) = nextI bs by simp [nextI, g1, g2])
      obtain ⟨n, hn⟩ : ∃ n : Nat, frameSz bs = (n : Int) := ⟨(frameSz bs).toNat, by omega⟩
      have HRD := hide (specFRead_any (bs.take n) _ w (by simp; omega) (cut_take hin hcap n (by omega)))
      rw [hn] at HS HV g1 g3 g4
      rw [Int.toNat_natCast] at HV
      have q0 : ((n : Int) == 0) = false := by simpa using g3
      have q1 : (n : Int) ≤ (bs.length : Int) := by omega
      have q2 : (n : Int) ≤ (c : Int) := by omega
      have q3 : n ≤ c := by omega
      clear hin hn g3
      cases hk : frameOk (bs.take n)
      · rw [hk] at HRD HV
        go_enter Try.func82, Try.ntmps82
        go_wp2_with fail
        refine (unhide HS).mono ?_
        rintro e w1 ⟨rfl, hw⟩
        rw [hw]
        clear hw w1 HS
        go_wp2_with fail
        refine (unhide HRD).mono ?_
        rintro e w2 ⟨v2, rfl, _, b2⟩
        have B2 := hide b2
        clear b2
        go_wp2_with fail
        go_ret
        exact ⟨ret_int (unhide HV), unhide B2⟩
      · rw [hk] at HRD HV
        go_enter Try.func82, Try.ntmps82
        go_wp2_with fail
        refine (unhide HS).mono ?_
        rintro e w1 ⟨rfl, hw⟩
        rw [hw]
        clear hw w1 HS
        go_wp2_with fail
        refine (unhide HRD).mono ?_
        rintro e w2 ⟨v2, rfl, _, b2⟩
        have B2 := hide b2
        clear b2
        go_wp2_with fail
        go_ret
        exact ⟨ret_int (unhide HV), unhide B2⟩
    · have HV := hide (show 0 = nextI bs by simp [nextI, g1, g2])
      have g3 : frameSz bs = 0 ∨ (bs.length : Int) < frameSz bs := by simpa [waitB] using g2
      clear hin g2
      by_cases g4 : frameSz bs = 0
      · rw [g4] at HS
        clear g3 g1
        generalize bs.length = m at *
        go_enter Try.func82, Try.ntmps82
        go_wp2_with fail
        refine (unhide HS).mono ?_
        rintro e w1 ⟨rfl, hw⟩
        rw [hw]
        clear hw w1 HS
        go_wp2_with fail
        go_ret
        exact ⟨ret_int (unhide HV), Below.refl _ _⟩
      · have g5 : (bs.length : Int) < frameSz bs := by omega
        have q0 : (frameSz bs == 0) = false := by simpa using g4
        clear g3 g4
        generalize bs.length = m at *
        go_enter Try.func82, Try.ntmps82
        go_wp2_with fail
        refine (unhide HS).mono ?_
        rintro e w1 ⟨rfl, hw⟩
        rw [hw]
        clear hw w1 HS
        generalize frameSz bs = q at *
        go_wp2_with fail
        go_ret
        exact ⟨ret_int (unhide HV), Below.refl _ _⟩
set_option maxHeartbeats 3200000 in
theorem waits_any (bs : List UInt8) (v : Value) (g : Nat) (w : World) (hl : bs.length ≤ 1048576) (hg : g < w.heap.size) (hc : w.cell? ⟨g, 0, none⟩ = some v) (h : ByRd w v bs) :
    Calls Try.prog 53 #[.pointer (some ⟨g, 0, none⟩)] w fun e w' => e = .returned (.bool (waitB bs)) ∧ Below w.heap.size w w' := by
  have HS := hide (implSz_any v bs w hl h)
  obtain ⟨a, c, rfl⟩ := h.len
  have HC := hide (fun (W : World) (b : Below w.heap.size w W) => (b.cell (p := ⟨g, 0, none⟩) hg).trans hc)
  clear h
  unfold waitB
  by_cases g4 : frameSz bs = 0
  · rw [g4] at HS ⊢
    generalize bs.length = m at *
    go_enter Try.func53, Try.ntmps53
    go_wp2_with fail
    refine (unhide HS).mono ?_
    rintro e w1 ⟨rfl, b1⟩
    have B1 := hide b1
    have c1 := unhide HC w1 b1
    clear b1 HS hc
    go_wp2_with fail
    all_goals
      go_ret
      exact ⟨rfl, by first | exact unhide B1 | exact (unhide B1).drew⟩
  · have q0 : (frameSz bs == 0) = false := by simpa using g4
    have HR := hide (show decide ((bs.length : Int) < frameSz bs) = (decide (frameSz bs = 0) || decide ((bs.length : Int) < frameSz bs)) by simp [g4])
    rw [← unhide HR]
    clear g4 HR
    generalize bs.length = m at *
    generalize frameSz bs = q at *
    go_enter Try.func53, Try.ntmps53
    go_wp2_with fail
    refine (unhide HS).mono ?_
    rintro e w1 ⟨rfl, b1⟩
    have B1 := hide b1
    have c1 := unhide HC w1 b1
    clear b1 HS hc
    go_wp2_with fail
    all_goals
      go_ret
      exact ⟨rfl, by first | exact unhide B1 | exact (unhide B1).drew⟩
end Go.Proofs.Ytlgmmibncoedgaa

namespace Go.Proofs.Ytlgmmibncoedgaa
open Go.RowKit Go.Maps Go.Deep Go.ChangeShapes Go.WideShapes Go.ChangeAt

theorem cells_byteA : Try.prog.cellsOf 5 = 1 := by kernel_rfl
theorem choose_byte {n : Nat} {P : Nat → UInt8 → Prop} (h : ∀ i, i < n → ∃ c, P i c) : ∃ bs : List UInt8, bs.length = n ∧ ∀ i (hi : i < bs.length), P i bs[i] := by
  induction n with
  | zero => exact ⟨[], rfl, fun i hi => absurd hi (Nat.not_lt_zero _)⟩
  | succ n ih =>
    obtain ⟨bs, hl, hb⟩ := ih (fun i hi => h i (by omega))
    obtain ⟨c, hc⟩ := h n (by omega)
    refine ⟨bs ++ [c], by simp [hl], fun i hi => ?_⟩
    by_cases e : i < bs.length
    · rw [List.getElem_append_left e]; exact hb i e
    · have : i = n := by simp at hi; omega
      subst this
      rw [List.getElem_append_right (by omega)]
      simpa [hl] using hc
theorem open_byte_cell {H : Type} {enc : TypeId × Value → H} {w : World} {base : Nat} {spare : Nat → Bool} {held : Bool} {c : Value} {fuel : Nat} {y : DataW H × List MemPlace}
    (hf : DataW.trod enc Try.prog w base spare held fuel 22 [c] = some y) :
    ∃ a cap, ∃ bs : List UInt8, c = .slice a bs.length cap ∧ bs.length ≤ maxLen ∧ bs.length ≤ cap ∧ ByIn w a bs := by
  rcases open_slice Try.underlying22 hf with ⟨hcs, _⟩ | ⟨a', len, cap, m, n, D, Pl, hcs, hb, hl, hm, hmm, _, hx⟩
  · simp at hcs
    subst hcs
    exact ⟨none, 0, [], rfl, by unfold maxLen; simp, Nat.le_refl _, .inl rfl⟩
  · simp at hcs
    subst hcs
    have hlm : len ≤ m := by rw [hmm]; split <;> omega
    have each : ∀ i, i < len → ∃ c : UInt8, w.cell? (a'.add i) = some (.int .u8 (c.toNat : Int)) := by
      intro i hi
      obtain ⟨cs', h1, h2⟩ := hx i (by omega)
      rw [cells_byteA] at h1
      obtain ⟨_, hlen, hcell⟩ := World.cells?_some h1
      match cs', hlen with
      | [v0], _ =>
        obtain ⟨n0, e0, _, hr⟩ := DataW.trod_int Try.underlying5 h2
        simp at e0
        subst e0
        have c0 := hcell 0 (by omega)
        have hr' : 0 ≤ n0 ∧ n0 ≤ 255 := by
          have hr2 := Bool.and_eq_true_iff.1 hr
          exact ⟨of_decide_eq_true hr2.1, of_decide_eq_true hr2.2⟩
        obtain ⟨v, rfl⟩ := Int.eq_ofNat_of_zero_le hr'.1
        rw [Nat.mul_one] at c0
        refine ⟨UInt8.ofNat v, ?_⟩
        rw [UInt8.toNat_ofNat', Nat.mod_eq_of_lt (by omega)]
        simpa [Addr.add] using c0
    obtain ⟨bs, hbl, hbs⟩ := choose_byte each
    refine ⟨some a', cap, bs, by rw [hbl], by omega, by omega, ?_⟩
    by_cases h0 : len = 0
    · exact .inl (List.eq_nil_of_length_eq_zero (by omega))
    · have hc0 := hbs 0 (by omega)
      obtain ⟨b, off, spot⟩ := a'
      have hspot : spot = none := by simpa [Addr.add] using World.cell?_spot hc0
      subst hspot
      refine .inr ⟨b, off, rfl, lt_of_cell0 (by simpa [Addr.add] using hc0), ?_⟩
      intro i hi
      have h2 := hbs i hi
      by_cases e : i = 0
      · subst e; simpa [Addr.add] using h2
      · simpa [Addr.add, e] using h2
theorem open_byteS {H : Type} {enc : TypeId × Value → H} {w : World} {base : Nat} {spare : Nat → Bool} {held : Bool} {a : Option Addr} {len cap : Nat} {d : DataW H} {p : List MemPlace}
    (h : DataW.Trod enc Try.prog w base spare held 22 (.slice a len cap) d p) :
    ∃ bs : List UInt8, bs.length = len ∧ len ≤ maxLen ∧ len ≤ cap ∧ ByIn w a bs := by
  obtain ⟨fuel, hf⟩ := h
  obtain ⟨a', cap', bs, e, h1, h2, h3⟩ := open_byte_cell (c := .slice a len cap) (by simpa [Value.cells] using hf)
  simp only [Value.slice.injEq] at e
  obtain ⟨rfl, rfl, rfl⟩ := e
  exact ⟨bs, rfl, h1, h2, h3⟩
end Go.Proofs.Ytlgmmibncoedgaa

set_option linter.unusedVariables false
namespace Go.Proofs.Ytlgmmibncoedgaa
open Go.RowKit Go.Maps Go.Deep Go.ChangeShapes Go.WideShapes Go.ChangeAt

structure SplitV where
  buf : List UInt8
  lost : Int
def SplitFit (d : SplitV) : Prop := d.buf.length ≤ maxLen ∧ (-9223372036854775808 ≤ d.lost ∧ d.lost ≤ 9223372036854775807)
def SmallSplit (d : SplitV) : Prop := d.buf.length ≤ 1048576
def SplitRd (w : World) (v : Value) (d : SplitV) : Prop := ∃ v0, v = .agg #[v0, .int .i64 d.lost] ∧ ByRd w v0 d.buf
def SplitOwn (S : List Nat) (w : World) (v : Value) (d : SplitV) : Prop := ∃ v0, v = .agg #[v0, .int .i64 d.lost] ∧ ByOwn S w v0 d.buf
theorem SplitRd.up {w w' : World} {v : Value} {d : SplitV} (h : SplitRd w v d) (hb : Below w.heap.size w w') : SplitRd w' v d := by
  obtain ⟨v0, e, h0⟩ := h
  exact ⟨v0, e, h0.up hb⟩
theorem SplitOwn.rd {S : List Nat} {w : World} {v : Value} {d : SplitV} (h : SplitOwn S w v d) : SplitRd w v d := by
  obtain ⟨v0, e, h0⟩ := h
  exact ⟨v0, e, h0.rd⟩
theorem SplitOwn.turn {S S' : List Nat} {w w' : World} {v : Value} {d : SplitV} (h : SplitOwn S w v d) (ht : Turn S' w w') (hS : ∀ k ∈ S, k ∉ S') : SplitOwn S w' v d := by
  obtain ⟨v0, e, h0⟩ := h
  exact ⟨v0, e, h0.turn ht hS⟩
theorem SplitOwn.up {S : List Nat} {w w' : World} {v : Value} {d : SplitV} (h : SplitOwn S w v d) (hb : Below w.heap.size w w') : SplitOwn S w' v d := h.turn (Turn.of_below (S := []) hb) (by simp)
theorem SplitOwn.lt {S : List Nat} {w : World} {v : Value} {d : SplitV} (h : SplitOwn S w v d) : ∀ k ∈ S, k < w.heap.size := by
  obtain ⟨v0, e, h0⟩ := h
  exact h0.lt
theorem SplitRd.form {w : World} {v : Value} {d : SplitV} (h : SplitRd w v d) : ∃ a0 n0 c0 fs, v = .agg #[.slice a0 n0 c0, .int .i64 fs] := by
  obtain ⟨v0, rfl, h0⟩ := h
  obtain ⟨a0, c0, rfl⟩ := h0.len
  exact ⟨_, _, _, _, rfl⟩
def nSplit (d : SplitV) : Nat := d.buf.length
theorem nSplit_le {d : SplitV} (h : SmallSplit d) : nSplit d ≤ 100000000 := by unfold SmallSplit at h; unfold nSplit; omega
def splitOkB (d : SplitV) : Bool := decide (0 ≤ d.lost) && decide (d.buf.length ≤ 270) && waitB d.buf

theorem bcellSp {W w1 : World} (hb : Below W.heap.size W w1) : (∀ b o, b < W.heap.size → w1.cell? ⟨b, o, none⟩ = W.cell? ⟨b, o, none⟩) ∧ (∀ b o, b < W.heap.size → w1.frozen? ⟨b, o, none⟩ = W.frozen? ⟨b, o, none⟩) :=
  ⟨fun b o h => hb.cell (p := ⟨b, o, none⟩) h, fun b o h => hb.frozen (p := ⟨b, o, none⟩) h⟩
theorem cellsISp : Try.prog.cellsOf 3 = 1 := by kernel_rfl
theorem cellsBy : Try.prog.cellsOf 22 = 1 := by kernel_rfl
theorem aggOfSp {P : Program} {W : World} {r : Reach} {base n : Nat} {t : TypeId} {fs : Array Field} {v : Value} (ht : P.underlying t = some (.struct fs)) (hn : P.cellsOf t = n) (h : Value.okWide P W r base t v) : ∃ cs : Array Value, v = .agg cs ∧ cs.size = n := by
  simp only [Value.okWide, ht] at h
  obtain ⟨cs, h1, h2, _⟩ := h
  exact ⟨cs, h1, by rw [h2, hn]⟩
theorem array2 {cs : Array Value} (h : cs.size = 2) : ∃ a b, cs = #[a, b] := by
  obtain ⟨l⟩ := cs
  match l, h with
  | [a, b], _ => exact ⟨a, b, rfl⟩
end Go.Proofs.Ytlgmmibncoedgaa
