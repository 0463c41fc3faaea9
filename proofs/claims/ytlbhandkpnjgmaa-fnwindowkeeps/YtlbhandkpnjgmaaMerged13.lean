/-
  Lists of items for reading: each a number and a list of marks; how much they hold.
-/
/-
  Items copied and compared.
-/
/-
  Windows: the program's way to hold two stamps' sources against each other.
-/
import Derived.Test.YtlbhandkpnjgmaaMerged9
import Derived.Handy
import Derived.Test.YtlbhandkpnjgmaaWinSrc
import Derived.Test.YtlbhandkpnjgmaaStampI
set_option linter.unusedVariables false
namespace Go.Proofs.Ytlbhandkpnjgmaa
open Go.RowKit Go.Maps Go.Deep

structure ItemV where
  a0 : Int
  a1 : List MarkV
/-- they lie one behind the other, from a place of a block on; each one's marks may be read -/
def ItemAt (w : World) (b off : Nat) (ns : List ItemV) : Prop :=
  ∀ i (h : i < ns.length), w.cell? ⟨b, off + i * 2, none⟩ = some (.int .i64 ns[i].a0) ∧ ∃ v, w.cell? ⟨b, off + i * 2 + 1, none⟩ = some v ∧ MarkSRd w v ns[i].a1
def ItemFit (x : ItemV) : Prop := (-9223372036854775808 ≤ x.a0 ∧ x.a0 ≤ 9223372036854775807) ∧ MarkSFit x.a1
def SmallItem (x : ItemV) : Prop := (-9223372036854775808 ≤ x.a0 ∧ x.a0 ≤ 9223372036854775807) ∧ SmallMarkS x.a1
def ItemIn (w : World) (a : Option Addr) (ns : List ItemV) : Prop :=
  ns = [] ∨ ∃ b off, a = some ⟨b, off, none⟩ ∧ b < w.heap.size ∧ ItemAt w b off ns
def ItemSRd (w : World) (v : Value) (ns : List ItemV) : Prop := ∃ a c, v = .slice a ns.length c ∧ ItemIn w a ns
def ItemSFit (ns : List ItemV) : Prop := ns.length ≤ maxLen ∧ ∀ x ∈ ns, ItemFit x
def SmallItemS (ns : List ItemV) : Prop := ns.length ≤ 1048576 ∧ ∀ x ∈ ns, SmallItem x
theorem ItemAt.up {w w' : World} {b off : Nat} {ns : List ItemV} (h : ItemAt w b off ns) (hb : b < w.heap.size) (hw : Below w.heap.size w w') : ItemAt w' b off ns := by
  intro i hi
  obtain ⟨c0, v, c1, hv⟩ := h i hi
  exact ⟨(hw.cell (by exact hb)).trans c0, v, (hw.cell (by exact hb)).trans c1, hv.up hw⟩
theorem ItemIn.up {w w' : World} {a : Option Addr} {ns : List ItemV} (h : ItemIn w a ns) (hw : Below w.heap.size w w') : ItemIn w' a ns := by
  rcases h with h | ⟨b, off, e, hb, h⟩
  · exact .inl h
  · exact .inr ⟨b, off, e, Nat.lt_of_lt_of_le hb hw.size, h.up hb hw⟩
theorem ItemSRd.up {w w' : World} {v : Value} {ns : List ItemV} (h : ItemSRd w v ns) (hw : Below w.heap.size w w') : ItemSRd w' v ns := by
  obtain ⟨a, c, e, h⟩ := h
  exact ⟨a, c, e, h.up hw⟩
theorem ItemSRd.form {w : World} {v : Value} {ns : List ItemV} (h : ItemSRd w v ns) : ∃ a n c, v = .slice a n c := by
  obtain ⟨a, c, e, _⟩ := h
  exact ⟨a, _, c, e⟩

end Go.Proofs.Ytlbhandkpnjgmaa

set_option linter.unusedVariables false
namespace Go.Proofs.Ytlbhandkpnjgmaa
open Go.RowKit Go.Maps Go.Deep

theorem icell {W w1 : World} (hb : Below W.heap.size W w1) : (∀ b o, b < W.heap.size → w1.cell? ⟨b, o, none⟩ = W.cell? ⟨b, o, none⟩) ∧ (∀ b o, b < W.heap.size → w1.frozen? ⟨b, o, none⟩ = W.frozen? ⟨b, o, none⟩) :=
  ⟨fun b o h => hb.cell (p := ⟨b, o, none⟩) h, fun b o h => hb.frozen (p := ⟨b, o, none⟩) h⟩
end Go.Proofs.Ytlbhandkpnjgmaa

set_option linter.unusedVariables false
namespace Go.Proofs.Ytlbhandkpnjgmaa
open Go.RowKit Go.Maps Go.Deep

set_option maxHeartbeats 1600000 in
theorem sameSource_any (x y : MarkV) (w : World) :
    Calls Try.prog 43 #[.agg #[.string x.a0, .int .i64 x.a1], .agg #[.string y.a0, .int .i64 y.a1]] w fun e w' => e = .returned (.bool (x.a0.toList == y.a0.toList)) ∧ Below w.heap.size w w' := by
  go_enter Try.func43, Try.ntmps43
  go_wp2_with fail
  go_ret
  exact ⟨rfl, by go_grown⟩
set_option maxHeartbeats 3200000 in
theorem equalFunc_row (w : World) (b off c b' off' c' : Nat) (xa xb : List MarkV) (hl : xa.length = xb.length) (hs : xa.length ≤ 1048576) (hA : MarkAt w b off xa) (hB : MarkAt w b' off' xb) (hb : b < w.heap.size) (hb' : b' < w.heap.size) :
    Calls Try.prog 44 #[.slice (some ⟨b, off, none⟩) xa.length c, .slice (some ⟨b', off', none⟩) xb.length c', .func (.func 43) #[] #[]] w fun e w' => e = .returned (.bool (srcB xa xb)) ∧ Below w.heap.size w w' := by
  have HA := hide hA
  have HB := hide hB
  have HL := hide hl
  clear hA hB
  rw [← hl]
  clear hl
  go_enter Try.func44, Try.ntmps44
  go_wp2_with fail
  go_loopw [17] (fun i wr => ∃ k : Nat, k ≤ xa.length ∧ i = .int .i64 k ∧ Hid (∀ j (h : j < xa.length) (h' : j < xb.length), j < k → xa[j].a0 = xb[j].a0) ∧ Hid (Below w.heap.size w wr)) (fun i _ => xa.length - (intOf i).toNat)
  case atStart => exact ⟨0, Nat.zero_le _, rfl, hide (fun j _ _ hj => absurd hj (Nat.not_lt_zero _)), Below.refl _ _⟩
  case round =>
    obtain ⟨k, hk, rfl, HN, HBr⟩ := hrel
    by_cases hlt : k < xa.length
    · have hlt' : k < xb.length := by have := unhide HL; omega
      obtain ⟨c0, c1⟩ := (unhide HA).below (unhide HBr) hb k hlt
      obtain ⟨d0, d1⟩ := (unhide HB).below (unhide HBr) hb' k hlt'
      have hbr := Nat.lt_of_lt_of_le hb (unhide HBr).size
      have hbr' := Nat.lt_of_lt_of_le hb' (unhide HBr).size
      have HC := hide (fun W => sameSource_any xa[k] xb[k] W)
      have HUP := hide (show (xa[k].a0.toList == xb[k].a0.toList) = true → ∀ j (h : j < xa.length) (h' : j < xb.length), j < k + 1 → xa[j].a0 = xb[j].a0 from fun he j h h' hj => by
          by_cases e : j = k
          · subst e; rw [str_same] at he; simpa using he
          · exact unhide HN j h h' (by omega))
      have HDN := hide (show (xa[k].a0.toList == xb[k].a0.toList) = false → false = srcB xa xb from fun he => (src_off hlt hlt' (by rw [str_same] at he; simpa using he)).symm)
      generalize (xa[k].a0.toList == xb[k].a0.toList) = q at *
      generalize xa[k].a0 = nm at *
      generalize xa[k].a1 = vl at *
      generalize xb[k].a0 = nb at *
      generalize xb[k].a1 = vb at *
      go_wp2_with fail
      refine (unhide HC _).mono ?_
      rintro e w1 ⟨rfl, b1⟩
      have B1 := hide ((unhide HBr).trans (Below.mono (Below.trans (by go_grown : Below wr.heap.size wr _) (b1.mono (by simp; omega))) (unhide HBr).size))
      clear b1 c0 c1 d0 d1
      cases q
      · have HR := hide (unhide HDN rfl)
        clear HDN HUP
        go_wp2_with fail
        go_ret
        exact ⟨ret_bool (unhide HR), unhide B1⟩
      · have HN2 := hide (unhide HUP rfl)
        clear HDN HUP
        go_wp2_with fail
        go_roundw
        case rel => exact ⟨k + 1, by omega, by go_num, HN2, B1⟩
        case measure => simp [intOf]; omega
    · have HR := hide (src_on (unhide HL) (fun i h h' => unhide HN i h h' (by omega))).symm
      go_wp2_with fail
      go_ret
      exact ⟨ret_bool (unhide HR), unhide HBr⟩
theorem equalFunc_len (w : World) (a a' : Option Addr) (c c' : Nat) (xa xb : List MarkV) (hl : xa.length ≠ xb.length) (h1 : xa.length ≤ 1048576) (h2 : xb.length ≤ 1048576) :
    Calls Try.prog 44 #[.slice a xa.length c, .slice a' xb.length c', .func (.func 43) #[] #[]] w fun e w' => e = .returned (.bool (srcB xa xb)) ∧ Below w.heap.size w w' := by
  have HR := hide (src_len hl).symm
  have e : ((xa.length : Int) == (xb.length : Int)) = false := by rw [beq_eq_false_iff_ne]; omega
  generalize xa.length = n at *
  generalize xb.length = m at *
  go_enter Try.func44, Try.ntmps44
  go_wp2_with fail
  go_ret
  exact ⟨ret_bool (unhide HR), Below.refl _ _⟩
theorem equalFunc_none (w : World) (a a' : Option Addr) (c c' : Nat) :
    Calls Try.prog 44 #[.slice a 0 c, .slice a' 0 c', .func (.func 43) #[] #[]] w fun e w' => e = .returned (.bool true) ∧ Below w.heap.size w w' := by
  go_enter Try.func44, Try.ntmps44
  go_wp2_with fail
  refine wp_loop_rounds 1 ?_
  rw [rounds_succ]
  go_wp2_with fail
  go_ret
  exact ⟨rfl, Below.refl _ _⟩
theorem equalFunc_any (xa : List MarkV) (va : Value) (xb : List MarkV) (vb : Value) (w : World) (hsa : SmallMarkS xa) (hsb : SmallMarkS xb) (hA : MarkSRd w va xa) (hB : MarkSRd w vb xb) :
    Calls Try.prog 44 #[va, vb, .func (.func 43) #[] #[]] w fun e w' => e = .returned (.bool (srcB xa xb)) ∧ Below w.heap.size w w' := by
  obtain ⟨a, c, rfl, hA⟩ := hA
  obtain ⟨a', c', rfl, hB⟩ := hB
  by_cases hl : xa.length = xb.length
  · rcases hA with rfl | ⟨b, off, rfl, hb, hA⟩
    · have : xb = [] := List.eq_nil_of_length_eq_zero hl.symm
      subst this
      exact equalFunc_none w a a' c c'
    · rcases hB with rfl | ⟨b', off', rfl, hb', hB⟩
      · have : xa = [] := List.eq_nil_of_length_eq_zero hl
        subst this
        exact equalFunc_none w _ a' c c'
      · exact equalFunc_row w b off c b' off' c' xa xb hl hsa.1.1 hA hB hb hb'
  · exact equalFunc_len w a a' c c' xa xb hl hsa.1.1 hsb.1.1
end Go.Proofs.Ytlbhandkpnjgmaa
