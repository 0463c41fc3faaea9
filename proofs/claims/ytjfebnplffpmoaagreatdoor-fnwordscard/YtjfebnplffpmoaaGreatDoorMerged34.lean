/-
  Cutting a text into words: what is wrong, told to those outside.
-/
/-
  A rune of a text is an edge just where the byte is.
-/
/-
  Cutting a text into words: the program goes through the runes.
-/
import Derived.Test.YtjfebnplffpmoaaGreatDoorAsErr2
import Derived.Test.YtjfebnplffpmoaaGreatDoorMerged31
import Derived.Test.YtjfebnplffpmoaaGreatDoorMerged21
import Derived.Test.YtjfebnplffpmoaaGreatDoorMerged3
import Derived.Laws.RangeString
import Derived.Laws.RangeAny
import Derived.Lib.OthersKept
import Derived.Test.YtjfebnplffpmoaaGreatDoorBodyI2
set_option linter.unusedVariables false
namespace Go.Proofs.YtjfebnplffpmoaaGreatDoor
open Go.RowKit Go.Maps Go.Deep

def ErrG (w : World) : Prop := w.cell? ⟨0, 0, none⟩ = some (.iface 117 (.agg #[.pointer (some ⟨7, 40, none⟩)]))
theorem ErrG.below {w w' : World} {B : Nat} (h : ErrG w) (hb : Below B w w') (hB : w.heap.size ≤ B) : ErrG w' := by
  unfold ErrG at h ⊢
  exact (hb.cell (Nat.lt_of_lt_of_le (lt_of_cell0 h) hB)).trans h
theorem BoxF.duoI {w : World} {g : Nat} {a b : Value} (h : BoxF w g [a, b]) : (w.cell? ⟨g, 0, none⟩ = some a ∧ w.cell? ⟨g, 1, none⟩ = some b) ∧ (w.frozen? ⟨g, 0, none⟩ = false ∧ w.frozen? ⟨g, 1, none⟩ = false) :=
  ⟨⟨h.1.at 0 _ rfl, h.1.at 1 _ rfl⟩, h.2 0 (by simp), h.2 1 (by simp)⟩
theorem BoxF.oneI {w : World} {g : Nat} {a : Value} (h : BoxF w g [a]) : w.cell? ⟨g, 0, none⟩ = some a ∧ w.frozen? ⟨g, 0, none⟩ = false := ⟨h.1.at 0 _ rfl, h.2 0 (by simp)⟩
/-- errors.As for the place, in plain words -/
theorem as_place (c a : Int) (t : Nat) (w : World) (hg : ErrG w) (hb : BoxF w t [.int .i64 0, .nilIface]) :
    Calls Tryz.prog 24 #[errV c a, .iface 71 (.pointer (some ⟨t, 0, none⟩))] w fun e w' => e = .returned (.bool true) ∧ Hid (BoxF w' t [.int .i64 a, .iface 69 (.agg #[.int .i64 c])]) ∧ Hid (Turn [t] w w') := by
  obtain ⟨⟨t0, t1⟩, f0, f1⟩ := hb.duoI
  refine (as_hitQ a 69 (.agg #[.int .i64 c]) t _ _ w hg t0 f0 t1 f1).mono ?_
  rintro e w' ⟨rfl, rfl⟩
  have bb : Below w.heap.size w ((((w.alloc (.cells #[.pointer (some ⟨t, 0, none⟩)] 71)).alloc (.cells #[.pointer (some ⟨7, 71, none⟩), .pointer (some ⟨w.heap.size, 0, none⟩), .int .u64 150] 91)).alloc (.cells #[.pointer (some ⟨7, 71, none⟩), .pointer (some ⟨w.heap.size, 0, none⟩), .int .u64 150] 91)).alloc (.cells #[.int .i64 a, .iface 69 (.agg #[.int .i64 c])] 67)) :=
    ((((Below.refl _ w).alloc (Nat.le_refl _) _).alloc (by simp) _).alloc (by simp; omega) _).alloc (by simp; omega) _
  have x := hb.up bb
  have y := (x.set 0 (.int .i64 a) (by simp)).set 1 (.iface 69 (.agg #[.int .i64 c])) (by simp)
  simp only [List.set] at y
  exact ⟨rfl, hide y, hide (((Turn.of_below (S := [t]) bb).setCell (by simp) _ _).setCell (by simp) _ _)⟩
theorem as_wrong (c a : Int) (t : Nat) (w : World) (hg : ErrG w) (hb : BoxF w t [.int .i64 0]) :
    Calls Tryz.prog 24 #[errV c a, .iface 72 (.pointer (some ⟨t, 0, none⟩))] w fun e w' => e = .returned (.bool true) ∧ Hid (BoxF w' t [.int .i64 c]) ∧ Hid (Turn [t] w w') := by
  obtain ⟨t0, f0⟩ := hb.oneI
  refine (as_wrapB a c t _ w hg t0 f0).mono ?_
  rintro e w' ⟨rfl, rfl⟩
  have bb : Below w.heap.size w (((((w.alloc (.cells #[.pointer (some ⟨t, 0, none⟩)] 72)).alloc (.cells #[.pointer (some ⟨7, 72, none⟩), .pointer (some ⟨w.heap.size, 0, none⟩), .int .u64 150] 91)).alloc (.cells #[.pointer (some ⟨7, 72, none⟩), .pointer (some ⟨w.heap.size, 0, none⟩), .int .u64 150] 91)).alloc (.cells #[.int .i64 a, .iface 69 (.agg #[.int .i64 c])] 67)).alloc (.cells #[.int .i64 c] 69)) :=
    (((((Below.refl _ w).alloc (Nat.le_refl _) _).alloc (by simp) _).alloc (by simp; omega) _).alloc (by simp; omega) _).alloc (by simp; omega) _
  have x := hb.up bb
  have y := x.set 0 (.int .i64 c) (by simp)
  simp only [List.set] at y
  exact ⟨rfl, hide y, hide ((Turn.of_below (S := [t]) bb).setCell (by simp) _ _)⟩
set_option maxHeartbeats 3200000 in
theorem faultOf_any (c a : Int) (w : World) (hg : ErrG w) :
    Calls Tryz.prog 12 #[errV c a] w fun e w' => e = .returned (.agg #[.int .i64 c, .int .i64 a]) ∧ Below w.heap.size w w' := by
  have X0 := hide (boxF_new w [.int .i64 0, .int .i64 0] 26)
  have A0 := hide ((Below.refl _ w).alloc (Nat.le_refl _) (.cells #[.int .i64 0, .int .i64 0] 26))
  have bP := (Below.refl _ (w.alloc (.cells #[.int .i64 0, .int .i64 0] 26))).alloc (Nat.le_refl _) (.cells #[.int .i64 0, .nilIface] 67)
  have XP := hide (boxF_new (w.alloc (.cells #[.int .i64 0, .int .i64 0] 26)) [.int .i64 0, .nilIface] 67)
  have bB := (Below.refl _ ((w.alloc (.cells #[.int .i64 0, .int .i64 0] 26)).alloc (.cells #[.int .i64 0, .nilIface] 67))).alloc (Nat.le_refl _) (.cells #[.int .i64 0] 69)
  have XB := hide (boxF_new ((w.alloc (.cells #[.int .i64 0, .int .i64 0] 26)).alloc (.cells #[.int .i64 0, .nilIface] 67)) [.int .i64 0] 69)
  have A2 := hide ((unhide A0).trans ((bP.trans (bB.mono bP.size)).mono (unhide A0).size))
  have XP2 := hide ((unhide XP).up bB)
  have X2 := hide (((unhide X0).up bP).up bB)
  have h1 : (w.alloc (.cells #[.int .i64 0, .int .i64 0] 26)).heap.size = w.heap.size + 1 := by simp
  have h2 : ((w.alloc (.cells #[.int .i64 0, .int .i64 0] 26)).alloc (.cells #[.int .i64 0, .nilIface] 67)).heap.size = w.heap.size + 1 + 1 := by simp
  simp only [List.toArray] at XP2 X2 XB
  rw [h1] at XP2
  rw [h2] at XB
  have HG2 := hide (hg.below (unhide A2) (Nat.le_refl _))
  have hlg : 0 < w.heap.size := by have := hg; unfold ErrG at this; exact lt_of_cell0 this
  clear bP bB h1 h2 X0 A0 XP hg
  go_enter Tryz.func12, Tryz.ntmps12
  go_wp2_with fail
  generalize ((w.alloc (.cells #[.int .i64 0, .int .i64 0] 26)).alloc (.cells #[.int .i64 0, .nilIface] 67)).alloc (.cells #[.int .i64 0] 69) = W at *
  refine (as_place c a (w.heap.size + 1) W (unhide HG2) (unhide XP2)).mono ?_
  rintro e w1 ⟨rfl, XP3, T3⟩
  have X3 := hide ((unhide X2).turn (unhide T3) (by simp))
  have XB3 := hide ((unhide XB).turn (unhide T3) (by simp))
  have A3 := hide ((unhide A2).trans ((unhide T3).below (unhide A2).size (by simp)))
  have HG3 := hide (show ErrG w1 from by
    have := unhide HG2
    unfold ErrG at this ⊢
    exact ((unhide T3).cell (lt_of_cell0 this) (by rw [List.mem_singleton]; omega)).trans this)
  clear T3 X2 XB A2 HG2 XP2
  go_wp2_with fail
  refine (as_wrong c a (w.heap.size + 1 + 1) w1 (unhide HG3) (unhide XB3)).mono ?_
  rintro e w2 ⟨rfl, XB4, T4⟩
  have X4 := hide ((unhide X3).turn (unhide T4) (by simp; omega))
  have XP4 := hide ((unhide XP3).turn (unhide T4) (by simp))
  have A4 := hide ((unhide A3).trans ((unhide T4).below (unhide A3).size (by simp; omega)))
  clear T4 X3 XP3 XB3 A3 HG3
  obtain ⟨⟨x0, x1⟩, f0, f1⟩ := (unhide X4).duoI
  obtain ⟨⟨p0, p1⟩, -⟩ := (unhide XP4).duoI
  obtain ⟨b0, -⟩ := (unhide XB4).oneI
  go_wp2_with fail
  refine bodyPost_ret (v := .agg #[.int .i64 c, .int .i64 a]) (by simp [results, Tryz.results12, go_sem, x0, x1]) rfl ?_
  refine ⟨rfl, ?_⟩
  (iterate 2 (refine Below.setCell ?_ (by exact Nat.le_refl _) _))
  exact unhide A4
end Go.Proofs.YtjfebnplffpmoaaGreatDoor

set_option linter.unusedVariables false
namespace Go.Proofs.YtjfebnplffpmoaaGreatDoor
open Go.RowKit Go.Maps Go.Lib

theorem getB (s : ByteArray) (k : Nat) (h : k < s.size) : s.get! k = s[k] := get_at s k h
theorem decode_cont (s : ByteArray) (pos : Nat) : ∀ k, 1 ≤ k → k < (Utf8.decode s pos).2 → pos + k < s.size ∧ 128 ≤ (s.get! (pos + k)).toNat := by
  intro k h1 h2
  unfold Utf8.decode at h2
  simp only at h2
  split at h2
  · simp at h2; omega
  split at h2
  · rename_i hc
    simp only [Bool.and_eq_true, decide_eq_true_eq, beq_iff_eq] at hc
    split at h2
    · simp only at h2
      obtain rfl : k = 1 := by omega
      exact ⟨hc.2.1, by omega⟩
    · simp at h2; omega
  split at h2
  · rename_i hc
    simp only [Bool.and_eq_true, decide_eq_true_eq, beq_iff_eq] at hc
    split at h2
    · simp only at h2
      rcases (show k = 1 ∨ k = 2 by omega) with rfl | rfl
      · exact ⟨hc.1.2.1, by omega⟩
      · exact ⟨hc.2.1, by omega⟩
    · simp at h2; omega
  split at h2
  · rename_i hc
    simp only [Bool.and_eq_true, decide_eq_true_eq, beq_iff_eq] at hc
    split at h2
    · simp only at h2
      rcases (show k = 1 ∨ k = 2 ∨ k = 3 by omega) with rfl | rfl | rfl
      · exact ⟨hc.1.1.2.1, by omega⟩
      · exact ⟨hc.1.2.1, by omega⟩
      · exact ⟨hc.2.1, by omega⟩
    · simp at h2; omega
  · simp at h2; omega
/-- a rune is the edge just where the byte is; no byte within another rune is -/
theorem rune_edge (s : ByteArray) (pos : Nat) (hp : pos < s.size) (c : UInt8) (hc : c.toNat < 128) :
    ((Utf8.decode s pos).1 = c.toNat ↔ s[pos] = c) ∧ 1 ≤ (Utf8.decode s pos).2 ∧ pos + (Utf8.decode s pos).2 ≤ s.size ∧ (s[pos] = c → (Utf8.decode s pos).2 = 1) ∧ ∀ j (hj : j < s.size), pos < j → j < pos + (Utf8.decode s pos).2 → s[j] ≠ c := by
  have hcont := decode_cont s pos
  have hin : ∀ j (hj : j < s.size), pos < j → j < pos + (Utf8.decode s pos).2 → s[j] ≠ c := fun j hj h1 h2 e => by
    obtain ⟨h3, h4⟩ := hcont (j - pos) (by omega) (by omega)
    rw [show pos + (j - pos) = j by omega, getB s j hj, e] at h4
    omega
  have hle : 1 ≤ (Utf8.decode s pos).2 → pos + (Utf8.decode s pos).2 ≤ s.size := fun h1 => by
    by_cases h2 : (Utf8.decode s pos).2 = 1
    · omega
    · have := (hcont ((Utf8.decode s pos).2 - 1) (by omega) (by omega)).1
      omega
  by_cases hh : s[pos].toNat < 128
  · have e := decode_ascii s pos hp hh
    rw [e] at hin hle ⊢
    refine ⟨⟨fun h => UInt8.toNat_inj.1 h, fun h => by rw [h]⟩, Nat.le_refl _, hle (Nat.le_refl _), fun _ => rfl, hin⟩
  · obtain ⟨h1, h2⟩ := decode_high s pos hp (by omega)
    refine ⟨⟨fun h => by omega, fun h => by rw [h] at hh; omega⟩, h2, hle h2, fun h => by rw [h] at hh; omega, hin⟩
end Go.Proofs.YtjfebnplffpmoaaGreatDoor

set_option linter.unusedVariables false
namespace Go.Proofs.YtjfebnplffpmoaaGreatDoor
open Go.RowKit Go.Maps Go.Deep Go.Lib

theorem open_four {s : ByteArray} {opn : Int} {st k : Nat} (h : OpenAt s opn st k) : opn = 0 ∨ opn = 1 ∨ opn = 2 ∨ opn = 4 := by
  cases h <;> simp
theorem end_all (s : ByteArray) (kb cb B : Nat) (ra : Option Addr) (rn rc : Nat) (ws : List WordV) (opn : Int) (st k : Nat) (w : World) (hs : s.size ≤ 1500) (ho : OpenAt s opn st k) (hk : k ≤ s.size) (hg : k = s.size ∨ goB s opn st k = false) (hb : BoxF w cb (cutC s kb (.slice ra rn rc) opn st)) (hr : WdRow B w (.slice ra rn rc) ws) (hl : ws.length ≤ (if opn = 0 then k else st)) (hcb : cb < B) (hB : B ≤ w.heap.size) (hkey : KeysAt1 w kb) :
    Calls Tryz.prog 22 #[.pointer (some ⟨cb, 0, none⟩), .int .i64 (k : Int)] w fun e w' =>
      (∃ c : Int, ((contR s opn st k).pre ws = .bad c st ∧ (c = 2 ∨ c = 3 ∨ c = 4)) ∧ e = .returned (errV c st) ∧ Below w.heap.size w w') ∨
      (∃ ws' ra' rn' rc', ((contR s opn st k).pre ws = (lexR s k).pre ws' ∧ ws'.length ≤ k) ∧ e = .returned .nilIface ∧ Hid (BoxF w' cb (cutC s kb (.slice ra' rn' rc') opn st)) ∧ Hid (WdRow B w' (.slice ra' rn' rc') ws') ∧ Hid (Turn (cb :: (Value.slice ra rn rc).ownBlock.toList) w w')) := by
  by_cases h0 : opn = 0
  · subst h0
    rw [if_pos rfl] at hl
    refine (end_zero s kb cb _ st k w hb).mono ?_
    rintro e w' ⟨rfl, rfl⟩
    exact .inr ⟨ws, ra, rn, rc, ⟨by unfold contR; rw [if_pos rfl], hl⟩, rfl, hide hb, hide hr, hide (Turn.refl _ _)⟩
  · rw [if_neg h0] at hl
    obtain ⟨-, -, hlt⟩ := end_word ho hk h0 hg
    have hc := lex_close ho hk h0 hg
    refine (end_any s kb cb B ra rn rc ws opn st k w hs (by have := open_four ho; omega) ⟨hlt, hk⟩ hb hr (by omega) hcb hB hkey).mono ?_
    intro e w' h
    unfold RetEnd at h
    cases hw : closeW s opn st k with
    | bad c =>
      rw [hw] at h hc
      simp only at h hc
      refine .inl ⟨c, ⟨by rw [hc]; rfl, ?_⟩, h.1, h.2⟩
      unfold contR at hc
      rw [if_neg h0] at hc
      exact (lex_bad s _ st c st rfl hc).1
    | word x n =>
      rw [hw] at h hc
      simp only at h hc
      obtain ⟨rfl, ra', rn', rc', h1, h2, h3⟩ := h
      exact .inr ⟨ws ++ [x], ra', rn', rc', ⟨by rw [hc, LRes.pre_cons], by simp; omega⟩, rfl, h1, h2, h3⟩
theorem turn_iterAt (wr : World) (it : Nat) (s : ByteArray) (p : Nat) : Turn [it] wr (wr.iterAt it s p) := by
  have b := below_iterAt (Below.refl it wr) (Nat.le_refl it) s p
  exact ⟨b.os, b.tape, b.output, b.size, fun j hj hS => iterAt_other _ _ _ _ _ (by simpa using hS)⟩
theorem rune_same (s : ByteArray) (k : Nat) (hk : k < s.size) : letB ((Utf8.decode s k).1 : Nat) = letB (byteAt s k) ∧ digB ((Utf8.decode s k).1 : Nat) = digB (byteAt s k) ∧ (((Utf8.decode s k).1 : Int) = 61 ↔ byteAt s k = 61) ∧ (((Utf8.decode s k).1 : Int) = 32 ↔ byteAt s k = 32) ∧ 1 ≤ (Utf8.decode s k).2 ∧ k + (Utf8.decode s k).2 ≤ s.size ∧ (byteAt s k < 128 → (Utf8.decode s k).2 = 1) := by
  obtain ⟨h1, h2, -⟩ := rune_byte s k hk
  have hb := byteAt_eq s k hk
  have key : ∀ c : UInt8, c.toNat < 128 → (((Utf8.decode s k).1 : Int) = c.toNat ↔ byteAt s k = c.toNat) := fun c hc => by
    have := (rune_edge s k hk c hc).1
    rw [hb]
    constructor
    · intro e
      have := this.1 (by omega)
      rw [this]
    · intro e
      have e2 : (s[k]'hk) = c := UInt8.toNat_inj.1 (by omega)
      have := this.2 e2
      omega
  obtain ⟨-, g1, g2, -, -⟩ := rune_edge s k hk 61 (by decide)
  refine ⟨h1, h2, key 61 (by decide), key 32 (by decide), g1, g2, fun hlt => ?_⟩
  rw [hb] at hlt
  rw [decode_ascii s k hk (by omega)]
theorem goR_same {s : ByteArray} {opn : Int} {st k : Nat} {r : Int} (h1 : letB r = letB (byteAt s k)) (h2 : digB r = digB (byteAt s k)) (h3 : r = 61 ↔ byteAt s k = 61) : goR s opn st k r = goB s opn st k := by
  unfold goR goB
  rw [h1, h2]
  by_cases h : r = 61
  · rw [decide_eq_true h, decide_eq_true (h3.1 h)]
  · rw [decide_eq_false h, decide_eq_false (fun e => h (h3.2 e))]
theorem beginK_same {s : ByteArray} {k : Nat} {r : Int} (h1 : letB r = letB (byteAt s k)) (h2 : digB r = digB (byteAt s k)) (h3 : r = 32 ↔ byteAt s k = 32) : beginK r = beginK (byteAt s k) := by
  unfold beginK
  rw [h1, h2]
  by_cases h : r = 32
  · rw [if_pos h, if_pos (h3.1 h)]
  · rw [if_neg h, if_neg (fun e => h (h3.2 e))]
end Go.Proofs.YtjfebnplffpmoaaGreatDoor
