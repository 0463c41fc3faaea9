/-
  Cutting a text into words: what is wrong, told to those outside.
-/
/-
  A rune of a text is an edge just where the byte is.
-/
/-
  Cutting a text into words: the program goes through the runes.
-/
/-
  BodyWords of the program.
-/
/-
  The one place where the program's reader that has given up is caught.
-/
import Derived.Test.YtkfhokeoooafnaaGreatDoorAsErr2
import Derived.Test.YtkfhokeoooafnaaGreatDoorBodyI
import Derived.Test.YtkfhokeoooafnaaGreatDoorMerged24
import Derived.Test.YtkfhokeoooafnaaGreatDoorMerged3
import Derived.Laws.RangeString
import Derived.Laws.RangeAny
import Derived.Lib.OthersKept
import Derived.Test.YtkfhokeoooafnaaGreatDoorBodyI2
import Derived.Test.YtkfhokeoooafnaaGreatDoorMerged25
import Derived.Test.YtkfhokeoooafnaaGreatDoorRdrT
import Derived.Defers
import Derived.Recover
import Derived.Laws.Pointers
set_option linter.unusedVariables false
namespace Go.Proofs.YtkfhokeoooafnaaGreatDoor
open Go.RowKit Go.Maps Go.Deep

def ErrG (w : World) : Prop := w.cell? ⟨1, 0, none⟩ = some (.iface 166 (.agg #[.pointer (some ⟨8, 45, none⟩)]))
theorem ErrG.below {w w' : World} {B : Nat} (h : ErrG w) (hb : Below B w w') (hB : w.heap.size ≤ B) : ErrG w' := by
  unfold ErrG at h ⊢
  exact (hb.cell (Nat.lt_of_lt_of_le (lt_of_cell0 h) hB)).trans h
theorem BoxF.duoI {w : World} {g : Nat} {a b : Value} (h : BoxF w g [a, b]) : (w.cell? ⟨g, 0, none⟩ = some a ∧ w.cell? ⟨g, 1, none⟩ = some b) ∧ (w.frozen? ⟨g, 0, none⟩ = false ∧ w.frozen? ⟨g, 1, none⟩ = false) :=
  ⟨⟨h.1.at 0 _ rfl, h.1.at 1 _ rfl⟩, h.2 0 (by simp), h.2 1 (by simp)⟩
theorem BoxF.oneI {w : World} {g : Nat} {a : Value} (h : BoxF w g [a]) : w.cell? ⟨g, 0, none⟩ = some a ∧ w.frozen? ⟨g, 0, none⟩ = false := ⟨h.1.at 0 _ rfl, h.2 0 (by simp)⟩
/-- errors.As for the place, in plain words -/
theorem as_place (c a : Int) (t : Nat) (w : World) (hg : ErrG w) (hb : BoxF w t [.int .i64 0, .nilIface]) :
    Calls Tryz.prog 45 #[errV c a, .iface 104 (.pointer (some ⟨t, 0, none⟩))] w fun e w' => e = .returned (.bool true) ∧ Hid (BoxF w' t [.int .i64 a, .iface 102 (.agg #[.int .i64 c])]) ∧ Hid (Turn [t] w w') := by
  obtain ⟨⟨t0, t1⟩, f0, f1⟩ := hb.duoI
  refine (as_hitQ a 102 (.agg #[.int .i64 c]) t _ _ w hg t0 f0 t1 f1).mono ?_
  rintro e w' ⟨rfl, rfl⟩
  have bb : Below w.heap.size w ((((w.alloc (.cells #[.pointer (some ⟨t, 0, none⟩)] 104)).alloc (.cells #[.pointer (some ⟨8, 104, none⟩), .pointer (some ⟨w.heap.size, 0, none⟩), .int .u64 150] 139)).alloc (.cells #[.pointer (some ⟨8, 104, none⟩), .pointer (some ⟨w.heap.size, 0, none⟩), .int .u64 150] 139)).alloc (.cells #[.int .i64 a, .iface 102 (.agg #[.int .i64 c])] 96)) :=
    ((((Below.refl _ w).alloc (Nat.le_refl _) _).alloc (by simp) _).alloc (by simp; omega) _).alloc (by simp; omega) _
  have x := hb.up bb
  have y := (x.set 0 (.int .i64 a) (by simp)).set 1 (.iface 102 (.agg #[.int .i64 c])) (by simp)
  simp only [List.set] at y
  exact ⟨rfl, hide y, hide (((Turn.of_below (S := [t]) bb).setCell (by simp) _ _).setCell (by simp) _ _)⟩
theorem as_wrong (c a : Int) (t : Nat) (w : World) (hg : ErrG w) (hb : BoxF w t [.int .i64 0]) :
    Calls Tryz.prog 45 #[errV c a, .iface 105 (.pointer (some ⟨t, 0, none⟩))] w fun e w' => e = .returned (.bool true) ∧ Hid (BoxF w' t [.int .i64 c]) ∧ Hid (Turn [t] w w') := by
  obtain ⟨t0, f0⟩ := hb.oneI
  refine (as_wrapB a c t _ w hg t0 f0).mono ?_
  rintro e w' ⟨rfl, rfl⟩
  have bb : Below w.heap.size w (((((w.alloc (.cells #[.pointer (some ⟨t, 0, none⟩)] 105)).alloc (.cells #[.pointer (some ⟨8, 105, none⟩), .pointer (some ⟨w.heap.size, 0, none⟩), .int .u64 150] 139)).alloc (.cells #[.pointer (some ⟨8, 105, none⟩), .pointer (some ⟨w.heap.size, 0, none⟩), .int .u64 150] 139)).alloc (.cells #[.int .i64 a, .iface 102 (.agg #[.int .i64 c])] 96)).alloc (.cells #[.int .i64 c] 102)) :=
    (((((Below.refl _ w).alloc (Nat.le_refl _) _).alloc (by simp) _).alloc (by simp; omega) _).alloc (by simp; omega) _).alloc (by simp; omega) _
  have x := hb.up bb
  have y := x.set 0 (.int .i64 c) (by simp)
  simp only [List.set] at y
  exact ⟨rfl, hide y, hide ((Turn.of_below (S := [t]) bb).setCell (by simp) _ _)⟩
set_option maxHeartbeats 3200000 in
theorem faultOf_any (c a : Int) (w : World) (hg : ErrG w) :
    Calls Tryz.prog 20 #[errV c a] w fun e w' => e = .returned (.agg #[.int .i64 c, .int .i64 a]) ∧ Below w.heap.size w w' := by
  have X0 := hide (boxF_new w [.int .i64 0, .int .i64 0] 27)
  have A0 := hide ((Below.refl _ w).alloc (Nat.le_refl _) (.cells #[.int .i64 0, .int .i64 0] 27))
  have bP := (Below.refl _ (w.alloc (.cells #[.int .i64 0, .int .i64 0] 27))).alloc (Nat.le_refl _) (.cells #[.int .i64 0, .nilIface] 96)
  have XP := hide (boxF_new (w.alloc (.cells #[.int .i64 0, .int .i64 0] 27)) [.int .i64 0, .nilIface] 96)
  have bB := (Below.refl _ ((w.alloc (.cells #[.int .i64 0, .int .i64 0] 27)).alloc (.cells #[.int .i64 0, .nilIface] 96))).alloc (Nat.le_refl _) (.cells #[.int .i64 0] 102)
  have XB := hide (boxF_new ((w.alloc (.cells #[.int .i64 0, .int .i64 0] 27)).alloc (.cells #[.int .i64 0, .nilIface] 96)) [.int .i64 0] 102)
  have A2 := hide ((unhide A0).trans ((bP.trans (bB.mono bP.size)).mono (unhide A0).size))
  have XP2 := hide ((unhide XP).up bB)
  have X2 := hide (((unhide X0).up bP).up bB)
  have h1 : (w.alloc (.cells #[.int .i64 0, .int .i64 0] 27)).heap.size = w.heap.size + 1 := by simp
  have h2 : ((w.alloc (.cells #[.int .i64 0, .int .i64 0] 27)).alloc (.cells #[.int .i64 0, .nilIface] 96)).heap.size = w.heap.size + 1 + 1 := by simp
  simp only [List.toArray] at XP2 X2 XB
  rw [h1] at XP2
  rw [h2] at XB
  have HG2 := hide (hg.below (unhide A2) (Nat.le_refl _))
  have hlg : 1 < w.heap.size := by have := hg; unfold ErrG at this; exact lt_of_cell0 this
  clear bP bB h1 h2 X0 A0 XP hg
  go_enter Tryz.func20, Tryz.ntmps20
  go_wp2_with fail
  generalize ((w.alloc (.cells #[.int .i64 0, .int .i64 0] 27)).alloc (.cells #[.int .i64 0, .nilIface] 96)).alloc (.cells #[.int .i64 0] 102) = W at *
  refine (as_place c a (w.heap.size + 1) W (unhide HG2) (unhide XP2)).mono ?_
  rintro e w1 ⟨rfl, XP3, T3⟩
  have X3 := hide ((unhide X2).turn (unhide T3) (by simp))
  have XB3 := hide ((unhide XB).turn (unhide T3) (by simp))
  have A3 := hide ((unhide A2).trans ((unhide T3).below (unhide A2).size (by simp)))
  have HG3 := hide (show ErrG w1 from by
    have := unhide HG2
    unfold ErrG at this ⊢
    exact ((unhide T3).cell (lt_of_cell0 this) (by rw [List.mem_singleton]; omega)).trans this)
  clear T3 X2 XB A2 HG2 XP2
  go_wp2_with fail
  refine (as_wrong c a (w.heap.size + 1 + 1) w1 (unhide HG3) (unhide XB3)).mono ?_
  rintro e w2 ⟨rfl, XB4, T4⟩
  have X4 := hide ((unhide X3).turn (unhide T4) (by simp; omega))
  have XP4 := hide ((unhide XP3).turn (unhide T4) (by simp))
  have A4 := hide ((unhide A3).trans ((unhide T4).below (unhide A3).size (by simp; omega)))
  clear T4 X3 XP3 XB3 A3 HG3
  obtain ⟨⟨x0, x1⟩, f0, f1⟩ := (unhide X4).duoI
  obtain ⟨⟨p0, p1⟩, -⟩ := (unhide XP4).duoI
  obtain ⟨b0, -⟩ := (unhide XB4).oneI
  go_wp2_with fail
  refine bodyPost_ret (v := .agg #[.int .i64 c, .int .i64 a]) (by simp [results, Tryz.results20, go_sem, x0, x1]) rfl ?_
  refine ⟨rfl, ?_⟩
  (iterate 2 (refine Below.setCell ?_ (by exact Nat.le_refl _) _))
  exact unhide A4
end Go.Proofs.YtkfhokeoooafnaaGreatDoor

set_option linter.unusedVariables false
namespace Go.Proofs.YtkfhokeoooafnaaGreatDoor
open Go.RowKit Go.Maps Go.Lib

theorem getB (s : ByteArray) (k : Nat) (h : k < s.size) : s.get! k = s[k] := get_at s k h
theorem decode_cont (s : ByteArray) (pos : Nat) : ∀ k, 1 ≤ k → k < (Utf8.decode s pos).2 → pos + k < s.size ∧ 128 ≤ (s.get! (pos + k)).toNat := by
  intro k h1 h2
  unfold Utf8.decode at h2
  simp only at h2
  split at h2
  · simp at h2; omega
  split at h2
  · rename_i hc
    simp only [Bool.and_eq_true, decide_eq_true_eq, beq_iff_eq] at hc
    split at h2
    · simp only at h2
      obtain rfl : k = 1 := by omega
      exact ⟨hc.2.1, by omega⟩
    · simp at h2; omega
  split at h2
  · rename_i hc
    simp only [Bool.and_eq_true, decide_eq_true_eq, beq_iff_eq] at hc
    split at h2
    · simp only at h2
      rcases (show k = 1 ∨ k = 2 by omega) with rfl | rfl
      · exact ⟨hc.1.2.1, by omega⟩
      · exact ⟨hc.2.1, by omega⟩
    · simp at h2; omega
  split at h2
  · rename_i hc
    simp only [Bool.and_eq_true, decide_eq_true_eq, beq_iff_eq] at hc
    split at h2
    · simp only at h2
      rcases (show k = 1 ∨ k = 2 ∨ k = 3 by omega) with rfl | rfl | rfl
      · exact ⟨hc.1.1.2.1, by omega⟩
      · exact ⟨hc.1.2.1, by omega⟩
      · exact ⟨hc.2.1, by omega⟩
    · simp at h2; omega
  · simp at h2; omega
/-- a rune is the edge just where the byte is; no byte within another rune is -/
theorem rune_edge (s : ByteArray) (pos : Nat) (hp : pos < s.size) (c : UInt8) (hc : c.toNat < 128) :
    ((Utf8.decode s pos).1 = c.toNat ↔ s[pos] = c) ∧ 1 ≤ (Utf8.decode s pos).2 ∧ pos + (Utf8.decode s pos).2 ≤ s.size ∧ (s[pos] = c → (Utf8.decode s pos).2 = 1) ∧ ∀ j (hj : j < s.size), pos < j → j < pos + (Utf8.decode s pos).2 → s[j] ≠ c := by
  have hcont := decode_cont s pos
  have hin : ∀ j (hj : j < s.size), pos < j → j < pos + (Utf8.decode s pos).2 → s[j] ≠ c := fun j hj h1 h2 e => by
    obtain ⟨h3, h4⟩ := hcont (j - pos) (by omega) (by omega)
    rw [show pos + (j - pos) = j by omega, getB s j hj, e] at h4
    omega
  have hle : 1 ≤ (Utf8.decode s pos).2 → pos + (Utf8.decode s pos).2 ≤ s.size := fun h1 => by
    by_cases h2 : (Utf8.decode s pos).2 = 1
    · omega
    · have := (hcont ((Utf8.decode s pos).2 - 1) (by omega) (by omega)).1
      omega
  by_cases hh : s[pos].toNat < 128
  · have e := decode_ascii s pos hp hh
    rw [e] at hin hle ⊢
    refine ⟨⟨fun h => UInt8.toNat_inj.1 h, fun h => by rw [h]⟩, Nat.le_refl _, hle (Nat.le_refl _), fun _ => rfl, hin⟩
  · obtain ⟨h1, h2⟩ := decode_high s pos hp (by omega)
    refine ⟨⟨fun h => by omega, fun h => by rw [h] at hh; omega⟩, h2, hle h2, fun h => by rw [h] at hh; omega, hin⟩
end Go.Proofs.YtkfhokeoooafnaaGreatDoor

set_option linter.unusedVariables false
namespace Go.Proofs.YtkfhokeoooafnaaGreatDoor
open Go.RowKit Go.Maps Go.Deep Go.Lib

theorem open_four {s : ByteArray} {opn : Int} {st k : Nat} (h : OpenAt s opn st k) : opn = 0 ∨ opn = 1 ∨ opn = 2 ∨ opn = 4 := by
  cases h <;> simp
theorem end_all (s : ByteArray) (kb cb B : Nat) (ra : Option Addr) (rn rc : Nat) (ws : List WordV) (opn : Int) (st k : Nat) (w : World) (hs : s.size ≤ 1500) (ho : OpenAt s opn st k) (hk : k ≤ s.size) (hg : k = s.size ∨ goB s opn st k = false) (hb : BoxF w cb (cutC s kb (.slice ra rn rc) opn st)) (hr : WdRow B w (.slice ra rn rc) ws) (hl : ws.length ≤ (if opn = 0 then k else st)) (hcb : cb < B) (hB : B ≤ w.heap.size) (hkey : KeysAt1 w kb) :
    Calls Tryz.prog 68 #[.pointer (some ⟨cb, 0, none⟩), .int .i64 (k : Int)] w fun e w' =>
      (∃ c : Int, ((contR s opn st k).pre ws = .bad c st ∧ (c = 2 ∨ c = 3 ∨ c = 4)) ∧ e = .returned (errV c st) ∧ Below w.heap.size w w') ∨
      (∃ ws' ra' rn' rc', ((contR s opn st k).pre ws = (lexR s k).pre ws' ∧ ws'.length ≤ k) ∧ e = .returned .nilIface ∧ Hid (BoxF w' cb (cutC s kb (.slice ra' rn' rc') opn st)) ∧ Hid (WdRow B w' (.slice ra' rn' rc') ws') ∧ Hid (Turn (cb :: (Value.slice ra rn rc).ownBlock.toList) w w')) := by
  by_cases h0 : opn = 0
  · subst h0
    rw [if_pos rfl] at hl
    refine (end_zero s kb cb _ st k w hb).mono ?_
    rintro e w' ⟨rfl, rfl⟩
    exact .inr ⟨ws, ra, rn, rc, ⟨by unfold contR; rw [if_pos rfl], hl⟩, rfl, hide hb, hide hr, hide (Turn.refl _ _)⟩
  · rw [if_neg h0] at hl
    obtain ⟨-, -, hlt⟩ := end_word ho hk h0 hg
    have hc := lex_close ho hk h0 hg
    refine (end_any s kb cb B ra rn rc ws opn st k w hs (by have := open_four ho; omega) ⟨hlt, hk⟩ hb hr (by omega) hcb hB hkey).mono ?_
    intro e w' h
    unfold RetEnd at h
    cases hw : closeW s opn st k with
    | bad c =>
      rw [hw] at h hc
      simp only at h hc
      refine .inl ⟨c, ⟨by rw [hc]; rfl, ?_⟩, h.1, h.2⟩
      unfold contR at hc
      rw [if_neg h0] at hc
      exact (lex_bad s _ st c st rfl hc).1
    | word x n =>
      rw [hw] at h hc
      simp only at h hc
      obtain ⟨rfl, ra', rn', rc', h1, h2, h3⟩ := h
      exact .inr ⟨ws ++ [x], ra', rn', rc', ⟨by rw [hc, LRes.pre_cons], by simp; omega⟩, rfl, h1, h2, h3⟩
theorem turn_iterAt (wr : World) (it : Nat) (s : ByteArray) (p : Nat) : Turn [it] wr (wr.iterAt it s p) := by
  have b := below_iterAt (Below.refl it wr) (Nat.le_refl it) s p
  exact ⟨b.os, b.tape, b.output, b.size, fun j hj hS => iterAt_other _ _ _ _ _ (by simpa using hS)⟩
theorem rune_same (s : ByteArray) (k : Nat) (hk : k < s.size) : letB ((Utf8.decode s k).1 : Nat) = letB (byteAt s k) ∧ digB ((Utf8.decode s k).1 : Nat) = digB (byteAt s k) ∧ (((Utf8.decode s k).1 : Int) = 61 ↔ byteAt s k = 61) ∧ (((Utf8.decode s k).1 : Int) = 32 ↔ byteAt s k = 32) ∧ 1 ≤ (Utf8.decode s k).2 ∧ k + (Utf8.decode s k).2 ≤ s.size ∧ (byteAt s k < 128 → (Utf8.decode s k).2 = 1) := by
  obtain ⟨h1, h2, -⟩ := rune_byte s k hk
  have hb := byteAt_eq s k hk
  have key : ∀ c : UInt8, c.toNat < 128 → (((Utf8.decode s k).1 : Int) = c.toNat ↔ byteAt s k = c.toNat) := fun c hc => by
    have := (rune_edge s k hk c hc).1
    rw [hb]
    constructor
    · intro e
      have := this.1 (by omega)
      rw [this]
    · intro e
      have e2 : (s[k]'hk) = c := UInt8.toNat_inj.1 (by omega)
      have := this.2 e2
      omega
  obtain ⟨-, g1, g2, -, -⟩ := rune_edge s k hk 61 (by decide)
  refine ⟨h1, h2, key 61 (by decide), key 32 (by decide), g1, g2, fun hlt => ?_⟩
  rw [hb] at hlt
  rw [decode_ascii s k hk (by omega)]
theorem goR_same {s : ByteArray} {opn : Int} {st k : Nat} {r : Int} (h1 : letB r = letB (byteAt s k)) (h2 : digB r = digB (byteAt s k)) (h3 : r = 61 ↔ byteAt s k = 61) : goR s opn st k r = goB s opn st k := by
  unfold goR goB
  rw [h1, h2]
  by_cases h : r = 61
  · rw [decide_eq_true h, decide_eq_true (h3.1 h)]
  · rw [decide_eq_false h, decide_eq_false (fun e => h (h3.2 e))]
theorem beginK_same {s : ByteArray} {k : Nat} {r : Int} (h1 : letB r = letB (byteAt s k)) (h2 : digB r = digB (byteAt s k)) (h3 : r = 32 ↔ byteAt s k = 32) : beginK r = beginK (byteAt s k) := by
  unfold beginK
  rw [h1, h2]
  by_cases h : r = 32
  · rw [if_pos h, if_pos (h3.1 h)]
  · rw [if_neg h, if_neg (fun e => h (h3.2 e))]
end Go.Proofs.YtkfhokeoooafnaaGreatDoor

set_option linter.unusedVariables false
namespace Go.Proofs.YtkfhokeoooafnaaGreatDoor
open Go.RowKit Go.Maps Go.Deep Go.Lib

/-- between the rounds -/
structure MidW (t : ByteArray) (w : World) (kb cb it : Nat) (ra : Option Addr) (rn rc : Nat) (ws : List WordV) (opn : Int) (st k : Nat) (wr : World) : Prop where
  lex : lexR t 0 = (contR t opn st k).pre ws
  op : OpenAt t opn st k
  len : ws.length ≤ (if opn = 0 then k else st)
  box : BoxF wr cb (cutC t kb (.slice ra rn rc) opn st)
  row : WdRow (it + 1) wr (.slice ra rn rc) ws
  keys : KeysAt1 wr kb
  iter : wr.heap[it]? = some (.stringIter t k)
  bel : Below w.heap.size w wr
  size : it + 1 ≤ wr.heap.size
def RetCw (t : ByteArray) (w : World) (e : Ending) (w' : World) : Prop :=
  (∃ c a : Int, c ≠ 0 ∧ bwWords t = [] ∧ bwCode t = c ∧ bwAt t = a ∧ e = .returned (.tuple #[.slice none 0 0, errV c a]) ∧ Below w.heap.size w w') ∨
  (bwCode t = 0 ∧ bwAt t = 0 ∧ ∃ ra rn rc, e = .returned (.tuple #[.slice ra rn rc, .nilIface]) ∧ Hid (WdRow w.heap.size w' (.slice ra rn rc) (bwWords t)) ∧ Below w.heap.size w w')
theorem WdRow.lowerW {B B' : Nat} {w : World} {v : Value} {ns : List WordV} (h : WdRow B w v ns) (hB : B' ≤ B) : WdRow B' w v ns := h.mono hB
set_option maxRecDepth 20000 in
set_option maxHeartbeats 12800000 in
theorem cutWords_any (t : ByteArray) (w : World) (hs : t.size ≤ 1048576) :
    Calls Tryz.prog 43 #[.string t] w fun e w' => RetCw t w e w' := by
  by_cases hbig : 1500 < t.size
  · have hb2 : (1500 : Int) < (t.size : Int) := by omega
    have HL := hide (bw_long hbig)
    clear hbig
    go_enter Tryz.func43, Tryz.ntmps43
    go_wp2_with (first
      | (go_at_call 66; refine (wrongAt_any _ _ _).mono ?_; rintro e w2 ⟨rfl, rfl⟩)
      | fail)
    refine bodyPost_ret (v := .tuple #[.slice none 0 0, errV 1 0]) (by simp [results, Tryz.results43, go_sem, errV]) rfl ?_
    exact .inl ⟨1, 0, by decide, (unhide HL).1, (unhide HL).2.1, (unhide HL).2.2, rfl, Below.refl _ _⟩
  have hb2 : ¬ (1500 : Int) < (t.size : Int) := by omega
  have hs15 : t.size ≤ 1500 := by omega
  have HBIG := hide hbig
  clear hbig
  go_enter Tryz.func43, Tryz.ntmps43
  go_wp2_with fail
  refine (newKeySet_any _).mono ?_
  rintro e w1 ⟨rfl, hk1, b1⟩
  have K1 := hide (show KeysAt1 w1 w.heap.size from hk1)
  have hkw : w.heap.size < w1.heap.size := (unhide K1).lt
  have X2 := hide (boxF_new w1 [.string t, .map (some w.heap.size), .slice none 0 0, .int .i64 0, .int .i64 0] 128)
  have bA := (Below.refl _ w1).alloc (Nat.le_refl _) (.cells #[.string t, .map (some w.heap.size), .slice none 0 0, .int .i64 0, .int .i64 0] 128)
  have B2 := hide (b1.trans (bA.mono b1.size))
  have K2 := hide ((unhide K1).turn (Turn.of_below (S := []) bA) (by simp))
  simp only [List.toArray] at X2
  have hcw : w1.heap.size < (w1.alloc (.cells #[.string t, .map (some w.heap.size), .slice none 0 0, .int .i64 0, .int .i64 0] 128)).heap.size := (unhide X2).1.1
  clear b1 hk1 K1 bA
  go_wp2_with fail
  have hWs : (w1.alloc (.cells #[.string t, .map (some w.heap.size), .slice none 0 0, .int .i64 0, .int .i64 0] 128)).heap.size = w1.heap.size + 1 := by simp
  generalize hW : w1.alloc (.cells #[.string t, .map (some w.heap.size), .slice none 0 0, .int .i64 0, .int .i64 0] 128) = W at *
  clear hW
  generalize w1.heap.size = cb at *
  have bI := (Below.refl _ W).alloc (Nat.le_refl _) (.stringIter t 0)
  have M0 := hide (show MidW t w w.heap.size cb W.heap.size none 0 0 [] 0 0 0 (W.iter t 0) from
    ⟨by unfold contR; rw [if_pos rfl, LRes.pre_nil], .none _ _, by simp, (unhide X2).up bI, WdRow.nil _ _, (unhide K2).turn (Turn.of_below (S := []) bI) (by simp), World.iter_heap _ _ _, (unhide B2).trans (bI.mono (unhide B2).size), by
      show W.heap.size + 1 ≤ (W.heap.push _).size
      simp⟩)
  clear bI X2 B2 K2
  have hkb : w.heap.size < cb := hkw
  rw [hWs] at M0
  have hcbI : cb < cb + 1 := Nat.lt_succ_self _
  clear hWs hcw
  generalize cb + 1 = it at *
  go_loopw [5] (fun _ wr => ∃ (k st : Nat) (opn : Int) (ra : Option Addr) (rn rc : Nat) (ws : List WordV), k ≤ t.size ∧ Hid (MidW t w w.heap.size cb it ra rn rc ws opn st k wr)) (fun _ wr => t.size - wr.iterPos it)
  case atStart => exact ⟨0, 0, 0, none, 0, 0, [], Nat.zero_le _, M0⟩
  case round =>
    clear M0
    obtain ⟨k, st, opn, ra, rn, rc, ws, hk, HM⟩ := hrel
    have hit := (unhide HM).iter
    have HPOS := hide (show wr.iterPos it = k from by simp [World.iterPos, hit])
    by_cases hp : k < t.size
    · have hnx : ∀ ty, (Instr.next (.pointer (some ⟨it, 0, none⟩)) true ty).run Tryz.prog wr = _ := fun ty => run_next_any_at wr it t k ty hit hp
      have HRS := hide (rune_same t k hp)
      have I1 := hide (iterAt_heap wr it t k (k + (Utf8.decode t k).2) hit)
      have T1 := hide (turn_iterAt wr it t (k + (Utf8.decode t k).2))
      generalize (((Utf8.decode t k).1 : Nat) : Int) = r at *
      generalize (Utf8.decode t k).2 = wd at *
      obtain ⟨e1, e2, e3, e4, e5, e6, e7⟩ := unhide HRS
      have HGR := hide (goR_same (opn := opn) (st := st) e1 e2 e3)
      have HBK := hide (beginK_same e1 e2 e4)
      have HWD := hide (And.intro e5 (And.intro e6 e7))
      have hkw2 : k + wd ≤ t.size := e6
      have X1 := hide ((unhide HM).box.turn (unhide T1) (by simp; omega))
      have K1 := hide ((unhide HM).keys.turn (unhide T1) (by simp; omega))
      have R1 := hide ((unhide HM).row.keep (w' := wr.iterAt it t (k + wd)) (fun g hg => (unhide T1).block g ((unhide HM).row.lt g hg) (by have := (unhide HM).row.ge g hg; simp; omega)))
      have B1 := hide ((unhide HM).bel.trans ((unhide T1).below (B := w.heap.size) (unhide HM).bel.size (by simp; omega)))
      have Z1 := hide (Nat.le_trans (unhide HM).size (unhide T1).size)
      have HOP := hide (And.intro (unhide HM).lex (And.intro (unhide HM).op (unhide HM).len))
      clear e1 e2 e3 e4 e5 e6 e7 HRS T1 HM hit
      have HGO := hide (fun (W : World) (hX : BoxF W cb (cutC t w.heap.size (.slice ra rn rc) opn st)) => goesOn_any t w.heap.size cb (.slice ra rn rc) opn st k r W hs15 (open_four (unhide HOP).2.1) (fun h => by
        have h0 : opn ≠ 0 := by omega
        have := (unhide HOP).2.1
        refine ⟨?_, hk⟩
        cases this <;> omega) hX)
      rw [unhide HGR] at HGO
      have HCB := hide (unhide X1)
      go_wp2_with fail
      generalize wr.iterAt it t (k + wd) = W1 at *
      refine (unhide HGO _ (unhide X1)).mono ?_
      rintro e w2 ⟨rfl, b2⟩
      have X2 := hide ((unhide X1).up b2)
      have K2 := hide ((unhide K1).turn (Turn.of_below (S := []) b2) (by simp))
      have R2 := hide ((unhide R1).up b2)
      have B2 := hide ((unhide B1).trans (b2.mono (unhide B1).size))
      have I2 := hide ((b2.block it (Nat.lt_of_lt_of_le (Nat.lt_succ_self it) (unhide Z1))).trans (unhide I1))
      have Z2 := hide (Nat.le_trans (unhide Z1) b2.size)
      clear b2 X1 K1 R1 B1 I1 Z1 HGO HCB HGR
      cases hgo : goB t opn st k
      rotate_left
      · have HG := hide (open_go (unhide HOP).2.1 hp hgo)
        have hw1 : wd = 1 := (unhide HWD).2.2 (unhide HG).2.1
        have M2 := hide (show MidW t w w.heap.size cb it ra rn rc ws opn st (k + wd) w2 from by
          rw [hw1]
          refine ⟨?_, (unhide HG).1, ?_, unhide X2, unhide R2, unhide K2, by have := unhide I2; rw [hw1] at this; exact this, unhide B2, unhide Z2⟩
          · have := (unhide HOP).1
            unfold contR at this ⊢
            rw [if_neg (unhide HG).2.2] at this ⊢
            exact this
          · have := (unhide HOP).2.2
            rw [if_neg (unhide HG).2.2] at this ⊢
            exact this)
        have HP2 := hide (show w2.iterPos it = k + wd from by simp [World.iterPos, unhide I2])
        clear hgo HOP X2 R2 K2 I2 B2 Z2 HG
        go_wp2_with fail
        go_roundw
        case rel => exact ⟨k + wd, st, opn, ra, rn, rc, ws, hkw2, M2⟩
        case measure => rw [unhide HPOS, unhide HP2]; omega
      · have HEA := hide (end_all t w.heap.size cb (it + 1) ra rn rc ws opn st k w2 hs15 (unhide HOP).2.1 hk (.inr hgo) (unhide X2) (unhide R2) (unhide HOP).2.2 (by omega) (unhide Z2) (unhide K2))
        rw [← (unhide HOP).1] at HEA
        clear hgo
        go_wp2_with fail
        refine (unhide HEA).mono ?_
        rintro e w3 (⟨c, ⟨hl, hc⟩, rfl, b3⟩ | ⟨ws', ra', rn', rc', ⟨hl, hn⟩, rfl, X3, R3, T3⟩)
        · have HC0 := hide (show c ≠ 0 by have := (lex_bad t _ 0 _ _ rfl hl).1; omega)
          have HBW := hide (bw_bad (unhide HBIG) hl)
          have B3 := hide ((unhide B2).trans (b3.mono (unhide B2).size))
          clear HEA HOP hl hc b3 X2 R2 K2 I2 B2 Z2
          unfold errV
          go_wp2_with fail
          refine bodyPost_ret (v := .tuple #[.slice none 0 0, errV c (st : Int)]) (by simp [results, Tryz.results43, go_sem, errV]) rfl ?_
          exact .inl ⟨c, st, unhide HC0, (unhide HBW).1, (unhide HBW).2.1, (unhide HBW).2.2, rfl, unhide B3⟩
        · have NI := hide (show ∀ g ∈ (cb :: (Value.slice ra rn rc).ownBlock.toList), g = cb ∨ it + 1 ≤ g from fun g hg => by
            rcases List.mem_cons.1 hg with rfl | hg
            · exact .inl rfl
            · exact .inr ((unhide R2).ge g (by simpa using hg)))
          have K3 := hide ((unhide K2).turn (unhide T3) (fun hm => by rcases unhide NI _ hm with h | h <;> omega))
          have I3 := hide (((unhide T3).block it (by have := unhide Z2; omega) (fun hm => by rcases unhide NI _ hm with h | h <;> omega)).trans (unhide I2))
          have B3 := hide ((unhide B2).trans ((unhide T3).below (B := w.heap.size) (unhide B2).size (fun g hg => by rcases unhide NI g hg with h | h <;> omega)))
          have Z3 := hide (Nat.le_trans (unhide Z2) (unhide T3).size)
          have HL3 := hide (And.intro hl hn)
          clear HEA HOP hl hn T3 NI X2 R2 K2 I2 B2 Z2
          have HBG := hide (begin_any t w.heap.size cb (.slice ra' rn' rc') opn st k r w3 (unhide X3))
          rw [unhide HBK] at HBG
          have HOB := hide (open_begin t k wd hp (unhide HWD).1 (unhide HWD).2.2)
          go_wp2_with fail
          refine (unhide HBG).mono ?_
          rintro e w4 ⟨rfl, X4, T4⟩
          have M4 := hide (show MidW t w w.heap.size cb it ra' rn' rc' ws' (beginK (byteAt t k)) k (k + wd) w4 from by
            refine ⟨?_, (unhide HOB).1, ?_, unhide X4, (unhide R3).keep (fun g hg => (unhide T4).block g ((unhide R3).lt g hg) (by have := (unhide R3).ge g hg; simp; omega)), (unhide K3).turn (unhide T4) (by simp; omega), ((unhide T4).block it (by have := unhide Z3; omega) (by simp; omega)).trans (unhide I3), (unhide B3).trans ((unhide T4).below (B := w.heap.size) (unhide B3).size (by simp; omega)), Nat.le_trans (unhide Z3) (unhide T4).size⟩
            · rw [(unhide HL3).1, (unhide HOB).2]
            · have := (unhide HL3).2
              split <;> omega)
          have HP4 := hide (show w4.iterPos it = k + wd from by simp [World.iterPos, (unhide M4).iter])
          have hwd1 := (unhide HWD).1
          clear HBG HOB X3 R3 K3 I3 B3 Z3 HL3 X4 T4
          go_wp2_with fail
          go_roundw
          case rel => exact ⟨k + wd, k, _, ra', rn', rc', ws', hkw2, M4⟩
          case measure => rw [unhide HPOS, unhide HP4]; omega
    · obtain rfl : k = t.size := by omega
      have hnx : ∀ ty, (Instr.next (.pointer (some ⟨it, 0, none⟩)) true ty).run Tryz.prog wr = _ := fun ty => run_next_end_at wr it t t.size ty hit hp
      have HEA := hide (end_all t w.heap.size cb (it + 1) ra rn rc ws opn st t.size wr hs15 (unhide HM).op (Nat.le_refl _) (.inl rfl) (unhide HM).box (unhide HM).row (unhide HM).len (by omega) (unhide HM).size (unhide HM).keys)
      rw [← (unhide HM).lex] at HEA
      have B2 := hide (unhide HM).bel
      have RG := hide (unhide HM).row.ge
      clear HM hit
      go_wp2_with fail
      refine (unhide HEA).mono ?_
      rintro e w3 (⟨c, ⟨hl, hc⟩, rfl, b3⟩ | ⟨ws', ra', rn', rc', ⟨hl, hn⟩, rfl, X3, R3, T3⟩)
      · have HC0 := hide (show c ≠ 0 by have := (lex_bad t _ 0 _ _ rfl hl).1; omega)
        have HBW := hide (bw_bad (unhide HBIG) hl)
        have B3 := hide ((unhide B2).trans (b3.mono (unhide B2).size))
        clear HEA hl hc b3 B2
        unfold errV
        go_wp2_with fail
        refine bodyPost_ret (v := .tuple #[.slice none 0 0, errV c (st : Int)]) (by simp [results, Tryz.results43, go_sem, errV]) rfl ?_
        exact .inl ⟨c, st, unhide HC0, (unhide HBW).1, (unhide HBW).2.1, (unhide HBW).2.2, rfl, unhide B3⟩
      · have HBW := hide (bw_ok (unhide HBIG) (show lexR t 0 = .ok ws' from hl.trans (by rw [lex_end t t.size (by omega)]; simp [LRes.pre])))
        have B3 := hide ((unhide B2).trans ((unhide T3).below (B := w.heap.size) (unhide B2).size (fun g hg => by
          rcases List.mem_cons.1 hg with rfl | hg
          · omega
          · have := unhide RG g (by simpa using hg); omega)))
        have hx := unhide X3
        unfold cutC at hx
        obtain ⟨⟨c0, c1, c2, c3, c4⟩, -⟩ := hx.fiveW
        clear hx HEA hl hn T3 B2
        go_wp2_with fail
        refine bodyPost_ret (v := .tuple #[.slice ra' rn' rc', .nilIface]) (by simp [results, Tryz.results43, go_sem]) rfl ?_
        exact .inr ⟨(unhide HBW).2.1, (unhide HBW).2.2, ra', rn', rc', rfl, hide (by rw [(unhide HBW).1]; exact (unhide R3).mono (by omega)), unhide B3⟩
end Go.Proofs.YtkfhokeoooafnaaGreatDoor

set_option linter.unusedVariables false
namespace Go.Proofs.YtkfhokeoooafnaaGreatDoor
open Go.RowKit Go.Maps Go.Deep

theorem wpS_plainR {P : Program} {c : Code} {Q : Exit → Act → List Frame → World → Prop} {a : Act} {cs : List Frame} {w : World} (h : ∀ Q' : Exit → Act → World → Prop, (∀ e a' w', Q e a' cs w' → Q' e a' w') → c.wp P Q' a w) : c.wpS P Q a cs w := wpS_of_wp (h _ (fun _ _ _ h => h))
set_option maxRecDepth 20000 in
set_option maxHeartbeats 3200000 in
/-- the deferred closure of a frame that returns: nothing to catch -/
theorem tree_idle (p q : Addr) (w : World) :
    CallsD Tryz.prog 42 #[.pointer (some p), .pointer (some q)] .returning w fun e u' w' => e = .returned (.tuple #[]) ∧ u' = .returning ∧ w' = w := by
  refine callsD_of_wpS Tryz.func42 rfl fun c₀ cs hu => ?_
  simp only [Tryz.ntmps42, List.size_toArray, List.length_cons, List.length_nil, Nat.reduceAdd, Nat.reduceSub, Array.replicate_succ, Array.replicate_zero, List.push_toArray, List.append_toArray, List.nil_append, List.cons_append]
  apply wpS_seq
  apply wpS_region
  simp [wpOpsS, go_sem, recoverD, hu, Exit.thenS]
  refine wpS_plainR fun Q' hk => ?_
  have HK := hide hk
  clear hk
  go_wp2_with fail
  refine unhide HK _ _ _ ?_
  cases c₀
  simp_all [bodyPostS, results, Tryz.results42]
def CaughtR (gl ge : Nat) (c a : Int) (w w' : World) : Prop := BoxF w' gl [.slice none 0 0] ∧ BoxF w' ge [errV c a] ∧ Turn [gl, ge] w w'
set_option maxRecDepth 20000 in
set_option maxHeartbeats 6400000 in
theorem tree_caught (gl ge : Nat) (c a : Int) (lv ev : Value) (w : World) (hl : BoxF w gl [lv]) (he : BoxF w ge [ev]) (hne : gl ≠ ge) :
    CallsD Tryz.prog 42 #[.pointer (some ⟨gl, 0, none⟩), .pointer (some ⟨ge, 0, none⟩)] (.panicking [{ v := errV c a, recovered := false }]) w fun e u' w' =>
      e = .returned (.tuple #[]) ∧ u' = .panicking [{ v := errV c a, recovered := true }] ∧ Hid (CaughtR gl ge c a w w') := by
  have hA : ∀ w : World, (Instr.typeAssert (.iface 96 (.agg #[.int .i64 a, .iface 102 (.agg #[.int .i64 c])])) 20 96 true).run Tryz.prog w = .ok (.tuple #[.agg #[.int .i64 a, .iface 102 (.agg #[.int .i64 c])], .bool true]) w := fun w => by kernel_rfl
  unfold errV
  have bA := (Below.refl w.heap.size w).alloc (Nat.le_refl _) (.cells #[.int .i64 a, .iface 102 (.agg #[.int .i64 c])] 96)
  have XL := hide (hl.up bA)
  have XE := hide (he.up bA)
  have BA := hide bA
  have HL := hide hl.1.1
  have HE := hide he.1.1
  obtain ⟨l0, l1⟩ := (unhide XL).oneI
  obtain ⟨e0, e1⟩ := (unhide XE).oneI
  clear bA hl he
  refine callsD_of_wpS Tryz.func42 rfl fun c₀ cs hu => ?_
  simp only [Tryz.ntmps42, List.size_toArray, List.length_cons, List.length_nil, Nat.reduceAdd, Nat.reduceSub, Array.replicate_succ, Array.replicate_zero, List.push_toArray, List.append_toArray, List.nil_append, List.cons_append]
  apply wpS_seq
  apply wpS_region
  simp [wpOpsS, go_sem, recoverD, hu, Exit.thenS]
  refine wpS_of_wp ?_
  go_wp2_with fail
  have XP := boxF_new w [.int .i64 a, .iface 102 (.agg #[.int .i64 c])] 96
  simp only [List.toArray] at XP
  obtain ⟨⟨p0, p1⟩, -⟩ := XP.duoI
  have hlt1 : w.heap.size ≠ gl := by have := unhide HL; omega
  have hlt2 : w.heap.size ≠ ge := by have := unhide HE; omega
  have hlt3 : gl ≠ w.heap.size := by have := unhide HL; omega
  have hlt4 : ge ≠ w.heap.size := by have := unhide HE; omega
  have hne2 : ge ≠ gl := fun h => hne h.symm
  clear XP
  generalize w.alloc (.cells #[.int .i64 a, .iface 102 (.agg #[.int .i64 c])] 96) = W at *
  have DD := hide (show BoxF W.drew gl [lv] ∧ BoxF W.drew ge [ev] ∧ Below w.heap.size w W.drew from ⟨(unhide XL).up (Below.refl _ _).drew, (unhide XE).up (Below.refl _ _).drew, (unhide BA).drew⟩)
  have FIN := hide (fun (V : World) (hv : V = (W.drew.setCell ⟨gl, 0, none⟩ (.slice none 0 0)).setCell ⟨ge, 0, none⟩ (errV c a) ∨ V = (W.drew.setCell ⟨ge, 0, none⟩ (errV c a)).setCell ⟨gl, 0, none⟩ (.slice none 0 0)) => show CaughtR gl ge c a w V from by
    obtain ⟨d1, d2, d3⟩ := unhide DD
    have q1 := d1.set 0 (.slice none 0 0) (by simp)
    have q2 := d2.set 0 (errV c a) (by simp)
    simp only [List.set] at q1 q2
    rcases hv with rfl | rfl
    · have q3 := (d2.far (g' := gl) 0 (.slice none 0 0) hne2).set 0 (errV c a) (by simp)
      simp only [List.set] at q3
      exact ⟨q1.far 0 (errV c a) hne, q3, ((Turn.of_below d3).setCell (by simp) _ _).setCell (by simp) _ _⟩
    · have q3 := (d1.far (g' := ge) 0 (errV c a) hne).set 0 (.slice none 0 0) (by simp)
      simp only [List.set] at q3
      exact ⟨q3, q2.far 0 (.slice none 0 0) hne2, ((Turn.of_below d3).setCell (by simp) _ _).setCell (by simp) _ _⟩)
  clear HL HE DD XL XE BA
  unfold errV at FIN
  go_region
  all_goals
    go_wp2_with fail
    refine ⟨rfl, _, rfl, .tuple #[], results_none rfl _ _ _, rfl, rfl, hide (unhide FIN _ ?_)⟩
    first | exact .inl rfl | exact .inr rfl
end Go.Proofs.YtkfhokeoooafnaaGreatDoor
