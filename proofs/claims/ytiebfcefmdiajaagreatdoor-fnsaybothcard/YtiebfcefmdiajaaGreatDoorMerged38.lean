/-
  Decimals of the words' lines: the specification's own way to write a number is Go's own.
-/
/-
  A region that draws its order and whose calls may make new blocks (and write into none that was there): walked once, in the order of the text, over the class of all later worlds.
-/
import Derived.Test.YtiebfcefmdiajaaGreatDoorMerged34
import Derived.Lib.ItoaNum
import Derived.Laws.BytesArg
import Derived.Test.YtiebfcefmdiajaaGreatDoorMerged3
import Derived.BigQuiet
import Derived.Deep.QuietTactic
namespace Go.Proofs.YtiebfcefmdiajaaGreatDoor
open Go.RowKit Go.Maps

set_option maxRecDepth 20000 in
set_option maxHeartbeats 1600000 in
theorem l10Dec_pos (n : Int) (h0 : 0 ≤ n) (h1 : n ≤ 9223372036854775807) (w : World) : Calls Tryz.prog 33 #[.int .i64 n] w fun e w' => e = .returned (.string ⟨(Lib.decDigits n.toNat).toArray⟩) ∧ Below w.heap.size w w' := by
  obtain ⟨N, rfl⟩ := Int.eq_ofNat_of_zero_le h0
  have hN : N ≤ 9223372036854775807 := by omega
  clear h0 h1
  by_cases hz : N = 0
  · subst hz
    go_enter Tryz.func33, Tryz.ntmps33
    go_wp2
    go_ret
    exact ⟨by rw [show (⟨(Lib.decDigits ((0 : Nat) : Int).toNat).toArray⟩ : ByteArray) = ⟨#[48]⟩ from (dec_last 0 (by omega)).trans rfl]; rfl, Below.refl _ _⟩
  · have hz' : ((N : Int) == 0) = false := by rw [beq_eq_false_iff_ne]; omega
    go_enter Tryz.func33, Tryz.ntmps33
    go_wp2_with fail
    go_loopw [0, 3, 5] (fun nv ov dv wr => ∃ (m : Nat) (out : ByteArray), m ≤ N ∧ nv = .int .i64 m ∧ ov = .string out ∧ Hid (DecLeft N m out) ∧ Below w.heap.size w wr) (fun nv _ _ _ => (intOf nv).toNat)
    case atStart => exact ⟨N, _, Nat.le_refl _, rfl, rfl, hide (by unfold DecLeft; rw [if_neg hz]; apply ByteArray.ext; simp), Below.refl _ _⟩
    case round =>
      obtain ⟨m, out, hmN, rfl, rfl, hL, hbel⟩ := hrel
      by_cases hm : m = 0
      · subst hm
        have hout := hide (show out = ⟨(Lib.decDigits (N : Int).toNat).toArray⟩ by have := unhide hL; unfold DecLeft at this; rw [if_pos rfl] at this; rw [this]; rfl)
        obtain rfl := unhide hout
        clear hout
        go_wp2_with fail
        go_ret
        exact ⟨rfl, hbel⟩
      · have hm' : ((m : Int) != 0) = true := by simp [hm]
        have ht : Int.tmod (m : Int) 10 = ((m % 10 : Nat) : Int) := by rw [Int.tmod_eq_emod_of_nonneg (by omega)]; omega
        have hq : Int.tdiv (m : Int) 10 = ((m / 10 : Nat) : Int) := by rw [Int.tdiv_eq_ediv_of_nonneg (by omega)]; omega
        have hd : ¬ ((m % 10 : Nat) : Int) < 0 := by omega
        have HS := hide ((unhide hL).step hm)
        have hos := (unhide hL).size (by omega)
        have hos' : (out.size : Int) ≤ 19 := by omega
        have hcv : (convert 30 9 (.slice (some ⟨wr.heap.size, 0, none⟩) 1 1)).run Tryz.prog (wr.alloc (.cells #[.int .u8 (48 + (m : Int) % 10)] 5)) = .ok (.string (strOfNums [48 + (m : Int) % 10])) (wr.alloc (.cells #[.int .u8 (48 + (m : Int) % 10)] 5)) :=
          run_convert_bytes_arg _ 30 5 Tryz.underlying30 Tryz.underlying5 wr.heap.size 0 1 1 [48 + (m : Int) % 10] rfl (fun i hi => by
            obtain rfl : i = 0 := by omega
            exact World.cell?_alloc_at _ _ _ _ rfl) 9 Tryz.underlying9
        have hstr : strOfNums [48 + (m : Int) % 10] = ⟨#[dgt m]⟩ := by
          have e : (48 + (m : Int) % 10).toNat = 48 + m % 10 := by omega
          simp [strOfNums, e, dgt]
        rw [hstr] at hcv
        have hb' := hbel.alloc hbel.size (.cells #[.int .u8 (48 + (m : Int) % 10)] 5)
        clear hstr
        go_wp2_with fail
        go_roundw
        case rel => exact ⟨m / 10, _, by omega, by go_num, rfl, HS, hb'⟩
        case measure => simp [intOf]; omega

set_option maxRecDepth 20000 in
set_option maxHeartbeats 1600000 in
theorem l10Dec_neg (N : Nat) (h0 : 1 ≤ N) (hN : N ≤ 9223372036854775808) (w : World) : Calls Tryz.prog 33 #[.int .i64 (-(N : Int))] w fun e w' => e = .returned (.string (⟨#[45]⟩ ++ ⟨(Lib.decDigits N).toArray⟩)) ∧ Below w.heap.size w w' := by
  have hz' : (-(N : Int) == 0) = false := by rw [beq_eq_false_iff_ne]; omega
  have hz : ¬ N = 0 := by omega
  have hp : 0 < N := by omega
  go_enter Tryz.func33, Tryz.ntmps33
  go_wp2_with fail
  go_loopw [0, 3, 5] (fun nv ov dv wr => ∃ (m : Nat) (out : ByteArray), m ≤ N ∧ nv = .int .i64 (-(m : Int)) ∧ ov = .string out ∧ Hid (DecLeft N m out) ∧ Below w.heap.size w wr) (fun nv _ _ _ => (intOf nv).natAbs)
  case atStart => exact ⟨N, _, Nat.le_refl _, rfl, rfl, hide (by unfold DecLeft; rw [if_neg hz]; apply ByteArray.ext; simp), Below.refl _ _⟩
  case round =>
    obtain ⟨m, out, hmN, rfl, rfl, hL, hbel⟩ := hrel
    by_cases hm : m = 0
    · subst hm
      have hout := hide (show out = ⟨(Lib.decDigits N).toArray⟩ by have := unhide hL; unfold DecLeft at this; rw [if_pos rfl] at this; exact this)
      have hos := (unhide hL).size hN
      have hos' : (out.size : Int) ≤ 19 := by omega
      go_wp2_with fail
      go_ret
      exact ⟨by rw [unhide hout]; rfl, hbel⟩
    · have hm' : (-(m : Int) != 0) = true := by rw [bne_iff_ne]; omega
      have ht : Int.tmod (-(m : Int)) 10 = -((m % 10 : Nat) : Int) := by rw [Int.neg_tmod, Int.tmod_eq_emod_of_nonneg (by omega)]; omega
      have hq : Int.tdiv (-(m : Int)) 10 = -((m / 10 : Nat) : Int) := by rw [Int.neg_tdiv, Int.tdiv_eq_ediv_of_nonneg (by omega)]; omega
      have HS := hide ((unhide hL).step hm)
      have hos := (unhide hL).size hN
      have hos' : (out.size : Int) ≤ 19 := by omega
      have hcv : (convert 30 9 (.slice (some ⟨wr.heap.size, 0, none⟩) 1 1)).run Tryz.prog (wr.alloc (.cells #[.int .u8 (48 + (m : Int) % 10)] 5)) = .ok (.string (strOfNums [48 + (m : Int) % 10])) (wr.alloc (.cells #[.int .u8 (48 + (m : Int) % 10)] 5)) :=
        run_convert_bytes_arg _ 30 5 Tryz.underlying30 Tryz.underlying5 wr.heap.size 0 1 1 [48 + (m : Int) % 10] rfl (fun i hi => by
          obtain rfl : i = 0 := by omega
          exact World.cell?_alloc_at _ _ _ _ rfl) 9 Tryz.underlying9
      have hstr : strOfNums [48 + (m : Int) % 10] = ⟨#[dgt m]⟩ := by
        have e : (48 + (m : Int) % 10).toNat = 48 + m % 10 := by omega
        simp [strOfNums, e, dgt]
      rw [hstr] at hcv
      have hb' := hbel.alloc hbel.size (.cells #[.int .u8 (48 + (m : Int) % 10)] 5)
      clear hstr
      by_cases hd : (m % 10 : Nat) = 0
      · have hd' : ¬ (-((m % 10 : Nat) : Int)) < 0 := by omega
        have h48 : 48 + (m : Int) % 10 = 48 := by omega
        rw [h48] at hcv hb'
        clear h48
        go_wp2_with fail
        go_roundw
        case rel => exact ⟨m / 10, _, by omega, by go_num, rfl, HS, hb'⟩
        case measure => simp [intOf]; omega
      · have hd' : (-((m % 10 : Nat) : Int)) < 0 := by omega
        go_wp2_with fail
        go_roundw
        case rel => exact ⟨m / 10, _, by omega, by go_num, rfl, HS, hb'⟩
        case measure => simp [intOf]; omega

theorem l10Dec_all (n : Int) (h0 : -9223372036854775808 ≤ n) (h1 : n ≤ 9223372036854775807) (w : World) : Calls Tryz.prog 33 #[.int .i64 n] w fun e w' => e = .returned (.string (itoaB n)) ∧ Below w.heap.size w w' := by
  unfold itoaB Lib.itoa
  by_cases hn : n < 0
  · rw [if_pos hn]
    obtain ⟨N, hN⟩ := Int.eq_ofNat_of_zero_le (show 0 ≤ -n by omega)
    obtain rfl : n = -(N : Int) := by omega
    rw [show (⟨(45 :: Lib.decDigits (-(N : Int)).natAbs).toArray⟩ : ByteArray) = ⟨#[45]⟩ ++ ⟨(Lib.decDigits N).toArray⟩ by
      rw [show (-(N : Int)).natAbs = N by omega]
      apply ByteArray.ext; simp]
    exact l10Dec_neg N (by omega) (by omega) w
  · rw [if_neg hn]
    exact l10Dec_pos n (by omega) h1 w

end Go.Proofs.YtiebfcefmdiajaaGreatDoor

set_option linter.unusedVariables false
namespace Go.Proofs.YtiebfcefmdiajaaGreatDoor
open Go.RowKit Go.Maps

/-- a world in which all blocks of W are as they were -/
structure LaterW (W : World) where
  to : World
  bel : Below W.heap.size W to
instance (W : World) : Nonempty (LaterW W) := ⟨⟨W, Below.refl _ _⟩⟩
theorem LaterW.cell {W : World} (x : LaterW W) {g i : Nat} {v : Value} (h : W.cell? ⟨g, i, none⟩ = some v) : x.to.cell? ⟨g, i, none⟩ = some v := (x.bel.cell (lt_of_cell0 h)).trans h
theorem LaterW.frozen {W : World} (x : LaterW W) {g i : Nat} (hg : g < W.heap.size) (h : W.frozen? ⟨g, i, none⟩ = false) : x.to.frozen? ⟨g, i, none⟩ = false := (x.bel.frozen (by exact hg)).trans h
theorem LaterW.on {W w' : World} (x : LaterW W) (h : Below x.to.heap.size x.to w') : ∃ y : LaterW W, w' = y.to := ⟨⟨w', x.bel.trans (h.mono x.bel.size)⟩, rfl⟩
theorem wp_region_later {P : Program} {id : Nat} {Q : Exit → Act → World → Prop} {a : Act} {w : World} {l : List Oper} (hm : P.follows .mixedOrders = true) (hB : Region.lexB .any l.toArray = true)
    (h : wpQuiet P l.toArray (fun w' => ∃ x : LaterW w, w' = x.to) (fun a' => ∀ w', (∃ x : LaterW w, w' = x.to) → Q .normal a' w') l a) : (Code.region id l.toArray true).wp P Q a w :=
  wp_region_quiet (C := fun w' => ∃ x : LaterW w, w' = x.to) hm hB ⟨⟨{ w with drawn := w.drawn + 1 }, ⟨rfl, rfl, rfl, Nat.le_refl _, fun _ _ => rfl⟩⟩, rfl⟩ h
theorem quiet_ret {P : Program} {W : World} {f : FuncId} {args : Array Value} {x : LaterW W} {v : Value} (h : Calls P f args x.to fun e w' => e = .returned v ∧ Below x.to.heap.size x.to w') : Calls P f args x.to fun e w' => e = .returned v ∧ ∃ y : LaterW W, w' = y.to :=
  h.mono fun _ _ ⟨he, hb⟩ => ⟨he, x.on hb⟩
end Go.Proofs.YtiebfcefmdiajaaGreatDoor
