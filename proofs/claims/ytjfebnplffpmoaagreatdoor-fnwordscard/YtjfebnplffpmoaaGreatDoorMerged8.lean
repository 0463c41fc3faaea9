/-
  The text of a tree, as plain mathematics.
-/
/-
  Decimals: the specification's own way to write a number is Go's own.
-/
import Derived.Test.YtjfebnplffpmoaaGreatDoorSpecDeep
import Derived.Lib.ItoaNum
import Derived.Laws.BytesArg
import Derived.Test.YtjfebnplffpmoaaGreatDoorMerged3
namespace Go.Proofs.YtjfebnplffpmoaaGreatDoor
open Go.RowKit Go.Maps Go.Deep

def levelN (k : Int) : Int := if k = 21 ∨ k = 22 ∨ k = 23 then 0 else if k = 17 then 1 else if k = 16 then 2 else if 10 ≤ k ∧ k ≤ 15 then 3 else if k = 8 ∨ k = 9 then 4 else if 5 ≤ k ∧ k ≤ 7 then 5 else if k = 3 ∨ k = 4 then 6 else 7
def signsN : List ByteArray := [⟨#[42]⟩, ⟨#[47]⟩, ⟨#[37]⟩, ⟨#[43]⟩, ⟨#[45]⟩, ⟨#[61]⟩, ⟨#[33, 61]⟩, ⟨#[60]⟩, ⟨#[60, 61]⟩, ⟨#[62]⟩, ⟨#[62, 61]⟩, ⟨#[97, 110, 100]⟩, ⟨#[111, 114]⟩]
def signN (k : Int) : ByteArray := signsN.getD (k - 5).toNat ⟨#[]⟩
def firstN (k : Int) : Int := if levelN k = 3 then 4 else levelN k
/-- in brackets where it is looser than its place -/
def wrapT (least : Int) (y : NodeV) (s : ByteArray) : ByteArray := if levelN y.kind < least then ⟨#[40]⟩ ++ s ++ ⟨#[41]⟩ else s
def decN (n : Int) : ByteArray := ⟨(Lib.decDigits n.toNat).toArray⟩
/-- the text of a node over its kids' texts -/
def textN (x : NodeV) : List (NodeV × ByteArray) → ByteArray
  | [] => if x.kind = 1 then decN x.num else x.name
  | [(y, s)] => if x.kind = 3 then ⟨#[45]⟩ ++ wrapT 6 y s else if x.kind = 4 then ⟨#[110, 111, 116, 32]⟩ ++ wrapT 6 y s else ⟨#[97, 98, 115, 40]⟩ ++ s ++ ⟨#[41]⟩
  | [(y, s), (z, t)] => if x.kind = 18 then ⟨#[109, 105, 110, 40]⟩ ++ s ++ ⟨#[44, 32]⟩ ++ t ++ ⟨#[41]⟩ else if x.kind = 19 then ⟨#[109, 97, 120, 40]⟩ ++ s ++ ⟨#[44, 32]⟩ ++ t ++ ⟨#[41]⟩
      else if x.kind = 22 then ⟨#[108, 101, 116, 32]⟩ ++ x.name ++ ⟨#[32, 61, 32]⟩ ++ s ++ ⟨#[32, 105, 110, 32]⟩ ++ t
      else wrapT (firstN x.kind) y s ++ ⟨#[32]⟩ ++ signN x.kind ++ ⟨#[32]⟩ ++ wrapT (levelN x.kind + 1) z t
  | (_, s) :: (_, t) :: (_, u) :: _ => if x.kind = 21 then ⟨#[105, 102, 32]⟩ ++ s ++ ⟨#[32, 116, 104, 101, 110, 32]⟩ ++ t ++ ⟨#[32, 101, 108, 115, 101, 32]⟩ ++ u
      else ⟨#[114, 101, 112, 32]⟩ ++ s ++ ⟨#[32, 97, 115, 32]⟩ ++ x.name ++ ⟨#[32, 102, 114, 111, 109, 32]⟩ ++ t ++ ⟨#[32, 98, 121, 32]⟩ ++ u
/-- the trees of a forest, each with its root and its text -/
def showsF : BT NodeV → List (NodeV × ByteArray)
  | .nil => []
  | .node _ _ x l r => (x, textN x (showsF l)) :: showsF r
def bareT (x : NodeV) (l : BT NodeV) : ByteArray := textN x (showsF l)

theorem level_lo (k : Int) : 0 ≤ levelN k := by unfold levelN; repeat' split <;> omega
theorem level_hi (k : Int) : levelN k ≤ 7 := by unfold levelN; repeat' split <;> omega
theorem wrapT_zero (y : NodeV) (s : ByteArray) : wrapT 0 y s = s := by unfold wrapT; rw [if_neg (by have := level_lo y.kind; omega)]
end Go.Proofs.YtjfebnplffpmoaaGreatDoor

namespace Go.Proofs.YtjfebnplffpmoaaGreatDoor
open Go.RowKit Go.Maps

theorem size_app (a b : ByteArray) : (a ++ b).size = a.size + b.size := by simp
theorem size_lit (l : List UInt8) : (⟨l.toArray⟩ : ByteArray).size = l.length := by simp [ByteArray.size]
theorem dec_len (u : Nat) : ∀ m : Nat, u < 10 ^ (m + 1) → (Lib.decDigits u).length ≤ m + 1 := by
  intro m
  induction m generalizing u with
  | zero =>
    intro h
    rw [Lib.decDigits, dif_pos (by simpa using h)]
    simp
  | succ m ih =>
    intro h
    rw [Lib.decDigits]
    split
    · simp
    · have := ih (u / 10) (by rw [Nat.pow_succ] at h; omega)
      simp; omega
def dgt (m : Nat) : UInt8 := UInt8.ofNat (48 + m % 10)
theorem dec_step (m : Nat) (h : ¬ m < 10) (out : ByteArray) : (⟨(Lib.decDigits m).toArray⟩ : ByteArray) ++ out = ⟨(Lib.decDigits (m / 10)).toArray⟩ ++ (⟨#[dgt m]⟩ ++ out) := by
  rw [Lib.decDigits, dif_neg h]
  apply ByteArray.ext
  simp [dgt]
theorem dec_last (m : Nat) (h : m < 10) : (⟨(Lib.decDigits m).toArray⟩ : ByteArray) = ⟨#[dgt m]⟩ := by
  rw [Lib.decDigits, dif_pos h, dgt, Nat.mod_eq_of_lt h]
/-- what is still to be written, ahead of what is written -/
def DecLeft (N m : Nat) (out : ByteArray) : Prop := if m = 0 then out = ⟨(Lib.decDigits N).toArray⟩ else (⟨(Lib.decDigits m).toArray⟩ : ByteArray) ++ out = ⟨(Lib.decDigits N).toArray⟩
theorem DecLeft.step {N m : Nat} {out : ByteArray} (h : DecLeft N m out) (hm : m ≠ 0) : DecLeft N (m / 10) (⟨#[dgt m]⟩ ++ out) := by
  unfold DecLeft at h ⊢
  rw [if_neg hm] at h
  by_cases h10 : m < 10
  · rw [if_pos (by omega), ← h, dec_last m h10]
  · rw [if_neg (by omega), ← dec_step m h10]; exact h
theorem DecLeft.size {N m : Nat} {out : ByteArray} (h : DecLeft N m out) (hN : N ≤ 9223372036854775808) : out.size ≤ 19 := by
  have hl := dec_len N 18 (by omega)
  unfold DecLeft at h
  split at h
  · rw [h, size_lit]; omega
  · have := congrArg ByteArray.size h
    have e1 := size_lit (Lib.decDigits N)
    rw [size_app] at this
    omega
def itoaB (n : Int) : ByteArray := ⟨(Lib.itoa n).toArray⟩
theorem itoaB_size (n : Int) (h0 : -9223372036854775808 ≤ n) (h1 : n ≤ 9223372036854775807) : (itoaB n).size ≤ 20 := by
  unfold itoaB Lib.itoa
  rw [size_lit]
  split
  · have := dec_len n.natAbs 18 (by omega)
    simp only [List.length_cons]; omega
  · have := dec_len n.toNat 18 (by omega)
    omega

set_option maxRecDepth 20000 in
set_option maxHeartbeats 1600000 in
theorem l2Dec_pos (n : Int) (h0 : 0 ≤ n) (h1 : n ≤ 9223372036854775807) (w : World) : Calls Tryz.prog 72 #[.int .i64 n] w fun e w' => e = .returned (.string ⟨(Lib.decDigits n.toNat).toArray⟩) ∧ Below w.heap.size w w' := by
  obtain ⟨N, rfl⟩ := Int.eq_ofNat_of_zero_le h0
  have hN : N ≤ 9223372036854775807 := by omega
  clear h0 h1
  by_cases hz : N = 0
  · subst hz
    go_enter Tryz.func72, Tryz.ntmps72
    go_wp2
    go_ret
    exact ⟨by rw [show (⟨(Lib.decDigits ((0 : Nat) : Int).toNat).toArray⟩ : ByteArray) = ⟨#[48]⟩ from (dec_last 0 (by omega)).trans rfl]; rfl, Below.refl _ _⟩
  · have hz' : ((N : Int) == 0) = false := by rw [beq_eq_false_iff_ne]; omega
    go_enter Tryz.func72, Tryz.ntmps72
    go_wp2_with fail
    go_loopw [0, 3, 5] (fun nv ov dv wr => ∃ (m : Nat) (out : ByteArray), m ≤ N ∧ nv = .int .i64 m ∧ ov = .string out ∧ Hid (DecLeft N m out) ∧ Below w.heap.size w wr) (fun nv _ _ _ => (intOf nv).toNat)
    case atStart => exact ⟨N, _, Nat.le_refl _, rfl, rfl, hide (by unfold DecLeft; rw [if_neg hz]; apply ByteArray.ext; simp), Below.refl _ _⟩
    case round =>
      obtain ⟨m, out, hmN, rfl, rfl, hL, hbel⟩ := hrel
      by_cases hm : m = 0
      · subst hm
        have hout := hide (show out = ⟨(Lib.decDigits (N : Int).toNat).toArray⟩ by have := unhide hL; unfold DecLeft at this; rw [if_pos rfl] at this; rw [this]; rfl)
        obtain rfl := unhide hout
        clear hout
        go_wp2_with fail
        go_ret
        exact ⟨rfl, hbel⟩
      · have hm' : ((m : Int) != 0) = true := by simp [hm]
        have ht : Int.tmod (m : Int) 10 = ((m % 10 : Nat) : Int) := by rw [Int.tmod_eq_emod_of_nonneg (by omega)]; omega
        have hq : Int.tdiv (m : Int) 10 = ((m / 10 : Nat) : Int) := by rw [Int.tdiv_eq_ediv_of_nonneg (by omega)]; omega
        have hd : ¬ ((m % 10 : Nat) : Int) < 0 := by omega
        have HS := hide ((unhide hL).step hm)
        have hos := (unhide hL).size (by omega)
        have hos' : (out.size : Int) ≤ 19 := by omega
        have hcv : (convert 22 9 (.slice (some ⟨wr.heap.size, 0, none⟩) 1 1)).run Tryz.prog (wr.alloc (.cells #[.int .u8 (48 + (m : Int) % 10)] 5)) = .ok (.string (strOfNums [48 + (m : Int) % 10])) (wr.alloc (.cells #[.int .u8 (48 + (m : Int) % 10)] 5)) :=
          run_convert_bytes_arg _ 22 5 Tryz.underlying22 Tryz.underlying5 wr.heap.size 0 1 1 [48 + (m : Int) % 10] rfl (fun i hi => by
            obtain rfl : i = 0 := by omega
            exact World.cell?_alloc_at _ _ _ _ rfl) 9 Tryz.underlying9
        have hstr : strOfNums [48 + (m : Int) % 10] = ⟨#[dgt m]⟩ := by
          have e : (48 + (m : Int) % 10).toNat = 48 + m % 10 := by omega
          simp [strOfNums, e, dgt]
        rw [hstr] at hcv
        have hb' := hbel.alloc hbel.size (.cells #[.int .u8 (48 + (m : Int) % 10)] 5)
        clear hstr
        go_wp2_with fail
        go_roundw
        case rel => exact ⟨m / 10, _, by omega, by go_num, rfl, HS, hb'⟩
        case measure => simp [intOf]; omega

set_option maxRecDepth 20000 in
set_option maxHeartbeats 1600000 in
theorem l2Dec_neg (N : Nat) (h0 : 1 ≤ N) (hN : N ≤ 9223372036854775808) (w : World) : Calls Tryz.prog 72 #[.int .i64 (-(N : Int))] w fun e w' => e = .returned (.string (⟨#[45]⟩ ++ ⟨(Lib.decDigits N).toArray⟩)) ∧ Below w.heap.size w w' := by
  have hz' : (-(N : Int) == 0) = false := by rw [beq_eq_false_iff_ne]; omega
  have hz : ¬ N = 0 := by omega
  have hp : 0 < N := by omega
  go_enter Tryz.func72, Tryz.ntmps72
  go_wp2_with fail
  go_loopw [0, 3, 5] (fun nv ov dv wr => ∃ (m : Nat) (out : ByteArray), m ≤ N ∧ nv = .int .i64 (-(m : Int)) ∧ ov = .string out ∧ Hid (DecLeft N m out) ∧ Below w.heap.size w wr) (fun nv _ _ _ => (intOf nv).natAbs)
  case atStart => exact ⟨N, _, Nat.le_refl _, rfl, rfl, hide (by unfold DecLeft; rw [if_neg hz]; apply ByteArray.ext; simp), Below.refl _ _⟩
  case round =>
    obtain ⟨m, out, hmN, rfl, rfl, hL, hbel⟩ := hrel
    by_cases hm : m = 0
    · subst hm
      have hout := hide (show out = ⟨(Lib.decDigits N).toArray⟩ by have := unhide hL; unfold DecLeft at this; rw [if_pos rfl] at this; exact this)
      have hos := (unhide hL).size hN
      have hos' : (out.size : Int) ≤ 19 := by omega
      go_wp2_with fail
      go_ret
      exact ⟨by rw [unhide hout]; rfl, hbel⟩
    · have hm' : (-(m : Int) != 0) = true := by rw [bne_iff_ne]; omega
      have ht : Int.tmod (-(m : Int)) 10 = -((m % 10 : Nat) : Int) := by rw [Int.neg_tmod, Int.tmod_eq_emod_of_nonneg (by omega)]; omega
      have hq : Int.tdiv (-(m : Int)) 10 = -((m / 10 : Nat) : Int) := by rw [Int.neg_tdiv, Int.tdiv_eq_ediv_of_nonneg (by omega)]; omega
      have HS := hide ((unhide hL).step hm)
      have hos := (unhide hL).size hN
      have hos' : (out.size : Int) ≤ 19 := by omega
      have hcv : (convert 22 9 (.slice (some ⟨wr.heap.size, 0, none⟩) 1 1)).run Tryz.prog (wr.alloc (.cells #[.int .u8 (48 + (m : Int) % 10)] 5)) = .ok (.string (strOfNums [48 + (m : Int) % 10])) (wr.alloc (.cells #[.int .u8 (48 + (m : Int) % 10)] 5)) :=
        run_convert_bytes_arg _ 22 5 Tryz.underlying22 Tryz.underlying5 wr.heap.size 0 1 1 [48 + (m : Int) % 10] rfl (fun i hi => by
          obtain rfl : i = 0 := by omega
          exact World.cell?_alloc_at _ _ _ _ rfl) 9 Tryz.underlying9
      have hstr : strOfNums [48 + (m : Int) % 10] = ⟨#[dgt m]⟩ := by
        have e : (48 + (m : Int) % 10).toNat = 48 + m % 10 := by omega
        simp [strOfNums, e, dgt]
      rw [hstr] at hcv
      have hb' := hbel.alloc hbel.size (.cells #[.int .u8 (48 + (m : Int) % 10)] 5)
      clear hstr
      by_cases hd : (m % 10 : Nat) = 0
      · have hd' : ¬ (-((m % 10 : Nat) : Int)) < 0 := by omega
        have h48 : 48 + (m : Int) % 10 = 48 := by omega
        rw [h48] at hcv hb'
        clear h48
        go_wp2_with fail
        go_roundw
        case rel => exact ⟨m / 10, _, by omega, by go_num, rfl, HS, hb'⟩
        case measure => simp [intOf]; omega
      · have hd' : (-((m % 10 : Nat) : Int)) < 0 := by omega
        go_wp2_with fail
        go_roundw
        case rel => exact ⟨m / 10, _, by omega, by go_num, rfl, HS, hb'⟩
        case measure => simp [intOf]; omega

theorem l2Dec_all (n : Int) (h0 : -9223372036854775808 ≤ n) (h1 : n ≤ 9223372036854775807) (w : World) : Calls Tryz.prog 72 #[.int .i64 n] w fun e w' => e = .returned (.string (itoaB n)) ∧ Below w.heap.size w w' := by
  unfold itoaB Lib.itoa
  by_cases hn : n < 0
  · rw [if_pos hn]
    obtain ⟨N, hN⟩ := Int.eq_ofNat_of_zero_le (show 0 ≤ -n by omega)
    obtain rfl : n = -(N : Int) := by omega
    rw [show (⟨(45 :: Lib.decDigits (-(N : Int)).natAbs).toArray⟩ : ByteArray) = ⟨#[45]⟩ ++ ⟨(Lib.decDigits N).toArray⟩ by
      rw [show (-(N : Int)).natAbs = N by omega]
      apply ByteArray.ext; simp]
    exact l2Dec_neg N (by omega) (by omega) w
  · rw [if_neg hn]
    exact l2Dec_pos n (by omega) h1 w

end Go.Proofs.YtjfebnplffpmoaaGreatDoor
