/-
  Frames: how long one is by its head, what it is, and what it holds.
-/
import Derived.Test.YtongnlbdpfhngaaNumU
import Derived.Test.YtongnlbdpfhngaaSaySum
set_option linter.unusedVariables false
namespace Go.Proofs.Ytongnlbdpfhngaa
open Go.RowKit Go.Maps Go.Deep

def byN (bs : List UInt8) (i : Nat) : Nat := (bs.getD i 0).toNat
theorem byN_lt (bs : List UInt8) (i : Nat) : byN bs i < 256 := UInt8.toNat_lt _
theorem byAt_byN {w : World} {b off : Nat} {bs : List UInt8} (h : ByAt w b off bs) (i : Nat) (hi : i < bs.length) : w.cell? ⟨b, off + i, none⟩ = some (.int .u8 (byN bs i : Int)) := by
  have := h i hi
  unfold byN
  rw [List.getD_eq_getElem?_getD, List.getElem?_eq_getElem hi]
  exact this
/-- how long the body is, by the second and third byte -/
def headN (bs : List UInt8) : Int := (byN bs 1 : Int) * 256 + (byN bs 2 : Int)
def frameSz (bs : List UInt8) : Int := if 1 ≤ bs.length ∧ byN bs 0 ≠ 245 then -1 else if bs.length < 3 then 0 else if 1 ≤ headN bs ∧ headN bs ≤ 260 then headN bs + 5 else -1
theorem headN_num (bs : List UInt8) (h : 3 ≤ bs.length) : numL ((bs.drop 1).take 2) = headN bs := by
  match bs, h with
  | a :: b :: c :: t, _ =>
    have := UInt8.toNat_lt b
    have := UInt8.toNat_lt c
    rw [numL_val]
    simp only [List.drop, List.take, valN, List.foldl, headN, byN, List.getD_cons_succ, List.getD_cons_zero]
    unfold wrap64
    omega
/-- what one has behind the head and ahead of the sum -/
def frameBody (bs : List UInt8) : List UInt8 := (bs.drop 3).take (bs.length - 5)
def frameOk (bs : List UInt8) : Bool := decide (6 ≤ bs.length) && decide (frameSz bs = bs.length) && decide (saySum (bs.take (bs.length - 2)) = numL (bs.drop (bs.length - 2)))
def frameOut (bs : List UInt8) : List UInt8 := if frameOk bs then frameBody bs else []
def frameHd (body : List UInt8) : List UInt8 := (245 : UInt8) :: beL (body.length : Int) 2
def frameFitB (body : List UInt8) : Bool := decide (1 ≤ body.length) && decide (body.length ≤ 260)
def frameL (body : List UInt8) : List UInt8 := if frameFitB body then (frameHd body ++ body) ++ beL (saySum (frameHd body ++ body)) 2 else []
end Go.Proofs.Ytongnlbdpfhngaa
