/-
  What the laws on records draw: small facts.
-/
import Derived.Test.YtcpjcdbhcllbiaaReader
import Derived.Test.YtcpjcdbhcllbiaaMany
import Derived.Test.YtcpjcdbhcllbiaaBoxes
import Derived.Test.YtcpjcdbhcllbiaaRecs
set_option linter.unusedVariables false
namespace Go.Proofs.Ytcpjcdbhcllbiaa
open Go.RowKit Go.Maps Go.Deep

theorem set_new {S : List Nat} {w W : World} {b : Nat} (h : Turn S w W) (hb : w.heap.size ≤ b) (i : Nat) (v : Value) : Turn S w (W.setCell ⟨b, i, none⟩ v) :=
  ⟨h.os, h.tape, h.output, by simpa using h.size, fun k hk hS => (Below.heap_setCell W ⟨b, i, none⟩ v k (by show k ≠ b; omega)).trans (h.block k hk hS)⟩
def nmF (j : Nat) : ByteArray := [(⟨#[120]⟩ : ByteArray), ⟨#[121]⟩, ⟨#[115, 45, 49]⟩, ⟨#[97, 98, 99, 100, 101, 102, 103, 104]⟩, ⟨#[122, 57]⟩].getD j ⟨#[]⟩
def badF (j : Nat) : ByteArray := [(⟨#[]⟩ : ByteArray), ⟨#[88]⟩, ⟨#[97, 98, 99, 100, 101, 102, 103, 104, 105]⟩, ⟨#[97, 32, 98]⟩].getD j ⟨#[]⟩
def n3F (j : Nat) : Int := [(-9223372036854775808 : Int), 9223372036854775807, -1].getD j 0
def n4F (j : Nat) : Int := [(1125899906842624 : Int), 1125899906842625, 0].getD j 0
def kdF (j : Nat) : Int := [(0 : Int), 5, -1, 257].getD j 0
theorem nmF_size (j : Nat) : (nmF j).size ≤ 1000000 := by
  match j with
  | 0 | 1 | 2 | 3 | 4 => decide
  | n + 5 => simp [nmF, ByteArray.size]
theorem badF_size (j : Nat) : (badF j).size ≤ 1000000 := by
  match j with
  | 0 | 1 | 2 | 3 => decide
  | n + 4 => simp [badF, ByteArray.size]
theorem n3F_fit (j : Nat) : -9223372036854775808 ≤ n3F j ∧ n3F j ≤ 9223372036854775807 := by
  match j with
  | 0 | 1 | 2 => decide
  | n + 3 => simp [n3F]
theorem n4F_fit (j : Nat) : -9223372036854775808 ≤ n4F j ∧ n4F j ≤ 9223372036854775807 := by
  match j with
  | 0 | 1 | 2 => decide
  | n + 3 => simp [n4F]
theorem kdF_fit (j : Nat) : -9223372036854775808 ≤ kdF j ∧ kdF j ≤ 9223372036854775807 := by
  match j with
  | 0 | 1 | 2 | 3 => decide
  | n + 4 => simp [kdF]
/-- a record is drawn -/
def RetRecD (base g p : Nat) (w : World) (e : Ending) (w' : World) : Prop := ∃ r : RecV, e = .returned (recVal r) ∧ (r.name.size ≤ 1000000 ∧ r.text.size ≤ 1000000 ∧ IntFit r.kind ∧ IntFit r.num) ∧ (∃ q, q ≤ p + 10 ∧ RdIn base w' g q) ∧ Turn [g] w w'
theorem ret_rec {w W : World} {base g p q br : Nat} {xs : List Value} {k n : Int} {nm tx : ByteArray} {tmps : Array Value} (hb : BoxF W br xs) (hl : xs.length = 4) (h2 : tmps[2]? = some (.pointer (some ⟨br, 0, none⟩)))
    (hnm : nm.size ≤ 1000000) (htx : tx.size ≤ 1000000) (hk : IntFit k) (hn : IntFit n) (hq : q ≤ p + 10) (hr : RdIn base W g q) (hne : g ≠ br) (hbn : w.heap.size ≤ br) (hbb : base ≤ br) (ht : Turn [g] w W) :
    bodyPost Try.prog Try.f19 (fun e w' => RetRecD base g p w e w') .ret { tmps := tmps, defers := [] } ((((W.setCell ⟨br, 0, none⟩ (.int .i64 k)).setCell ⟨br, 1, none⟩ (.string nm)).setCell ⟨br, 2, none⟩ (.int .i64 n)).setCell ⟨br, 3, none⟩ (.string tx)) := by
  obtain ⟨y0, y1, y2, y3, _, t⟩ := fill4 W br (.int .i64 k) (.string nm) (.int .i64 n) (.string tx) (fun i hi => ⟨_, hb.1.2 i _ (List.getElem?_eq_getElem (by omega))⟩)
  have hRD := hr.turn t (by simpa using hne) (by simpa using hbb)
  have hT := set_new (set_new (set_new (set_new ht hbn 0 (.int .i64 k)) hbn 1 (.string nm)) hbn 2 (.int .i64 n)) hbn 3 (.string tx)
  refine bodyPost_ret (v := .agg #[.int .i64 k, .string nm, .int .i64 n, .string tx]) ?_ rfl ⟨⟨k, nm, n, tx⟩, rfl, ⟨hnm, htx, hk, hn⟩, ⟨q, hq, hRD⟩, hT⟩
  simp [results, Try.results19, go_sem, h2, y0, y1, y2, y3]
end Go.Proofs.Ytcpjcdbhcllbiaa
