/-
  LogRead of the specification.
-/
import Derived.Test.YtcpjcdbhcllbiaaLogRd
import Derived.Test.YtcpjcdbhcllbiaaRecApp
import Derived.Test.YtcpjcdbhcllbiaaSpecRead
set_option linter.unusedVariables false
namespace Go.Proofs.Ytcpjcdbhcllbiaa
open Go.RowKit Go.Maps Go.Deep

/-- a row of records, and where they end, are handed back -/
def RetLogR (bs : List UInt8) (w : World) (e : Ending) (w' : World) : Prop := ∃ v, e = .returned (.tuple #[v, .int .i64 (logE bs : Int)]) ∧ Hid (RcRow w.heap.size w' v (logRs bs)) ∧ Below w.heap.size w w'
theorem addr_add (b off k : Nat) : (⟨b, off, none⟩ : Addr).add k = ⟨b, off + k, none⟩ := by
  by_cases e : k = 0
  · subst e; simp [Addr.add]
  · simp [Addr.add, e]
theorem by_drop {w : World} {a : Option Addr} {c : Nat} {bs : List UInt8} (h : ByIn w a bs) (hc : bs.length ≤ c) (k : Nat) (hk : k ≤ bs.length) : ByRd w (.slice (a.map (fun x => x.add k)) (bs.length - k) (c - k)) (bs.drop k) := by
  refine ⟨_, c - k, by rw [List.length_drop], ?_, by rw [List.length_drop]; omega⟩
  rcases h with rfl | ⟨b, off, rfl, hb, hx⟩
  · exact .inl (by simp)
  · refine .inr ⟨b, off + k, by simp [addr_add], hb, fun i hi => ?_⟩
    rw [List.getElem_drop, Nat.add_assoc]
    exact hx (k + i) (by simp at hi; omega)
end Go.Proofs.Ytcpjcdbhcllbiaa
