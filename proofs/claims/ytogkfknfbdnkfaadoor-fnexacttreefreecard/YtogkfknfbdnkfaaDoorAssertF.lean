/-
  What the type switch of appendFree answers at each form.
-/
import Derived.Test.YtogkfknfbdnkfaaDoorForms
namespace Go.Proofs.YtogkfknfbdnkfaaDoor
open Go.RowKit Go.Maps Go.Deep
theorem af_name_num (u : Value) (w : World) : (Instr.typeAssert (.iface 82 u) 41 67 true).run Tryd.prog w = .ok (.tuple #[.agg #[.string ⟨#[]⟩], .bool false]) w := by kernel_rfl
theorem af_name_name (u : Value) (w : World) : (Instr.typeAssert (.iface 67 u) 41 67 true).run Tryd.prog w = .ok (.tuple #[u, .bool true]) w := by kernel_rfl
theorem af_name_ahead (u : Value) (w : World) : (Instr.typeAssert (.iface 84 u) 41 67 true).run Tryd.prog w = .ok (.tuple #[.agg #[.string ⟨#[]⟩], .bool false]) w := by kernel_rfl
theorem af_name_sign (u : Value) (w : World) : (Instr.typeAssert (.iface 90 u) 41 67 true).run Tryd.prog w = .ok (.tuple #[.agg #[.string ⟨#[]⟩], .bool false]) w := by kernel_rfl
theorem af_name_call (u : Value) (w : World) : (Instr.typeAssert (.iface 86 u) 41 67 true).run Tryd.prog w = .ok (.tuple #[.agg #[.string ⟨#[]⟩], .bool false]) w := by kernel_rfl
theorem af_name_if (u : Value) (w : World) : (Instr.typeAssert (.iface 88 u) 41 67 true).run Tryd.prog w = .ok (.tuple #[.agg #[.string ⟨#[]⟩], .bool false]) w := by kernel_rfl
theorem af_name_let (u : Value) (w : World) : (Instr.typeAssert (.iface 69 u) 41 67 true).run Tryd.prog w = .ok (.tuple #[.agg #[.string ⟨#[]⟩], .bool false]) w := by kernel_rfl
theorem af_name_rep (u : Value) (w : World) : (Instr.typeAssert (.iface 72 u) 41 67 true).run Tryd.prog w = .ok (.tuple #[.agg #[.string ⟨#[]⟩], .bool false]) w := by kernel_rfl
theorem af_let_num (u : Value) (w : World) : (Instr.typeAssert (.iface 82 u) 41 69 true).run Tryd.prog w = .ok (.tuple #[.agg #[.string ⟨#[]⟩, .nilIface, .nilIface], .bool false]) w := by kernel_rfl
theorem af_let_name (u : Value) (w : World) : (Instr.typeAssert (.iface 67 u) 41 69 true).run Tryd.prog w = .ok (.tuple #[.agg #[.string ⟨#[]⟩, .nilIface, .nilIface], .bool false]) w := by kernel_rfl
theorem af_let_ahead (u : Value) (w : World) : (Instr.typeAssert (.iface 84 u) 41 69 true).run Tryd.prog w = .ok (.tuple #[.agg #[.string ⟨#[]⟩, .nilIface, .nilIface], .bool false]) w := by kernel_rfl
theorem af_let_sign (u : Value) (w : World) : (Instr.typeAssert (.iface 90 u) 41 69 true).run Tryd.prog w = .ok (.tuple #[.agg #[.string ⟨#[]⟩, .nilIface, .nilIface], .bool false]) w := by kernel_rfl
theorem af_let_call (u : Value) (w : World) : (Instr.typeAssert (.iface 86 u) 41 69 true).run Tryd.prog w = .ok (.tuple #[.agg #[.string ⟨#[]⟩, .nilIface, .nilIface], .bool false]) w := by kernel_rfl
theorem af_let_if (u : Value) (w : World) : (Instr.typeAssert (.iface 88 u) 41 69 true).run Tryd.prog w = .ok (.tuple #[.agg #[.string ⟨#[]⟩, .nilIface, .nilIface], .bool false]) w := by kernel_rfl
theorem af_let_let (u : Value) (w : World) : (Instr.typeAssert (.iface 69 u) 41 69 true).run Tryd.prog w = .ok (.tuple #[u, .bool true]) w := by kernel_rfl
theorem af_let_rep (u : Value) (w : World) : (Instr.typeAssert (.iface 72 u) 41 69 true).run Tryd.prog w = .ok (.tuple #[.agg #[.string ⟨#[]⟩, .nilIface, .nilIface], .bool false]) w := by kernel_rfl
theorem af_rep_num (u : Value) (w : World) : (Instr.typeAssert (.iface 82 u) 41 72 true).run Tryd.prog w = .ok (.tuple #[.agg #[.string ⟨#[]⟩, .nilIface, .nilIface, .nilIface], .bool false]) w := by kernel_rfl
theorem af_rep_name (u : Value) (w : World) : (Instr.typeAssert (.iface 67 u) 41 72 true).run Tryd.prog w = .ok (.tuple #[.agg #[.string ⟨#[]⟩, .nilIface, .nilIface, .nilIface], .bool false]) w := by kernel_rfl
theorem af_rep_ahead (u : Value) (w : World) : (Instr.typeAssert (.iface 84 u) 41 72 true).run Tryd.prog w = .ok (.tuple #[.agg #[.string ⟨#[]⟩, .nilIface, .nilIface, .nilIface], .bool false]) w := by kernel_rfl
theorem af_rep_sign (u : Value) (w : World) : (Instr.typeAssert (.iface 90 u) 41 72 true).run Tryd.prog w = .ok (.tuple #[.agg #[.string ⟨#[]⟩, .nilIface, .nilIface, .nilIface], .bool false]) w := by kernel_rfl
theorem af_rep_call (u : Value) (w : World) : (Instr.typeAssert (.iface 86 u) 41 72 true).run Tryd.prog w = .ok (.tuple #[.agg #[.string ⟨#[]⟩, .nilIface, .nilIface, .nilIface], .bool false]) w := by kernel_rfl
theorem af_rep_if (u : Value) (w : World) : (Instr.typeAssert (.iface 88 u) 41 72 true).run Tryd.prog w = .ok (.tuple #[.agg #[.string ⟨#[]⟩, .nilIface, .nilIface, .nilIface], .bool false]) w := by kernel_rfl
theorem af_rep_let (u : Value) (w : World) : (Instr.typeAssert (.iface 69 u) 41 72 true).run Tryd.prog w = .ok (.tuple #[.agg #[.string ⟨#[]⟩, .nilIface, .nilIface, .nilIface], .bool false]) w := by kernel_rfl
theorem af_rep_rep (u : Value) (w : World) : (Instr.typeAssert (.iface 72 u) 41 72 true).run Tryd.prog w = .ok (.tuple #[u, .bool true]) w := by kernel_rfl
end Go.Proofs.YtogkfknfbdnkfaaDoor
