/-
  The program's type switch over its forms: what each assertion answers.
-/
import Derived.Test.YtdfddockgfeccaaDoorImplShow
namespace Go.Proofs.YtdfddockgfeccaaDoor
open Go.RowKit Go.Maps Go.Deep

theorem as_num_num (u : Value) (w : World) : (Instr.typeAssert (.iface 59 u) 42 59 true).run Tryd.prog w = .ok (.tuple #[u, .bool true]) w := by kernel_rfl
theorem as_num_name (u : Value) (w : World) : (Instr.typeAssert (.iface 61 u) 42 59 true).run Tryd.prog w = .ok (.tuple #[.agg #[.int .i64 0], .bool false]) w := by kernel_rfl
theorem as_name_name (u : Value) (w : World) : (Instr.typeAssert (.iface 61 u) 42 61 true).run Tryd.prog w = .ok (.tuple #[u, .bool true]) w := by kernel_rfl
theorem as_num_ahead (u : Value) (w : World) : (Instr.typeAssert (.iface 63 u) 42 59 true).run Tryd.prog w = .ok (.tuple #[.agg #[.int .i64 0], .bool false]) w := by kernel_rfl
theorem as_name_ahead (u : Value) (w : World) : (Instr.typeAssert (.iface 63 u) 42 61 true).run Tryd.prog w = .ok (.tuple #[.agg #[.string ⟨#[]⟩], .bool false]) w := by kernel_rfl
theorem as_ahead_ahead (u : Value) (w : World) : (Instr.typeAssert (.iface 63 u) 42 63 true).run Tryd.prog w = .ok (.tuple #[u, .bool true]) w := by kernel_rfl
theorem as_num_sign (u : Value) (w : World) : (Instr.typeAssert (.iface 66 u) 42 59 true).run Tryd.prog w = .ok (.tuple #[.agg #[.int .i64 0], .bool false]) w := by kernel_rfl
theorem as_name_sign (u : Value) (w : World) : (Instr.typeAssert (.iface 66 u) 42 61 true).run Tryd.prog w = .ok (.tuple #[.agg #[.string ⟨#[]⟩], .bool false]) w := by kernel_rfl
theorem as_ahead_sign (u : Value) (w : World) : (Instr.typeAssert (.iface 66 u) 42 63 true).run Tryd.prog w = .ok (.tuple #[.agg #[.int .i64 0, .nilIface], .bool false]) w := by kernel_rfl
theorem as_sign_sign (u : Value) (w : World) : (Instr.typeAssert (.iface 66 u) 42 66 true).run Tryd.prog w = .ok (.tuple #[u, .bool true]) w := by kernel_rfl
theorem as_num_call (u : Value) (w : World) : (Instr.typeAssert (.iface 70 u) 42 59 true).run Tryd.prog w = .ok (.tuple #[.agg #[.int .i64 0], .bool false]) w := by kernel_rfl
theorem as_name_call (u : Value) (w : World) : (Instr.typeAssert (.iface 70 u) 42 61 true).run Tryd.prog w = .ok (.tuple #[.agg #[.string ⟨#[]⟩], .bool false]) w := by kernel_rfl
theorem as_ahead_call (u : Value) (w : World) : (Instr.typeAssert (.iface 70 u) 42 63 true).run Tryd.prog w = .ok (.tuple #[.agg #[.int .i64 0, .nilIface], .bool false]) w := by kernel_rfl
theorem as_sign_call (u : Value) (w : World) : (Instr.typeAssert (.iface 70 u) 42 66 true).run Tryd.prog w = .ok (.tuple #[.agg #[.int .i64 0, .nilIface, .nilIface], .bool false]) w := by kernel_rfl
theorem as_call_call (u : Value) (w : World) : (Instr.typeAssert (.iface 70 u) 42 70 true).run Tryd.prog w = .ok (.tuple #[u, .bool true]) w := by kernel_rfl
theorem as_num_if (u : Value) (w : World) : (Instr.typeAssert (.iface 73 u) 42 59 true).run Tryd.prog w = .ok (.tuple #[.agg #[.int .i64 0], .bool false]) w := by kernel_rfl
theorem as_name_if (u : Value) (w : World) : (Instr.typeAssert (.iface 73 u) 42 61 true).run Tryd.prog w = .ok (.tuple #[.agg #[.string ⟨#[]⟩], .bool false]) w := by kernel_rfl
theorem as_ahead_if (u : Value) (w : World) : (Instr.typeAssert (.iface 73 u) 42 63 true).run Tryd.prog w = .ok (.tuple #[.agg #[.int .i64 0, .nilIface], .bool false]) w := by kernel_rfl
theorem as_sign_if (u : Value) (w : World) : (Instr.typeAssert (.iface 73 u) 42 66 true).run Tryd.prog w = .ok (.tuple #[.agg #[.int .i64 0, .nilIface, .nilIface], .bool false]) w := by kernel_rfl
theorem as_call_if (u : Value) (w : World) : (Instr.typeAssert (.iface 73 u) 42 70 true).run Tryd.prog w = .ok (.tuple #[.agg #[.int .i64 0, .slice none 0 0], .bool false]) w := by kernel_rfl
theorem as_if_if (u : Value) (w : World) : (Instr.typeAssert (.iface 73 u) 42 73 true).run Tryd.prog w = .ok (.tuple #[u, .bool true]) w := by kernel_rfl
theorem as_num_let (u : Value) (w : World) : (Instr.typeAssert (.iface 75 u) 42 59 true).run Tryd.prog w = .ok (.tuple #[.agg #[.int .i64 0], .bool false]) w := by kernel_rfl
theorem as_name_let (u : Value) (w : World) : (Instr.typeAssert (.iface 75 u) 42 61 true).run Tryd.prog w = .ok (.tuple #[.agg #[.string ⟨#[]⟩], .bool false]) w := by kernel_rfl
theorem as_ahead_let (u : Value) (w : World) : (Instr.typeAssert (.iface 75 u) 42 63 true).run Tryd.prog w = .ok (.tuple #[.agg #[.int .i64 0, .nilIface], .bool false]) w := by kernel_rfl
theorem as_sign_let (u : Value) (w : World) : (Instr.typeAssert (.iface 75 u) 42 66 true).run Tryd.prog w = .ok (.tuple #[.agg #[.int .i64 0, .nilIface, .nilIface], .bool false]) w := by kernel_rfl
theorem as_call_let (u : Value) (w : World) : (Instr.typeAssert (.iface 75 u) 42 70 true).run Tryd.prog w = .ok (.tuple #[.agg #[.int .i64 0, .slice none 0 0], .bool false]) w := by kernel_rfl
theorem as_if_let (u : Value) (w : World) : (Instr.typeAssert (.iface 75 u) 42 73 true).run Tryd.prog w = .ok (.tuple #[.agg #[.nilIface, .nilIface, .nilIface], .bool false]) w := by kernel_rfl
theorem as_let_let (u : Value) (w : World) : (Instr.typeAssert (.iface 75 u) 42 75 true).run Tryd.prog w = .ok (.tuple #[u, .bool true]) w := by kernel_rfl
theorem as_num_rep (u : Value) (w : World) : (Instr.typeAssert (.iface 77 u) 42 59 true).run Tryd.prog w = .ok (.tuple #[.agg #[.int .i64 0], .bool false]) w := by kernel_rfl
theorem as_name_rep (u : Value) (w : World) : (Instr.typeAssert (.iface 77 u) 42 61 true).run Tryd.prog w = .ok (.tuple #[.agg #[.string ⟨#[]⟩], .bool false]) w := by kernel_rfl
theorem as_ahead_rep (u : Value) (w : World) : (Instr.typeAssert (.iface 77 u) 42 63 true).run Tryd.prog w = .ok (.tuple #[.agg #[.int .i64 0, .nilIface], .bool false]) w := by kernel_rfl
theorem as_sign_rep (u : Value) (w : World) : (Instr.typeAssert (.iface 77 u) 42 66 true).run Tryd.prog w = .ok (.tuple #[.agg #[.int .i64 0, .nilIface, .nilIface], .bool false]) w := by kernel_rfl
theorem as_call_rep (u : Value) (w : World) : (Instr.typeAssert (.iface 77 u) 42 70 true).run Tryd.prog w = .ok (.tuple #[.agg #[.int .i64 0, .slice none 0 0], .bool false]) w := by kernel_rfl
theorem as_if_rep (u : Value) (w : World) : (Instr.typeAssert (.iface 77 u) 42 73 true).run Tryd.prog w = .ok (.tuple #[.agg #[.nilIface, .nilIface, .nilIface], .bool false]) w := by kernel_rfl
theorem as_let_rep (u : Value) (w : World) : (Instr.typeAssert (.iface 77 u) 42 75 true).run Tryd.prog w = .ok (.tuple #[.agg #[.string ⟨#[]⟩, .nilIface, .nilIface], .bool false]) w := by kernel_rfl
theorem as_rep_rep (u : Value) (w : World) : (Instr.typeAssert (.iface 77 u) 42 77 true).run Tryd.prog w = .ok (.tuple #[u, .bool true]) w := by kernel_rfl

end Go.Proofs.YtdfddockgfeccaaDoor
