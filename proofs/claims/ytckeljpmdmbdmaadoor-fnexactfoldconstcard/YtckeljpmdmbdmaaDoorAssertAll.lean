/-
  What a comma-ok assertion of a form answers: one fact for each pair of types.
-/
import Derived.Test.YtckeljpmdmbdmaaDoorForms
namespace Go.Proofs.YtckeljpmdmbdmaaDoor
open Go.RowKit Go.Maps Go.Deep

theorem is_num_num (u : Value) (w : World) : (Instr.typeAssert (.iface 74 u) 44 74 true).run Tryd.prog w = .ok (.tuple #[u, .bool true]) w := by kernel_rfl
theorem is_num_name (u : Value) (w : World) : (Instr.typeAssert (.iface 99 u) 44 74 true).run Tryd.prog w = .ok (.tuple #[.agg #[.int .i64 0], .bool false]) w := by kernel_rfl
theorem is_num_ahead (u : Value) (w : World) : (Instr.typeAssert (.iface 77 u) 44 74 true).run Tryd.prog w = .ok (.tuple #[.agg #[.int .i64 0], .bool false]) w := by kernel_rfl
theorem is_num_sign (u : Value) (w : World) : (Instr.typeAssert (.iface 102 u) 44 74 true).run Tryd.prog w = .ok (.tuple #[.agg #[.int .i64 0], .bool false]) w := by kernel_rfl
theorem is_num_call (u : Value) (w : World) : (Instr.typeAssert (.iface 123 u) 44 74 true).run Tryd.prog w = .ok (.tuple #[.agg #[.int .i64 0], .bool false]) w := by kernel_rfl
theorem is_num_if (u : Value) (w : World) : (Instr.typeAssert (.iface 105 u) 44 74 true).run Tryd.prog w = .ok (.tuple #[.agg #[.int .i64 0], .bool false]) w := by kernel_rfl
theorem is_num_let (u : Value) (w : World) : (Instr.typeAssert (.iface 108 u) 44 74 true).run Tryd.prog w = .ok (.tuple #[.agg #[.int .i64 0], .bool false]) w := by kernel_rfl
theorem is_num_rep (u : Value) (w : World) : (Instr.typeAssert (.iface 111 u) 44 74 true).run Tryd.prog w = .ok (.tuple #[.agg #[.int .i64 0], .bool false]) w := by kernel_rfl
theorem is_name_num (u : Value) (w : World) : (Instr.typeAssert (.iface 74 u) 44 99 true).run Tryd.prog w = .ok (.tuple #[.agg #[.string ⟨#[]⟩], .bool false]) w := by kernel_rfl
theorem is_name_name (u : Value) (w : World) : (Instr.typeAssert (.iface 99 u) 44 99 true).run Tryd.prog w = .ok (.tuple #[u, .bool true]) w := by kernel_rfl
theorem is_name_ahead (u : Value) (w : World) : (Instr.typeAssert (.iface 77 u) 44 99 true).run Tryd.prog w = .ok (.tuple #[.agg #[.string ⟨#[]⟩], .bool false]) w := by kernel_rfl
theorem is_name_sign (u : Value) (w : World) : (Instr.typeAssert (.iface 102 u) 44 99 true).run Tryd.prog w = .ok (.tuple #[.agg #[.string ⟨#[]⟩], .bool false]) w := by kernel_rfl
theorem is_name_call (u : Value) (w : World) : (Instr.typeAssert (.iface 123 u) 44 99 true).run Tryd.prog w = .ok (.tuple #[.agg #[.string ⟨#[]⟩], .bool false]) w := by kernel_rfl
theorem is_name_if (u : Value) (w : World) : (Instr.typeAssert (.iface 105 u) 44 99 true).run Tryd.prog w = .ok (.tuple #[.agg #[.string ⟨#[]⟩], .bool false]) w := by kernel_rfl
theorem is_name_let (u : Value) (w : World) : (Instr.typeAssert (.iface 108 u) 44 99 true).run Tryd.prog w = .ok (.tuple #[.agg #[.string ⟨#[]⟩], .bool false]) w := by kernel_rfl
theorem is_name_rep (u : Value) (w : World) : (Instr.typeAssert (.iface 111 u) 44 99 true).run Tryd.prog w = .ok (.tuple #[.agg #[.string ⟨#[]⟩], .bool false]) w := by kernel_rfl
theorem is_ahead_num (u : Value) (w : World) : (Instr.typeAssert (.iface 74 u) 44 77 true).run Tryd.prog w = .ok (.tuple #[.agg #[.int .i64 0, .nilIface], .bool false]) w := by kernel_rfl
theorem is_ahead_name (u : Value) (w : World) : (Instr.typeAssert (.iface 99 u) 44 77 true).run Tryd.prog w = .ok (.tuple #[.agg #[.int .i64 0, .nilIface], .bool false]) w := by kernel_rfl
theorem is_ahead_ahead (u : Value) (w : World) : (Instr.typeAssert (.iface 77 u) 44 77 true).run Tryd.prog w = .ok (.tuple #[u, .bool true]) w := by kernel_rfl
theorem is_ahead_sign (u : Value) (w : World) : (Instr.typeAssert (.iface 102 u) 44 77 true).run Tryd.prog w = .ok (.tuple #[.agg #[.int .i64 0, .nilIface], .bool false]) w := by kernel_rfl
theorem is_ahead_call (u : Value) (w : World) : (Instr.typeAssert (.iface 123 u) 44 77 true).run Tryd.prog w = .ok (.tuple #[.agg #[.int .i64 0, .nilIface], .bool false]) w := by kernel_rfl
theorem is_ahead_if (u : Value) (w : World) : (Instr.typeAssert (.iface 105 u) 44 77 true).run Tryd.prog w = .ok (.tuple #[.agg #[.int .i64 0, .nilIface], .bool false]) w := by kernel_rfl
theorem is_ahead_let (u : Value) (w : World) : (Instr.typeAssert (.iface 108 u) 44 77 true).run Tryd.prog w = .ok (.tuple #[.agg #[.int .i64 0, .nilIface], .bool false]) w := by kernel_rfl
theorem is_ahead_rep (u : Value) (w : World) : (Instr.typeAssert (.iface 111 u) 44 77 true).run Tryd.prog w = .ok (.tuple #[.agg #[.int .i64 0, .nilIface], .bool false]) w := by kernel_rfl
theorem is_sign_num (u : Value) (w : World) : (Instr.typeAssert (.iface 74 u) 44 102 true).run Tryd.prog w = .ok (.tuple #[.agg #[.int .i64 0, .nilIface, .nilIface], .bool false]) w := by kernel_rfl
theorem is_sign_name (u : Value) (w : World) : (Instr.typeAssert (.iface 99 u) 44 102 true).run Tryd.prog w = .ok (.tuple #[.agg #[.int .i64 0, .nilIface, .nilIface], .bool false]) w := by kernel_rfl
theorem is_sign_ahead (u : Value) (w : World) : (Instr.typeAssert (.iface 77 u) 44 102 true).run Tryd.prog w = .ok (.tuple #[.agg #[.int .i64 0, .nilIface, .nilIface], .bool false]) w := by kernel_rfl
theorem is_sign_sign (u : Value) (w : World) : (Instr.typeAssert (.iface 102 u) 44 102 true).run Tryd.prog w = .ok (.tuple #[u, .bool true]) w := by kernel_rfl
theorem is_sign_call (u : Value) (w : World) : (Instr.typeAssert (.iface 123 u) 44 102 true).run Tryd.prog w = .ok (.tuple #[.agg #[.int .i64 0, .nilIface, .nilIface], .bool false]) w := by kernel_rfl
theorem is_sign_if (u : Value) (w : World) : (Instr.typeAssert (.iface 105 u) 44 102 true).run Tryd.prog w = .ok (.tuple #[.agg #[.int .i64 0, .nilIface, .nilIface], .bool false]) w := by kernel_rfl
theorem is_sign_let (u : Value) (w : World) : (Instr.typeAssert (.iface 108 u) 44 102 true).run Tryd.prog w = .ok (.tuple #[.agg #[.int .i64 0, .nilIface, .nilIface], .bool false]) w := by kernel_rfl
theorem is_sign_rep (u : Value) (w : World) : (Instr.typeAssert (.iface 111 u) 44 102 true).run Tryd.prog w = .ok (.tuple #[.agg #[.int .i64 0, .nilIface, .nilIface], .bool false]) w := by kernel_rfl
theorem is_call_num (u : Value) (w : World) : (Instr.typeAssert (.iface 74 u) 44 123 true).run Tryd.prog w = .ok (.tuple #[.agg #[.int .i64 0, .slice none 0 0], .bool false]) w := by kernel_rfl
theorem is_call_name (u : Value) (w : World) : (Instr.typeAssert (.iface 99 u) 44 123 true).run Tryd.prog w = .ok (.tuple #[.agg #[.int .i64 0, .slice none 0 0], .bool false]) w := by kernel_rfl
theorem is_call_ahead (u : Value) (w : World) : (Instr.typeAssert (.iface 77 u) 44 123 true).run Tryd.prog w = .ok (.tuple #[.agg #[.int .i64 0, .slice none 0 0], .bool false]) w := by kernel_rfl
theorem is_call_sign (u : Value) (w : World) : (Instr.typeAssert (.iface 102 u) 44 123 true).run Tryd.prog w = .ok (.tuple #[.agg #[.int .i64 0, .slice none 0 0], .bool false]) w := by kernel_rfl
theorem is_call_call (u : Value) (w : World) : (Instr.typeAssert (.iface 123 u) 44 123 true).run Tryd.prog w = .ok (.tuple #[u, .bool true]) w := by kernel_rfl
theorem is_call_if (u : Value) (w : World) : (Instr.typeAssert (.iface 105 u) 44 123 true).run Tryd.prog w = .ok (.tuple #[.agg #[.int .i64 0, .slice none 0 0], .bool false]) w := by kernel_rfl
theorem is_call_let (u : Value) (w : World) : (Instr.typeAssert (.iface 108 u) 44 123 true).run Tryd.prog w = .ok (.tuple #[.agg #[.int .i64 0, .slice none 0 0], .bool false]) w := by kernel_rfl
theorem is_call_rep (u : Value) (w : World) : (Instr.typeAssert (.iface 111 u) 44 123 true).run Tryd.prog w = .ok (.tuple #[.agg #[.int .i64 0, .slice none 0 0], .bool false]) w := by kernel_rfl
theorem is_if_num (u : Value) (w : World) : (Instr.typeAssert (.iface 74 u) 44 105 true).run Tryd.prog w = .ok (.tuple #[.agg #[.nilIface, .nilIface, .nilIface], .bool false]) w := by kernel_rfl
theorem is_if_name (u : Value) (w : World) : (Instr.typeAssert (.iface 99 u) 44 105 true).run Tryd.prog w = .ok (.tuple #[.agg #[.nilIface, .nilIface, .nilIface], .bool false]) w := by kernel_rfl
theorem is_if_ahead (u : Value) (w : World) : (Instr.typeAssert (.iface 77 u) 44 105 true).run Tryd.prog w = .ok (.tuple #[.agg #[.nilIface, .nilIface, .nilIface], .bool false]) w := by kernel_rfl
theorem is_if_sign (u : Value) (w : World) : (Instr.typeAssert (.iface 102 u) 44 105 true).run Tryd.prog w = .ok (.tuple #[.agg #[.nilIface, .nilIface, .nilIface], .bool false]) w := by kernel_rfl
theorem is_if_call (u : Value) (w : World) : (Instr.typeAssert (.iface 123 u) 44 105 true).run Tryd.prog w = .ok (.tuple #[.agg #[.nilIface, .nilIface, .nilIface], .bool false]) w := by kernel_rfl
theorem is_if_if (u : Value) (w : World) : (Instr.typeAssert (.iface 105 u) 44 105 true).run Tryd.prog w = .ok (.tuple #[u, .bool true]) w := by kernel_rfl
theorem is_if_let (u : Value) (w : World) : (Instr.typeAssert (.iface 108 u) 44 105 true).run Tryd.prog w = .ok (.tuple #[.agg #[.nilIface, .nilIface, .nilIface], .bool false]) w := by kernel_rfl
theorem is_if_rep (u : Value) (w : World) : (Instr.typeAssert (.iface 111 u) 44 105 true).run Tryd.prog w = .ok (.tuple #[.agg #[.nilIface, .nilIface, .nilIface], .bool false]) w := by kernel_rfl
theorem is_let_num (u : Value) (w : World) : (Instr.typeAssert (.iface 74 u) 44 108 true).run Tryd.prog w = .ok (.tuple #[.agg #[.string ⟨#[]⟩, .nilIface, .nilIface], .bool false]) w := by kernel_rfl
theorem is_let_name (u : Value) (w : World) : (Instr.typeAssert (.iface 99 u) 44 108 true).run Tryd.prog w = .ok (.tuple #[.agg #[.string ⟨#[]⟩, .nilIface, .nilIface], .bool false]) w := by kernel_rfl
theorem is_let_ahead (u : Value) (w : World) : (Instr.typeAssert (.iface 77 u) 44 108 true).run Tryd.prog w = .ok (.tuple #[.agg #[.string ⟨#[]⟩, .nilIface, .nilIface], .bool false]) w := by kernel_rfl
theorem is_let_sign (u : Value) (w : World) : (Instr.typeAssert (.iface 102 u) 44 108 true).run Tryd.prog w = .ok (.tuple #[.agg #[.string ⟨#[]⟩, .nilIface, .nilIface], .bool false]) w := by kernel_rfl
theorem is_let_call (u : Value) (w : World) : (Instr.typeAssert (.iface 123 u) 44 108 true).run Tryd.prog w = .ok (.tuple #[.agg #[.string ⟨#[]⟩, .nilIface, .nilIface], .bool false]) w := by kernel_rfl
theorem is_let_if (u : Value) (w : World) : (Instr.typeAssert (.iface 105 u) 44 108 true).run Tryd.prog w = .ok (.tuple #[.agg #[.string ⟨#[]⟩, .nilIface, .nilIface], .bool false]) w := by kernel_rfl
theorem is_let_let (u : Value) (w : World) : (Instr.typeAssert (.iface 108 u) 44 108 true).run Tryd.prog w = .ok (.tuple #[u, .bool true]) w := by kernel_rfl
theorem is_let_rep (u : Value) (w : World) : (Instr.typeAssert (.iface 111 u) 44 108 true).run Tryd.prog w = .ok (.tuple #[.agg #[.string ⟨#[]⟩, .nilIface, .nilIface], .bool false]) w := by kernel_rfl
theorem is_rep_num (u : Value) (w : World) : (Instr.typeAssert (.iface 74 u) 44 111 true).run Tryd.prog w = .ok (.tuple #[.agg #[.string ⟨#[]⟩, .nilIface, .nilIface, .nilIface], .bool false]) w := by kernel_rfl
theorem is_rep_name (u : Value) (w : World) : (Instr.typeAssert (.iface 99 u) 44 111 true).run Tryd.prog w = .ok (.tuple #[.agg #[.string ⟨#[]⟩, .nilIface, .nilIface, .nilIface], .bool false]) w := by kernel_rfl
theorem is_rep_ahead (u : Value) (w : World) : (Instr.typeAssert (.iface 77 u) 44 111 true).run Tryd.prog w = .ok (.tuple #[.agg #[.string ⟨#[]⟩, .nilIface, .nilIface, .nilIface], .bool false]) w := by kernel_rfl
theorem is_rep_sign (u : Value) (w : World) : (Instr.typeAssert (.iface 102 u) 44 111 true).run Tryd.prog w = .ok (.tuple #[.agg #[.string ⟨#[]⟩, .nilIface, .nilIface, .nilIface], .bool false]) w := by kernel_rfl
theorem is_rep_call (u : Value) (w : World) : (Instr.typeAssert (.iface 123 u) 44 111 true).run Tryd.prog w = .ok (.tuple #[.agg #[.string ⟨#[]⟩, .nilIface, .nilIface, .nilIface], .bool false]) w := by kernel_rfl
theorem is_rep_if (u : Value) (w : World) : (Instr.typeAssert (.iface 105 u) 44 111 true).run Tryd.prog w = .ok (.tuple #[.agg #[.string ⟨#[]⟩, .nilIface, .nilIface, .nilIface], .bool false]) w := by kernel_rfl
theorem is_rep_let (u : Value) (w : World) : (Instr.typeAssert (.iface 108 u) 44 111 true).run Tryd.prog w = .ok (.tuple #[.agg #[.string ⟨#[]⟩, .nilIface, .nilIface, .nilIface], .bool false]) w := by kernel_rfl
theorem is_rep_rep (u : Value) (w : World) : (Instr.typeAssert (.iface 111 u) 44 111 true).run Tryd.prog w = .ok (.tuple #[u, .bool true]) w := by kernel_rfl

end Go.Proofs.YtckeljpmdmbdmaaDoor
