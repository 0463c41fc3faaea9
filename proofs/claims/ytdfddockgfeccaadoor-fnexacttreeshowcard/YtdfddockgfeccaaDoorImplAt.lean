/-
  The program's textAt, form by form.
-/
import Derived.Test.YtdfddockgfeccaaDoorImplShow
namespace Go.Proofs.YtdfddockgfeccaaDoor
open Go.RowKit Go.Maps Go.Deep
set_option linter.unusedVariables false

/-- what textAt makes of a text -/
theorem field_kind (k a : Int) (b : ByteArray) (c : Int) (w : World) : (Instr.field 39 (.agg #[.int .i64 k, .int .i64 a, .string b, .int .i64 c]) 0).run Tryd.prog w = .ok (.int .i64 k) w := by kernel_rfl
def atT (lv least : Int) (T : ByteArray) : ByteArray := if lv < least then ⟨#[40]⟩ ++ T ++ ⟨#[41]⟩ else T
set_option maxRecDepth 100000 in
set_option maxHeartbeats 1600000 in
theorem textAt_num (n : Int) (least : Int) (W : World) (hsh : ShapesIn W) (T : ByteArray) (hT : (T.size : Int) ≤ 24000) (h : TextSaid W (.iface 59 (.agg #[.int .i64 n])) T) :
    TextAtSaid W (.iface 59 (.agg #[.int .i64 n])) least (atT (levelN (1 : Nat)) least T) := by
  intro w hw
  have hsw := hsh.below hw (Nat.le_refl _)
  have hg := hsw.1
  have hcell := hsw.level 1 (by omega) (by omega)
  replace hcell : w.cell? ⟨0, 4, none⟩ = some (.int .i64 7) := hcell
  have hlv : levelN ((1 : Nat) : Int) = 7 := rfl
  rw [hlv]
  clear hlv
  have HT := hide h
  clear h hsh hsw
  by_cases hle : (7 : Int) < least
  · have hA : atT 7 least T = ⟨#[40]⟩ ++ T ++ ⟨#[41]⟩ := by unfold atT; rw [if_pos hle]
    rw [hA]
    clear hA
    go_enter Tryd.func55, Tryd.ntmps55
    go_wp2_with fail
    refine (node_num _ _).mono ?_
    rintro e w1 ⟨⟨a, b, c, rfl⟩, hb1⟩
    have hc1 := (hb1.cell (by exact hg)).trans hcell
    have hW1 : Below W.heap.size W w1 := hw.trans (hb1.mono hw.size)
    have hs1 := hb1.size
    have hfd := field_kind 1 a b c w1
    go_wp2_with (first
      | (go_at_call 21; refine (unhide HT _ hW1).mono ?_; rintro e w2 ⟨rfl, hb2⟩))
    go_ret
    exact ⟨rfl, hb2⟩
  · have hA : atT 7 least T = T := by unfold atT; rw [if_neg hle]
    rw [hA]
    clear hA
    go_enter Tryd.func55, Tryd.ntmps55
    go_wp2_with fail
    refine (node_num _ _).mono ?_
    rintro e w1 ⟨⟨a, b, c, rfl⟩, hb1⟩
    have hc1 := (hb1.cell (by exact hg)).trans hcell
    have hW1 : Below W.heap.size W w1 := hw.trans (hb1.mono hw.size)
    have hs1 := hb1.size
    have hfd := field_kind 1 a b c w1
    go_wp2_with (first
      | (go_at_call 21; refine (unhide HT _ hW1).mono ?_; rintro e w2 ⟨rfl, hb2⟩))
    go_ret
    exact ⟨rfl, hb2⟩
set_option maxRecDepth 100000 in
set_option maxHeartbeats 1600000 in
theorem textAt_name (s : ByteArray) (least : Int) (W : World) (hsh : ShapesIn W) (T : ByteArray) (hT : (T.size : Int) ≤ 24000) (h : TextSaid W (.iface 61 (.agg #[.string s])) T) :
    TextAtSaid W (.iface 61 (.agg #[.string s])) least (atT (levelN (2 : Nat)) least T) := by
  intro w hw
  have hsw := hsh.below hw (Nat.le_refl _)
  have hg := hsw.1
  have hcell := hsw.level 2 (by omega) (by omega)
  replace hcell : w.cell? ⟨0, 7, none⟩ = some (.int .i64 7) := hcell
  have hlv : levelN ((2 : Nat) : Int) = 7 := rfl
  rw [hlv]
  clear hlv
  have HT := hide h
  clear h hsh hsw
  by_cases hle : (7 : Int) < least
  · have hA : atT 7 least T = ⟨#[40]⟩ ++ T ++ ⟨#[41]⟩ := by unfold atT; rw [if_pos hle]
    rw [hA]
    clear hA
    go_enter Tryd.func55, Tryd.ntmps55
    go_wp2_with fail
    refine (node_name _ _).mono ?_
    rintro e w1 ⟨⟨a, b, c, rfl⟩, hb1⟩
    have hc1 := (hb1.cell (by exact hg)).trans hcell
    have hW1 : Below W.heap.size W w1 := hw.trans (hb1.mono hw.size)
    have hs1 := hb1.size
    have hfd := field_kind 2 a b c w1
    go_wp2_with (first
      | (go_at_call 21; refine (unhide HT _ hW1).mono ?_; rintro e w2 ⟨rfl, hb2⟩))
    go_ret
    exact ⟨rfl, hb2⟩
  · have hA : atT 7 least T = T := by unfold atT; rw [if_neg hle]
    rw [hA]
    clear hA
    go_enter Tryd.func55, Tryd.ntmps55
    go_wp2_with fail
    refine (node_name _ _).mono ?_
    rintro e w1 ⟨⟨a, b, c, rfl⟩, hb1⟩
    have hc1 := (hb1.cell (by exact hg)).trans hcell
    have hW1 : Below W.heap.size W w1 := hw.trans (hb1.mono hw.size)
    have hs1 := hb1.size
    have hfd := field_kind 2 a b c w1
    go_wp2_with (first
      | (go_at_call 21; refine (unhide HT _ hW1).mono ?_; rintro e w2 ⟨rfl, hb2⟩))
    go_ret
    exact ⟨rfl, hb2⟩
set_option maxRecDepth 100000 in
set_option maxHeartbeats 1600000 in
theorem textAt_ahead (kn : Nat) (h1 : 1 ≤ kn) (h23 : kn ≤ 23) (t0 : TypeId) (u0 : Value) (least : Int) (W : World) (hsh : ShapesIn W) (T : ByteArray) (hT : (T.size : Int) ≤ 24000) (h : TextSaid W (.iface 63 (.agg #[.int .i64 (kn : Int), .iface t0 u0])) T) :
    TextAtSaid W (.iface 63 (.agg #[.int .i64 (kn : Int), .iface t0 u0])) least (atT (levelN (kn : Nat)) least T) := by
  intro w hw
  have hsw := hsh.below hw (Nat.le_refl _)
  have hg := hsw.1
  have hcell := hsw.level kn (by omega) (by omega)
  generalize levelN (kn : Nat) = lv at *
  have hi1 : (0 : Int) ≤ kn := by omega
  have hi2 : (kn : Int) < 24 := by omega
  have HT := hide h
  clear h hsh hsw
  by_cases hle : (lv : Int) < least
  · have hA : atT lv least T = ⟨#[40]⟩ ++ T ++ ⟨#[41]⟩ := by unfold atT; rw [if_pos hle]
    rw [hA]
    clear hA
    go_enter Tryd.func55, Tryd.ntmps55
    go_wp2_with fail
    refine (node_ahead _ _ _ _).mono ?_
    rintro e w1 ⟨⟨a, b, c, rfl⟩, hb1⟩
    have hc1 := (hb1.cell (by exact hg)).trans hcell
    have hW1 : Below W.heap.size W w1 := hw.trans (hb1.mono hw.size)
    have hs1 := hb1.size
    have hfd := field_kind (kn : Int) a b c w1
    go_wp2_with (first
      | (go_at_call 21; refine (unhide HT _ hW1).mono ?_; rintro e w2 ⟨rfl, hb2⟩))
    go_ret
    exact ⟨rfl, hb2⟩
  · have hA : atT lv least T = T := by unfold atT; rw [if_neg hle]
    rw [hA]
    clear hA
    go_enter Tryd.func55, Tryd.ntmps55
    go_wp2_with fail
    refine (node_ahead _ _ _ _).mono ?_
    rintro e w1 ⟨⟨a, b, c, rfl⟩, hb1⟩
    have hc1 := (hb1.cell (by exact hg)).trans hcell
    have hW1 : Below W.heap.size W w1 := hw.trans (hb1.mono hw.size)
    have hs1 := hb1.size
    have hfd := field_kind (kn : Int) a b c w1
    go_wp2_with (first
      | (go_at_call 21; refine (unhide HT _ hW1).mono ?_; rintro e w2 ⟨rfl, hb2⟩))
    go_ret
    exact ⟨rfl, hb2⟩
set_option maxRecDepth 100000 in
set_option maxHeartbeats 1600000 in
theorem textAt_sign (kn : Nat) (h1 : 1 ≤ kn) (h23 : kn ≤ 23) (t0 t1 : TypeId) (u0 u1 : Value) (least : Int) (W : World) (hsh : ShapesIn W) (T : ByteArray) (hT : (T.size : Int) ≤ 24000) (h : TextSaid W (.iface 66 (.agg #[.int .i64 (kn : Int), .iface t0 u0, .iface t1 u1])) T) :
    TextAtSaid W (.iface 66 (.agg #[.int .i64 (kn : Int), .iface t0 u0, .iface t1 u1])) least (atT (levelN (kn : Nat)) least T) := by
  intro w hw
  have hsw := hsh.below hw (Nat.le_refl _)
  have hg := hsw.1
  have hcell := hsw.level kn (by omega) (by omega)
  generalize levelN (kn : Nat) = lv at *
  have hi1 : (0 : Int) ≤ kn := by omega
  have hi2 : (kn : Int) < 24 := by omega
  have HT := hide h
  clear h hsh hsw
  by_cases hle : (lv : Int) < least
  · have hA : atT lv least T = ⟨#[40]⟩ ++ T ++ ⟨#[41]⟩ := by unfold atT; rw [if_pos hle]
    rw [hA]
    clear hA
    go_enter Tryd.func55, Tryd.ntmps55
    go_wp2_with fail
    refine (node_sign _ _ _ _ _ _).mono ?_
    rintro e w1 ⟨⟨a, b, c, rfl⟩, hb1⟩
    have hc1 := (hb1.cell (by exact hg)).trans hcell
    have hW1 : Below W.heap.size W w1 := hw.trans (hb1.mono hw.size)
    have hs1 := hb1.size
    have hfd := field_kind (kn : Int) a b c w1
    go_wp2_with (first
      | (go_at_call 21; refine (unhide HT _ hW1).mono ?_; rintro e w2 ⟨rfl, hb2⟩))
    go_ret
    exact ⟨rfl, hb2⟩
  · have hA : atT lv least T = T := by unfold atT; rw [if_neg hle]
    rw [hA]
    clear hA
    go_enter Tryd.func55, Tryd.ntmps55
    go_wp2_with fail
    refine (node_sign _ _ _ _ _ _).mono ?_
    rintro e w1 ⟨⟨a, b, c, rfl⟩, hb1⟩
    have hc1 := (hb1.cell (by exact hg)).trans hcell
    have hW1 : Below W.heap.size W w1 := hw.trans (hb1.mono hw.size)
    have hs1 := hb1.size
    have hfd := field_kind (kn : Int) a b c w1
    go_wp2_with (first
      | (go_at_call 21; refine (unhide HT _ hW1).mono ?_; rintro e w2 ⟨rfl, hb2⟩))
    go_ret
    exact ⟨rfl, hb2⟩
set_option maxRecDepth 100000 in
set_option maxHeartbeats 1600000 in
theorem textAt_call (kn : Nat) (h1 : 1 ≤ kn) (h23 : kn ≤ 23) (ad : Option Addr) (n cap : Nat) (least : Int) (W : World) (hsh : ShapesIn W) (T : ByteArray) (hT : (T.size : Int) ≤ 24000) (h : TextSaid W (.iface 70 (.agg #[.int .i64 (kn : Int), .slice ad n cap])) T) :
    TextAtSaid W (.iface 70 (.agg #[.int .i64 (kn : Int), .slice ad n cap])) least (atT (levelN (kn : Nat)) least T) := by
  intro w hw
  have hsw := hsh.below hw (Nat.le_refl _)
  have hg := hsw.1
  have hcell := hsw.level kn (by omega) (by omega)
  generalize levelN (kn : Nat) = lv at *
  have hi1 : (0 : Int) ≤ kn := by omega
  have hi2 : (kn : Int) < 24 := by omega
  have HT := hide h
  clear h hsh hsw
  by_cases hle : (lv : Int) < least
  · have hA : atT lv least T = ⟨#[40]⟩ ++ T ++ ⟨#[41]⟩ := by unfold atT; rw [if_pos hle]
    rw [hA]
    clear hA
    go_enter Tryd.func55, Tryd.ntmps55
    go_wp2_with fail
    refine (node_call _ _ _ _ _).mono ?_
    rintro e w1 ⟨⟨a, b, c, rfl⟩, hb1⟩
    have hc1 := (hb1.cell (by exact hg)).trans hcell
    have hW1 : Below W.heap.size W w1 := hw.trans (hb1.mono hw.size)
    have hs1 := hb1.size
    have hfd := field_kind (kn : Int) a b c w1
    go_wp2_with (first
      | (go_at_call 21; refine (unhide HT _ hW1).mono ?_; rintro e w2 ⟨rfl, hb2⟩))
    go_ret
    exact ⟨rfl, hb2⟩
  · have hA : atT lv least T = T := by unfold atT; rw [if_neg hle]
    rw [hA]
    clear hA
    go_enter Tryd.func55, Tryd.ntmps55
    go_wp2_with fail
    refine (node_call _ _ _ _ _).mono ?_
    rintro e w1 ⟨⟨a, b, c, rfl⟩, hb1⟩
    have hc1 := (hb1.cell (by exact hg)).trans hcell
    have hW1 : Below W.heap.size W w1 := hw.trans (hb1.mono hw.size)
    have hs1 := hb1.size
    have hfd := field_kind (kn : Int) a b c w1
    go_wp2_with (first
      | (go_at_call 21; refine (unhide HT _ hW1).mono ?_; rintro e w2 ⟨rfl, hb2⟩))
    go_ret
    exact ⟨rfl, hb2⟩
set_option maxRecDepth 100000 in
set_option maxHeartbeats 1600000 in
theorem textAt_if (t0 t1 t2 : TypeId) (u0 u1 u2 : Value) (least : Int) (W : World) (hsh : ShapesIn W) (T : ByteArray) (hT : (T.size : Int) ≤ 24000) (h : TextSaid W (.iface 73 (.agg #[.iface t0 u0, .iface t1 u1, .iface t2 u2])) T) :
    TextAtSaid W (.iface 73 (.agg #[.iface t0 u0, .iface t1 u1, .iface t2 u2])) least (atT (levelN (21 : Nat)) least T) := by
  intro w hw
  have hsw := hsh.below hw (Nat.le_refl _)
  have hg := hsw.1
  have hcell := hsw.level 21 (by omega) (by omega)
  replace hcell : w.cell? ⟨0, 64, none⟩ = some (.int .i64 0) := hcell
  have hlv : levelN ((21 : Nat) : Int) = 0 := rfl
  rw [hlv]
  clear hlv
  have HT := hide h
  clear h hsh hsw
  by_cases hle : (0 : Int) < least
  · have hA : atT 0 least T = ⟨#[40]⟩ ++ T ++ ⟨#[41]⟩ := by unfold atT; rw [if_pos hle]
    rw [hA]
    clear hA
    go_enter Tryd.func55, Tryd.ntmps55
    go_wp2_with fail
    refine (node_if _ _ _ _ _ _ _).mono ?_
    rintro e w1 ⟨⟨a, b, c, rfl⟩, hb1⟩
    have hc1 := (hb1.cell (by exact hg)).trans hcell
    have hW1 : Below W.heap.size W w1 := hw.trans (hb1.mono hw.size)
    have hs1 := hb1.size
    have hfd := field_kind 21 a b c w1
    go_wp2_with (first
      | (go_at_call 21; refine (unhide HT _ hW1).mono ?_; rintro e w2 ⟨rfl, hb2⟩))
    go_ret
    exact ⟨rfl, hb2⟩
  · have hA : atT 0 least T = T := by unfold atT; rw [if_neg hle]
    rw [hA]
    clear hA
    go_enter Tryd.func55, Tryd.ntmps55
    go_wp2_with fail
    refine (node_if _ _ _ _ _ _ _).mono ?_
    rintro e w1 ⟨⟨a, b, c, rfl⟩, hb1⟩
    have hc1 := (hb1.cell (by exact hg)).trans hcell
    have hW1 : Below W.heap.size W w1 := hw.trans (hb1.mono hw.size)
    have hs1 := hb1.size
    have hfd := field_kind 21 a b c w1
    go_wp2_with (first
      | (go_at_call 21; refine (unhide HT _ hW1).mono ?_; rintro e w2 ⟨rfl, hb2⟩))
    go_ret
    exact ⟨rfl, hb2⟩
set_option maxRecDepth 100000 in
set_option maxHeartbeats 1600000 in
theorem textAt_let (s : ByteArray) (t0 t1 : TypeId) (u0 u1 : Value) (least : Int) (W : World) (hsh : ShapesIn W) (T : ByteArray) (hT : (T.size : Int) ≤ 24000) (h : TextSaid W (.iface 75 (.agg #[.string s, .iface t0 u0, .iface t1 u1])) T) :
    TextAtSaid W (.iface 75 (.agg #[.string s, .iface t0 u0, .iface t1 u1])) least (atT (levelN (22 : Nat)) least T) := by
  intro w hw
  have hsw := hsh.below hw (Nat.le_refl _)
  have hg := hsw.1
  have hcell := hsw.level 22 (by omega) (by omega)
  replace hcell : w.cell? ⟨0, 67, none⟩ = some (.int .i64 0) := hcell
  have hlv : levelN ((22 : Nat) : Int) = 0 := rfl
  rw [hlv]
  clear hlv
  have HT := hide h
  clear h hsh hsw
  by_cases hle : (0 : Int) < least
  · have hA : atT 0 least T = ⟨#[40]⟩ ++ T ++ ⟨#[41]⟩ := by unfold atT; rw [if_pos hle]
    rw [hA]
    clear hA
    go_enter Tryd.func55, Tryd.ntmps55
    go_wp2_with fail
    refine (node_let _ _ _ _ _ _).mono ?_
    rintro e w1 ⟨⟨a, b, c, rfl⟩, hb1⟩
    have hc1 := (hb1.cell (by exact hg)).trans hcell
    have hW1 : Below W.heap.size W w1 := hw.trans (hb1.mono hw.size)
    have hs1 := hb1.size
    have hfd := field_kind 22 a b c w1
    go_wp2_with (first
      | (go_at_call 21; refine (unhide HT _ hW1).mono ?_; rintro e w2 ⟨rfl, hb2⟩))
    go_ret
    exact ⟨rfl, hb2⟩
  · have hA : atT 0 least T = T := by unfold atT; rw [if_neg hle]
    rw [hA]
    clear hA
    go_enter Tryd.func55, Tryd.ntmps55
    go_wp2_with fail
    refine (node_let _ _ _ _ _ _).mono ?_
    rintro e w1 ⟨⟨a, b, c, rfl⟩, hb1⟩
    have hc1 := (hb1.cell (by exact hg)).trans hcell
    have hW1 : Below W.heap.size W w1 := hw.trans (hb1.mono hw.size)
    have hs1 := hb1.size
    have hfd := field_kind 22 a b c w1
    go_wp2_with (first
      | (go_at_call 21; refine (unhide HT _ hW1).mono ?_; rintro e w2 ⟨rfl, hb2⟩))
    go_ret
    exact ⟨rfl, hb2⟩
set_option maxRecDepth 100000 in
set_option maxHeartbeats 1600000 in
theorem textAt_rep (s : ByteArray) (t0 t1 t2 : TypeId) (u0 u1 u2 : Value) (least : Int) (W : World) (hsh : ShapesIn W) (T : ByteArray) (hT : (T.size : Int) ≤ 24000) (h : TextSaid W (.iface 77 (.agg #[.string s, .iface t0 u0, .iface t1 u1, .iface t2 u2])) T) :
    TextAtSaid W (.iface 77 (.agg #[.string s, .iface t0 u0, .iface t1 u1, .iface t2 u2])) least (atT (levelN (23 : Nat)) least T) := by
  intro w hw
  have hsw := hsh.below hw (Nat.le_refl _)
  have hg := hsw.1
  have hcell := hsw.level 23 (by omega) (by omega)
  replace hcell : w.cell? ⟨0, 70, none⟩ = some (.int .i64 0) := hcell
  have hlv : levelN ((23 : Nat) : Int) = 0 := rfl
  rw [hlv]
  clear hlv
  have HT := hide h
  clear h hsh hsw
  by_cases hle : (0 : Int) < least
  · have hA : atT 0 least T = ⟨#[40]⟩ ++ T ++ ⟨#[41]⟩ := by unfold atT; rw [if_pos hle]
    rw [hA]
    clear hA
    go_enter Tryd.func55, Tryd.ntmps55
    go_wp2_with fail
    refine (node_rep _ _ _ _ _ _ _ _).mono ?_
    rintro e w1 ⟨⟨a, b, c, rfl⟩, hb1⟩
    have hc1 := (hb1.cell (by exact hg)).trans hcell
    have hW1 : Below W.heap.size W w1 := hw.trans (hb1.mono hw.size)
    have hs1 := hb1.size
    have hfd := field_kind 23 a b c w1
    go_wp2_with (first
      | (go_at_call 21; refine (unhide HT _ hW1).mono ?_; rintro e w2 ⟨rfl, hb2⟩))
    go_ret
    exact ⟨rfl, hb2⟩
  · have hA : atT 0 least T = T := by unfold atT; rw [if_neg hle]
    rw [hA]
    clear hA
    go_enter Tryd.func55, Tryd.ntmps55
    go_wp2_with fail
    refine (node_rep _ _ _ _ _ _ _ _).mono ?_
    rintro e w1 ⟨⟨a, b, c, rfl⟩, hb1⟩
    have hc1 := (hb1.cell (by exact hg)).trans hcell
    have hW1 : Below W.heap.size W w1 := hw.trans (hb1.mono hw.size)
    have hs1 := hb1.size
    have hfd := field_kind 23 a b c w1
    go_wp2_with (first
      | (go_at_call 21; refine (unhide HT _ hW1).mono ?_; rintro e w2 ⟨rfl, hb2⟩))
    go_ret
    exact ⟨rfl, hb2⟩

end Go.Proofs.YtdfddockgfeccaaDoor
