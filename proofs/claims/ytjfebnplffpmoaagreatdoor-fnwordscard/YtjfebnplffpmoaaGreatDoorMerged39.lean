/-
  The program's reader: which kind of node the next word makes at a level. (Made by wip/mkrdrk.py.)
-/
/-
  The program's reader: the kind of the next word, walked.
-/
import Derived.Test.YtjfebnplffpmoaaGreatDoorMerged36
import Derived.Test.YtjfebnplffpmoaaGreatDoorRdrI
import Derived.Deep.MidRow
import Derived.Deep.RegionHeld3
set_option linter.unusedVariables false
namespace Go.Proofs.YtjfebnplffpmoaaGreatDoor
open Go.RowKit Go.Maps Go.Deep

/-- the reader's box, and the table of shapes apart from it -/
structure PrK (ws : List WordV) (sz : Nat) (w : World) (rb : Nat) (a : Option Addr) (c n : Nat) : Prop where
  pr : PrI ws sz w rb a c n
  sh : ShapesIn w
  ne : rb ≠ 1
theorem ShapesIn.turn {w w' : World} {S : List Nat} (h : ShapesIn w) (t : Turn S w w') (h1 : 1 ∉ S) : ShapesIn w' := by
  refine ⟨Nat.lt_of_lt_of_le h.1 t.size, fun k hk => ?_⟩
  obtain ⟨a, b, c⟩ := h.2 k hk
  exact ⟨(t.cell h.1 h1).trans a, (t.cell h.1 h1).trans b, (t.cell h.1 h1).trans c⟩
theorem PrK.turn {ws : List WordV} {sz : Nat} {w w' : World} {rb : Nat} {a : Option Addr} {c n : Nat} {S : List Nat} (h : PrK ws sz w rb a c n) (t : Turn S w w') (h1 : rb ∉ S) (h2 : ∀ g o, a = some ⟨g, o, none⟩ → g ∉ S) (h3 : 1 ∉ S) : PrK ws sz w' rb a c n := ⟨h.pr.turn t h1 h2, h.sh.turn t h3, h.ne⟩
theorem PrK.up {ws : List WordV} {sz : Nat} {w w' : World} {rb : Nat} {a : Option Addr} {c n : Nat} (h : PrK ws sz w rb a c n) (b : Below w.heap.size w w') : PrK ws sz w' rb a c n := h.turn (Turn.of_below (S := []) b) (by simp) (by simp) (by simp)
/-- a reading that turned the box alone -/
theorem PrK.next {ws : List WordV} {sz : Nat} {w w' : World} {rb : Nat} {a : Option Addr} {c n m : Nat} (h : PrK ws sz w rb a c n) (t : Turn [rb] w w') (p : PrI ws sz w' rb a c m) : PrK ws sz w' rb a c m := ⟨p, h.sh.turn t (by have := h.ne; simpa using this.symm), h.ne⟩
def shCells : List Value := shapesL.flatMap fun x => [.int .i64 x.1, .int .i64 x.2.1, .string x.2.2]
def shA : Array Value := shCells.toArray
theorem shRange {w : World} (h : ShapesIn w) : w.rangeAt 1 0 shCells := by
  intro j v hj
  have h72 : shCells.length = 72 := by decide
  have hj' := (List.getElem?_eq_some_iff.1 hj).1
  obtain ⟨q, r, e, hr⟩ : ∃ q r, j = q * 3 + r ∧ r < 3 := ⟨j / 3, j % 3, by omega, by omega⟩
  have hq : q < shapesL.length := by rw [shapes_len]; omega
  obtain ⟨c0, c1, c2⟩ := h.2 q hq
  have key : ∀ q (hq : q < shapesL.length), shCells[q * 3]? = some (.int .i64 shapesL[q].1) ∧ shCells[q * 3 + 1]? = some (.int .i64 shapesL[q].2.1) ∧ shCells[q * 3 + 2]? = some (.string shapesL[q].2.2) := by
    intro q hq
    match q, hq with
    | 0, _ => exact ⟨rfl, rfl, rfl⟩
    | 1, _ => exact ⟨rfl, rfl, rfl⟩
    | 2, _ => exact ⟨rfl, rfl, rfl⟩
    | 3, _ => exact ⟨rfl, rfl, rfl⟩
    | 4, _ => exact ⟨rfl, rfl, rfl⟩
    | 5, _ => exact ⟨rfl, rfl, rfl⟩
    | 6, _ => exact ⟨rfl, rfl, rfl⟩
    | 7, _ => exact ⟨rfl, rfl, rfl⟩
    | 8, _ => exact ⟨rfl, rfl, rfl⟩
    | 9, _ => exact ⟨rfl, rfl, rfl⟩
    | 10, _ => exact ⟨rfl, rfl, rfl⟩
    | 11, _ => exact ⟨rfl, rfl, rfl⟩
    | 12, _ => exact ⟨rfl, rfl, rfl⟩
    | 13, _ => exact ⟨rfl, rfl, rfl⟩
    | 14, _ => exact ⟨rfl, rfl, rfl⟩
    | 15, _ => exact ⟨rfl, rfl, rfl⟩
    | 16, _ => exact ⟨rfl, rfl, rfl⟩
    | 17, _ => exact ⟨rfl, rfl, rfl⟩
    | 18, _ => exact ⟨rfl, rfl, rfl⟩
    | 19, _ => exact ⟨rfl, rfl, rfl⟩
    | 20, _ => exact ⟨rfl, rfl, rfl⟩
    | 21, _ => exact ⟨rfl, rfl, rfl⟩
    | 22, _ => exact ⟨rfl, rfl, rfl⟩
    | 23, _ => exact ⟨rfl, rfl, rfl⟩
    | i + 24, h => exact absurd h (by rw [shapes_len]; omega)
  obtain ⟨e0, e1, e2⟩ := key q hq
  rw [Nat.zero_add]
  rcases (show r = 0 ∨ r = 1 ∨ r = 2 by omega) with rfl | rfl | rfl
  · rw [e, Nat.add_zero] at hj ⊢
    rw [e0] at hj; rw [c0]; exact hj
  · rw [e] at hj ⊢
    rw [e1] at hj; rw [c1]; exact hj
  · rw [e] at hj ⊢
    rw [e2] at hj; rw [c2]; exact hj
def shV (i : Nat) : Value := match shapesL[i]? with
  | some x => .agg #[.int .i64 x.1, .int .i64 x.2.1, .string x.2.2]
  | none => undef
theorem shIndex (w : World) (i : Nat) (h : i < shapesL.length) : (Instr.index 136 (.agg shA) (.int .i64 (i : Int))).run Tryz.prog w = .ok (shV i) w := by
  match i, h with
  | 0, _ => show (Instr.index 136 (.agg shA) (.int .i64 0)).run Tryz.prog w = .ok (shV 0) w; kernel_rfl
  | 1, _ => show (Instr.index 136 (.agg shA) (.int .i64 1)).run Tryz.prog w = .ok (shV 1) w; kernel_rfl
  | 2, _ => show (Instr.index 136 (.agg shA) (.int .i64 2)).run Tryz.prog w = .ok (shV 2) w; kernel_rfl
  | 3, _ => show (Instr.index 136 (.agg shA) (.int .i64 3)).run Tryz.prog w = .ok (shV 3) w; kernel_rfl
  | 4, _ => show (Instr.index 136 (.agg shA) (.int .i64 4)).run Tryz.prog w = .ok (shV 4) w; kernel_rfl
  | 5, _ => show (Instr.index 136 (.agg shA) (.int .i64 5)).run Tryz.prog w = .ok (shV 5) w; kernel_rfl
  | 6, _ => show (Instr.index 136 (.agg shA) (.int .i64 6)).run Tryz.prog w = .ok (shV 6) w; kernel_rfl
  | 7, _ => show (Instr.index 136 (.agg shA) (.int .i64 7)).run Tryz.prog w = .ok (shV 7) w; kernel_rfl
  | 8, _ => show (Instr.index 136 (.agg shA) (.int .i64 8)).run Tryz.prog w = .ok (shV 8) w; kernel_rfl
  | 9, _ => show (Instr.index 136 (.agg shA) (.int .i64 9)).run Tryz.prog w = .ok (shV 9) w; kernel_rfl
  | 10, _ => show (Instr.index 136 (.agg shA) (.int .i64 10)).run Tryz.prog w = .ok (shV 10) w; kernel_rfl
  | 11, _ => show (Instr.index 136 (.agg shA) (.int .i64 11)).run Tryz.prog w = .ok (shV 11) w; kernel_rfl
  | 12, _ => show (Instr.index 136 (.agg shA) (.int .i64 12)).run Tryz.prog w = .ok (shV 12) w; kernel_rfl
  | 13, _ => show (Instr.index 136 (.agg shA) (.int .i64 13)).run Tryz.prog w = .ok (shV 13) w; kernel_rfl
  | 14, _ => show (Instr.index 136 (.agg shA) (.int .i64 14)).run Tryz.prog w = .ok (shV 14) w; kernel_rfl
  | 15, _ => show (Instr.index 136 (.agg shA) (.int .i64 15)).run Tryz.prog w = .ok (shV 15) w; kernel_rfl
  | 16, _ => show (Instr.index 136 (.agg shA) (.int .i64 16)).run Tryz.prog w = .ok (shV 16) w; kernel_rfl
  | 17, _ => show (Instr.index 136 (.agg shA) (.int .i64 17)).run Tryz.prog w = .ok (shV 17) w; kernel_rfl
  | 18, _ => show (Instr.index 136 (.agg shA) (.int .i64 18)).run Tryz.prog w = .ok (shV 18) w; kernel_rfl
  | 19, _ => show (Instr.index 136 (.agg shA) (.int .i64 19)).run Tryz.prog w = .ok (shV 19) w; kernel_rfl
  | 20, _ => show (Instr.index 136 (.agg shA) (.int .i64 20)).run Tryz.prog w = .ok (shV 20) w; kernel_rfl
  | 21, _ => show (Instr.index 136 (.agg shA) (.int .i64 21)).run Tryz.prog w = .ok (shV 21) w; kernel_rfl
  | 22, _ => show (Instr.index 136 (.agg shA) (.int .i64 22)).run Tryz.prog w = .ok (shV 22) w; kernel_rfl
  | 23, _ => show (Instr.index 136 (.agg shA) (.int .i64 23)).run Tryz.prog w = .ok (shV 23) w; kernel_rfl
  | i + 24, h => exact absurd h (by rw [shapes_len]; omega)
theorem shLoad {w : World} (h : ShapesIn w) : (Instr.loadAt 136 (.pointer (some ⟨1, 0, none⟩))).run Tryz.prog w = .ok (.agg shA) w :=
  run_loadAt_mid w 1 0 136 shCells _ (shRange h) (show Tryz.prog.underlying 136 = some (.array 24 135) by kernel_rfl) rfl (by kernel_rfl)
end Go.Proofs.YtjfebnplffpmoaaGreatDoor

set_option linter.unusedVariables false
namespace Go.Proofs.YtjfebnplffpmoaaGreatDoor
open Go.RowKit Go.Maps Go.Deep

def RetKa (ws : List WordV) (sz rb : Nat) (a : Option Addr) (c n lv : Nat) (w : World) (e : Ending) (w' : World) : Prop :=
  e = .returned (.int .i64 ((kindG lv (txt ws n) : Nat) : Int)) ∧ Hid (PrK ws sz w' rb a c (if kindG lv (txt ws n) = 0 then n else n + 1)) ∧ Hid (Turn [rb] w w')
theorem shV_is (i : Nat) (h : i < shapesL.length) : shV i = .agg #[.int .i64 shapesL[i].1, .int .i64 shapesL[i].2.1, .string shapesL[i].2.2] := by
  unfold shV
  rw [List.getElem?_eq_getElem h]
set_option maxHeartbeats 6400000 in
set_option maxRecDepth 20000 in
theorem kindAt_any (ws : List WordV) (hw : ∀ x ∈ ws, WordIs x) (sz : Nat) (w : World) (rb : Nat) (a : Option Addr) (c n lv : Nat) (hlv : lv ≤ 7) (h : PrK ws sz w rb a c n) :
    Calls Tryz.prog 66 #[.pointer (some ⟨rb, 0, none⟩), .int .i64 (lv : Int)] w fun e w' => RetKa ws sz rb a c n lv w e w' := by
  have HP := hide h
  obtain ⟨⟨c0, c1, c2⟩, -⟩ := h.pr.box.triR
  have hlen := h.pr.len
  have hle := h.pr.le
  by_cases hlt : n < ws.length
  · have LD := hide (fun X (b : Below w.heap.size w X) => shLoad ((unhide HP).up b).sh)
    obtain ⟨g, o, rfl, hg, k0, k1, k2⟩ := h.pr.cell hlt
    have hlt2 : (n : Int) < (ws.length : Int) := by omega
    have hne4 : ((n : Int) == (ws.length : Int)) = false := by rw [beq_eq_false_iff_ne]; omega
    have hz0 : (0 : Int) ≤ (n : Int) := by omega
    have hw1 : IntKind.i64.wrap ((n : Int) + 1) = (n : Int) + 1 := by rw [IntKind.wrap_i64]; omega
    have HN := hide (fun (h : ∀ i (h : i < shapesL.length), ¬ (shapesL[i].2.1 = (lv : Int) ∧ shapesL[i].2.2 = ws[n].a1)) => word_none hw hlt h)
    have HH := hide (fun (i : Nat) (h : i < shapesL.length) (hl : shapesL[i].2.1 = (lv : Int)) (hs : shapesL[i].2.2 = ws[n].a1) => word_hit hw hlt h hl hs)
    have HLT := hide hlt
    generalize ws[n].a1 = tx at *
    clear h k0 k2
    go_enter Tryz.func66, Tryz.ntmps66
    go_wp2_with fail
    go_region
    all_goals
      go_wp2_with fail
      go_region
      all_goals
        have BD := hide (((Below.refl w.heap.size w).drew).drew)
        go_wp2_with (first
          | (refine wpList_load_mid rfl 136 _ rfl 1 0 rfl shCells _ (shRange ((unhide HP).up (unhide BD)).sh) (show Tryz.prog.underlying 136 = some (.array 24 135) by kernel_rfl) rfl (by kernel_rfl) ?_; rw [← show shA = shCells.toArray from rfl])
          | fail)
        generalize w.drew.drew = W at *
        go_loopw [30] (fun i wr => ∃ k : Nat, k ≤ 24 ∧ i = .int .i64 (k : Int) ∧ Hid (Below w.heap.size w wr) ∧ Hid (∀ j (h : j < shapesL.length), j < k → ¬ (shapesL[j].2.1 = (lv : Int) ∧ shapesL[j].2.2 = tx))) (fun i _ => 24 - (intOf i).toNat)
        case atStart => exact ⟨0, by omega, rfl, BD, hide (fun j h hj => by omega)⟩
        case round =>
          obtain ⟨k, hk, rfl, BR, HB⟩ := hrel
          by_cases hk24 : (k : Int) < 24
          · have hks : k < shapesL.length := by rw [shapes_len]; omega
            have hx : ∀ w, (Instr.index 136 (.agg shA) (.int .i64 (k : Int))).run Tryz.prog w = .ok (.agg #[.int .i64 shapesL[k].1, .int .i64 shapesL[k].2.1, .string shapesL[k].2.2]) w := fun w => by rw [shIndex w k hks, shV_is k hks]
            have HHk := hide (unhide HH k hks)
            have HBk := hide (fun (hn : ¬ (shapesL[k].2.1 = (lv : Int) ∧ shapesL[k].2.2 = tx)) => show ∀ j (h : j < shapesL.length), j < k + 1 → ¬ (shapesL[j].2.1 = (lv : Int) ∧ shapesL[j].2.2 = tx) from fun j h hj => by
              by_cases e : j = k
              · subst e; exact hn
              · exact unhide HB j h (by omega))
            generalize shapesL[k].1 = sk at *
            generalize shapesL[k].2.1 = sl at *
            generalize shapesL[k].2.2 = sw at *
            clear hks HB HH HN
            have BA := (unhide BR).alloc (unhide BR).size (.cells #[.int .i64 sk, .int .i64 sl, .string sw] 135)
            have PA := hide ((unhide HP).up BA)
            have BAH := hide BA
            clear BA
            by_cases h1 : sl = (lv : Int)
            · have q1 : (sl == (lv : Int)) = true := by rw [beq_iff_eq]; exact h1
              by_cases h2 : sw = tx
              · have q2 : (sw.toList == tx.toList) = true := by rw [str_sameR, decide_eq_true_iff]; exact h2
                have HK := hide (unhide HHk h1 h2)
                have HF := hide ((unhide PA).pr.step hlt)
                obtain ⟨⟨b0, b1, b2⟩, f0, f1, f2⟩ := (unhide PA).pr.box.triR
                clear h1 h2 HBk HHk
                go_wp2_with fail
                go_ret
                refine ⟨by rw [(unhide HK).1]; rfl, ?_, hide ((Turn.of_below (unhide BAH)).trans (unhide HF).2)⟩
                rw [if_neg (by rw [(unhide HK).1]; exact (unhide HK).2)]
                exact hide ((unhide PA).next (unhide HF).2 (unhide HF).1)
              · have q2 : (sw.toList == tx.toList) = false := by rw [str_sameR, decide_eq_false_iff_not]; exact h2
                have HB2 := hide (unhide HBk (fun h => h2 h.2))
                clear h1 h2 HBk HHk
                go_wp2_with fail
                go_roundw
                case rel => exact ⟨k + 1, by omega, by go_num, BAH, HB2⟩
                case measure => simp [intOf]; omega
            · have q1 : (sl == (lv : Int)) = false := by rw [beq_eq_false_iff_ne]; exact h1
              have HB2 := hide (unhide HBk (fun h => h1 h.1))
              clear h1 HBk HHk
              go_wp2_with fail
              go_roundw
              case rel => exact ⟨k + 1, by omega, by go_num, BAH, HB2⟩
              case measure => simp [intOf]; omega
          · have e : k = 24 := by omega
            subst e
            have HZ := hide (unhide HN (fun j h => unhide HB j h (by rw [shapes_len] at h; exact h)))
            clear HB HN HH
            go_wp2_with fail
            go_ret
            refine ⟨by rw [unhide HZ]; rfl, ?_, hide (Turn.of_below (unhide BR))⟩
            rw [if_pos (unhide HZ)]
            exact hide ((unhide HP).up (unhide BR))
  · have e : n = ws.length := by omega
    have q1 : ((n : Int) == (ws.length : Int)) = true := by rw [beq_iff_eq]; omega
    have HZ := hide (show kindG lv (txt ws n) = 0 from by
      have : txt ws n = ⟨#[]⟩ := by unfold txt; rw [List.getElem?_eq_none (by omega)]
      rw [this, kindG_empty])
    have BD := hide ((Below.refl w.heap.size w).drew)
    clear h hlt e
    generalize ws.length = wl at *
    go_enter Tryz.func66, Tryz.ntmps66
    go_wp2_with fail
    go_region
    all_goals
      go_wp2_with fail
      go_ret
      refine ⟨by rw [unhide HZ]; rfl, ?_, hide (Turn.of_below (unhide BD))⟩
      rw [if_pos (unhide HZ)]
      exact hide ((unhide HP).up (unhide BD))
end Go.Proofs.YtjfebnplffpmoaaGreatDoor
