/-
  The program's reader of stamps takes a byte.
-/
import Derived.Test.YteonbigmggeneaaDoorStRdI
set_option linter.unusedVariables false
namespace Go.Proofs.YteonbigmggeneaaDoor
open Go.RowKit Go.Maps Go.Deep

theorem byOneRd (w : World) (c : UInt8) : ByRd (w.alloc (.cells #[.int .u8 (c.toNat : Int)] 5)) (.slice (some ⟨w.heap.size, 0, none⟩) 1 1) [c] :=
  ⟨some ⟨w.heap.size, 0, none⟩, 1, rfl, .inr ⟨w.heap.size, 0, rfl, by simp, fun i hi => by
    simp only [List.length_cons, List.length_nil] at hi
    obtain rfl : i = 0 := by omega
    exact (boxF_new w [.int .u8 (c.toNat : Int)] 5).1.at 0 _ rfl⟩, by simp⟩
set_option maxRecDepth 20000 in
set_option maxHeartbeats 3200000 in
theorem takeB_any (b B : Nat) (s : RdSt) (c : UInt8) (w : World) (hl : RdLen s 1000) (hE : ErrIn w) (h : RdAt b B w s) :
    Calls Tryd.prog 22 #[.pointer (some ⟨b, 0, none⟩), .int .u8 (c.toNat : Int)] w fun e w' => e = .returned (.tuple #[]) ∧ Hid (RdAt b B w' (takeSb s c)) ∧ Hid (Off b B w w') := by
  by_cases h32 : c = 32
  · subst h32
    have HE := hide (endMark_any b B s w hl hE h)
    rw [show takeSb s 32 = endSt s from rfl, show ((UInt8.toNat 32 : Nat) : Int) = 32 from rfl]
    clear hl hE h
    go_enter Tryd.func22, Tryd.ntmps22
    go_wp2_with fail
    refine (unhide HE).mono ?_
    rintro e w1 ⟨rfl, h1, h2⟩
    clear HE
    go_wp2_with fail
    first
    | (go_end0; exact ⟨rfl, h1, h2⟩)
    | (refine bodyPost_ret (results_none rfl _ _ _) rfl ?_; exact ⟨rfl, h1, h2⟩)
  · obtain ⟨ma, mn, mc, wa, wn, wc, hx⟩ := h
    have HX := hide hx
    have HL := hide hl
    obtain ⟨⟨c0, c1, c2, c3⟩, f0, f1, f2, f3⟩ := hx.box.four
    have hcv := conv_str hx.wrd.rd
    have hbw := hx.box.1.1
    clear hE hl
    by_cases h58 : c = 58
    · subst h58
      rw [show takeSb s 58 = ⟨s.marks, ⟨s.word.toArray⟩, []⟩ from rfl, show ((UInt8.toNat 58 : Nat) : Int) = 58 from rfl]
      have END := hide (show RdAt b B ((w.setCell ⟨b, 1, none⟩ (.string ⟨s.word.toArray⟩)).setCell ⟨b, 3, none⟩ (.slice none 0 0)) ⟨s.marks, ⟨s.word.toArray⟩, []⟩ from ⟨_, _, _, _, _, _, hx.colon⟩)
      have BEND := hide (((Off.refl b B w).set 1 (.string ⟨s.word.toArray⟩)).set 3 (.slice none 0 0))
      clear hx
      go_enter Tryd.func22, Tryd.ntmps22
      go_wp2_with fail
      first
      | (go_end0; exact ⟨rfl, END, BEND⟩)
      | (refine bodyPost_ret (results_none rfl _ _ _) rfl ?_; exact ⟨rfl, END, BEND⟩)
    · have q58 : ((c.toNat : Int) == 58) = false := by
        rw [beq_eq_false_iff_ne]
        intro e
        have h1 : c.toNat = (58 : UInt8).toNat := (show c.toNat = 58 by omega)
        exact h58 (UInt8.toNat_inj.1 h1)
      have q32 : ((c.toNat : Int) == 32) = false := by
        rw [beq_eq_false_iff_ne]
        intro e
        have h1 : c.toNat = (32 : UInt8).toNat := (show c.toNat = 32 by omega)
        exact h32 (UInt8.toNat_inj.1 h1)
      have HR := hide (show takeSb s c = ⟨s.marks, s.src, s.word ++ [c]⟩ by rw [takeSb, if_neg h58, if_neg h32])
      have A1 := hide ((Below.refl _ w).alloc (Nat.le_refl _) (.cells #[.int .u8 (c.toNat : Int)] 5))
      have X1 := hide ((unhide HX).up (unhide A1))
      have U1 := hide (byOneRd w c)
      have HL1 := hide (show s.word.length + [c].length ≤ 140737488355328 by have := (unhide HL).2; simp; omega)
      have HB1 := hide (show B ≤ (w.alloc (.cells #[.int .u8 (c.toNat : Int)] 5)).heap.size by have := hx.lt.2; simp; omega)
      have B1 := hide (show Off b B w (w.alloc (.cells #[.int .u8 (c.toNat : Int)] 5)) from Off.of_below (unhide A1) hx.lt.2)
      clear hx h58 h32 hcv HX
      generalize (c.toNat : Int) = cz at *
      go_enter Tryd.func22, Tryd.ntmps22
      go_wp2_with (first
        | (at_builtin; refine wpList_byAppend rfl _ _ rfl B (.slice wa wn wc) (.slice (some ⟨w.heap.size, 0, none⟩) 1 1) s.word [c] rfl rfl (unhide X1).wrd (unhide U1) (unhide HL1) (unhide HB1) ?_; intro a3 c3 w3 r3 gr3 o3; have K3 := hide ((unhide X1).word r3 gr3); have B3 := hide ((unhide B1).grown gr3 (unhide HB1) (fun y hy => (unhide X1).wrd.ge y hy)); obtain ⟨⟨-, -, -, d3⟩, -, -, -, k3⟩ := (unhide K3).2.four; clear r3 gr3 o3)
        | fail)
      have END := hide (show RdAt b B (w3.setCell ⟨b, 3, none⟩ (.slice a3 (s.word.length + [c].length) c3)) (takeSb s c) from by rw [unhide HR]; exact ⟨_, _, _, _, _, _, (unhide K3).1⟩)
      have BEND := hide ((unhide B3).set 3 (.slice a3 (s.word.length + [c].length) c3))
      first
      | (go_end0; exact ⟨rfl, END, BEND⟩)
      | (refine bodyPost_ret (results_none rfl _ _ _) rfl ?_; exact ⟨rfl, END, BEND⟩)
end Go.Proofs.YteonbigmggeneaaDoor
