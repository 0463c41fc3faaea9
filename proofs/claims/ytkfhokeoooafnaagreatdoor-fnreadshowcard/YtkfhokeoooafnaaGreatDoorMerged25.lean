/-
  Cutting a text into words: the whole of the specification.
-/
/-
  The text of a tree is read as the tree. Mathematics alone.
-/
/-
  Both sides' text of a tree, told by one relation on the nodes; and it is read as the tree.
-/
import Derived.Test.YtkfhokeoooafnaaGreatDoorMerged24
import Derived.Test.YtkfhokeoooafnaaGreatDoorMerged22
import Derived.Test.YtkfhokeoooafnaaGreatDoorSpecShowTwo
set_option linter.unusedVariables false
namespace Go.Proofs.YtkfhokeoooafnaaGreatDoor
open Go.RowKit Go.Maps Go.Deep

def RetBw (t : ByteArray) (w : World) (e : Ending) (w' : World) : Prop := ∃ oa on oc, e = .returned (.tuple #[.slice oa on oc, .agg #[.int .i64 (bwCode t), .int .i64 (bwAt t)]]) ∧ Hid (WdRow w.heap.size w' (.slice oa on oc) (bwWords t)) ∧ Below w.heap.size w w'
theorem BoxF.duoW {w : World} {g : Nat} {a b : Value} (h : BoxF w g [a, b]) : (w.cell? ⟨g, 0, none⟩ = some a ∧ w.cell? ⟨g, 1, none⟩ = some b) ∧ (w.frozen? ⟨g, 0, none⟩ = false ∧ w.frozen? ⟨g, 1, none⟩ = false) :=
  ⟨⟨h.1.at 0 _ rfl, h.1.at 1 _ rfl⟩, h.2 0 (by simp), h.2 1 (by simp)⟩
theorem bw_ok {t : ByteArray} {ws : List WordV} (h : ¬ 1500 < t.size) (hl : lexR t 0 = .ok ws) : bwWords t = ws ∧ bwCode t = 0 ∧ bwAt t = 0 := by
  unfold bwWords bwCode bwAt
  simp only [if_neg h, hl, and_self]
theorem bw_bad {t : ByteArray} {c a : Int} (h : ¬ 1500 < t.size) (hl : lexR t 0 = .bad c a) : bwWords t = [] ∧ bwCode t = c ∧ bwAt t = a := by
  unfold bwWords bwCode bwAt
  simp only [if_neg h, hl, and_self]
theorem bw_long {t : ByteArray} (h : 1500 < t.size) : bwWords t = [] ∧ bwCode t = 1 ∧ bwAt t = 0 := by
  unfold bwWords bwCode bwAt
  simp only [if_pos h, and_self]
theorem lex_blank {s : ByteArray} {k : Nat} (hk : k < s.size) (h : byteAt s k = 32) : lexR s k = lexR s (k + 1) := by
  conv => lhs; rw [lexR, dif_pos hk, if_pos h]
theorem lex_word {s : ByteArray} {k n : Nat} {x : WordV} (hk : k < s.size) (h : byteAt s k ≠ 32) (hw : wordAt s k = .word x n) : lexR s k = (lexR s n).cons x := by
  have := (word_good hk hw).1
  conv => lhs; rw [lexR, dif_pos hk, if_neg h, hw]
  simp only
  rw [Nat.max_eq_left (by omega)]
theorem lex_wrong {s : ByteArray} {k : Nat} {c : Int} (hk : k < s.size) (h : byteAt s k ≠ 32) (hw : wordAt s k = .bad c) : lexR s k = .bad c k := by
  rw [lexR, dif_pos hk, if_neg h, hw]
set_option maxHeartbeats 6400000 in
set_option maxRecDepth 20000 in
theorem specWords_any (t : ByteArray) (w : World) (hs : t.size ≤ 1048576) :
    Calls Tryz.prog 25 #[.string t] w fun e w' => RetBw t w e w' := by
  have A0 := hide ((Below.refl _ w).alloc (Nat.le_refl _) (.cells #[.int .i64 0, .int .i64 0] 27))
  have X0 := hide (boxF_new w [.int .i64 0, .int .i64 0] 27)
  simp only [List.toArray] at X0
  have HNONE := hide (fun (c a : Int) (h : bwWords t = [] ∧ bwCode t = c ∧ bwAt t = a) (W : World) (bW : Below w.heap.size w W) => show RetBw t w (.returned (.tuple #[.slice none 0 0, .agg #[.int .i64 c, .int .i64 a]])) W from ⟨none, 0, 0, by rw [h.2.1, h.2.2], hide (by rw [h.1]; exact WdRow.nil _ _), bW⟩)
  by_cases hbig : 1500 < t.size
  · have hb2 : (1500 : Int) < (t.size : Int) := by omega
    have HL := hide (unhide HNONE 1 0 (bw_long hbig))
    clear hbig
    go_enter Tryz.func25, Tryz.ntmps25
    go_wp2_with fail
    refine bodyPost_ret (v := .tuple #[.slice none 0 0, .agg #[.int .i64 1, .int .i64 0]]) (by simp [results, Tryz.results25, go_sem]) rfl ?_
    exact unhide HL _ ((Below.refl _ w).alloc (Nat.le_refl _) _)
  have hb2 : ¬ (1500 : Int) < (t.size : Int) := by omega
  have hw0 : w.heap.size < (w.alloc (.cells #[.int .i64 0, .int .i64 0] 27)).heap.size := (unhide X0).1.1
  go_enter Tryz.func25, Tryz.ntmps25
  go_wp2_with fail
  generalize w.alloc (.cells #[.int .i64 0, .int .i64 0] 27) = W at *
  go_loopw [4, 5] (fun ov av wr => ∃ (k : Nat) (ws : List WordV) (oa : Option Addr) (on oc : Nat), k ≤ t.size ∧ av = .int .i64 (k : Int) ∧ ov = .slice oa on oc ∧ Hid (lexR t 0 = (lexR t k).pre ws) ∧ Hid (ws.length ≤ k) ∧ Hid (WdRow W.heap.size wr (.slice oa on oc) ws) ∧ Hid (Below W.heap.size W wr)) (fun _ av _ => t.size - (intOf av).toNat)
  case atStart => exact ⟨0, [], none, 0, 0, Nat.zero_le _, rfl, rfl, hide (LRes.pre_nil _).symm, hide (Nat.le_refl _), hide (WdRow.nil _ _), hide (Below.refl _ _)⟩
  case round =>
    obtain ⟨k, ws, oa, on, oc, hk, rfl, rfl, HL, HN, HR, HB⟩ := hrel
    have Xr := hide ((unhide X0).up (unhide HB))
    have Br := hide ((unhide A0).trans ((unhide HB).mono (unhide A0).size))
    by_cases hlt : k < t.size
    · have hbk := hide (byteAt_eq t k hlt)
      by_cases h32 : ((t[k]'hlt).toNat : Int) = 32
      · have hq : (((t[k]'hlt).toNat : Int) == 32) = true := by rw [h32]; rfl
        have HL2 := hide (show lexR t 0 = (lexR t (k + 1)).pre ws from by rw [unhide HL, lex_blank hlt (by rw [unhide hbk]; exact h32)])
        have HN2 := hide (show ws.length ≤ k + 1 from by have := unhide HN; omega)
        clear h32 HL HN Xr Br
        go_wp2_with fail
        go_roundw
        case rel => exact ⟨k + 1, ws, oa, on, oc, by omega, by go_num, rfl, HL2, HN2, HR, HB⟩
        case measure => simp [intOf]; omega
      · have hq : (((t[k]'hlt).toNat : Int) == 32) = false := by rw [beq_eq_false_iff_ne]; exact h32
        have HNB := hide (show byteAt t k ≠ 32 from by rw [unhide hbk]; exact h32)
        have HW := hide (fun (W : World) => l1Word_any t k W (by omega) hlt)
        clear h32
        cases hw : wordAt t k with
        | bad c =>
          have hc := word_bad hw
          have HEND := hide (unhide HNONE c k (bw_bad hbig (by rw [unhide HL, lex_wrong hlt (unhide HNB) hw]; rfl)))
          have hc0 : (c == 0) = false := by rw [beq_eq_false_iff_ne]; omega
          rw [hw] at HW
          clear hw hc HL HN HR HNB
          go_wp2_with fail
          refine (unhide HW _).mono ?_
          rintro e w2 ⟨h2, b2⟩
          have h2' : e = .returned (.tuple #[.agg #[.int .i64 0, .string ⟨#[]⟩, .int .i64 0], .int .i64 0, .int .i64 c]) := h2
          subst h2'
          have A2 := hide ((unhide Br).trans (b2.mono (unhide Br).size))
          have X2 := hide ((unhide Xr).up b2)
          have A3 := hide ((unhide A2).alloc (unhide A2).size (.cells #[.int .i64 0, .string ⟨#[]⟩, .int .i64 0] 62))
          have X3 := hide ((unhide X2).up ((Below.refl _ w2).alloc (Nat.le_refl _) (.cells #[.int .i64 0, .string ⟨#[]⟩, .int .i64 0] 62)))
          clear b2 HW A2 X2 Br Xr h2
          obtain ⟨⟨x0, x1⟩, f0, f1⟩ := (unhide X3).duoW
          go_wp2_with fail
          refine bodyPost_ret (v := .tuple #[.slice none 0 0, .agg #[.int .i64 c, .int .i64 (k : Int)]]) (by simp [results, Tryz.results25, go_sem, x0, x1]) rfl ?_
          refine unhide HEND _ ?_
          (iterate 2 (refine Below.setCell ?_ (by exact Nat.le_refl _) _))
          exact unhide A3
        | word x n =>
          have hg := word_good hlt hw
          have HL2 := hide (show lexR t 0 = (lexR t n).pre (ws ++ [x]) from by rw [unhide HL, lex_word hlt (unhide HNB) hw, LRes.pre_cons])
          rw [hw] at HW
          have hkn := hg.1
          have hnt := hg.2.1
          have HN2 := hide (show (ws ++ [x]).length ≤ n from by have := unhide HN; simp; omega)
          have HLL := hide (show ws.length ≤ 1000000 from by have := unhide HN; omega)
          clear hw hg HL HN HNB Xr
          go_wp2_with fail
          refine (unhide HW _).mono ?_
          rintro e w2 ⟨h2, b2⟩
          have h2' : e = .returned (.tuple #[.agg #[.int .i64 x.a0, .string x.a1, .int .i64 x.a2], .int .i64 (n : Int), .int .i64 0]) := h2
          subst h2'
          have B2 := hide ((unhide HB).trans (b2.mono (unhide HB).size))
          have R2 := hide ((unhide HR).up b2)
          have B3 := hide ((unhide B2).alloc (unhide B2).size (.cells #[.int .i64 x.a0, .string x.a1, .int .i64 x.a2] 62))
          have bA := (Below.refl _ w2).alloc (Nat.le_refl _) (.cells #[.int .i64 x.a0, .string x.a1, .int .i64 x.a2] 62)
          have R3 := hide ((unhide R2).up bA)
          have bB := (Below.refl _ (w2.alloc (.cells #[.int .i64 x.a0, .string x.a1, .int .i64 x.a2] 62))).alloc (Nat.le_refl _) (.cells #[.int .i64 x.a0, .string x.a1, .int .i64 x.a2] 62)
          have R4 := hide ((unhide R3).up bB)
          have B4 := hide ((unhide B3).trans (bB.mono (unhide B3).size))
          have N4 := hide (boxF_new (w2.alloc (.cells #[.int .i64 x.a0, .string x.a1, .int .i64 x.a2] 62)) [.int .i64 x.a0, .string x.a1, .int .i64 x.a2] 62).triW.1
          have HQ := hide (show (w2.alloc (.cells #[.int .i64 x.a0, .string x.a1, .int .i64 x.a2] 62)).heap.size = w2.heap.size + 1 from by simp)
          rw [unhide HQ] at N4
          clear b2 HW B2 R2 R3 B3 h2 bA bB HR
          go_wp2_with (first
            | (at_builtin; refine wpList_wdAppend rfl _ _ rfl W.heap.size (.slice oa on oc) ws x (w2.heap.size + 1) rfl rfl (unhide R4) (unhide N4).1 (unhide N4).2.1 (unhide N4).2.2 (unhide HLL) (unhide B4).size ?_; intro g5 n5 c5 w5 r5 gr5 hor; have R5 := hide r5; have B5 := hide (Below.grown (unhide B4) gr5 (unhide B4).size (fun y hy => (unhide R4).ge y hy)); clear r5 gr5 hor)
            | fail)
          go_roundw
          case rel => exact ⟨n, _, _, n5, c5, hnt, rfl, rfl, HL2, HN2, R5, B5⟩
          case measure => simp [intOf]; omega
    · obtain rfl : k = t.size := by omega
      have HE := hide (bw_ok hbig (show lexR t 0 = .ok ws from by rw [unhide HL, lex_end t t.size (by omega)]; simp [LRes.pre]))
      have HEND := hide (fun (V : World) (tV : Turn [w.heap.size] wr V) => show RetBw t w (.returned (.tuple #[.slice oa on oc, .agg #[.int .i64 0, .int .i64 0]])) V from ⟨oa, on, oc, by rw [(unhide HE).2.1, (unhide HE).2.2], hide (by
        rw [(unhide HE).1]
        exact ((unhide HR).keep (fun y hy => tV.block y ((unhide HR).lt y hy) (by have := (unhide HR).ge y hy; simp; omega))).mono (by omega)), (unhide Br).trans (tV.below (unhide Br).size (by simp))⟩)
      obtain ⟨⟨x0, x1⟩, f0, f1⟩ := (unhide Xr).duoW
      clear HE HR HL HN HB Br Xr HNONE
      go_wp2_with fail
      refine bodyPost_ret (v := .tuple #[.slice oa on oc, .agg #[.int .i64 0, .int .i64 0]]) (by simp [results, Tryz.results25, go_sem, x0, x1]) rfl ?_
      refine unhide HEND _ ?_
      (iterate 2 (refine Turn.setCell ?_ (by simp) _ _))
      exact Turn.refl _ _
end Go.Proofs.YtkfhokeoooafnaaGreatDoor

set_option linter.unusedVariables false
namespace Go.Proofs.YtkfhokeoooafnaaGreatDoor
open Go.RowKit Go.Maps Go.Deep

def AllT : BT NodeV → Prop
  | .nil => True
  | .node _ _ x l r => LexP Stop (bl (bareT x l)) (bareK x l) ∧ AllT r
def NodeTx (x : NodeV) : Prop := (x.kind = 2 ∨ x.kind = 22 ∨ x.kind = 23 → nameB x.name = true) ∧ x.num ≤ 999999999999999999
theorem k_not : LexP Stop [110, 111, 116] [tk kNot] := p_key 110 [111, 116] (by decide) (by decide) (by decide) (by decide)
theorem k_abs : LexP Stop [97, 98, 115] [tk kAbs] := p_key 97 [98, 115] (by decide) (by decide) (by decide) (by decide)
theorem k_min : LexP Stop [109, 105, 110] [tk kMin] := p_key 109 [105, 110] (by decide) (by decide) (by decide) (by decide)
theorem k_max : LexP Stop [109, 97, 120] [tk kMax] := p_key 109 [97, 120] (by decide) (by decide) (by decide) (by decide)
theorem k_let : LexP Stop [108, 101, 116] [tk kLet] := p_key 108 [101, 116] (by decide) (by decide) (by decide) (by decide)
theorem k_in : LexP Stop [105, 110] [tk kIn] := p_key 105 [110] (by decide) (by decide) (by decide) (by decide)
theorem k_if : LexP Stop [105, 102] [tk kIf] := p_key 105 [102] (by decide) (by decide) (by decide) (by decide)
theorem k_then : LexP Stop [116, 104, 101, 110] [tk kThen] := p_key 116 [104, 101, 110] (by decide) (by decide) (by decide) (by decide)
theorem k_else : LexP Stop [101, 108, 115, 101] [tk kElse] := p_key 101 [108, 115, 101] (by decide) (by decide) (by decide) (by decide)
theorem k_rep : LexP Stop [114, 101, 112] [tk kRep] := p_key 114 [101, 112] (by decide) (by decide) (by decide) (by decide)
theorem k_as : LexP Stop [97, 115] [tk kAs] := p_key 97 [115] (by decide) (by decide) (by decide) (by decide)
theorem k_from : LexP Stop [102, 114, 111, 109] [tk kFrom] := p_key 102 [114, 111, 109] (by decide) (by decide) (by decide) (by decide)
theorem k_by : LexP Stop [98, 121] [tk kBy] := p_key 98 [121] (by decide) (by decide) (by decide) (by decide)
theorem s_eq : LexP Blank [61] [sg sEq] := p_oneB 61 (by decide) (by decide) (by decide) (by decide)
/-- a blank, and more -/
theorem LexP.sp {c : List UInt8 → Prop} {m : List UInt8} {us : List Tok} (g : LexP c m us) : LexP c ([32] ++ m) us := p_blank.seq g (any_of _)
theorem LexP.on {c : List UInt8 → Prop} {l m : List UInt8} {ts us : List Tok} (h : LexP Stop l ts) (g : LexP c m us) : LexP c (l ++ ([32] ++ m)) (ts ++ us) := h.seq g.sp (fun r _ => stop_blank _)
theorem p_shutS : LexP Stop [41] [sg sShut] := p_shut.weak (fun _ _ => trivial)
theorem stop_open (m : List UInt8) : ∀ r, Stop r → Stop (([40] ++ m) ++ r) := fun r _ => stop_cons (by decide) (by decide)
theorem stop_comma (m : List UInt8) : ∀ r, Stop r → Stop (([44] ++ m) ++ r) := fun r _ => stop_cons (by decide) (by decide)
theorem stop_shut : ∀ r, Stop r → Stop ([41] ++ r) := fun r _ => stop_cons (by decide) (by decide)
theorem t_pair {key s t : List UInt8} {kt : Tok} {ts us : List Tok} (hk : LexP Stop key [kt]) (hs : LexP Stop s ts) (ht : LexP Stop t us) : LexP Stop (key ++ ([40] ++ (s ++ ([44] ++ ([32] ++ (t ++ [41])))))) (kt :: sg sOpen :: (ts ++ sg sComma :: (us ++ [sg sShut]))) :=
  hk.seq (p_open.seq (hs.seq (p_comma.seq (LexP.sp (ht.seq p_shutS stop_shut)) (any_of _)) (stop_comma _)) (any_of _)) (stop_open _)
theorem t_node (x : NodeV) (l : BT NodeV) (hx : NodeFit x) (ht : NodeTx x) (hc : x.kids = cnt l) (hl : AllT l) : LexP Stop (bl (bareT x l)) (bareK x l) := by
  obtain ⟨k, m, s, c⟩ := x
  obtain ⟨⟨h1, h2, h3⟩, hk1, hk2, hm⟩ := hx
  obtain ⟨hnm, hmx⟩ := ht
  simp only at h1 h2 h3 hk1 hk2 hc hm hnm hmx
  have ha : (cnt l : Int) = arity k := by rw [← hc]; exact h3
  by_cases c0 : k = 1 ∨ k = 2
  · have e0 : arity k = 0 := by unfold arity; rw [if_pos c0]
    have el := cnt_0 (show cnt l = 0 by omega)
    subst el
    rcases c0 with rfl | rfl
    · exact p_num hm hmx
    · exact p_name (hnm (.inl rfl))
  by_cases c1 : k = 3 ∨ k = 4 ∨ k = 20
  · have e0 : arity k = 1 := by unfold arity; rw [if_neg c0, if_pos c1]
    obtain ⟨b, o, y, ml, r, rfl, hr⟩ := cnt_s (n := 0) (show cnt l = 0 + 1 by omega)
    obtain rfl := cnt_0 hr
    have A := hl.1
    rcases c1 with rfl | rfl | rfl
    · have e : bl (bareT ⟨3, m, s, c⟩ (.node b o y ml .nil)) = [45] ++ bl (wrapT 6 y (bareT y ml)) := bl_app _ _
      rw [e]
      exact p_minus.seq (p_wrap A) (any_of _)
    · have e : bl (bareT ⟨4, m, s, c⟩ (.node b o y ml .nil)) = [110, 111, 116] ++ ([32] ++ bl (wrapT 6 y (bareT y ml))) := bl_app _ _
      rw [e]
      exact k_not.on (p_wrap A)
    · have e : bl (bareT ⟨20, m, s, c⟩ (.node b o y ml .nil)) = [97, 98, 115] ++ ([40] ++ (bl (bareT y ml) ++ [41])) := by
        show bl ((⟨#[97, 98, 115, 40]⟩ ++ bareT y ml) ++ ⟨#[41]⟩) = _
        rw [bl_app, bl_app, List.append_assoc]
        rfl
      rw [e]
      exact k_abs.seq (p_open.seq (A.seq p_shutS stop_shut) (any_of _)) (stop_open _)
  by_cases c2 : (5 ≤ k ∧ k ≤ 19) ∨ k = 22
  · have e0 : arity k = 2 := by
      unfold arity
      rw [if_neg c0, if_neg c1]
      rcases c2 with h | h
      · rw [if_pos h]
      · rw [if_neg (by omega), if_pos h]
    obtain ⟨b, o, y, ml, r, rfl, hr⟩ := cnt_s (n := 1) (show cnt l = 1 + 1 by omega)
    obtain ⟨b', o', z, nl, r', rfl, hr'⟩ := cnt_s (n := 0) hr
    obtain rfl := cnt_0 hr'
    have A := hl.1
    have B := hl.2.1
    by_cases k22 : k = 22
    · subst k22
      have e : bl (bareT ⟨22, m, s, c⟩ (.node b o y ml (.node b' o' z nl .nil))) = [108, 101, 116] ++ ([32] ++ (bl s ++ ([32] ++ ([61] ++ ([32] ++ (bl (bareT y ml) ++ ([32] ++ ([105, 110] ++ ([32] ++ bl (bareT z nl)))))))))) := by
        show bl (((((⟨#[108, 101, 116, 32]⟩ ++ s) ++ ⟨#[32, 61, 32]⟩) ++ bareT y ml) ++ ⟨#[32, 105, 110, 32]⟩) ++ bareT z nl) = _
        rw [bl_app, bl_app, bl_app, bl_app, bl_app]
        simp only [List.append_assoc]
        rfl
      rw [e]
      exact k_let.on ((p_name (hnm (.inr (.inl rfl)))).on (s_eq.seq (LexP.sp (A.on (k_in.on B))) (fun r _ => ⟨_, rfl⟩)))
    by_cases k18 : k = 18
    · subst k18
      have e : bl (bareT ⟨18, m, s, c⟩ (.node b o y ml (.node b' o' z nl .nil))) = [109, 105, 110] ++ ([40] ++ (bl (bareT y ml) ++ ([44] ++ ([32] ++ (bl (bareT z nl) ++ [41]))))) := by
        show bl ((((⟨#[109, 105, 110, 40]⟩ ++ bareT y ml) ++ ⟨#[44, 32]⟩) ++ bareT z nl) ++ ⟨#[41]⟩) = _
        rw [bl_app, bl_app, bl_app, bl_app]
        simp only [List.append_assoc]
        rfl
      rw [e]
      exact t_pair k_min A B
    by_cases k19 : k = 19
    · subst k19
      have e : bl (bareT ⟨19, m, s, c⟩ (.node b o y ml (.node b' o' z nl .nil))) = [109, 97, 120] ++ ([40] ++ (bl (bareT y ml) ++ ([44] ++ ([32] ++ (bl (bareT z nl) ++ [41]))))) := by
        show bl ((((⟨#[109, 97, 120, 40]⟩ ++ bareT y ml) ++ ⟨#[44, 32]⟩) ++ bareT z nl) ++ ⟨#[41]⟩) = _
        rw [bl_app, bl_app, bl_app, bl_app]
        simp only [List.append_assoc]
        rfl
      rw [e]
      exact t_pair k_max A B
    have e : bareK ⟨k, m, s, c⟩ (.node b o y ml (.node b' o' z nl .nil)) = wrapK (firstN k) y (bareK y ml) ++ signK k :: wrapK (levelN k + 1) z (bareK z nl) := by
      show (if k = 18 then _ else if k = 19 then _ else if k = 22 then _ else _) = _
      rw [if_neg k18, if_neg k19, if_neg k22]
      rfl
    have e2 : bareT ⟨k, m, s, c⟩ (.node b o y ml (.node b' o' z nl .nil)) = (((wrapT (firstN k) y (bareT y ml) ++ ⟨#[32]⟩) ++ signN k) ++ ⟨#[32]⟩) ++ wrapT (levelN k + 1) z (bareT z nl) := by
      show (if k = 18 then _ else if k = 19 then _ else if k = 22 then _ else _) = _
      rw [if_neg k18, if_neg k19, if_neg k22]
      rfl
    rw [e, e2, bl_app, bl_app, bl_app, bl_app]
    simp only [List.append_assoc]
    exact LexP.on (p_wrap A) ((p_signK (kd := k) (by omega)).seq (LexP.sp (p_wrap B)) (fun r _ => ⟨_, rfl⟩))
  · have c3 : k = 21 ∨ k = 23 := by omega
    have e0 : arity k = 3 := by rcases c3 with rfl | rfl <;> rfl
    obtain ⟨b, o, y, ml, r, rfl, hr⟩ := cnt_s (n := 2) (show cnt l = 2 + 1 by omega)
    obtain ⟨b', o', z, nl, r', rfl, hr'⟩ := cnt_s (n := 1) hr
    obtain ⟨b2, o2, u, ul, r2, rfl, hr2⟩ := cnt_s (n := 0) hr'
    obtain rfl := cnt_0 hr2
    have A := hl.1
    have B := hl.2.1
    have C := hl.2.2.1
    rcases c3 with rfl | rfl
    · have e : bl (bareT ⟨21, m, s, c⟩ (.node b o y ml (.node b' o' z nl (.node b2 o2 u ul .nil)))) = [105, 102] ++ ([32] ++ (bl (bareT y ml) ++ ([32] ++ ([116, 104, 101, 110] ++ ([32] ++ (bl (bareT z nl) ++ ([32] ++ ([101, 108, 115, 101] ++ ([32] ++ bl (bareT u ul)))))))))) := by
        show bl (((((⟨#[105, 102, 32]⟩ ++ bareT y ml) ++ ⟨#[32, 116, 104, 101, 110, 32]⟩) ++ bareT z nl) ++ ⟨#[32, 101, 108, 115, 101, 32]⟩) ++ bareT u ul) = _
        rw [bl_app, bl_app, bl_app, bl_app, bl_app]
        simp only [List.append_assoc]
        rfl
      rw [e]
      exact k_if.on (A.on (k_then.on (B.on (k_else.on C))))
    · have e : bl (bareT ⟨23, m, s, c⟩ (.node b o y ml (.node b' o' z nl (.node b2 o2 u ul .nil)))) = [114, 101, 112] ++ ([32] ++ (bl (bareT y ml) ++ ([32] ++ ([97, 115] ++ ([32] ++ (bl s ++ ([32] ++ ([102, 114, 111, 109] ++ ([32] ++ (bl (bareT z nl) ++ ([32] ++ ([98, 121] ++ ([32] ++ bl (bareT u ul)))))))))))))) := by
        show bl (((((((⟨#[114, 101, 112, 32]⟩ ++ bareT y ml) ++ ⟨#[32, 97, 115, 32]⟩) ++ s) ++ ⟨#[32, 102, 114, 111, 109, 32]⟩) ++ bareT z nl) ++ ⟨#[32, 98, 121, 32]⟩) ++ bareT u ul) = _
        rw [bl_app, bl_app, bl_app, bl_app, bl_app, bl_app, bl_app]
        simp only [List.append_assoc]
        rfl
      rw [e]
      exact k_rep.on (A.on (k_as.on ((p_name (hnm (.inr (.inr rfl)))).on (k_from.on (B.on (k_by.on C))))))
theorem t_forest (f : BT NodeV) : (∀ x ∈ fl f, NodeFit x ∧ NodeTx x) → kok f → AllT f := by
  induction f with
  | nil => intro _ _; trivial
  | node b o x l r ihl ihr =>
    intro h hk
    exact ⟨t_node x l (h x (by simp [fl])).1 (h x (by simp [fl])).2 hk.1 (ihl (fun y hy => h y (by simp [fl, hy])) hk.2.1), ihr (fun y hy => h y (by simp [fl, hy])) hk.2.2⟩
/-- the text of a tree that fits is read as the tree -/
theorem text_back {x : NodeV} {l : BT NodeV} (hx : NodeFit x ∧ NodeTx x) (hl : ∀ y ∈ fl l, NodeFit y ∧ NodeTx y) (hc : x.kids = cnt l) (hk : kok l) (hs : (bareT x l).size ≤ 1500) (hn : (fl l).length + 1 ≤ 400) (hd : dp l + 1 ≤ 40) : trRes (bareT x l) = .ok (treeV x l) := by
  have T := t_node x l hx.1 hx.2 hc (t_forest l hl hk)
  have hat : AtB (bareT x l) 0 (bl (bareT x l) ++ []) := ⟨by rw [List.drop_zero, List.append_nil]; rfl, Nat.zero_le _⟩
  obtain ⟨ws, h1, h2⟩ := T (bareT x l) 0 [] hat stop_nil
  have hsz : (bl (bareT x l)).length = (bareT x l).size := by unfold bl; rw [Array.length_toList]; rfl
  rw [Nat.zero_add, hsz, lex_end (bareT x l) (bareT x l).size (by omega)] at h2
  have h3 : lexR (bareT x l) 0 = .ok ws := by rw [h2]; simp [LRes.pre]
  obtain ⟨b1, b2, _⟩ := bw_ok (by omega) h3
  have hp := read_back hx.1 (fun y hy => (hl y hy).1) hc hk h1
  rw [← b1] at hp
  refine tr_ok b2 hp (by omega) ?_ ?_
  · have : sizeT (treeV x l) = (fl l).length + 1 := by rw [sizeT_is]; show (fl (flat l)).length + 1 = _; rw [fl_flat]
    omega
  · show ¬ 40 < dp (flat l) + 1
    rw [dp_flat]
    omega
theorem nodes_back (x : NodeV) (l : BT NodeV) : fl (treeV x l).f = x :: fl l := by
  show x :: (fl (flat l) ++ []) = _
  rw [fl_flat, List.append_nil]
end Go.Proofs.YtkfhokeoooafnaaGreatDoor

set_option linter.unusedVariables false
namespace Go.Proofs.YtkfhokeoooafnaaGreatDoor
open Go.RowKit Go.Maps Go.Deep

theorem same_shows (f : BT NodeV) : ∀ (g : BT NodeV) (r r' : List NodeV), kok f → kok g → cnt f = cnt g → fl f ++ r = fl g ++ r' → showsF f = showsF g ∧ r = r' := by
  induction f with
  | nil =>
    intro g r r' _ _ hc h
    cases g with
    | nil => exact ⟨rfl, by simpa [fl] using h⟩
    | node b o x l s => simp [cnt] at hc
  | node b o x l s ihl ihs =>
    intro g r r' hf hg hc h
    cases g with
    | nil => simp [cnt] at hc
    | node b' o' x' l' s' =>
      simp only [fl, List.cons_append, List.append_assoc, List.cons.injEq] at h
      obtain ⟨rfl, h⟩ := h
      obtain ⟨h1, h2⟩ := ihl l' _ _ hf.2.1 hg.2.1 (by have := hf.1; have := hg.1; omega) h
      obtain ⟨h3, h4⟩ := ihs s' _ _ hf.2.2 hg.2.2 (by simp [cnt] at hc; omega) h2
      exact ⟨by simp only [showsF, h1, h3], h4⟩
def ShowIs (ns : List NodeV) (s : ByteArray) : Prop := (∃ x l, OkAt ns x l ∧ s = bareT x l) ∨ (¬ OkTree ns ∧ s = ⟨#[]⟩)
theorem show_open {ns : List NodeV} {e : Ending} (h : RetShow ns e) : ∃ s, e = .returned (.string s) ∧ ShowIs ns s := by
  rcases h with ⟨x, l, hok, rfl⟩ | ⟨hno, rfl⟩
  · exact ⟨_, rfl, .inl ⟨x, l, hok, rfl⟩⟩
  · exact ⟨_, rfl, .inr ⟨hno, rfl⟩⟩
theorem show_same {ns : List NodeV} {s t : ByteArray} (h : ShowIs ns s) (h' : ShowIs ns t) : t = s := by
  rcases h with ⟨x, l, hok, rfl⟩ | ⟨hno, rfl⟩
  · rcases h' with ⟨y, m, hok', rfl⟩ | ⟨hno, _⟩
    · have e := hok'.eq.symm.trans hok.eq
      simp only [List.cons.injEq] at e
      obtain ⟨rfl, e⟩ := e
      have := (same_shows m l [] [] hok'.kok hok.kok (by have := hok.kids; have := hok'.kids; omega) (by simpa using e)).1
      unfold bareT
      rw [this]
    · exact absurd ⟨x, l, hok⟩ hno
  · rcases h' with ⟨y, m, hok', rfl⟩ | ⟨_, rfl⟩
    · exact absurd ⟨y, m, hok'⟩ hno
    · rfl
/-- a node that the program and the specification take fits -/
theorem own_fit {x : NodeV} (h : ownB x = true) : NodeFit x ∧ NodeTx x := by
  obtain ⟨k, m, s, c⟩ := x
  unfold ownB at h
  simp only [Bool.and_eq_true, decide_eq_true_eq] at h
  obtain ⟨⟨h1, h2⟩, h3⟩ := h
  have hk : 1 ≤ k ∧ k ≤ 23 := by
    have h1' : 0 ≤ arity k := h1
    unfold arity at h1'
    repeat' split at h1'
    all_goals omega
  by_cases hn : k = 2 ∨ k = 22 ∨ k = 23
  · have hnb : namedB k = true := by unfold namedB; rcases hn with rfl | rfl | rfl <;> decide
    rw [if_pos hnb] at h3
    simp only [Bool.and_eq_true, decide_eq_true_eq] at h3
    obtain ⟨h3, h4⟩ := h3
    exact ⟨⟨⟨fun _ => h3, fun a b c => absurd hn (by rintro (e | e | e); exact a e; exact b e; exact c e), h2⟩, hk.1, hk.2, by show 0 ≤ m; have : m = 0 := h3; omega⟩, fun _ => h4, by show m ≤ _; have : m = 0 := h3; omega⟩
  · have hnb : namedB k = false := by unfold namedB; simp; omega
    rw [if_neg (by show ¬ namedB k = true; rw [hnb]; simp)] at h3
    simp only [Bool.and_eq_true, decide_eq_true_eq] at h3
    obtain ⟨h3, h4⟩ := h3
    have hs : s = ⟨#[]⟩ := by cases s with | mk d => have : d = #[] := Array.eq_empty_of_size_eq_zero h3; rw [this]
    have hm : (k ≠ 1 → m = 0) ∧ 0 ≤ m ∧ m ≤ 999999999999999999 := by
      by_cases e1 : k = 1
      · rw [if_pos e1] at h4
        simp only [Bool.and_eq_true, decide_eq_true_eq] at h4
        exact ⟨fun e => absurd e1 e, h4⟩
      · rw [if_neg e1] at h4
        simp only [decide_eq_true_eq] at h4
        exact ⟨fun _ => h4, by omega, by omega⟩
    exact ⟨⟨⟨hm.1, fun _ _ _ => hs, h2⟩, hk.1, hk.2, hm.2.1⟩, fun e => absurd e hn, hm.2.2⟩
/-- a tree's text, if it is not too long, is read as the tree -/
theorem show_read {ns : List NodeV} {s : ByteArray} (hok : OkTree ns) (h : ShowIs ns s) (hs : s.size ≤ 1500) : (trRes s).code = 0 ∧ (trRes s).nodes = ns := by
  rcases h with ⟨x, l, ok, rfl⟩ | ⟨hno, _⟩
  · have hf : ∀ y ∈ x :: fl l, NodeFit y ∧ NodeTx y := fun y hy => own_fit (ok.own y (by rw [ok.eq]; exact hy))
    have hsz := ok.size
    rw [ok.eq] at hsz
    have h := text_back (hf x (by simp)) (fun y hy => hf y (by simp [hy])) ok.kids ok.kok hs (by simpa using hsz) ok.deep
    rw [h]
    exact ⟨rfl, by show fl (treeV x l).f = ns; rw [nodes_back, ok.eq]⟩
  · exact absurd hok hno
theorem show_long {s : ByteArray} (hs : 1500 < s.size) : (trRes s).code = 1 ∧ (trRes s).nodes = [] := by
  obtain ⟨h1, h2, h3⟩ := bw_long hs
  rw [tr_words (by rw [h2]; decide), h2]
  exact ⟨rfl, rfl⟩
theorem show_size {ns : List NodeV} {s : ByteArray} (h : ShowIs ns s) : s.size ≤ 24000 := by
  rcases h with ⟨x, l, ok, rfl⟩ | ⟨_, rfl⟩
  · exact bare_small ⟨ok.size, ok.own⟩ ok.stands
  · decide
theorem show_none {ns : List NodeV} {s : ByteArray} (hno : ¬ OkTree ns) (h : ShowIs ns s) : s = ⟨#[]⟩ := by
  rcases h with ⟨x, l, ok, rfl⟩ | ⟨_, rfl⟩
  · exact absurd ⟨x, l, ok⟩ hno
  · rfl
end Go.Proofs.YtkfhokeoooafnaaGreatDoor
