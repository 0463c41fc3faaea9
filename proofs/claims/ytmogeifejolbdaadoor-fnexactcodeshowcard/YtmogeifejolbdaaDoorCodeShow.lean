/-
  CodeShow of both sides: line behind line.
-/
import Derived.Test.YtmogeifejolbdaaDoorCodeLine
import Derived.Test.YtmogeifejolbdaaDoorBuild
set_option linter.unusedVariables false
namespace Go.Proofs.YtmogeifejolbdaaDoor
open Go.RowKit Go.Maps Go.Deep

/-- the lines of the first k instructions -/
def linesTo (xs : List InsV) : Nat → ByteArray
  | 0 => ⟨#[]⟩
  | k + 1 => match xs[k]? with
    | some x => linesTo xs k ++ lineT x.a0 x.a1 x.a2 ++ ⟨#[10]⟩
    | none => linesTo xs k
def codeT (xs : List InsV) : ByteArray := linesTo xs xs.length
theorem lines_step (xs : List InsV) (k : Nat) (hk : k < xs.length) : linesTo xs (k + 1) = linesTo xs k ++ lineT xs[k].a0 xs[k].a1 xs[k].a2 ++ ⟨#[10]⟩ := by
  simp [linesTo, List.getElem?_eq_getElem hk]
theorem lines_size (xs : List InsV) (hg : CodeGood xs) (hs : InsOk xs) : ∀ k, k ≤ xs.length → (linesTo xs k).size ≤ 27 * k := by
  intro k
  induction k with
  | zero => intro _; simp [linesTo]; rfl
  | succ k ih =>
    intro hk
    have h1 := ih (by omega)
    have h2 := line_size (hg.2.2 k (by omega) (by omega)) (hs _ (List.getElem_mem (show k < xs.length by omega))).2.2
    rw [lines_step xs k (by omega), size_app, size_app]
    have : (⟨#[10]⟩ : ByteArray).size = 1 := rfl
    omega
def RetShow (xs : List InsV) (e : Ending) : Prop := (CodeGood xs ∧ e = .returned (.string (codeT xs))) ∨ (¬ CodeGood xs ∧ e = .returned (.string ⟨#[]⟩))
theorem retShow_same {xs : List InsV} {e e' : Ending} (h : RetShow xs e) (h' : RetShow xs e') : ∃ r : ByteArray, e = .returned (.string r) ∧ e' = .returned (.string r) := by
  rcases h with ⟨a, rfl⟩ | ⟨a, rfl⟩ <;> rcases h' with ⟨b, rfl⟩ | ⟨b, rfl⟩
  · exact ⟨_, rfl, rfl⟩
  · exact absurd a b
  · exact absurd b a
  · exact ⟨_, rfl, rfl⟩

/-- instructions that may be stand in memory -/
theorem code_at {w : World} {a : Option Addr} {ns : List InsV} (hc : InsIn w a ns) (hg : CodeGood ns) : ∃ b off, a = some ⟨b, off, none⟩ ∧ b < w.heap.size ∧ InsAt w b off ns := by
  rcases hc with rfl | h
  · exact absurd hg.1 (by simp)
  · exact h

set_option maxHeartbeats 1600000 in
theorem specShow_yes (w : World) (b off cap : Nat) (ns : List InsV) (hg : CodeGood ns) (hc : InsAt w b off ns) (hb : b < w.heap.size) (hs : InsOk ns) :
    Calls Tryd.prog 11 #[.slice (some ⟨b, off, none⟩) ns.length cap] w fun e w' => e = .returned (.string (codeT ns)) ∧ Below w.heap.size w w' := by
  have HS := hide hs
  have HC := hide hc
  have HG := hide hg
  have hl : (ns.length : Int) ≤ 4000 := hg.2.1
  clear hs hc hg
  go_enter Tryd.func11, Tryd.ntmps11
  go_wp2_with fail
  refine (specCode_any w _ cap ns (.inr ⟨b, off, rfl, hb, unhide HC⟩) (unhide HS)).mono ?_
  rintro e w1 ⟨hr | hr, b1⟩
  · obtain ⟨_, rfl⟩ := hr
    have HB1 := hide b1
    clear b1
    go_wp2_with fail
    go_loopw [3, 4] (fun o i wr => ∃ (k : Nat) (T : ByteArray), k ≤ ns.length ∧ i = .int .i64 k ∧ o = .string T ∧ Hid (T = linesTo ns k) ∧ Hid (Below w.heap.size w wr)) (fun _ i _ => ns.length - (intOf i).toNat)
    case atStart => exact ⟨0, _, Nat.zero_le _, rfl, rfl, rfl, HB1⟩
    case round =>
      obtain ⟨k, T, hk, rfl, rfl, HT, HBr⟩ := hrel
      by_cases hlt : k < ns.length
      · obtain ⟨c0, c1, c2⟩ := unhide HC k hlt
        rw [← (unhide HBr).cell (by exact hb)] at c0 c1 c2
        have hi := hide ((unhide HG).2.2 k hlt hlt)
        have hf := hide (unhide HS _ (List.getElem_mem hlt)).2.2
        have hz := line_size (unhide hi) (unhide hf)
        have hts := lines_size ns (unhide HG) (unhide HS) k hk
        rw [← unhide HT] at hts
        have HN := hide (lines_step ns k hlt)
        rw [← unhide HT] at HN
        generalize ns[k].a0 = op at c0 hi hz HN
        generalize ns[k].a1 = av at c1 hi hz HN hf
        generalize ns[k].a2 = nm at c2 hi hz HN
        generalize hL : lineT op av nm = L at hz HN
        have HL := hide hL
        have z1 : (T.size : Int) ≤ 108000 := by omega
        have z2 : (L.size : Int) ≤ 26 := by omega
        clear hL hts hz
        go_wp2_with (first
          | (go_at_call 20; refine (l4Line_any _ op av nm _ (unhide hi) (unhide hf)).mono ?_; rw [unhide HL]; rintro e w2 ⟨rfl, hb2⟩; have HB2 := hide ((unhide HBr).trans (hb2.mono (unhide HBr).size)); clear hb2)
          | go_in)
        go_roundw
        case rel => exact ⟨k + 1, _, by omega, by go_num, rfl, (unhide HN).symm, HB2⟩
        case measure => simp [intOf]; omega
      · have e : k = ns.length := by omega
        have HT' := hide (show T = codeT ns by rw [unhide HT, e]; rfl)
        clear e
        go_wp2_with fail
        go_ret
        exact ⟨by rw [← unhide HT']; rfl, unhide HBr⟩
  · exact absurd (unhide HG) hr.1

theorem specShow_no (w : World) (a : Option Addr) (cap : Nat) (ns : List InsV) (hg : ¬ CodeGood ns) (hc : InsIn w a ns) (hs : InsOk ns) :
    Calls Tryd.prog 11 #[.slice a ns.length cap] w fun e w' => e = .returned (.string ⟨#[]⟩) ∧ Below w.heap.size w w' := by
  have HS := hide hs
  have HC := hide hc
  have HG := hide hg
  clear hs hc hg
  go_enter Tryd.func11, Tryd.ntmps11
  go_wp2_with fail
  refine (specCode_any w _ cap ns (unhide HC) (unhide HS)).mono ?_
  rintro e w1 ⟨hr | hr, b1⟩
  · exact absurd hr.1 (unhide HG)
  · obtain ⟨_, rfl⟩ := hr
    go_wp2_with fail
    go_ret
    exact ⟨rfl, b1⟩
theorem specCShow_any (w : World) (a : Option Addr) (cap : Nat) (ns : List InsV) (hc : InsIn w a ns) (hs : InsOk ns) :
    Calls Tryd.prog 11 #[.slice a ns.length cap] w fun e w' => RetShow ns e ∧ Below w.heap.size w w' := by
  by_cases hg : CodeGood ns
  · obtain ⟨b, off, rfl, hb, hc'⟩ := code_at hc hg
    refine (specShow_yes w b off cap ns hg hc' hb hs).mono ?_
    rintro e w' ⟨rfl, h⟩
    exact ⟨.inl ⟨hg, rfl⟩, h⟩
  · refine (specShow_no w a cap ns hg hc hs).mono ?_
    rintro e w' ⟨rfl, h⟩
    exact ⟨.inr ⟨hg, rfl⟩, h⟩

theorem isBuilder_up {T e : TypeId} {B b : Nat} {bs : List Value} {w w' : World} (h : Lib.IsBuilder T e B b bs w) (hb : Below w.heap.size w w') : Lib.IsBuilder T e B b bs w' := by
  have key : ∀ p, Lib.BuilderAt T e B b p bs w → Lib.BuilderAt T e B b p bs w' := by
    intro p hp
    have hlt := hp.lt
    obtain ⟨hB, v, h1, h2, h3⟩ := hp
    exact ⟨hB, v, (hb.block b hlt).trans h1, ownsRow_up h2 hb, h3⟩
  rcases h with h | h
  · exact .inl (key _ h)
  · exact .inr (key _ h)
theorem cells_line (T L : ByteArray) : Lib.byteCells T.data.toList ++ Lib.strCells L ++ [Value.int .u8 10] = Lib.byteCells (T ++ L ++ ⟨#[10]⟩).data.toList := by
  simp [Lib.byteCells, Lib.strCells]
theorem byteCells_size (T : ByteArray) : (Lib.byteCells T.data.toList).length = T.size := by
  rw [Lib.byteCells_length]; simp

set_option maxHeartbeats 3200000 in
theorem implShow_yes (w : World) (b off cap : Nat) (ns : List InsV) (hg : CodeGood ns) (hc : InsAt w b off ns) (hb : b < w.heap.size) (hs : InsOk ns) (hsh : ShapesIn w) (hsg : SignsIn w) (hin : InsIn' w) (hp : PowIn w) :
    Calls Tryd.prog 12 #[.slice (some ⟨b, off, none⟩) ns.length cap] w fun e w' => e = .returned (.string (codeT ns)) ∧ Below w.heap.size w w' := by
  have HS := hide hs
  have HC := hide hc
  have HG := hide hg
  have HSH := hide hsh
  have HSG := hide hsg
  have HIN := hide hin
  have HP := hide hp
  have hl : (ns.length : Int) ≤ 4000 := hg.2.1
  clear hs hc hg hsh hsg hin hp
  go_enter Tryd.func12, Tryd.ntmps12
  go_wp2_with fail
  refine (implCode_any w _ cap ns (.inr ⟨b, off, rfl, hb, unhide HC⟩) (unhide HS) (unhide HSH) (unhide HSG)).mono ?_
  rintro e w1 ⟨hr | hr, b1⟩
  · obtain ⟨_, rfl⟩ := hr
    have HB1 := hide b1
    have hz1 := b1.size
    have HF := hide (Lib.fresh_isBuilder 47 5 w1)
    have HBA := hide (b1.alloc b1.size (.cells #[.pointer none, .slice none 0 0] 47))
    clear b1
    go_wp2_with fail
    generalize hBB : w1.heap.size = B at *
    have hB0 := hide hBB
    clear hBB
    go_loopw [11] (fun i wr => ∃ (k : Nat), k ≤ ns.length ∧ i = .int .i64 k ∧ Hid (Lib.IsBuilder 47 5 B B (Lib.byteCells (linesTo ns k).data.toList) wr) ∧ B ≤ wr.heap.size ∧ Hid (Below w.heap.size w wr)) (fun i _ => ns.length - (intOf i).toNat)
    case atStart => exact ⟨0, Nat.zero_le _, rfl, unhide HF, by have := unhide hB0; simp; omega, unhide HBA⟩
    case round =>
      obtain ⟨k, hk, rfl, HI, hzB, HBr⟩ := hrel
      by_cases hlt : k < ns.length
      · obtain ⟨c0, c1, c2⟩ := unhide HC k hlt
        rw [← (unhide HBr).cell (by exact hb)] at c0 c1 c2
        have hi := hide ((unhide HG).2.2 k hlt hlt)
        have hf := hide (unhide HS _ (List.getElem_mem hlt)).2.2
        have hz := line_size (unhide hi) (unhide hf)
        have hts := lines_size ns (unhide HG) (unhide HS) k hk
        have HN := hide (lines_step ns k hlt)
        generalize hT : linesTo ns k = T at hts HN HI
        generalize ns[k].a0 = op at c0 hi hz HN
        generalize ns[k].a1 = av at c1 hi hz HN hf
        generalize ns[k].a2 = nm at c2 hi hz HN
        generalize hL : lineT op av nm = L at hz HN
        have HL := hide hL
        have hbc := byteCells_size T
        have HSZ := hide (show (Lib.byteCells T.data.toList).length + L.size ≤ 140737488355328 by omega)
        have HSZ2 := hide (show (Lib.byteCells T.data.toList ++ Lib.strCells L).length + 1 ≤ 140737488355328 by rw [List.length_append, Lib.strCells_length]; omega)
        clear hL hts hz hT hbc
        have bA := Below.alloc (Below.refl wr.heap.size wr) (Nat.le_refl _) (.cells #[.int .i64 op, .int .i64 av, .string nm] 37)
        have HIA := hide (isBuilder_up (unhide HI) bA)
        have HBA' := hide ((unhide HBr).trans (bA.mono (unhide HBr).size))
        have SG := hide ((unhide HSG).below (unhide HBA') (Nat.le_refl _))
        have SI := hide (WordsIn.below (unhide HIN) (unhide HBA') (Nat.le_refl _))
        have SP := hide ((unhide HP).below (unhide HBA') (Nat.le_refl _))
        clear bA
        go_wp2_with (first
          | (go_at_call 22; refine (insLine_any _ op av nm _ (unhide hi) (unhide hf) (unhide SG) (unhide SI) (unhide SP)).mono ?_; rw [unhide HL]; rintro e w2 ⟨rfl, hb2⟩; have HB2 := hide ((unhide HBA').trans (hb2.mono (unhide HBA').size)); have HI2 := hide (isBuilder_up (unhide HIA) hb2); have hz2 := hb2.size; clear hb2)
          | (go_at_call 21; refine (writeString_any B B _ L _ (unhide HI2) (unhide HSZ) (by simp at hz2; omega)).mono ?_; rintro e w3 ⟨rfl, hI3, hb3⟩; have HI3 := hide hI3; have HB3 := hide ((unhide HB2).trans (hb3.mono (by omega))); have hz3 := hb3.size; clear hb3 hI3)
          | (go_at_call 23; refine (writeByte_any B B _ 10 _ (.inr (unhide HI3)) (unhide HSZ2) (by simp at hz2; omega)).mono ?_; rintro e w4 ⟨rfl, hI4, hb4⟩; have HI4 := hide hI4; have HB4 := hide ((unhide HB3).trans (hb4.mono (by omega))); have hz4 := hb4.size; clear hb4 hI4)
          | go_in)
        simp at hz2
        go_roundw
        case rel => exact ⟨k + 1, by omega, by go_num, by rw [unhide HN, ← cells_line]; exact .inr (unhide HI4), by omega, HB4⟩
        case measure => simp [intOf]; omega
      · have e : k = ns.length := by omega
        have HI' := hide (show Lib.IsBuilder 47 5 B B (Lib.byteCells (codeT ns).data.toList) wr by have := unhide HI; rw [e] at this; exact this)
        clear e
        go_wp2_with (first
          | (go_at_call 24; refine (Tryd.Builder_String_any B B _ _ (unhide HI') hzB).mono ?_; rintro e w5 ⟨rfl, hb5⟩; have HB5 := hide ((unhide HBr).trans (hb5.mono hz1)); clear hb5)
          | go_in)
        go_ret
        exact ⟨rfl, unhide HB5⟩
  · exact absurd (unhide HG) hr.1

theorem implShow_no (w : World) (a : Option Addr) (cap : Nat) (ns : List InsV) (hg : ¬ CodeGood ns) (hc : InsIn w a ns) (hs : InsOk ns) (hsh : ShapesIn w) (hsg : SignsIn w) :
    Calls Tryd.prog 12 #[.slice a ns.length cap] w fun e w' => e = .returned (.string ⟨#[]⟩) ∧ Below w.heap.size w w' := by
  have HS := hide hs
  have HC := hide hc
  have HG := hide hg
  have HSH := hide hsh
  have HSG := hide hsg
  clear hs hc hg hsh hsg
  go_enter Tryd.func12, Tryd.ntmps12
  go_wp2_with fail
  refine (implCode_any w _ cap ns (unhide HC) (unhide HS) (unhide HSH) (unhide HSG)).mono ?_
  rintro e w1 ⟨hr | hr, b1⟩
  · exact absurd hr.1 (unhide HG)
  · obtain ⟨_, rfl⟩ := hr
    go_wp2_with fail
    go_ret
    exact ⟨rfl, b1⟩
theorem implCShow_any (w : World) (a : Option Addr) (cap : Nat) (ns : List InsV) (hc : InsIn w a ns) (hs : InsOk ns) (hsh : ShapesIn w) (hsg : SignsIn w) (hin : InsIn' w) (hp : PowIn w) :
    Calls Tryd.prog 12 #[.slice a ns.length cap] w fun e w' => RetShow ns e ∧ Below w.heap.size w w' := by
  by_cases hg : CodeGood ns
  · obtain ⟨b, off, rfl, hb, hc'⟩ := code_at hc hg
    refine (implShow_yes w b off cap ns hg hc' hb hs hsh hsg hin hp).mono ?_
    rintro e w' ⟨rfl, h⟩
    exact ⟨.inl ⟨hg, rfl⟩, h⟩
  · refine (implShow_no w a cap ns hg hc hs hsh hsg).mono ?_
    rintro e w' ⟨rfl, h⟩
    exact ⟨.inr ⟨hg, rfl⟩, h⟩

end Go.Proofs.YtmogeifejolbdaaDoor
