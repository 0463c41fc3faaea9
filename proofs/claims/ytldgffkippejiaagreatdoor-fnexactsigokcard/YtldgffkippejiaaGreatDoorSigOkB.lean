/-
  SigOk of both sides, and the law's helpers over a signal.
-/
import Derived.Test.YtldgffkippejiaaGreatDoorSigC
import Derived.OpenShut
set_option linter.unusedVariables false
namespace Go.Proofs.YtldgffkippejiaaGreatDoor
open Go.RowKit Go.Maps Go.Deep

noncomputable def sigOkB (n : ByteArray) (h : Int) (b : ByteArray) : Bool := nameB n && decide (0 ≤ h) && decide (h < 5) && sigB b
def sigVal (n : ByteArray) (h : Int) (b : ByteArray) : Value := .agg #[.string n, .int .i64 h, .string b]
theorem szSig_any (n b : ByteArray) (h : Int) (w : World) (hn : n.size ≤ maxLen) (hb : b.size ≤ maxLen) :
    Calls Tryz.prog 10 #[sigVal n h b, .int .i64 1048576] w fun e w' => (∃ r : Int, e = .returned (.int .i64 r) ∧ (0 ≤ r → n.size ≤ 1048576 ∧ b.size ≤ 1048576)) ∧ Below w.heap.size w w' := by
  unfold maxLen at hn hb
  unfold sigVal
  by_cases h1 : (1048576 : Int) - (n.size : Int) < 0
  · go_enter Tryz.func10, Tryz.ntmps10
    go_wp2
    go_ret
    exact ⟨⟨_, rfl, fun h => by omega⟩, (Below.refl _ _).alloc (Nat.le_refl _) _⟩
  by_cases h2 : (1048576 : Int) - (n.size : Int) - (b.size : Int) < 0
  · go_enter Tryz.func10, Tryz.ntmps10
    go_wp2
    go_ret
    exact ⟨⟨_, rfl, fun h => by omega⟩, (Below.refl _ _).alloc (Nat.le_refl _) _⟩
  · go_enter Tryz.func10, Tryz.ntmps10
    go_wp2
    go_ret
    exact ⟨⟨_, rfl, fun h => ⟨by omega, by omega⟩⟩, (Below.refl _ _).alloc (Nat.le_refl _) _⟩
set_option maxHeartbeats 800000 in
theorem toSig_any (n b : ByteArray) (h : Int) (w : World) : Calls Tryz.prog 12 #[sigVal n h b] w fun e w' => e = .returned (sigVal n h b) ∧ Below w.heap.size w w' := by
  unfold sigVal
  go_enter Tryz.func12, Tryz.ntmps12
  go_wp2
  go_returns
  exact ⟨rfl, by go_grown⟩
set_option maxHeartbeats 3200000 in
theorem specSigOk_any (n b : ByteArray) (h : Int) (w : World) (hn : n.size ≤ 1048576) (hb : b.size ≤ 1048576) :
    Calls Tryz.prog 11 #[sigVal n h b] w fun e w' => e = .returned (.bool (sigOkB n h b)) ∧ Below w.heap.size w w' := by
  have HS := hide (fun W => specSig_any b W hb)
  have HN := hide (fun W => specName_any W n (by unfold maxLen; omega))
  have X0 := hide (boxF_new w [.string n, .int .i64 h, .string b] 32)
  have A0 := hide ((Below.refl w.heap.size w).alloc (Nat.le_refl _) (.cells #[.string n, .int .i64 h, .string b] 32))
  simp only [List.toArray] at X0
  have HR := hide (show sigOkB n h b = (nameB n && decide (0 ≤ h) && decide (h < 5) && sigB b) from rfl)
  generalize sigOkB n h b = R at *
  unfold sigVal
  clear hn hb
  cases qb : sigB b
  · rw [qb] at HR
    have HF := hide (show R = false from by rw [unhide HR]; simp)
    clear HR
    obtain rfl := unhide HF
    go_enter Tryz.func11, Tryz.ntmps11
    go_wp2_with fail
    generalize w.alloc (.cells #[.string n, .int .i64 h, .string b] 32) = W at *
    refine (unhide HS _).mono ?_
    rintro e w1 ⟨v, rfl, r1, b1⟩
    rw [qb]
    have B1 := hide ((unhide A0).trans (b1.mono (unhide A0).size))
    clear r1 b1 HS
    go_wp2_with fail
    go_ret
    exact ⟨rfl, unhide B1⟩
  rw [qb] at HR
  cases qn : nameB n
  · rw [qn] at HR
    have HF := hide (show R = false from by rw [unhide HR]; simp)
    clear HR
    obtain rfl := unhide HF
    go_enter Tryz.func11, Tryz.ntmps11
    go_wp2_with fail
    generalize w.alloc (.cells #[.string n, .int .i64 h, .string b] 32) = W at *
    refine (unhide HS _).mono ?_
    rintro e w1 ⟨v, rfl, r1, b1⟩
    rw [qb]
    have B1 := hide ((unhide A0).trans (b1.mono (unhide A0).size))
    have X1 := hide ((unhide X0).up b1)
    obtain ⟨⟨c0, c1, c2⟩, -⟩ := (unhide X1).triR
    clear r1 b1 HS
    go_wp2_with fail
    refine (unhide HN _).mono ?_
    rintro e w2 ⟨rfl, b2⟩
    rw [qn]
    have B2 := hide ((unhide B1).trans (b2.mono (unhide B1).size))
    clear b2 HN c0 c1 c2
    go_wp2_with fail
    go_ret
    exact ⟨rfl, unhide B2⟩
  rw [qn] at HR
  have main : ∀ (RR : Bool), R = RR → ((0 ≤ h ∧ h < 5 ∧ RR = true) ∨ (¬ 0 ≤ h ∧ RR = false) ∨ (0 ≤ h ∧ ¬ h < 5 ∧ RR = false)) →
      Calls Tryz.prog 11 #[.agg #[.string n, .int .i64 h, .string b]] w fun e w' => e = .returned (.bool R) ∧ Below w.heap.size w w' := by
    intro RR e0 hc
    subst e0
    clear HR
    rcases hc with ⟨h0, h5, rfl⟩ | ⟨h0, rfl⟩ | ⟨h0, h5, rfl⟩
    all_goals
      go_enter Tryz.func11, Tryz.ntmps11
      go_wp2_with fail
      generalize w.alloc (.cells #[.string n, .int .i64 h, .string b] 32) = W at *
      refine (unhide HS _).mono ?_
      rintro e w1 ⟨v, rfl, r1, b1⟩
      rw [qb]
      have B1 := hide ((unhide A0).trans (b1.mono (unhide A0).size))
      have X1 := hide ((unhide X0).up b1)
      obtain ⟨⟨c0, c1, c2⟩, -⟩ := (unhide X1).triR
      clear r1 b1 HS
      go_wp2_with fail
      refine (unhide HN _).mono ?_
      rintro e w2 ⟨rfl, b2⟩
      rw [qn]
      have B2 := hide ((unhide B1).trans (b2.mono (unhide B1).size))
      have X2 := hide ((unhide X1).up b2)
      clear b2 HN c0 c1 c2
      obtain ⟨⟨c0, c1, c2⟩, -⟩ := (unhide X2).triR
      go_wp2_with fail
      go_ret
      first | exact ⟨rfl, unhide B2⟩ | exact ⟨ret_bool (decide_eq_true h5), unhide B2⟩ | exact ⟨ret_bool (decide_eq_false (by omega)), unhide B2⟩
  refine main R rfl ?_
  have e := unhide HR
  by_cases h0 : 0 ≤ h
  · by_cases h5 : h < 5
    · exact .inl ⟨h0, h5, by rw [e, decide_eq_true h0, decide_eq_true h5]; rfl⟩
    · exact .inr (.inr ⟨h0, h5, by rw [e, decide_eq_false h5]; simp⟩)
  · exact .inr (.inl ⟨h0, by rw [e, decide_eq_false h0]; simp⟩)
/-- the program's readSig: the tree and the inputs aside -/
def RetRs (o : Bool) (w : World) (e : Ending) (w' : World) : Prop := ∃ u v, e = .returned (.tuple #[u, v, .bool o]) ∧ Below w.heap.size w w'
set_option maxHeartbeats 3200000 in
theorem readSig_any (n b : ByteArray) (h : Int) (w : World) (hn : n.size ≤ 1048576) (hb : b.size ≤ 1048576) (hsh : ShapesIn w) (hg : ErrG w) :
    Calls Tryz.prog 20 #[sigVal n h b] w fun e w' => RetRs (sigOkB n h b) w e w' := by
  have X0 := hide (boxF_new w [.string n, .int .i64 h, .string b] 32)
  have A0 := hide ((Below.refl w.heap.size w).alloc (Nat.le_refl _) (.cells #[.string n, .int .i64 h, .string b] 32))
  have HB := hide (fun (W : World) (bb : Below w.heap.size w W) => readBody_any b W hb (hsh.below bb (Nat.le_refl _)) (hg.below bb (Nat.le_refl _)))
  have HN := hide (fun W => implName_any W n (by unfold maxLen; omega))
  simp only [List.toArray] at X0
  have HR := hide (show sigOkB n h b = (nameB n && decide (0 ≤ h) && decide (h < 5) && sigB b) from rfl)
  generalize sigOkB n h b = R at *
  unfold sigVal
  clear hn hb hsh hg
  have no : ∀ (hc : nameB n = false ∨ (nameB n = true ∧ h < 0) ∨ (nameB n = true ∧ ¬ h < 0 ∧ 5 ≤ h)), R = false →
      Calls Tryz.prog 20 #[.agg #[.string n, .int .i64 h, .string b]] w fun e w' => RetRs R w e w' := by
    intro hc e0
    subst e0
    clear HR HB
    rcases hc with qn | ⟨qn, h0⟩ | ⟨qn, h0, h5⟩
    all_goals
      go_enter Tryz.func20, Tryz.ntmps20
      go_wp2_with fail
      generalize w.alloc (.cells #[.string n, .int .i64 h, .string b] 32) = W at *
      refine (unhide HN _).mono ?_
      rintro e w1 ⟨rfl, b1⟩
      rw [qn]
      have B1 := hide ((unhide A0).trans (b1.mono (unhide A0).size))
      have X1 := hide ((unhide X0).up b1)
      obtain ⟨⟨c0, c1, c2⟩, -⟩ := (unhide X1).triR
      clear b1 HN
      go_wp2_with fail
      refine bodyPost_ret (v := .tuple #[.slice none 0 0, .slice none 0 0, .bool false]) (by simp [results, Tryz.results20, go_sem]) rfl ?_
      exact ⟨_, _, rfl, unhide B1⟩
  cases qn : nameB n
  · exact no (.inl qn) (by rw [unhide HR, qn]; rfl)
  by_cases h0 : h < 0
  · exact no (.inr (.inl ⟨qn, h0⟩)) (by rw [unhide HR, decide_eq_false (show ¬ 0 ≤ h by omega)]; simp)
  by_cases h5 : 5 ≤ h
  · exact no (.inr (.inr ⟨qn, h0, h5⟩)) (by rw [unhide HR, decide_eq_false (show ¬ h < 5 by omega)]; simp)
  clear no
  have e0 : R = sigB b := by rw [unhide HR, qn, decide_eq_true (show 0 ≤ h by omega), decide_eq_true (show h < 5 by omega)]; rfl
  subst e0
  clear HR
  go_enter Tryz.func20, Tryz.ntmps20
  go_wp2_with fail
  generalize w.alloc (.cells #[.string n, .int .i64 h, .string b] 32) = W at *
  refine (unhide HN _).mono ?_
  rintro e w1 ⟨rfl, b1⟩
  rw [qn]
  have B1 := hide ((unhide A0).trans (b1.mono (unhide A0).size))
  have X1 := hide ((unhide X0).up b1)
  obtain ⟨⟨c0, c1, c2⟩, -⟩ := (unhide X1).triR
  clear b1 HN
  go_wp2_with fail
  refine (unhide HB _ (unhide B1)).mono ?_
  rintro e w2 ⟨u, v, rfl, r2, b2⟩
  have B2 := hide ((unhide B1).trans (b2.mono (unhide B1).size))
  clear b2 r2 HB
  go_wp2_with fail
  refine bodyPost_ret (v := .tuple #[u, v, .bool (sigB b)]) (by simp [results, Tryz.results20, go_sem]) rfl ?_
  exact ⟨_, _, rfl, unhide B2⟩
theorem implSigOk_any (n b : ByteArray) (h : Int) (w : World) (hn : n.size ≤ 1048576) (hb : b.size ≤ 1048576) (hsh : ShapesIn w) (hg : ErrG w) :
    Calls Tryz.prog 13 #[sigVal n h b] w fun e w' => e = .returned (.bool (sigOkB n h b)) ∧ Below w.heap.size w w' := by
  have A0 := hide ((Below.refl w.heap.size w).alloc (Nat.le_refl _) (.cells #[.string n, .int .i64 h, .string b] 32))
  have HB := hide (fun (W : World) (bb : Below w.heap.size w W) => readSig_any n b h W hn hb (hsh.below bb (Nat.le_refl _)) (hg.below bb (Nat.le_refl _)))
  clear hn hb hsh hg
  generalize sigOkB n h b = R at *
  unfold sigVal at *
  go_enter Tryz.func13, Tryz.ntmps13
  go_wp2_with fail
  refine (unhide HB _ (unhide A0)).mono ?_
  rintro e w1 ⟨u, v, rfl, b1⟩
  have B1 := hide ((unhide A0).trans (b1.mono (unhide A0).size))
  clear b1 HB
  go_wp2_with fail
  go_ret
  exact ⟨rfl, unhide B1⟩
theorem cellsSigI : Tryz.prog.cellsOf 3 = 1 := by kernel_rfl
theorem cellsSigS : Tryz.prog.cellsOf 9 = 1 := by kernel_rfl
theorem aggOfS {P : Program} {W : World} {r : Reach} {base n : Nat} {t : TypeId} {fs : Array Field} {v : Value} (ht : P.underlying t = some (.struct fs)) (hn : P.cellsOf t = n) (h : Value.okWide P W r base t v) : ∃ cs : Array Value, v = .agg cs ∧ cs.size = n := by
  simp only [Value.okWide, ht] at h
  obtain ⟨cs, h1, h2, _⟩ := h
  exact ⟨cs, h1, by rw [h2, hn]⟩
theorem array3S {cs : Array Value} (h : cs.size = 3) : ∃ a b c, cs = #[a, b, c] := by
  obtain ⟨l⟩ := cs
  match l, h with
  | [a, b, c], _ => exact ⟨a, b, c, rfl⟩
theorem cellsSig : Tryz.prog.cellsOf 29 = 3 := by kernel_rfl
set_option maxRecDepth 20000 in
theorem openSig {H : Type} {enc : TypeId × Value → H} {w : World} {base : Nat} {spare : Nat → Bool} {held : Bool} {c0 c1 c2 : Value} {d : DataW H} {p : List MemPlace}
    (h : DataW.Trod enc Tryz.prog w base spare held 29 (.agg #[c0, c1, c2]) d p) : ∃ (n b : ByteArray) (k : Int), Value.agg #[c0, c1, c2] = sigVal n k b ∧ n.size ≤ maxLen ∧ b.size ≤ maxLen := by
  obtain ⟨fuel, hf⟩ := h
  obtain ⟨xs, k, hk, hxy, _, hxl, hf⟩ := DataW.trod_struct Tryz.underlying29 hf
  match xs, hxl with
  | [y0, y1, y2], _ =>
    have g0 := hf 0 _ rfl
    have g1 := hf 1 _ rfl
    have g2 := hf 2 _ rfl
    simp [Value.cells, cellsSigI, cellsSigS] at g0 g1 g2
    obtain ⟨n0, e0, _, hs0⟩ := DataW.trod_string Tryz.underlying9 g0
    obtain ⟨n1, e1, _, hs1⟩ := DataW.trod_int Tryz.underlying3 g1
    obtain ⟨n2, e2, _, hs2⟩ := DataW.trod_string Tryz.underlying9 g2
    simp at e0 e1 e2
    subst e0 e1 e2
    exact ⟨n0, n2, n1, rfl, hs0, hs2⟩
end Go.Proofs.YtldgffkippejiaaGreatDoor
