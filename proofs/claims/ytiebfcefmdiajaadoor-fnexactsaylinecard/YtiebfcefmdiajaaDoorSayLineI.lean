/-
  SayLine of the program.
-/
import Derived.Test.YtiebfcefmdiajaaDoorLineI
import Derived.Test.YtiebfcefmdiajaaDoorSayOkI
import Derived.Deep.RegionHeld3
set_option linter.unusedVariables false
namespace Go.Proofs.YtiebfcefmdiajaaDoor
open Go.RowKit Go.Maps Go.Deep

set_option maxRecDepth 20000 in
set_option maxHeartbeats 6400000 in
theorem implSayLine_any (s : SayV) (v : Value) (w : World) (hs : SmallSay s) (h : SayRd w v s) (hp : PowIn w) :
    Calls Tryd.prog 7 #[v] w fun e w' => e = .returned (.string (lineOut s)) ∧ Below w.heap.size w w' := by
  have HO := hide (fun (W : World) (bW : Below w.heap.size w W) => implSayOk_any s v W hs (h.up bW))
  have hv : F64 s.val := hs.2.2.2.2.2
  obtain ⟨v5, rfl, a, c, rfl, hin⟩ := h
  have bx := boxF_new w [.int .i64 s.kind, .int .i64 s.src, .int .i64 s.dst, .string s.name, .int .i64 s.val, .slice a s.stamp.length c] 29
  have bb := (Below.refl w.heap.size w).alloc (Nat.le_refl _) (.cells #[.int .i64 s.kind, .int .i64 s.src, .int .i64 s.dst, .string s.name, .int .i64 s.val, .slice a s.stamp.length c] 29)
  simp only [List.toArray] at bx
  have HIN := hide hin
  have HP := hide hp
  clear hs hin hp
  obtain ⟨R, HR⟩ : ∃ R, Hid (R = lineOut s) := ⟨_, rfl⟩
  rw [← unhide HR]
  have c0 := bx.1.at 0 _ rfl
  have c1 := bx.1.at 1 _ rfl
  have c2 := bx.1.at 2 _ rfl
  have c3 := bx.1.at 3 _ rfl
  have c4 := bx.1.at 4 _ rfl
  have c5 := bx.1.at 5 _ rfl
  by_cases hok : sayOkB s = true
  rotate_left
  · have hno : sayOkB s = false := by simpa using hok
    have HE := hide (show R = ⟨#[]⟩ by rw [unhide HR]; unfold lineOut; rw [if_neg hok])
    rw [hno] at HO
    clear hok hno HR HIN HP bx
    generalize s.stamp.length = n at *
    generalize s.kind = kind at *
    generalize s.src = src at *
    generalize s.dst = dst at *
    generalize s.val = val at *
    generalize s.name = name at *
    go_enter Tryd.func7, Tryd.ntmps7
    go_wp2_with fail
    generalize w.alloc (.cells #[.int .i64 kind, .int .i64 src, .int .i64 dst, .string name, .int .i64 val, .slice a n c] 29) = W at *
    go_wp2_with fail
    refine (unhide HO W bb).mono ?_
    rintro e w1 ⟨rfl, b1⟩
    go_wp2_with fail
    go_ret
    exact ⟨by rw [unhide HE]; rfl, bb.trans (b1.mono bb.size)⟩
  have HE := hide (show R = lineT s by rw [unhide HR]; unfold lineOut; rw [if_pos hok])
  have HLN := hide (fun (w2 : World) (lb kb : Nat) (hb : Below w.heap.size w w2) (hl : w.heap.size ≤ lb) (hx : LexNew w2 lb kb) => implLine_any s a c w w2 lb kb hok hv ((unhide HIN).below hb) (fun h0 sb off e => by
    rcases unhide HIN with h1 | ⟨b, o, e2, hb2, -⟩
    · exact absurd h1 h0
    · rw [e] at e2
      simp only [Option.some.injEq, Addr.mk.injEq] at e2
      omega) hx ⟨unhide HP, hb, hl⟩)
  rw [hok] at HO
  have BX := hide bx
  clear hok HR HIN HP bx
  generalize s.stamp.length = n at *
  generalize s.kind = kind at *
  generalize s.src = src at *
  generalize s.dst = dst at *
  generalize s.val = val at *
  generalize s.name = name at *
  go_enter Tryd.func7, Tryd.ntmps7
  go_wp2_with fail
  generalize w.alloc (.cells #[.int .i64 kind, .int .i64 src, .int .i64 dst, .string name, .int .i64 val, .slice a n c] 29) = W at *
  go_wp2_with fail
  refine (unhide HO W bb).mono ?_
  rintro e w1 ⟨rfl, b1⟩
  have B1 := hide (bb.trans (b1.mono bb.size))
  have X1 := hide ((unhide BX).up b1)
  have KP := hide (show ∀ X : World, Below w1.heap.size w1 X → (fun X : World => (X.cell? ⟨w.heap.size, 0, none⟩ = some (.int .i64 kind) ∧ X.cell? ⟨w.heap.size, 1, none⟩ = some (.int .i64 src) ∧ X.cell? ⟨w.heap.size, 2, none⟩ = some (.int .i64 dst) ∧ X.cell? ⟨w.heap.size, 3, none⟩ = some (.string name) ∧ X.cell? ⟨w.heap.size, 4, none⟩ = some (.int .i64 val) ∧ X.cell? ⟨w.heap.size, 5, none⟩ = some (.slice a n c)) ∧ Hid (Below w1.heap.size w1 X)) X from fun X b => by
    have x := ((unhide X1).up b).1
    exact ⟨⟨x.at 0 _ rfl, x.at 1 _ rfl, x.at 2 _ rfl, x.at 3 _ rfl, x.at 4 _ rfl, x.at 5 _ rfl⟩, hide b⟩)
  have BD := hide ((Below.refl w1.heap.size w1).drew)
  have hS := unhide KP w1 (Below.refl _ _)
  obtain ⟨⟨x0, x1, x2, x3, x4, x5⟩, -⟩ := hS
  clear b1 bb c0 c1 c2 c3 c4 c5 HO
  go_wp2_with fail
  go_region_held3 (fun X : World => (X.cell? ⟨w.heap.size, 0, none⟩ = some (.int .i64 kind) ∧ X.cell? ⟨w.heap.size, 1, none⟩ = some (.int .i64 src) ∧ X.cell? ⟨w.heap.size, 2, none⟩ = some (.int .i64 dst) ∧ X.cell? ⟨w.heap.size, 3, none⟩ = some (.string name) ∧ X.cell? ⟨w.heap.size, 4, none⟩ = some (.int .i64 val) ∧ X.cell? ⟨w.heap.size, 5, none⟩ = some (.slice a n c)) ∧ Hid (Below w1.heap.size w1 X)) ((refine unhide KP _ ?_; exact unhide (by assumption)))
    (first
      | (go_at_call 15; refine (newLex_any _).mono ?_; rintro e w2 ⟨lb, kb, rfl, HL2, hl2, hk2, b2⟩; have BB2 := hide ((unhide BD).trans (b2.mono (unhide BD).size)); have hwl := Nat.le_trans (unhide B1).size (Nat.le_trans (unhide BD).size hl2); clear b2)
      | (go_at_call 16; refine (unhide HLN _ lb kb ((unhide B1).trans ((unhide BB2).mono (unhide B1).size)) hwl (unhide HL2)).mono ?_; rintro e w3 ⟨rfl, t3⟩; have BB3 := hide ((unhide BB2).trans (t3.below (unhide BB2).size (by simp; exact Nat.le_trans (unhide BD).size hl2))); clear t3)
      | fail)
  all_goals
    go_wp2_with fail
    go_ret
    exact ⟨by rw [unhide HE]; rfl, (unhide B1).trans ((unhide BB3).mono (unhide B1).size)⟩
end Go.Proofs.YtiebfcefmdiajaaDoor
