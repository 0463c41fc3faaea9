/-
  RecRead of both sides.
-/
import Derived.Test.YtcpjcdbhcllbiaaRecMath
set_option linter.unusedVariables false
namespace Go.Proofs.Ytcpjcdbhcllbiaa
open Go.RowKit Go.Maps Go.Deep

def readVal (o : Option (RecV × Nat)) : Value :=
  match o with
  | some (r, n) => .tuple #[.agg #[.int .i64 r.kind, .string r.name, .int .i64 r.num, .string r.text], .int .i64 (n : Int), .bool true]
  | none => .tuple #[.agg #[.int .i64 0, .string ⟨#[]⟩, .int .i64 0, .string ⟨#[]⟩], .int .i64 0, .bool false]
def RetRead (bs : List UInt8) (w : World) (e : Ending) (w' : World) : Prop := ∃ o, e = .returned (readVal o) ∧ Hid (IsRead bs o) ∧ Below w.heap.size w w'

/-- a kind takes what it has -/
def TakeSaid (f : FuncId) (K : List UInt8 → Bool → Int × ByteArray × List UInt8 × Bool) : Prop := ∀ (B g q : Nat) (w : World) (v : Value) (rest : List UInt8) (short : Bool) (k : Int) (nm : ByteArray), rest.length ≤ 1048576 → B ≤ q → q ≠ g → RdIs B w g v rest short → BoxF w q [.int .i64 k, .string nm, .int .i64 0, .string ⟨#[]⟩] →
  Calls Try.prog f #[.agg #[], .pointer (some ⟨g, 0, none⟩), .pointer (some ⟨q, 0, none⟩)] w fun e w' => e = .returned (.tuple #[]) ∧ Hid (∃ v', RdIs B w' g v' (K rest short).2.2.1 (K rest short).2.2.2 ∧ BoxF w' q [.int .i64 k, .string nm, .int .i64 (K rest short).1, .string (K rest short).2.1] ∧ Turn [g, q] w w')
set_option maxHeartbeats 1600000 in
theorem take_remove : TakeSaid 55 (fun rest s => (0, ⟨#[]⟩, rest, s)) := by
  intro B g q w v rest short k nm hl hq hne hr hb
  have HR := hide (hr.turn (S := []) (Turn.of_alloc [] w (.cells #[] 63)) (by simp) (by simp))
  have HB := hide (hb.up ((Below.refl _ _).alloc (Nat.le_refl _) (.cells #[] 63)))
  clear hr hb
  go_enter Try.func55, Try.ntmps55
  go_wp2_with fail
  go_end0
  exact ⟨rfl, hide ⟨v, unhide HR, unhide HB, (Turn.refl _ _).alloc _⟩⟩
set_option maxHeartbeats 1600000 in
theorem take_value : TakeSaid 58 (fun rest s => (numL (takeL 8 rest), ⟨#[]⟩, leftL 8 rest, shortB 8 rest s)) := by
  intro B g q w v rest short k nm hl hq hne hr hb
  have HR := hide (hr.turn (S := []) (Turn.of_alloc [] w (.cells #[] 64)) (by simp) (by simp))
  have HB := hide (hb.up ((Below.refl _ _).alloc (Nat.le_refl _) (.cells #[] 64)))
  have HN := hide (num_any B g _ v rest short 8 (by omega) hl (unhide HR))
  clear hr hb HR
  go_enter Try.func58, Try.ntmps58
  go_wp2_with fail
  refine (unhide HN).mono ?_
  rintro e w1 ⟨v1, rfl, R1, T1⟩
  have HB1 := hide ((unhide HB).turn (unhide T1) (by simpa using hne))
  obtain ⟨⟨x0, x1, x2, x3⟩, f0, f1, f2, f3⟩ := (unhide HB1).four
  have HB2 := hide ((unhide HB1).set 2 (.int .i64 (numL (takeL 8 rest))) (by simp))
  have T2 := hide ((Turn.refl [q] w1).setCell (g := q) (by simp) 2 (.int .i64 (numL (takeL 8 rest))))
  have R2 := hide ((unhide R1).turn (unhide T2) (by simpa using hne.symm) (by simpa using hq))
  have TT := hide (show Turn [g, q] w (w1.setCell ⟨q, 2, none⟩ (.int .i64 (numL (takeL 8 rest)))) from ((Turn.refl _ w).alloc _).trans (((unhide T1).mono (by simp)).trans ((unhide T2).mono (by simp))))
  clear HN R1 T1 T2 HB1
  go_wp2_with fail
  go_end0
  exact ⟨rfl, hide ⟨v1, unhide R2, by simpa using unhide HB2, unhide TT⟩⟩
set_option maxHeartbeats 1600000 in
theorem take_define : TakeSaid 52 (fun rest s => (0, ⟨(textP rest s).got.toArray⟩, (textP rest s).rest, (textP rest s).short)) := by
  intro B g q w v rest short k nm hl hq hne hr hb
  have HR := hide (hr.turn (S := []) (Turn.of_alloc [] w (.cells #[] 62)) (by simp) (by simp))
  have HB := hide (hb.up ((Below.refl _ _).alloc (Nat.le_refl _) (.cells #[] 62)))
  have HN := hide (text_any B g _ v rest short hl (unhide HR))
  clear hr hb HR
  go_enter Try.func52, Try.ntmps52
  go_wp2_with fail
  refine (unhide HN).mono ?_
  rintro e w1 ⟨v1, rfl, R1, T1⟩
  have HB1 := hide ((unhide HB).turn (unhide T1) (by simpa using hne))
  obtain ⟨⟨x0, x1, x2, x3⟩, f0, f1, f2, f3⟩ := (unhide HB1).four
  have HB2 := hide ((unhide HB1).set 3 (.string ⟨(textP rest short).got.toArray⟩) (by simp))
  have T2 := hide ((Turn.refl [q] w1).setCell (g := q) (by simp) 3 (.string ⟨(textP rest short).got.toArray⟩))
  have R2 := hide ((unhide R1).turn (unhide T2) (by simpa using hne.symm) (by simpa using hq))
  have TT := hide (show Turn [g, q] w (w1.setCell ⟨q, 3, none⟩ (.string ⟨(textP rest short).got.toArray⟩)) from ((Turn.refl _ w).alloc _).trans (((unhide T1).mono (by simp)).trans ((unhide T2).mono (by simp))))
  have R3 := hide (show RdIs B (w1.setCell ⟨q, 3, none⟩ (.string ⟨(textP rest short).got.toArray⟩)) g v1 (textP rest short).rest (textP rest short).short from unhide R2)
  have e1 : takeL (numL (takeL 1 rest)).toNat (leftL 1 rest) = (textP rest short).got := rfl
  rw [e1]
  clear HN R1 T1 T2 HB1 e1 R2
  generalize htp : textP rest short = tp at *
  have HTP := hide htp
  clear htp
  go_wp2_with fail
  go_end0
  have htp := unhide HTP
  subst htp
  exact ⟨rfl, hide ⟨v1, unhide R3, by simpa using unhide HB2, unhide TT⟩⟩
theorem bytes_away {w : World} {v : Value} {bs : List UInt8} (h : ByRd w v bs) : ∀ a m c, v = .slice (some a) m c → 1 ≤ bs.length → a.block < w.heap.size := by
  intro a m c e h1
  obtain ⟨a', c', e', hin, _⟩ := h
  rw [e'] at e
  simp only [Value.slice.injEq] at e
  rcases hin with h0 | ⟨b, off, e2, hb, _⟩
  · rw [h0] at h1; simp at h1
  · have e3 := e.1.symm.trans e2
    simp only [Option.some.injEq] at e3
    rw [e3]
    exact hb
/-- a reader, newly made -/
theorem rdNew (w : World) (v : Value) (bs : List UInt8) (A C : Obj) (T : TypeId) (h : ByRd w v bs) : RdIs w.heap.size (((w.alloc A).alloc (.cells #[v, .bool false] T)).alloc C) (w.heap.size + 1) v bs false := by
  have hb2 : Below (w.heap.size + 2) ((w.alloc A).alloc (.cells #[v, .bool false] T)) (((w.alloc A).alloc (.cells #[v, .bool false] T)).alloc C) := (Below.refl _ _).alloc (by simp) _
  have c : ∀ i, (((w.alloc A).alloc (.cells #[v, .bool false] T)).alloc C).cell? ⟨w.heap.size + 1, i, none⟩ = #[v, .bool false][i]? := fun i => by
    rw [hb2.cell (by show w.heap.size + 1 < w.heap.size + 2; omega), World.cell?_alloc_at _ _ _ _ (by simp)]
  have f : ∀ i, (((w.alloc A).alloc (.cells #[v, .bool false] T)).alloc C).frozen? ⟨w.heap.size + 1, i, none⟩ = false := fun i => by
    rw [hb2.frozen (by show w.heap.size + 1 < w.heap.size + 2; omega)]
    simp
  exact ⟨by omega, by simp, c 0, c 1, f 0, f 1, h.up (((((Below.refl _ _).alloc (Nat.le_refl _) _).alloc (by simp) _).alloc (by simp; omega) _)), bytes_away h⟩
-- THE PROGRAM BY KINDS
set_option maxHeartbeats 12800000 in
set_option maxRecDepth 20000 in
theorem implRead_2 (v : Value) (bs : List UInt8) (w : World) (hl : bs.length ≤ 1048576) (h : ByRd w v bs) (hk : kindP bs = 2) : Calls Try.prog 28 #[v] w fun e w' => RetRead bs w e w' := by
  obtain ⟨p0, p1, p2, rfl⟩ : ∃ a n c, v = .slice a n c := by obtain ⟨a, c, e⟩ := h.len; exact ⟨a, _, c, e⟩
  obtain rfl : p1 = bs.length := by obtain ⟨a, c, e⟩ := h.len; simp only [Value.slice.injEq] at e; exact e.2.1
  have hcap : bs.length ≤ p2 := by obtain ⟨a, c, e, _, hc⟩ := h; simp only [Value.slice.injEq] at e; omega
  have HP := hide (show parseP bs = ⟨⟨kindP bs, ⟨(headP bs).got.toArray⟩, 0, ⟨#[]⟩⟩, (headP bs).rest, (headP bs).short⟩ by simp [parseP, tailP, hk])
  have HKV := hide (show kindVal (kindP bs) = .iface 63 (.agg #[]) by simp [kindVal, hk])
  have RD0 := hide (rdNew w (.slice p0 bs.length p2) bs (.cells #[.int .i64 0, .string ⟨#[]⟩, .int .i64 0, .string ⟨#[]⟩] 32) (.cells #[.int .i64 0, .string ⟨#[]⟩, .int .i64 0, .string ⟨#[]⟩] 32) 70 h)
  have BR := hide h
  have X0 := hide (((boxF_new4 w (.int .i64 0) (.string ⟨#[]⟩) (.int .i64 0) (.string ⟨#[]⟩) 32).up ((Below.refl _ _).alloc (Nat.le_refl _) (.cells #[.slice p0 bs.length p2, .bool false] 70))).up ((Below.refl _ _).alloc (Nat.le_refl _) (.cells #[.int .i64 0, .string ⟨#[]⟩, .int .i64 0, .string ⟨#[]⟩] 32)))
  have Y0 := hide (show BoxF (((w.alloc (.cells #[.int .i64 0, .string ⟨#[]⟩, .int .i64 0, .string ⟨#[]⟩] 32)).alloc (.cells #[.slice p0 bs.length p2, .bool false] 70)).alloc (.cells #[.int .i64 0, .string ⟨#[]⟩, .int .i64 0, .string ⟨#[]⟩] 32)) (w.heap.size + 1 + 1) [.int .i64 0, .string ⟨#[]⟩, .int .i64 0, .string ⟨#[]⟩] by
    have := boxF_new4 ((w.alloc (.cells #[.int .i64 0, .string ⟨#[]⟩, .int .i64 0, .string ⟨#[]⟩] 32)).alloc (.cells #[.slice p0 bs.length p2, .bool false] 70)) (.int .i64 0) (.string ⟨#[]⟩) (.int .i64 0) (.string ⟨#[]⟩) 32
    rwa [show ((w.alloc (.cells #[.int .i64 0, .string ⟨#[]⟩, .int .i64 0, .string ⟨#[]⟩] 32)).alloc (.cells #[.slice p0 bs.length p2, .bool false] 70)).heap.size = w.heap.size + 1 + 1 by simp] at this)
  have TW := hide (show Turn [w.heap.size, w.heap.size + 1, w.heap.size + 1 + 1] w (((w.alloc (.cells #[.int .i64 0, .string ⟨#[]⟩, .int .i64 0, .string ⟨#[]⟩] 32)).alloc (.cells #[.slice p0 bs.length p2, .bool false] 70)).alloc (.cells #[.int .i64 0, .string ⟨#[]⟩, .int .i64 0, .string ⟨#[]⟩] 32)) from (((Turn.refl _ w).alloc _).alloc _).alloc _)
  have hdl : (leftL 1 bs).length ≤ 1048576 := by
    unfold leftL
    split
    · simp; omega
    · exact hl
  have h2b := head_rest_le bs
  have h2l : (headP bs).rest.length ≤ 1048576 := by omega
  have HFIT := hide (parse_fit bs hl)
  rw [unhide HP] at HFIT
  have HHN := hide (fun W (r : RdIs w.heap.size W (w.heap.size + 1) (.slice p0 bs.length p2) bs false) => num_any w.heap.size (w.heap.size + 1) W _ bs false 1 (by omega) hl r)
  have HHT := hide (fun W v1 (r : RdIs w.heap.size W (w.heap.size + 1) v1 (leftL 1 bs) (shortB 1 bs false)) => text_any w.heap.size (w.heap.size + 1) W v1 _ _ hdl r)
  clear h hk
  go_enter Try.func28, Try.ntmps28
  go_wp2_with fail
  generalize hW : (((w.alloc (.cells #[.int .i64 0, .string ⟨#[]⟩, .int .i64 0, .string ⟨#[]⟩] 32)).alloc (.cells #[.slice p0 bs.length p2, .bool false] 70)).alloc (.cells #[.int .i64 0, .string ⟨#[]⟩, .int .i64 0, .string ⟨#[]⟩] 32)) = W0 at *
  clear hW
  refine (unhide HHN _ (unhide RD0)).mono ?_
  rintro e w1 ⟨v1, rfl, R1, T1⟩
  have X1 := hide ((unhide X0).turn (unhide T1) (by intro hm; simp at hm <;> omega))
  have Y1 := hide ((unhide Y0).turn (unhide T1) (by intro hm; simp at hm <;> omega))
  have TW1 := hide ((unhide TW).trans ((unhide T1).mono (by simp)))
  clear X0 Y0 TW T1 RD0 HHN
  have ek : numL (takeL 1 bs) = kindP bs := rfl
  rw [ek]
  clear ek
  obtain ⟨⟨y0, y1, y2, y3⟩, f0, f1, f2, f3⟩ := (unhide Y1).four
  go_wp2_with fail
  clear y0 y1 y2 y3 f0 f1 f2 f3
  have T1s := hide ((Turn.refl [w.heap.size + 1 + 1] w1).setCell (g := w.heap.size + 1 + 1) (by simp) 0 (.int .i64 (kindP bs)))
  have R1s := hide ((unhide R1).turn (unhide T1s) (by intro hm; simp at hm <;> omega) (by intro k hk; simp at hk <;> omega))
  have X1s := hide ((unhide X1).turn (unhide T1s) (by intro hm; simp at hm <;> omega))
  have Y1s := hide ((unhide Y1).set 0 (.int .i64 (kindP bs)) (by simp))
  have TW1s := hide ((unhide TW1).trans ((unhide T1s).mono (by simp)))
  simp only [List.set] at Y1s
  generalize w1.setCell ⟨w.heap.size + 1 + 1, 0, none⟩ (.int .i64 (kindP bs)) = W1 at *
  clear R1 X1 Y1 TW1 T1s
  refine (unhide HHT _ _ (unhide R1s)).mono ?_
  rintro e w2 ⟨v2, rfl, R2, T2⟩
  have R2' := hide (show RdIs w.heap.size w2 (w.heap.size + 1) v2 (headP bs).rest (headP bs).short from unhide R2)
  have en : takeL (numL (takeL 1 (leftL 1 bs))).toNat (leftL 1 (leftL 1 bs)) = (headP bs).got := rfl
  rw [en]
  have X2 := hide ((unhide X1s).turn (unhide T2) (by intro hm; simp at hm <;> omega))
  have Y2 := hide ((unhide Y1s).turn (unhide T2) (by intro hm; simp at hm <;> omega))
  have TW2 := hide ((unhide TW1s).trans ((unhide T2).mono (by simp)))
  clear X1s Y1s TW1s R1s R2 HHT en
  generalize (headP bs).got.toArray = nm at *
  generalize (headP bs).rest = rest2 at *
  generalize (headP bs).short = s2 at *
  obtain ⟨⟨y0, y1, y2, y3⟩, f0, f1, f2, f3⟩ := (unhide Y2).four
  have T2s := hide ((Turn.refl [w.heap.size + 1 + 1] w2).setCell (g := w.heap.size + 1 + 1) (by simp) 1 (.string ⟨nm⟩))
  have R2s := hide ((unhide R2').turn (unhide T2s) (by intro hm; simp at hm <;> omega) (by intro k hk; simp at hk <;> omega))
  have X2s := hide ((unhide X2).turn (unhide T2s) (by intro hm; simp at hm <;> omega))
  have Y2s := hide ((unhide Y2).set 1 (.string ⟨nm⟩) (by simp))
  have TW2s := hide ((unhide TW2).trans ((unhide T2s).mono (by simp)))
  simp only [List.set] at Y2s
  go_wp2_with (first
    | (go_at_call 23; refine (recKindOf_any (kindP bs) _).mono ?_; rintro e w9 ⟨rfl, hw9⟩; rw [hw9, unhide HKV]; clear hw9 w9)
    | fail)
  refine (take_remove w.heap.size (w.heap.size + 1) (w.heap.size + 1 + 1) _ v2 rest2 s2 (kindP bs) ⟨nm⟩ h2l (by omega) (by omega) (unhide R2s) (unhide Y2s)).mono ?_
  rintro e w3 ⟨rfl, P3⟩
  obtain ⟨v3, R3p, Y3p, T3⟩ := unhide P3
  have X3 := hide ((unhide X2s).turn T3 (by intro hm; simp at hm <;> omega))
  have TW3 := hide ((unhide TW2s).trans (T3.mono (by simp)))
  have R3 := hide (show RdIs w.heap.size w3 (w.heap.size + 1) v3 (rest2) (s2) from R3p)
  have Y3 := hide (show BoxF w3 (w.heap.size + 1 + 1) [.int .i64 (kindP bs), .string ⟨nm⟩, .int .i64 (0), .string (⟨#[]⟩)] from Y3p)
  clear R3p Y3p P3 T3 X2s Y2s R2s TW2s X2 Y2 TW2 R2' y0 y1 y2 y3 f0 f1 f2 f3 T2 T2s
  have h3b : (rest2).length ≤ bs.length := by omega
  have HD := hide (show ByRd w3 (.slice p0 (bs.length - (rest2).length) p2) (bs.take (bs.length - (rest2).length)) from by
    obtain ⟨a, c, e, hin, hc⟩ := (unhide BR).up ((unhide TW3).below (Nat.le_refl _) (fun k hk => by simp at hk; omega))
    simp only [Value.slice.injEq] at e
    obtain ⟨rfl, _, rfl⟩ := e
    exact cut_take hin hc _ (by omega))
  obtain ⟨q0, q1, q2, rfl⟩ : ∃ a n c, v3 = .slice a n c := by obtain ⟨a, c, e⟩ := (unhide R3).by'.len; exact ⟨a, _, c, e⟩
  obtain rfl : q1 = (rest2).length := by obtain ⟨a, c, e⟩ := (unhide R3).by'.len; simp only [Value.slice.injEq] at e; exact e.2.1
  have r0 := (unhide R3).c0
  have hint : (bs.length : Int) - ((rest2).length : Int) = ((bs.length - (rest2).length : Nat) : Int) := by omega
  have hdc : bs.length - (rest2).length ≤ p2 := by omega
  have hdl2 : bs.length - (rest2).length ≤ 1048576 := by omega
  have HN2 := hide (num_any w.heap.size (w.heap.size + 1) w3 _ _ _ 2 (by omega) (by omega) (unhide R3))
  generalize hdd : bs.length - (rest2).length = dd at *
  have HDD := hide hdd
  clear hdd
  go_wp2_with fail
  clear r0
  refine (unhide HN2).mono ?_
  rintro e w4 ⟨v4, rfl, R4, T4⟩
  have X4 := hide ((unhide X3).turn (unhide T4) (by intro hm; simp at hm <;> omega))
  have Y4 := hide ((unhide Y3).turn (unhide T4) (by intro hm; simp at hm <;> omega))
  have TW4 := hide ((unhide TW3).trans ((unhide T4).mono (by simp)))
  have HD4 := hide (show ByRd w4 (.slice p0 dd p2) (bs.take dd) from by
    obtain ⟨a, c, e, hin, hc⟩ := (unhide BR).up ((unhide TW4).below (Nat.le_refl _) (fun k hk => by simp at hk; omega))
    simp only [Value.slice.injEq] at e
    obtain ⟨rfl, _, rfl⟩ := e
    exact cut_take hin hc _ (by omega))
  clear X3 Y3 TW3 R3 T4 HN2 HD
  have HF2 := hide (fun W => implRecOk_any ⟨kindP bs, ⟨nm⟩, 0, ⟨#[]⟩⟩ W (unhide HFIT))
  unfold recVal at HF2
  simp only at HF2
  have r1 := (unhide R4).c1
  obtain ⟨⟨y0, y1, y2, y3⟩, f0, f1, f2, f3⟩ := (unhide Y4).four
  have B4 := hide ((unhide TW4).below (Nat.le_refl _) (by intro k hk; simp at hk <;> omega))
  have hsl : (bs.take dd).length ≤ maxLen := by simp; unfold maxLen; omega
  generalize hsm : numL (takeL 2 rest2) = sm at *
  have HSM := hide hsm
  clear hsm
  cases hs4 : shortB 2 rest2 s2
  · rw [hs4] at r1
    cases hok : recOkB ⟨kindP bs, ⟨nm⟩, 0, ⟨#[]⟩⟩
    · rw [hok] at HF2
      have HO := hide (show IsRead bs none by rw [← readI_no (unhide HP) (.inr (.inl hok))]; exact readI_is bs)
      clear hok hs4
      go_wp2_with fail
      refine (unhide HF2 _).mono ?_
      rintro e w5 ⟨rfl, b5⟩
      have X5 := hide ((unhide X4).up b5)
      have B5 := hide ((unhide B4).trans (b5.mono (unhide B4).size))
      clear b5 y0 y1 y2 y3 f0 f1 f2 f3 r1
      obtain ⟨⟨x0, x1, x2, x3⟩, g0, g1, g2, g3⟩ := (unhide X5).four
      go_wp2_with fail
      refine bodyPost_ret (v := readVal none) (by simp [results, Try.results28, go_sem, x0, x1, x2, x3, readVal]) rfl ?_
      exact ⟨none, rfl, HO, (unhide B5).trans (Turn.below (S := [w.heap.size]) (((((Turn.refl [w.heap.size] w5).setCell (g := w.heap.size) (by simp) _ _).setCell (g := w.heap.size) (by simp) _ _).setCell (g := w.heap.size) (by simp) _ _).setCell (g := w.heap.size) (by simp) _ _) (unhide B5).size (by simp))⟩
    · rw [hok] at HF2
      by_cases heq : sm = recSum (bs.take dd)
      · have HO := hide (show IsRead bs (some (⟨kindP bs, ⟨nm⟩, 0, ⟨#[]⟩⟩, dd + 2)) by
          have h := readI_yes (unhide HP) hs4 hok ((unhide HSM).trans (by rw [unhide HDD]; exact heq))
          rw [unhide HDD, List.length_take, Nat.min_eq_left (by have := unhide HDD; omega)] at h
          rw [← h]
          exact readI_is bs)
        have HQ := hide heq
        clear hok hs4 heq
        go_wp2_with fail
        refine (unhide HF2 _).mono ?_
        rintro e w5 ⟨rfl, b5⟩
        have X5 := hide ((unhide X4).up b5)
        have Y5 := hide ((unhide Y4).up b5)
        have HD5 := hide ((unhide HD4).up b5)
        have B5 := hide ((unhide B4).trans (b5.mono (unhide B4).size))
        clear b5 y0 y1 y2 y3 f0 f1 f2 f3 r1
        obtain ⟨⟨x0, x1, x2, x3⟩, g0, g1, g2, g3⟩ := (unhide X5).four
        obtain ⟨⟨y0, y1, y2, y3⟩, f0, f1, f2, f3⟩ := (unhide Y5).four
        go_wp2_with (first
          | (go_at_call 24; refine (implSum_any _ _ (bs.take dd) hsl (unhide HD5)).mono ?_; rw [← unhide HQ]; rintro e w6 ⟨rfl, hw6⟩; rw [hw6]; clear hw6 w6)
          | fail)
        refine bodyPost_ret (v := readVal (some (⟨kindP bs, ⟨nm⟩, 0, ⟨#[]⟩⟩, dd + 2))) (by simp [results, Try.results28, go_sem, x0, x1, x2, x3, readVal]) rfl ?_
        exact ⟨_, rfl, HO, (unhide B5).trans (Turn.below (S := [w.heap.size]) (((((Turn.refl [w.heap.size] w5).setCell (g := w.heap.size) (by simp) _ _).setCell (g := w.heap.size) (by simp) _ _).setCell (g := w.heap.size) (by simp) _ _).setCell (g := w.heap.size) (by simp) _ _) (unhide B5).size (by simp))⟩
      · have HO := hide (show IsRead bs none by rw [← readI_no (unhide HP) (.inr (.inr (by rw [unhide HSM, unhide HDD]; exact heq)))]; exact readI_is bs)
        generalize hsx : recSum (bs.take dd) = sx at *
        have HSX := hide hsx
        have hne : (sm != sx) = true := by simpa using heq
        clear hok hs4 heq hsx
        go_wp2_with fail
        refine (unhide HF2 _).mono ?_
        rintro e w5 ⟨rfl, b5⟩
        have X5 := hide ((unhide X4).up b5)
        have HD5 := hide ((unhide HD4).up b5)
        have B5 := hide ((unhide B4).trans (b5.mono (unhide B4).size))
        clear b5 y0 y1 y2 y3 f0 f1 f2 f3 r1
        obtain ⟨⟨x0, x1, x2, x3⟩, g0, g1, g2, g3⟩ := (unhide X5).four
        go_wp2_with (first
          | (go_at_call 24; refine (implSum_any _ _ (bs.take dd) hsl (unhide HD5)).mono ?_; rw [unhide HSX]; rintro e w6 ⟨rfl, hw6⟩; rw [hw6]; clear hw6 w6)
          | fail)
        refine bodyPost_ret (v := readVal none) (by simp [results, Try.results28, go_sem, x0, x1, x2, x3, readVal]) rfl ?_
        exact ⟨none, rfl, HO, (unhide B5).trans (Turn.below (S := [w.heap.size]) (((((Turn.refl [w.heap.size] w5).setCell (g := w.heap.size) (by simp) _ _).setCell (g := w.heap.size) (by simp) _ _).setCell (g := w.heap.size) (by simp) _ _).setCell (g := w.heap.size) (by simp) _ _) (unhide B5).size (by simp))⟩
  · rw [hs4] at r1
    have HO := hide (show IsRead bs none by rw [← readI_no (unhide HP) (.inl hs4)]; exact readI_is bs)
    clear hs4
    obtain ⟨⟨x0, x1, x2, x3⟩, g0, g1, g2, g3⟩ := (unhide X4).four
    go_wp2_with fail
    refine bodyPost_ret (v := readVal none) (by simp [results, Try.results28, go_sem, x0, x1, x2, x3, readVal]) rfl ?_
    exact ⟨none, rfl, HO, (unhide B4).trans (Turn.below (S := [w.heap.size]) (((((Turn.refl [w.heap.size] w4).setCell (g := w.heap.size) (by simp) _ _).setCell (g := w.heap.size) (by simp) _ _).setCell (g := w.heap.size) (by simp) _ _).setCell (g := w.heap.size) (by simp) _ _) (unhide B4).size (by simp))⟩
set_option maxHeartbeats 12800000 in
set_option maxRecDepth 20000 in
theorem implRead_0 (v : Value) (bs : List UInt8) (w : World) (hl : bs.length ≤ 1048576) (h : ByRd w v bs) (hk : ¬ kindP bs = 1 ∧ ¬ kindP bs = 2 ∧ ¬ kindP bs = 3 ∧ ¬ kindP bs = 4) : Calls Try.prog 28 #[v] w fun e w' => RetRead bs w e w' := by
  obtain ⟨p0, p1, p2, rfl⟩ : ∃ a n c, v = .slice a n c := by obtain ⟨a, c, e⟩ := h.len; exact ⟨a, _, c, e⟩
  obtain rfl : p1 = bs.length := by obtain ⟨a, c, e⟩ := h.len; simp only [Value.slice.injEq] at e; exact e.2.1
  have hcap : bs.length ≤ p2 := by obtain ⟨a, c, e, _, hc⟩ := h; simp only [Value.slice.injEq] at e; omega
  have HP := hide (show parseP bs = ⟨⟨kindP bs, ⟨(headP bs).got.toArray⟩, 0, ⟨#[]⟩⟩, (headP bs).rest, (headP bs).short⟩ by simp [parseP, tailP, hk.1, hk.2.2.1, hk.2.2.2])
  have HKV := hide (show kindVal (kindP bs) = .nilIface by simp [kindVal, hk.1, hk.2.1, hk.2.2.1, hk.2.2.2])
  have RD0 := hide (rdNew w (.slice p0 bs.length p2) bs (.cells #[.int .i64 0, .string ⟨#[]⟩, .int .i64 0, .string ⟨#[]⟩] 32) (.cells #[.int .i64 0, .string ⟨#[]⟩, .int .i64 0, .string ⟨#[]⟩] 32) 70 h)
  have BR := hide h
  have X0 := hide (((boxF_new4 w (.int .i64 0) (.string ⟨#[]⟩) (.int .i64 0) (.string ⟨#[]⟩) 32).up ((Below.refl _ _).alloc (Nat.le_refl _) (.cells #[.slice p0 bs.length p2, .bool false] 70))).up ((Below.refl _ _).alloc (Nat.le_refl _) (.cells #[.int .i64 0, .string ⟨#[]⟩, .int .i64 0, .string ⟨#[]⟩] 32)))
  have Y0 := hide (show BoxF (((w.alloc (.cells #[.int .i64 0, .string ⟨#[]⟩, .int .i64 0, .string ⟨#[]⟩] 32)).alloc (.cells #[.slice p0 bs.length p2, .bool false] 70)).alloc (.cells #[.int .i64 0, .string ⟨#[]⟩, .int .i64 0, .string ⟨#[]⟩] 32)) (w.heap.size + 1 + 1) [.int .i64 0, .string ⟨#[]⟩, .int .i64 0, .string ⟨#[]⟩] by
    have := boxF_new4 ((w.alloc (.cells #[.int .i64 0, .string ⟨#[]⟩, .int .i64 0, .string ⟨#[]⟩] 32)).alloc (.cells #[.slice p0 bs.length p2, .bool false] 70)) (.int .i64 0) (.string ⟨#[]⟩) (.int .i64 0) (.string ⟨#[]⟩) 32
    rwa [show ((w.alloc (.cells #[.int .i64 0, .string ⟨#[]⟩, .int .i64 0, .string ⟨#[]⟩] 32)).alloc (.cells #[.slice p0 bs.length p2, .bool false] 70)).heap.size = w.heap.size + 1 + 1 by simp] at this)
  have TW := hide (show Turn [w.heap.size, w.heap.size + 1, w.heap.size + 1 + 1] w (((w.alloc (.cells #[.int .i64 0, .string ⟨#[]⟩, .int .i64 0, .string ⟨#[]⟩] 32)).alloc (.cells #[.slice p0 bs.length p2, .bool false] 70)).alloc (.cells #[.int .i64 0, .string ⟨#[]⟩, .int .i64 0, .string ⟨#[]⟩] 32)) from (((Turn.refl _ w).alloc _).alloc _).alloc _)
  have hdl : (leftL 1 bs).length ≤ 1048576 := by
    unfold leftL
    split
    · simp; omega
    · exact hl
  have h2b := head_rest_le bs
  have h2l : (headP bs).rest.length ≤ 1048576 := by omega
  have HFIT := hide (parse_fit bs hl)
  rw [unhide HP] at HFIT
  have HHN := hide (fun W (r : RdIs w.heap.size W (w.heap.size + 1) (.slice p0 bs.length p2) bs false) => num_any w.heap.size (w.heap.size + 1) W _ bs false 1 (by omega) hl r)
  have HHT := hide (fun W v1 (r : RdIs w.heap.size W (w.heap.size + 1) v1 (leftL 1 bs) (shortB 1 bs false)) => text_any w.heap.size (w.heap.size + 1) W v1 _ _ hdl r)
  clear h hk
  go_enter Try.func28, Try.ntmps28
  go_wp2_with fail
  generalize hW : (((w.alloc (.cells #[.int .i64 0, .string ⟨#[]⟩, .int .i64 0, .string ⟨#[]⟩] 32)).alloc (.cells #[.slice p0 bs.length p2, .bool false] 70)).alloc (.cells #[.int .i64 0, .string ⟨#[]⟩, .int .i64 0, .string ⟨#[]⟩] 32)) = W0 at *
  clear hW
  refine (unhide HHN _ (unhide RD0)).mono ?_
  rintro e w1 ⟨v1, rfl, R1, T1⟩
  have X1 := hide ((unhide X0).turn (unhide T1) (by intro hm; simp at hm <;> omega))
  have Y1 := hide ((unhide Y0).turn (unhide T1) (by intro hm; simp at hm <;> omega))
  have TW1 := hide ((unhide TW).trans ((unhide T1).mono (by simp)))
  clear X0 Y0 TW T1 RD0 HHN
  have ek : numL (takeL 1 bs) = kindP bs := rfl
  rw [ek]
  clear ek
  obtain ⟨⟨y0, y1, y2, y3⟩, f0, f1, f2, f3⟩ := (unhide Y1).four
  go_wp2_with fail
  clear y0 y1 y2 y3 f0 f1 f2 f3
  have T1s := hide ((Turn.refl [w.heap.size + 1 + 1] w1).setCell (g := w.heap.size + 1 + 1) (by simp) 0 (.int .i64 (kindP bs)))
  have R1s := hide ((unhide R1).turn (unhide T1s) (by intro hm; simp at hm <;> omega) (by intro k hk; simp at hk <;> omega))
  have X1s := hide ((unhide X1).turn (unhide T1s) (by intro hm; simp at hm <;> omega))
  have Y1s := hide ((unhide Y1).set 0 (.int .i64 (kindP bs)) (by simp))
  have TW1s := hide ((unhide TW1).trans ((unhide T1s).mono (by simp)))
  simp only [List.set] at Y1s
  generalize w1.setCell ⟨w.heap.size + 1 + 1, 0, none⟩ (.int .i64 (kindP bs)) = W1 at *
  clear R1 X1 Y1 TW1 T1s
  refine (unhide HHT _ _ (unhide R1s)).mono ?_
  rintro e w2 ⟨v2, rfl, R2, T2⟩
  have R2' := hide (show RdIs w.heap.size w2 (w.heap.size + 1) v2 (headP bs).rest (headP bs).short from unhide R2)
  have en : takeL (numL (takeL 1 (leftL 1 bs))).toNat (leftL 1 (leftL 1 bs)) = (headP bs).got := rfl
  rw [en]
  have X2 := hide ((unhide X1s).turn (unhide T2) (by intro hm; simp at hm <;> omega))
  have Y2 := hide ((unhide Y1s).turn (unhide T2) (by intro hm; simp at hm <;> omega))
  have TW2 := hide ((unhide TW1s).trans ((unhide T2).mono (by simp)))
  clear X1s Y1s TW1s R1s R2 HHT en
  generalize (headP bs).got.toArray = nm at *
  generalize (headP bs).rest = rest2 at *
  generalize (headP bs).short = s2 at *
  obtain ⟨⟨y0, y1, y2, y3⟩, f0, f1, f2, f3⟩ := (unhide Y2).four
  have T2s := hide ((Turn.refl [w.heap.size + 1 + 1] w2).setCell (g := w.heap.size + 1 + 1) (by simp) 1 (.string ⟨nm⟩))
  have R2s := hide ((unhide R2').turn (unhide T2s) (by intro hm; simp at hm <;> omega) (by intro k hk; simp at hk <;> omega))
  have X2s := hide ((unhide X2).turn (unhide T2s) (by intro hm; simp at hm <;> omega))
  have Y2s := hide ((unhide Y2).set 1 (.string ⟨nm⟩) (by simp))
  have TW2s := hide ((unhide TW2).trans ((unhide T2s).mono (by simp)))
  simp only [List.set] at Y2s
  go_wp2_with fail
  generalize w2.setCell ⟨w.heap.size + 1 + 1, 1, none⟩ (.string ⟨nm⟩) = w3 at *
  refine (recKindOf_any (kindP bs) _).mono ?_
  rintro e w9 ⟨rfl, hw9⟩
  rw [hw9, unhide HKV]
  clear hw9 w9
  obtain ⟨v3, rfl⟩ : ∃ x, x = v2 := ⟨v2, rfl⟩
  have X3 := X2s
  have Y3 := Y2s
  have R3 := R2s
  have TW3 := TW2s
  clear X2s Y2s R2s TW2s X2 Y2 TW2 R2' y0 y1 y2 y3 f0 f1 f2 f3 T2 T2s
  have h3b : (rest2).length ≤ bs.length := by omega
  have HD := hide (show ByRd w3 (.slice p0 (bs.length - (rest2).length) p2) (bs.take (bs.length - (rest2).length)) from by
    obtain ⟨a, c, e, hin, hc⟩ := (unhide BR).up ((unhide TW3).below (Nat.le_refl _) (fun k hk => by simp at hk; omega))
    simp only [Value.slice.injEq] at e
    obtain ⟨rfl, _, rfl⟩ := e
    exact cut_take hin hc _ (by omega))
  obtain ⟨q0, q1, q2, rfl⟩ : ∃ a n c, v3 = .slice a n c := by obtain ⟨a, c, e⟩ := (unhide R3).by'.len; exact ⟨a, _, c, e⟩
  obtain rfl : q1 = (rest2).length := by obtain ⟨a, c, e⟩ := (unhide R3).by'.len; simp only [Value.slice.injEq] at e; exact e.2.1
  have r0 := (unhide R3).c0
  have hint : (bs.length : Int) - ((rest2).length : Int) = ((bs.length - (rest2).length : Nat) : Int) := by omega
  have hdc : bs.length - (rest2).length ≤ p2 := by omega
  have hdl2 : bs.length - (rest2).length ≤ 1048576 := by omega
  have HN2 := hide (num_any w.heap.size (w.heap.size + 1) w3 _ _ _ 2 (by omega) (by omega) (unhide R3))
  generalize hdd : bs.length - (rest2).length = dd at *
  have HDD := hide hdd
  clear hdd
  go_wp2_with fail
  clear r0
  refine (unhide HN2).mono ?_
  rintro e w4 ⟨v4, rfl, R4, T4⟩
  have X4 := hide ((unhide X3).turn (unhide T4) (by intro hm; simp at hm <;> omega))
  have Y4 := hide ((unhide Y3).turn (unhide T4) (by intro hm; simp at hm <;> omega))
  have TW4 := hide ((unhide TW3).trans ((unhide T4).mono (by simp)))
  have HD4 := hide (show ByRd w4 (.slice p0 dd p2) (bs.take dd) from by
    obtain ⟨a, c, e, hin, hc⟩ := (unhide BR).up ((unhide TW4).below (Nat.le_refl _) (fun k hk => by simp at hk; omega))
    simp only [Value.slice.injEq] at e
    obtain ⟨rfl, _, rfl⟩ := e
    exact cut_take hin hc _ (by omega))
  clear X3 Y3 TW3 R3 T4 HN2 HD
  have HF2 := hide (fun W => implRecOk_any ⟨kindP bs, ⟨nm⟩, 0, ⟨#[]⟩⟩ W (unhide HFIT))
  unfold recVal at HF2
  simp only at HF2
  have r1 := (unhide R4).c1
  obtain ⟨⟨y0, y1, y2, y3⟩, f0, f1, f2, f3⟩ := (unhide Y4).four
  have B4 := hide ((unhide TW4).below (Nat.le_refl _) (by intro k hk; simp at hk <;> omega))
  have hsl : (bs.take dd).length ≤ maxLen := by simp; unfold maxLen; omega
  generalize hsm : numL (takeL 2 rest2) = sm at *
  have HSM := hide hsm
  clear hsm
  cases hs4 : shortB 2 rest2 s2
  · rw [hs4] at r1
    cases hok : recOkB ⟨kindP bs, ⟨nm⟩, 0, ⟨#[]⟩⟩
    · rw [hok] at HF2
      have HO := hide (show IsRead bs none by rw [← readI_no (unhide HP) (.inr (.inl hok))]; exact readI_is bs)
      clear hok hs4
      go_wp2_with fail
      refine (unhide HF2 _).mono ?_
      rintro e w5 ⟨rfl, b5⟩
      have X5 := hide ((unhide X4).up b5)
      have B5 := hide ((unhide B4).trans (b5.mono (unhide B4).size))
      clear b5 y0 y1 y2 y3 f0 f1 f2 f3 r1
      obtain ⟨⟨x0, x1, x2, x3⟩, g0, g1, g2, g3⟩ := (unhide X5).four
      go_wp2_with fail
      refine bodyPost_ret (v := readVal none) (by simp [results, Try.results28, go_sem, x0, x1, x2, x3, readVal]) rfl ?_
      exact ⟨none, rfl, HO, (unhide B5).trans (Turn.below (S := [w.heap.size]) (((((Turn.refl [w.heap.size] w5).setCell (g := w.heap.size) (by simp) _ _).setCell (g := w.heap.size) (by simp) _ _).setCell (g := w.heap.size) (by simp) _ _).setCell (g := w.heap.size) (by simp) _ _) (unhide B5).size (by simp))⟩
    · rw [hok] at HF2
      by_cases heq : sm = recSum (bs.take dd)
      · have HO := hide (show IsRead bs (some (⟨kindP bs, ⟨nm⟩, 0, ⟨#[]⟩⟩, dd + 2)) by
          have h := readI_yes (unhide HP) hs4 hok ((unhide HSM).trans (by rw [unhide HDD]; exact heq))
          rw [unhide HDD, List.length_take, Nat.min_eq_left (by have := unhide HDD; omega)] at h
          rw [← h]
          exact readI_is bs)
        have HQ := hide heq
        clear hok hs4 heq
        go_wp2_with fail
        refine (unhide HF2 _).mono ?_
        rintro e w5 ⟨rfl, b5⟩
        have X5 := hide ((unhide X4).up b5)
        have Y5 := hide ((unhide Y4).up b5)
        have HD5 := hide ((unhide HD4).up b5)
        have B5 := hide ((unhide B4).trans (b5.mono (unhide B4).size))
        clear b5 y0 y1 y2 y3 f0 f1 f2 f3 r1
        obtain ⟨⟨x0, x1, x2, x3⟩, g0, g1, g2, g3⟩ := (unhide X5).four
        obtain ⟨⟨y0, y1, y2, y3⟩, f0, f1, f2, f3⟩ := (unhide Y5).four
        go_wp2_with (first
          | (go_at_call 24; refine (implSum_any _ _ (bs.take dd) hsl (unhide HD5)).mono ?_; rw [← unhide HQ]; rintro e w6 ⟨rfl, hw6⟩; rw [hw6]; clear hw6 w6)
          | fail)
        refine bodyPost_ret (v := readVal (some (⟨kindP bs, ⟨nm⟩, 0, ⟨#[]⟩⟩, dd + 2))) (by simp [results, Try.results28, go_sem, x0, x1, x2, x3, readVal]) rfl ?_
        exact ⟨_, rfl, HO, (unhide B5).trans (Turn.below (S := [w.heap.size]) (((((Turn.refl [w.heap.size] w5).setCell (g := w.heap.size) (by simp) _ _).setCell (g := w.heap.size) (by simp) _ _).setCell (g := w.heap.size) (by simp) _ _).setCell (g := w.heap.size) (by simp) _ _) (unhide B5).size (by simp))⟩
      · have HO := hide (show IsRead bs none by rw [← readI_no (unhide HP) (.inr (.inr (by rw [unhide HSM, unhide HDD]; exact heq)))]; exact readI_is bs)
        generalize hsx : recSum (bs.take dd) = sx at *
        have HSX := hide hsx
        have hne : (sm != sx) = true := by simpa using heq
        clear hok hs4 heq hsx
        go_wp2_with fail
        refine (unhide HF2 _).mono ?_
        rintro e w5 ⟨rfl, b5⟩
        have X5 := hide ((unhide X4).up b5)
        have HD5 := hide ((unhide HD4).up b5)
        have B5 := hide ((unhide B4).trans (b5.mono (unhide B4).size))
        clear b5 y0 y1 y2 y3 f0 f1 f2 f3 r1
        obtain ⟨⟨x0, x1, x2, x3⟩, g0, g1, g2, g3⟩ := (unhide X5).four
        go_wp2_with (first
          | (go_at_call 24; refine (implSum_any _ _ (bs.take dd) hsl (unhide HD5)).mono ?_; rw [unhide HSX]; rintro e w6 ⟨rfl, hw6⟩; rw [hw6]; clear hw6 w6)
          | fail)
        refine bodyPost_ret (v := readVal none) (by simp [results, Try.results28, go_sem, x0, x1, x2, x3, readVal]) rfl ?_
        exact ⟨none, rfl, HO, (unhide B5).trans (Turn.below (S := [w.heap.size]) (((((Turn.refl [w.heap.size] w5).setCell (g := w.heap.size) (by simp) _ _).setCell (g := w.heap.size) (by simp) _ _).setCell (g := w.heap.size) (by simp) _ _).setCell (g := w.heap.size) (by simp) _ _) (unhide B5).size (by simp))⟩
  · rw [hs4] at r1
    have HO := hide (show IsRead bs none by rw [← readI_no (unhide HP) (.inl hs4)]; exact readI_is bs)
    clear hs4
    obtain ⟨⟨x0, x1, x2, x3⟩, g0, g1, g2, g3⟩ := (unhide X4).four
    go_wp2_with fail
    refine bodyPost_ret (v := readVal none) (by simp [results, Try.results28, go_sem, x0, x1, x2, x3, readVal]) rfl ?_
    exact ⟨none, rfl, HO, (unhide B4).trans (Turn.below (S := [w.heap.size]) (((((Turn.refl [w.heap.size] w4).setCell (g := w.heap.size) (by simp) _ _).setCell (g := w.heap.size) (by simp) _ _).setCell (g := w.heap.size) (by simp) _ _).setCell (g := w.heap.size) (by simp) _ _) (unhide B4).size (by simp))⟩
set_option maxHeartbeats 12800000 in
set_option maxRecDepth 20000 in
theorem implRead_1 (v : Value) (bs : List UInt8) (w : World) (hl : bs.length ≤ 1048576) (h : ByRd w v bs) (hk : kindP bs = 1) : Calls Try.prog 28 #[v] w fun e w' => RetRead bs w e w' := by
  obtain ⟨p0, p1, p2, rfl⟩ : ∃ a n c, v = .slice a n c := by obtain ⟨a, c, e⟩ := h.len; exact ⟨a, _, c, e⟩
  obtain rfl : p1 = bs.length := by obtain ⟨a, c, e⟩ := h.len; simp only [Value.slice.injEq] at e; exact e.2.1
  have hcap : bs.length ≤ p2 := by obtain ⟨a, c, e, _, hc⟩ := h; simp only [Value.slice.injEq] at e; omega
  have HP := hide (show parseP bs = ⟨⟨kindP bs, ⟨(headP bs).got.toArray⟩, 0, ⟨(textP (headP bs).rest (headP bs).short).got.toArray⟩⟩, (textP (headP bs).rest (headP bs).short).rest, (textP (headP bs).rest (headP bs).short).short⟩ by simp [parseP, tailP, hk])
  have HKV := hide (show kindVal (kindP bs) = .iface 62 (.agg #[]) by simp [kindVal, hk])
  have RD0 := hide (rdNew w (.slice p0 bs.length p2) bs (.cells #[.int .i64 0, .string ⟨#[]⟩, .int .i64 0, .string ⟨#[]⟩] 32) (.cells #[.int .i64 0, .string ⟨#[]⟩, .int .i64 0, .string ⟨#[]⟩] 32) 70 h)
  have BR := hide h
  have X0 := hide (((boxF_new4 w (.int .i64 0) (.string ⟨#[]⟩) (.int .i64 0) (.string ⟨#[]⟩) 32).up ((Below.refl _ _).alloc (Nat.le_refl _) (.cells #[.slice p0 bs.length p2, .bool false] 70))).up ((Below.refl _ _).alloc (Nat.le_refl _) (.cells #[.int .i64 0, .string ⟨#[]⟩, .int .i64 0, .string ⟨#[]⟩] 32)))
  have Y0 := hide (show BoxF (((w.alloc (.cells #[.int .i64 0, .string ⟨#[]⟩, .int .i64 0, .string ⟨#[]⟩] 32)).alloc (.cells #[.slice p0 bs.length p2, .bool false] 70)).alloc (.cells #[.int .i64 0, .string ⟨#[]⟩, .int .i64 0, .string ⟨#[]⟩] 32)) (w.heap.size + 1 + 1) [.int .i64 0, .string ⟨#[]⟩, .int .i64 0, .string ⟨#[]⟩] by
    have := boxF_new4 ((w.alloc (.cells #[.int .i64 0, .string ⟨#[]⟩, .int .i64 0, .string ⟨#[]⟩] 32)).alloc (.cells #[.slice p0 bs.length p2, .bool false] 70)) (.int .i64 0) (.string ⟨#[]⟩) (.int .i64 0) (.string ⟨#[]⟩) 32
    rwa [show ((w.alloc (.cells #[.int .i64 0, .string ⟨#[]⟩, .int .i64 0, .string ⟨#[]⟩] 32)).alloc (.cells #[.slice p0 bs.length p2, .bool false] 70)).heap.size = w.heap.size + 1 + 1 by simp] at this)
  have TW := hide (show Turn [w.heap.size, w.heap.size + 1, w.heap.size + 1 + 1] w (((w.alloc (.cells #[.int .i64 0, .string ⟨#[]⟩, .int .i64 0, .string ⟨#[]⟩] 32)).alloc (.cells #[.slice p0 bs.length p2, .bool false] 70)).alloc (.cells #[.int .i64 0, .string ⟨#[]⟩, .int .i64 0, .string ⟨#[]⟩] 32)) from (((Turn.refl _ w).alloc _).alloc _).alloc _)
  have hdl : (leftL 1 bs).length ≤ 1048576 := by
    unfold leftL
    split
    · simp; omega
    · exact hl
  have h2b := head_rest_le bs
  have h2l : (headP bs).rest.length ≤ 1048576 := by omega
  have HFIT := hide (parse_fit bs hl)
  rw [unhide HP] at HFIT
  have HHN := hide (fun W (r : RdIs w.heap.size W (w.heap.size + 1) (.slice p0 bs.length p2) bs false) => num_any w.heap.size (w.heap.size + 1) W _ bs false 1 (by omega) hl r)
  have HHT := hide (fun W v1 (r : RdIs w.heap.size W (w.heap.size + 1) v1 (leftL 1 bs) (shortB 1 bs false)) => text_any w.heap.size (w.heap.size + 1) W v1 _ _ hdl r)
  clear h hk
  go_enter Try.func28, Try.ntmps28
  go_wp2_with fail
  generalize hW : (((w.alloc (.cells #[.int .i64 0, .string ⟨#[]⟩, .int .i64 0, .string ⟨#[]⟩] 32)).alloc (.cells #[.slice p0 bs.length p2, .bool false] 70)).alloc (.cells #[.int .i64 0, .string ⟨#[]⟩, .int .i64 0, .string ⟨#[]⟩] 32)) = W0 at *
  clear hW
  refine (unhide HHN _ (unhide RD0)).mono ?_
  rintro e w1 ⟨v1, rfl, R1, T1⟩
  have X1 := hide ((unhide X0).turn (unhide T1) (by intro hm; simp at hm <;> omega))
  have Y1 := hide ((unhide Y0).turn (unhide T1) (by intro hm; simp at hm <;> omega))
  have TW1 := hide ((unhide TW).trans ((unhide T1).mono (by simp)))
  clear X0 Y0 TW T1 RD0 HHN
  have ek : numL (takeL 1 bs) = kindP bs := rfl
  rw [ek]
  clear ek
  obtain ⟨⟨y0, y1, y2, y3⟩, f0, f1, f2, f3⟩ := (unhide Y1).four
  go_wp2_with fail
  clear y0 y1 y2 y3 f0 f1 f2 f3
  have T1s := hide ((Turn.refl [w.heap.size + 1 + 1] w1).setCell (g := w.heap.size + 1 + 1) (by simp) 0 (.int .i64 (kindP bs)))
  have R1s := hide ((unhide R1).turn (unhide T1s) (by intro hm; simp at hm <;> omega) (by intro k hk; simp at hk <;> omega))
  have X1s := hide ((unhide X1).turn (unhide T1s) (by intro hm; simp at hm <;> omega))
  have Y1s := hide ((unhide Y1).set 0 (.int .i64 (kindP bs)) (by simp))
  have TW1s := hide ((unhide TW1).trans ((unhide T1s).mono (by simp)))
  simp only [List.set] at Y1s
  generalize w1.setCell ⟨w.heap.size + 1 + 1, 0, none⟩ (.int .i64 (kindP bs)) = W1 at *
  clear R1 X1 Y1 TW1 T1s
  refine (unhide HHT _ _ (unhide R1s)).mono ?_
  rintro e w2 ⟨v2, rfl, R2, T2⟩
  have R2' := hide (show RdIs w.heap.size w2 (w.heap.size + 1) v2 (headP bs).rest (headP bs).short from unhide R2)
  have en : takeL (numL (takeL 1 (leftL 1 bs))).toNat (leftL 1 (leftL 1 bs)) = (headP bs).got := rfl
  rw [en]
  have X2 := hide ((unhide X1s).turn (unhide T2) (by intro hm; simp at hm <;> omega))
  have Y2 := hide ((unhide Y1s).turn (unhide T2) (by intro hm; simp at hm <;> omega))
  have TW2 := hide ((unhide TW1s).trans ((unhide T2).mono (by simp)))
  clear X1s Y1s TW1s R1s R2 HHT en
  generalize (headP bs).got.toArray = nm at *
  generalize (headP bs).rest = rest2 at *
  generalize (headP bs).short = s2 at *
  obtain ⟨⟨y0, y1, y2, y3⟩, f0, f1, f2, f3⟩ := (unhide Y2).four
  have T2s := hide ((Turn.refl [w.heap.size + 1 + 1] w2).setCell (g := w.heap.size + 1 + 1) (by simp) 1 (.string ⟨nm⟩))
  have R2s := hide ((unhide R2').turn (unhide T2s) (by intro hm; simp at hm <;> omega) (by intro k hk; simp at hk <;> omega))
  have X2s := hide ((unhide X2).turn (unhide T2s) (by intro hm; simp at hm <;> omega))
  have Y2s := hide ((unhide Y2).set 1 (.string ⟨nm⟩) (by simp))
  have TW2s := hide ((unhide TW2).trans ((unhide T2s).mono (by simp)))
  simp only [List.set] at Y2s
  go_wp2_with (first
    | (go_at_call 23; refine (recKindOf_any (kindP bs) _).mono ?_; rintro e w9 ⟨rfl, hw9⟩; rw [hw9, unhide HKV]; clear hw9 w9)
    | fail)
  refine (take_define w.heap.size (w.heap.size + 1) (w.heap.size + 1 + 1) _ v2 rest2 s2 (kindP bs) ⟨nm⟩ h2l (by omega) (by omega) (unhide R2s) (unhide Y2s)).mono ?_
  rintro e w3 ⟨rfl, P3⟩
  obtain ⟨v3, R3p, Y3p, T3⟩ := unhide P3
  have X3 := hide ((unhide X2s).turn T3 (by intro hm; simp at hm <;> omega))
  have TW3 := hide ((unhide TW2s).trans (T3.mono (by simp)))
  have R3 := hide (show RdIs w.heap.size w3 (w.heap.size + 1) v3 ((textP rest2 s2).rest) ((textP rest2 s2).short) from R3p)
  have Y3 := hide (show BoxF w3 (w.heap.size + 1 + 1) [.int .i64 (kindP bs), .string ⟨nm⟩, .int .i64 (0), .string (⟨(textP rest2 s2).got.toArray⟩)] from Y3p)
  clear R3p Y3p P3 T3 X2s Y2s R2s TW2s X2 Y2 TW2 R2' y0 y1 y2 y3 f0 f1 f2 f3 T2 T2s
  have h3b : ((textP rest2 s2).rest).length ≤ bs.length := by have := textP_rest_le rest2 s2; omega
  generalize textP rest2 s2 = tp at *
  have HD := hide (show ByRd w3 (.slice p0 (bs.length - (tp.rest).length) p2) (bs.take (bs.length - (tp.rest).length)) from by
    obtain ⟨a, c, e, hin, hc⟩ := (unhide BR).up ((unhide TW3).below (Nat.le_refl _) (fun k hk => by simp at hk; omega))
    simp only [Value.slice.injEq] at e
    obtain ⟨rfl, _, rfl⟩ := e
    exact cut_take hin hc _ (by omega))
  obtain ⟨q0, q1, q2, rfl⟩ : ∃ a n c, v3 = .slice a n c := by obtain ⟨a, c, e⟩ := (unhide R3).by'.len; exact ⟨a, _, c, e⟩
  obtain rfl : q1 = (tp.rest).length := by obtain ⟨a, c, e⟩ := (unhide R3).by'.len; simp only [Value.slice.injEq] at e; exact e.2.1
  have r0 := (unhide R3).c0
  have hint : (bs.length : Int) - ((tp.rest).length : Int) = ((bs.length - (tp.rest).length : Nat) : Int) := by omega
  have hdc : bs.length - (tp.rest).length ≤ p2 := by omega
  have hdl2 : bs.length - (tp.rest).length ≤ 1048576 := by omega
  have HN2 := hide (num_any w.heap.size (w.heap.size + 1) w3 _ _ _ 2 (by omega) (by omega) (unhide R3))
  generalize hdd : bs.length - (tp.rest).length = dd at *
  have HDD := hide hdd
  clear hdd
  go_wp2_with fail
  clear r0
  refine (unhide HN2).mono ?_
  rintro e w4 ⟨v4, rfl, R4, T4⟩
  have X4 := hide ((unhide X3).turn (unhide T4) (by intro hm; simp at hm <;> omega))
  have Y4 := hide ((unhide Y3).turn (unhide T4) (by intro hm; simp at hm <;> omega))
  have TW4 := hide ((unhide TW3).trans ((unhide T4).mono (by simp)))
  have HD4 := hide (show ByRd w4 (.slice p0 dd p2) (bs.take dd) from by
    obtain ⟨a, c, e, hin, hc⟩ := (unhide BR).up ((unhide TW4).below (Nat.le_refl _) (fun k hk => by simp at hk; omega))
    simp only [Value.slice.injEq] at e
    obtain ⟨rfl, _, rfl⟩ := e
    exact cut_take hin hc _ (by omega))
  clear X3 Y3 TW3 R3 T4 HN2 HD
  have HF2 := hide (fun W => implRecOk_any ⟨kindP bs, ⟨nm⟩, 0, ⟨tp.got.toArray⟩⟩ W (unhide HFIT))
  unfold recVal at HF2
  simp only at HF2
  have r1 := (unhide R4).c1
  obtain ⟨⟨y0, y1, y2, y3⟩, f0, f1, f2, f3⟩ := (unhide Y4).four
  have B4 := hide ((unhide TW4).below (Nat.le_refl _) (by intro k hk; simp at hk <;> omega))
  have hsl : (bs.take dd).length ≤ maxLen := by simp; unfold maxLen; omega
  generalize hsm : numL (takeL 2 tp.rest) = sm at *
  have HSM := hide hsm
  clear hsm
  cases hs4 : shortB 2 tp.rest tp.short
  · rw [hs4] at r1
    cases hok : recOkB ⟨kindP bs, ⟨nm⟩, 0, ⟨tp.got.toArray⟩⟩
    · rw [hok] at HF2
      have HO := hide (show IsRead bs none by rw [← readI_no (unhide HP) (.inr (.inl hok))]; exact readI_is bs)
      clear hok hs4
      go_wp2_with fail
      refine (unhide HF2 _).mono ?_
      rintro e w5 ⟨rfl, b5⟩
      have X5 := hide ((unhide X4).up b5)
      have B5 := hide ((unhide B4).trans (b5.mono (unhide B4).size))
      clear b5 y0 y1 y2 y3 f0 f1 f2 f3 r1
      obtain ⟨⟨x0, x1, x2, x3⟩, g0, g1, g2, g3⟩ := (unhide X5).four
      go_wp2_with fail
      refine bodyPost_ret (v := readVal none) (by simp [results, Try.results28, go_sem, x0, x1, x2, x3, readVal]) rfl ?_
      exact ⟨none, rfl, HO, (unhide B5).trans (Turn.below (S := [w.heap.size]) (((((Turn.refl [w.heap.size] w5).setCell (g := w.heap.size) (by simp) _ _).setCell (g := w.heap.size) (by simp) _ _).setCell (g := w.heap.size) (by simp) _ _).setCell (g := w.heap.size) (by simp) _ _) (unhide B5).size (by simp))⟩
    · rw [hok] at HF2
      by_cases heq : sm = recSum (bs.take dd)
      · have HO := hide (show IsRead bs (some (⟨kindP bs, ⟨nm⟩, 0, ⟨tp.got.toArray⟩⟩, dd + 2)) by
          have h := readI_yes (unhide HP) hs4 hok ((unhide HSM).trans (by rw [unhide HDD]; exact heq))
          rw [unhide HDD, List.length_take, Nat.min_eq_left (by have := unhide HDD; omega)] at h
          rw [← h]
          exact readI_is bs)
        have HQ := hide heq
        clear hok hs4 heq
        go_wp2_with fail
        refine (unhide HF2 _).mono ?_
        rintro e w5 ⟨rfl, b5⟩
        have X5 := hide ((unhide X4).up b5)
        have Y5 := hide ((unhide Y4).up b5)
        have HD5 := hide ((unhide HD4).up b5)
        have B5 := hide ((unhide B4).trans (b5.mono (unhide B4).size))
        clear b5 y0 y1 y2 y3 f0 f1 f2 f3 r1
        obtain ⟨⟨x0, x1, x2, x3⟩, g0, g1, g2, g3⟩ := (unhide X5).four
        obtain ⟨⟨y0, y1, y2, y3⟩, f0, f1, f2, f3⟩ := (unhide Y5).four
        go_wp2_with (first
          | (go_at_call 24; refine (implSum_any _ _ (bs.take dd) hsl (unhide HD5)).mono ?_; rw [← unhide HQ]; rintro e w6 ⟨rfl, hw6⟩; rw [hw6]; clear hw6 w6)
          | fail)
        refine bodyPost_ret (v := readVal (some (⟨kindP bs, ⟨nm⟩, 0, ⟨tp.got.toArray⟩⟩, dd + 2))) (by simp [results, Try.results28, go_sem, x0, x1, x2, x3, readVal]) rfl ?_
        exact ⟨_, rfl, HO, (unhide B5).trans (Turn.below (S := [w.heap.size]) (((((Turn.refl [w.heap.size] w5).setCell (g := w.heap.size) (by simp) _ _).setCell (g := w.heap.size) (by simp) _ _).setCell (g := w.heap.size) (by simp) _ _).setCell (g := w.heap.size) (by simp) _ _) (unhide B5).size (by simp))⟩
      · have HO := hide (show IsRead bs none by rw [← readI_no (unhide HP) (.inr (.inr (by rw [unhide HSM, unhide HDD]; exact heq)))]; exact readI_is bs)
        generalize hsx : recSum (bs.take dd) = sx at *
        have HSX := hide hsx
        have hne : (sm != sx) = true := by simpa using heq
        clear hok hs4 heq hsx
        go_wp2_with fail
        refine (unhide HF2 _).mono ?_
        rintro e w5 ⟨rfl, b5⟩
        have X5 := hide ((unhide X4).up b5)
        have HD5 := hide ((unhide HD4).up b5)
        have B5 := hide ((unhide B4).trans (b5.mono (unhide B4).size))
        clear b5 y0 y1 y2 y3 f0 f1 f2 f3 r1
        obtain ⟨⟨x0, x1, x2, x3⟩, g0, g1, g2, g3⟩ := (unhide X5).four
        go_wp2_with (first
          | (go_at_call 24; refine (implSum_any _ _ (bs.take dd) hsl (unhide HD5)).mono ?_; rw [unhide HSX]; rintro e w6 ⟨rfl, hw6⟩; rw [hw6]; clear hw6 w6)
          | fail)
        refine bodyPost_ret (v := readVal none) (by simp [results, Try.results28, go_sem, x0, x1, x2, x3, readVal]) rfl ?_
        exact ⟨none, rfl, HO, (unhide B5).trans (Turn.below (S := [w.heap.size]) (((((Turn.refl [w.heap.size] w5).setCell (g := w.heap.size) (by simp) _ _).setCell (g := w.heap.size) (by simp) _ _).setCell (g := w.heap.size) (by simp) _ _).setCell (g := w.heap.size) (by simp) _ _) (unhide B5).size (by simp))⟩
  · rw [hs4] at r1
    have HO := hide (show IsRead bs none by rw [← readI_no (unhide HP) (.inl hs4)]; exact readI_is bs)
    clear hs4
    obtain ⟨⟨x0, x1, x2, x3⟩, g0, g1, g2, g3⟩ := (unhide X4).four
    go_wp2_with fail
    refine bodyPost_ret (v := readVal none) (by simp [results, Try.results28, go_sem, x0, x1, x2, x3, readVal]) rfl ?_
    exact ⟨none, rfl, HO, (unhide B4).trans (Turn.below (S := [w.heap.size]) (((((Turn.refl [w.heap.size] w4).setCell (g := w.heap.size) (by simp) _ _).setCell (g := w.heap.size) (by simp) _ _).setCell (g := w.heap.size) (by simp) _ _).setCell (g := w.heap.size) (by simp) _ _) (unhide B4).size (by simp))⟩
set_option maxHeartbeats 12800000 in
set_option maxRecDepth 20000 in
theorem implRead_3 (v : Value) (bs : List UInt8) (w : World) (hl : bs.length ≤ 1048576) (h : ByRd w v bs) (hk : kindP bs = 3) : Calls Try.prog 28 #[v] w fun e w' => RetRead bs w e w' := by
  obtain ⟨p0, p1, p2, rfl⟩ : ∃ a n c, v = .slice a n c := by obtain ⟨a, c, e⟩ := h.len; exact ⟨a, _, c, e⟩
  obtain rfl : p1 = bs.length := by obtain ⟨a, c, e⟩ := h.len; simp only [Value.slice.injEq] at e; exact e.2.1
  have hcap : bs.length ≤ p2 := by obtain ⟨a, c, e, _, hc⟩ := h; simp only [Value.slice.injEq] at e; omega
  have HP := hide (show parseP bs = ⟨⟨kindP bs, ⟨(headP bs).got.toArray⟩, numL (takeL 8 (headP bs).rest), ⟨#[]⟩⟩, leftL 8 (headP bs).rest, shortB 8 (headP bs).rest (headP bs).short⟩ by simp [parseP, tailP, hk])
  have HKV := hide (show kindVal (kindP bs) = .iface 64 (.agg #[]) by simp [kindVal, hk])
  have RD0 := hide (rdNew w (.slice p0 bs.length p2) bs (.cells #[.int .i64 0, .string ⟨#[]⟩, .int .i64 0, .string ⟨#[]⟩] 32) (.cells #[.int .i64 0, .string ⟨#[]⟩, .int .i64 0, .string ⟨#[]⟩] 32) 70 h)
  have BR := hide h
  have X0 := hide (((boxF_new4 w (.int .i64 0) (.string ⟨#[]⟩) (.int .i64 0) (.string ⟨#[]⟩) 32).up ((Below.refl _ _).alloc (Nat.le_refl _) (.cells #[.slice p0 bs.length p2, .bool false] 70))).up ((Below.refl _ _).alloc (Nat.le_refl _) (.cells #[.int .i64 0, .string ⟨#[]⟩, .int .i64 0, .string ⟨#[]⟩] 32)))
  have Y0 := hide (show BoxF (((w.alloc (.cells #[.int .i64 0, .string ⟨#[]⟩, .int .i64 0, .string ⟨#[]⟩] 32)).alloc (.cells #[.slice p0 bs.length p2, .bool false] 70)).alloc (.cells #[.int .i64 0, .string ⟨#[]⟩, .int .i64 0, .string ⟨#[]⟩] 32)) (w.heap.size + 1 + 1) [.int .i64 0, .string ⟨#[]⟩, .int .i64 0, .string ⟨#[]⟩] by
    have := boxF_new4 ((w.alloc (.cells #[.int .i64 0, .string ⟨#[]⟩, .int .i64 0, .string ⟨#[]⟩] 32)).alloc (.cells #[.slice p0 bs.length p2, .bool false] 70)) (.int .i64 0) (.string ⟨#[]⟩) (.int .i64 0) (.string ⟨#[]⟩) 32
    rwa [show ((w.alloc (.cells #[.int .i64 0, .string ⟨#[]⟩, .int .i64 0, .string ⟨#[]⟩] 32)).alloc (.cells #[.slice p0 bs.length p2, .bool false] 70)).heap.size = w.heap.size + 1 + 1 by simp] at this)
  have TW := hide (show Turn [w.heap.size, w.heap.size + 1, w.heap.size + 1 + 1] w (((w.alloc (.cells #[.int .i64 0, .string ⟨#[]⟩, .int .i64 0, .string ⟨#[]⟩] 32)).alloc (.cells #[.slice p0 bs.length p2, .bool false] 70)).alloc (.cells #[.int .i64 0, .string ⟨#[]⟩, .int .i64 0, .string ⟨#[]⟩] 32)) from (((Turn.refl _ w).alloc _).alloc _).alloc _)
  have hdl : (leftL 1 bs).length ≤ 1048576 := by
    unfold leftL
    split
    · simp; omega
    · exact hl
  have h2b := head_rest_le bs
  have h2l : (headP bs).rest.length ≤ 1048576 := by omega
  have HFIT := hide (parse_fit bs hl)
  rw [unhide HP] at HFIT
  have HHN := hide (fun W (r : RdIs w.heap.size W (w.heap.size + 1) (.slice p0 bs.length p2) bs false) => num_any w.heap.size (w.heap.size + 1) W _ bs false 1 (by omega) hl r)
  have HHT := hide (fun W v1 (r : RdIs w.heap.size W (w.heap.size + 1) v1 (leftL 1 bs) (shortB 1 bs false)) => text_any w.heap.size (w.heap.size + 1) W v1 _ _ hdl r)
  clear h hk
  go_enter Try.func28, Try.ntmps28
  go_wp2_with fail
  generalize hW : (((w.alloc (.cells #[.int .i64 0, .string ⟨#[]⟩, .int .i64 0, .string ⟨#[]⟩] 32)).alloc (.cells #[.slice p0 bs.length p2, .bool false] 70)).alloc (.cells #[.int .i64 0, .string ⟨#[]⟩, .int .i64 0, .string ⟨#[]⟩] 32)) = W0 at *
  clear hW
  refine (unhide HHN _ (unhide RD0)).mono ?_
  rintro e w1 ⟨v1, rfl, R1, T1⟩
  have X1 := hide ((unhide X0).turn (unhide T1) (by intro hm; simp at hm <;> omega))
  have Y1 := hide ((unhide Y0).turn (unhide T1) (by intro hm; simp at hm <;> omega))
  have TW1 := hide ((unhide TW).trans ((unhide T1).mono (by simp)))
  clear X0 Y0 TW T1 RD0 HHN
  have ek : numL (takeL 1 bs) = kindP bs := rfl
  rw [ek]
  clear ek
  obtain ⟨⟨y0, y1, y2, y3⟩, f0, f1, f2, f3⟩ := (unhide Y1).four
  go_wp2_with fail
  clear y0 y1 y2 y3 f0 f1 f2 f3
  have T1s := hide ((Turn.refl [w.heap.size + 1 + 1] w1).setCell (g := w.heap.size + 1 + 1) (by simp) 0 (.int .i64 (kindP bs)))
  have R1s := hide ((unhide R1).turn (unhide T1s) (by intro hm; simp at hm <;> omega) (by intro k hk; simp at hk <;> omega))
  have X1s := hide ((unhide X1).turn (unhide T1s) (by intro hm; simp at hm <;> omega))
  have Y1s := hide ((unhide Y1).set 0 (.int .i64 (kindP bs)) (by simp))
  have TW1s := hide ((unhide TW1).trans ((unhide T1s).mono (by simp)))
  simp only [List.set] at Y1s
  generalize w1.setCell ⟨w.heap.size + 1 + 1, 0, none⟩ (.int .i64 (kindP bs)) = W1 at *
  clear R1 X1 Y1 TW1 T1s
  refine (unhide HHT _ _ (unhide R1s)).mono ?_
  rintro e w2 ⟨v2, rfl, R2, T2⟩
  have R2' := hide (show RdIs w.heap.size w2 (w.heap.size + 1) v2 (headP bs).rest (headP bs).short from unhide R2)
  have en : takeL (numL (takeL 1 (leftL 1 bs))).toNat (leftL 1 (leftL 1 bs)) = (headP bs).got := rfl
  rw [en]
  have X2 := hide ((unhide X1s).turn (unhide T2) (by intro hm; simp at hm <;> omega))
  have Y2 := hide ((unhide Y1s).turn (unhide T2) (by intro hm; simp at hm <;> omega))
  have TW2 := hide ((unhide TW1s).trans ((unhide T2).mono (by simp)))
  clear X1s Y1s TW1s R1s R2 HHT en
  generalize (headP bs).got.toArray = nm at *
  generalize (headP bs).rest = rest2 at *
  generalize (headP bs).short = s2 at *
  obtain ⟨⟨y0, y1, y2, y3⟩, f0, f1, f2, f3⟩ := (unhide Y2).four
  have T2s := hide ((Turn.refl [w.heap.size + 1 + 1] w2).setCell (g := w.heap.size + 1 + 1) (by simp) 1 (.string ⟨nm⟩))
  have R2s := hide ((unhide R2').turn (unhide T2s) (by intro hm; simp at hm <;> omega) (by intro k hk; simp at hk <;> omega))
  have X2s := hide ((unhide X2).turn (unhide T2s) (by intro hm; simp at hm <;> omega))
  have Y2s := hide ((unhide Y2).set 1 (.string ⟨nm⟩) (by simp))
  have TW2s := hide ((unhide TW2).trans ((unhide T2s).mono (by simp)))
  simp only [List.set] at Y2s
  go_wp2_with (first
    | (go_at_call 23; refine (recKindOf_any (kindP bs) _).mono ?_; rintro e w9 ⟨rfl, hw9⟩; rw [hw9, unhide HKV]; clear hw9 w9)
    | fail)
  refine (take_value w.heap.size (w.heap.size + 1) (w.heap.size + 1 + 1) _ v2 rest2 s2 (kindP bs) ⟨nm⟩ h2l (by omega) (by omega) (unhide R2s) (unhide Y2s)).mono ?_
  rintro e w3 ⟨rfl, P3⟩
  obtain ⟨v3, R3p, Y3p, T3⟩ := unhide P3
  have X3 := hide ((unhide X2s).turn T3 (by intro hm; simp at hm <;> omega))
  have TW3 := hide ((unhide TW2s).trans (T3.mono (by simp)))
  have R3 := hide (show RdIs w.heap.size w3 (w.heap.size + 1) v3 (leftL 8 rest2) (shortB 8 rest2 s2) from R3p)
  have Y3 := hide (show BoxF w3 (w.heap.size + 1 + 1) [.int .i64 (kindP bs), .string ⟨nm⟩, .int .i64 (numL (takeL 8 rest2)), .string (⟨#[]⟩)] from Y3p)
  clear R3p Y3p P3 T3 X2s Y2s R2s TW2s X2 Y2 TW2 R2' y0 y1 y2 y3 f0 f1 f2 f3 T2 T2s
  have h3b : (leftL 8 rest2).length ≤ bs.length := by have := leftL_le 8 rest2; omega
  generalize numL (takeL 8 rest2) = num3 at *
  generalize leftL 8 rest2 = rest3 at *
  generalize shortB 8 rest2 s2 = s3 at *
  have HD := hide (show ByRd w3 (.slice p0 (bs.length - (rest3).length) p2) (bs.take (bs.length - (rest3).length)) from by
    obtain ⟨a, c, e, hin, hc⟩ := (unhide BR).up ((unhide TW3).below (Nat.le_refl _) (fun k hk => by simp at hk; omega))
    simp only [Value.slice.injEq] at e
    obtain ⟨rfl, _, rfl⟩ := e
    exact cut_take hin hc _ (by omega))
  obtain ⟨q0, q1, q2, rfl⟩ : ∃ a n c, v3 = .slice a n c := by obtain ⟨a, c, e⟩ := (unhide R3).by'.len; exact ⟨a, _, c, e⟩
  obtain rfl : q1 = (rest3).length := by obtain ⟨a, c, e⟩ := (unhide R3).by'.len; simp only [Value.slice.injEq] at e; exact e.2.1
  have r0 := (unhide R3).c0
  have hint : (bs.length : Int) - ((rest3).length : Int) = ((bs.length - (rest3).length : Nat) : Int) := by omega
  have hdc : bs.length - (rest3).length ≤ p2 := by omega
  have hdl2 : bs.length - (rest3).length ≤ 1048576 := by omega
  have HN2 := hide (num_any w.heap.size (w.heap.size + 1) w3 _ _ _ 2 (by omega) (by omega) (unhide R3))
  generalize hdd : bs.length - (rest3).length = dd at *
  have HDD := hide hdd
  clear hdd
  go_wp2_with fail
  clear r0
  refine (unhide HN2).mono ?_
  rintro e w4 ⟨v4, rfl, R4, T4⟩
  have X4 := hide ((unhide X3).turn (unhide T4) (by intro hm; simp at hm <;> omega))
  have Y4 := hide ((unhide Y3).turn (unhide T4) (by intro hm; simp at hm <;> omega))
  have TW4 := hide ((unhide TW3).trans ((unhide T4).mono (by simp)))
  have HD4 := hide (show ByRd w4 (.slice p0 dd p2) (bs.take dd) from by
    obtain ⟨a, c, e, hin, hc⟩ := (unhide BR).up ((unhide TW4).below (Nat.le_refl _) (fun k hk => by simp at hk; omega))
    simp only [Value.slice.injEq] at e
    obtain ⟨rfl, _, rfl⟩ := e
    exact cut_take hin hc _ (by omega))
  clear X3 Y3 TW3 R3 T4 HN2 HD
  have HF2 := hide (fun W => implRecOk_any ⟨kindP bs, ⟨nm⟩, num3, ⟨#[]⟩⟩ W (unhide HFIT))
  unfold recVal at HF2
  simp only at HF2
  have r1 := (unhide R4).c1
  obtain ⟨⟨y0, y1, y2, y3⟩, f0, f1, f2, f3⟩ := (unhide Y4).four
  have B4 := hide ((unhide TW4).below (Nat.le_refl _) (by intro k hk; simp at hk <;> omega))
  have hsl : (bs.take dd).length ≤ maxLen := by simp; unfold maxLen; omega
  generalize hsm : numL (takeL 2 rest3) = sm at *
  have HSM := hide hsm
  clear hsm
  cases hs4 : shortB 2 rest3 s3
  · rw [hs4] at r1
    cases hok : recOkB ⟨kindP bs, ⟨nm⟩, num3, ⟨#[]⟩⟩
    · rw [hok] at HF2
      have HO := hide (show IsRead bs none by rw [← readI_no (unhide HP) (.inr (.inl hok))]; exact readI_is bs)
      clear hok hs4
      go_wp2_with fail
      refine (unhide HF2 _).mono ?_
      rintro e w5 ⟨rfl, b5⟩
      have X5 := hide ((unhide X4).up b5)
      have B5 := hide ((unhide B4).trans (b5.mono (unhide B4).size))
      clear b5 y0 y1 y2 y3 f0 f1 f2 f3 r1
      obtain ⟨⟨x0, x1, x2, x3⟩, g0, g1, g2, g3⟩ := (unhide X5).four
      go_wp2_with fail
      refine bodyPost_ret (v := readVal none) (by simp [results, Try.results28, go_sem, x0, x1, x2, x3, readVal]) rfl ?_
      exact ⟨none, rfl, HO, (unhide B5).trans (Turn.below (S := [w.heap.size]) (((((Turn.refl [w.heap.size] w5).setCell (g := w.heap.size) (by simp) _ _).setCell (g := w.heap.size) (by simp) _ _).setCell (g := w.heap.size) (by simp) _ _).setCell (g := w.heap.size) (by simp) _ _) (unhide B5).size (by simp))⟩
    · rw [hok] at HF2
      by_cases heq : sm = recSum (bs.take dd)
      · have HO := hide (show IsRead bs (some (⟨kindP bs, ⟨nm⟩, num3, ⟨#[]⟩⟩, dd + 2)) by
          have h := readI_yes (unhide HP) hs4 hok ((unhide HSM).trans (by rw [unhide HDD]; exact heq))
          rw [unhide HDD, List.length_take, Nat.min_eq_left (by have := unhide HDD; omega)] at h
          rw [← h]
          exact readI_is bs)
        have HQ := hide heq
        clear hok hs4 heq
        go_wp2_with fail
        refine (unhide HF2 _).mono ?_
        rintro e w5 ⟨rfl, b5⟩
        have X5 := hide ((unhide X4).up b5)
        have Y5 := hide ((unhide Y4).up b5)
        have HD5 := hide ((unhide HD4).up b5)
        have B5 := hide ((unhide B4).trans (b5.mono (unhide B4).size))
        clear b5 y0 y1 y2 y3 f0 f1 f2 f3 r1
        obtain ⟨⟨x0, x1, x2, x3⟩, g0, g1, g2, g3⟩ := (unhide X5).four
        obtain ⟨⟨y0, y1, y2, y3⟩, f0, f1, f2, f3⟩ := (unhide Y5).four
        go_wp2_with (first
          | (go_at_call 24; refine (implSum_any _ _ (bs.take dd) hsl (unhide HD5)).mono ?_; rw [← unhide HQ]; rintro e w6 ⟨rfl, hw6⟩; rw [hw6]; clear hw6 w6)
          | fail)
        refine bodyPost_ret (v := readVal (some (⟨kindP bs, ⟨nm⟩, num3, ⟨#[]⟩⟩, dd + 2))) (by simp [results, Try.results28, go_sem, x0, x1, x2, x3, readVal]) rfl ?_
        exact ⟨_, rfl, HO, (unhide B5).trans (Turn.below (S := [w.heap.size]) (((((Turn.refl [w.heap.size] w5).setCell (g := w.heap.size) (by simp) _ _).setCell (g := w.heap.size) (by simp) _ _).setCell (g := w.heap.size) (by simp) _ _).setCell (g := w.heap.size) (by simp) _ _) (unhide B5).size (by simp))⟩
      · have HO := hide (show IsRead bs none by rw [← readI_no (unhide HP) (.inr (.inr (by rw [unhide HSM, unhide HDD]; exact heq)))]; exact readI_is bs)
        generalize hsx : recSum (bs.take dd) = sx at *
        have HSX := hide hsx
        have hne : (sm != sx) = true := by simpa using heq
        clear hok hs4 heq hsx
        go_wp2_with fail
        refine (unhide HF2 _).mono ?_
        rintro e w5 ⟨rfl, b5⟩
        have X5 := hide ((unhide X4).up b5)
        have HD5 := hide ((unhide HD4).up b5)
        have B5 := hide ((unhide B4).trans (b5.mono (unhide B4).size))
        clear b5 y0 y1 y2 y3 f0 f1 f2 f3 r1
        obtain ⟨⟨x0, x1, x2, x3⟩, g0, g1, g2, g3⟩ := (unhide X5).four
        go_wp2_with (first
          | (go_at_call 24; refine (implSum_any _ _ (bs.take dd) hsl (unhide HD5)).mono ?_; rw [unhide HSX]; rintro e w6 ⟨rfl, hw6⟩; rw [hw6]; clear hw6 w6)
          | fail)
        refine bodyPost_ret (v := readVal none) (by simp [results, Try.results28, go_sem, x0, x1, x2, x3, readVal]) rfl ?_
        exact ⟨none, rfl, HO, (unhide B5).trans (Turn.below (S := [w.heap.size]) (((((Turn.refl [w.heap.size] w5).setCell (g := w.heap.size) (by simp) _ _).setCell (g := w.heap.size) (by simp) _ _).setCell (g := w.heap.size) (by simp) _ _).setCell (g := w.heap.size) (by simp) _ _) (unhide B5).size (by simp))⟩
  · rw [hs4] at r1
    have HO := hide (show IsRead bs none by rw [← readI_no (unhide HP) (.inl hs4)]; exact readI_is bs)
    clear hs4
    obtain ⟨⟨x0, x1, x2, x3⟩, g0, g1, g2, g3⟩ := (unhide X4).four
    go_wp2_with fail
    refine bodyPost_ret (v := readVal none) (by simp [results, Try.results28, go_sem, x0, x1, x2, x3, readVal]) rfl ?_
    exact ⟨none, rfl, HO, (unhide B4).trans (Turn.below (S := [w.heap.size]) (((((Turn.refl [w.heap.size] w4).setCell (g := w.heap.size) (by simp) _ _).setCell (g := w.heap.size) (by simp) _ _).setCell (g := w.heap.size) (by simp) _ _).setCell (g := w.heap.size) (by simp) _ _) (unhide B4).size (by simp))⟩
set_option maxHeartbeats 12800000 in
set_option maxRecDepth 20000 in
theorem implRead_4 (v : Value) (bs : List UInt8) (w : World) (hl : bs.length ≤ 1048576) (h : ByRd w v bs) (hk : kindP bs = 4) : Calls Try.prog 28 #[v] w fun e w' => RetRead bs w e w' := by
  obtain ⟨p0, p1, p2, rfl⟩ : ∃ a n c, v = .slice a n c := by obtain ⟨a, c, e⟩ := h.len; exact ⟨a, _, c, e⟩
  obtain rfl : p1 = bs.length := by obtain ⟨a, c, e⟩ := h.len; simp only [Value.slice.injEq] at e; exact e.2.1
  have hcap : bs.length ≤ p2 := by obtain ⟨a, c, e, _, hc⟩ := h; simp only [Value.slice.injEq] at e; omega
  have HP := hide (show parseP bs = ⟨⟨kindP bs, ⟨(headP bs).got.toArray⟩, numL (takeL 8 (headP bs).rest), ⟨#[]⟩⟩, leftL 8 (headP bs).rest, shortB 8 (headP bs).rest (headP bs).short⟩ by simp [parseP, tailP, hk])
  have HKV := hide (show kindVal (kindP bs) = .iface 66 (.agg #[]) by simp [kindVal, hk])
  have RD0 := hide (rdNew w (.slice p0 bs.length p2) bs (.cells #[.int .i64 0, .string ⟨#[]⟩, .int .i64 0, .string ⟨#[]⟩] 32) (.cells #[.int .i64 0, .string ⟨#[]⟩, .int .i64 0, .string ⟨#[]⟩] 32) 70 h)
  have BR := hide h
  have X0 := hide (((boxF_new4 w (.int .i64 0) (.string ⟨#[]⟩) (.int .i64 0) (.string ⟨#[]⟩) 32).up ((Below.refl _ _).alloc (Nat.le_refl _) (.cells #[.slice p0 bs.length p2, .bool false] 70))).up ((Below.refl _ _).alloc (Nat.le_refl _) (.cells #[.int .i64 0, .string ⟨#[]⟩, .int .i64 0, .string ⟨#[]⟩] 32)))
  have Y0 := hide (show BoxF (((w.alloc (.cells #[.int .i64 0, .string ⟨#[]⟩, .int .i64 0, .string ⟨#[]⟩] 32)).alloc (.cells #[.slice p0 bs.length p2, .bool false] 70)).alloc (.cells #[.int .i64 0, .string ⟨#[]⟩, .int .i64 0, .string ⟨#[]⟩] 32)) (w.heap.size + 1 + 1) [.int .i64 0, .string ⟨#[]⟩, .int .i64 0, .string ⟨#[]⟩] by
    have := boxF_new4 ((w.alloc (.cells #[.int .i64 0, .string ⟨#[]⟩, .int .i64 0, .string ⟨#[]⟩] 32)).alloc (.cells #[.slice p0 bs.length p2, .bool false] 70)) (.int .i64 0) (.string ⟨#[]⟩) (.int .i64 0) (.string ⟨#[]⟩) 32
    rwa [show ((w.alloc (.cells #[.int .i64 0, .string ⟨#[]⟩, .int .i64 0, .string ⟨#[]⟩] 32)).alloc (.cells #[.slice p0 bs.length p2, .bool false] 70)).heap.size = w.heap.size + 1 + 1 by simp] at this)
  have TW := hide (show Turn [w.heap.size, w.heap.size + 1, w.heap.size + 1 + 1] w (((w.alloc (.cells #[.int .i64 0, .string ⟨#[]⟩, .int .i64 0, .string ⟨#[]⟩] 32)).alloc (.cells #[.slice p0 bs.length p2, .bool false] 70)).alloc (.cells #[.int .i64 0, .string ⟨#[]⟩, .int .i64 0, .string ⟨#[]⟩] 32)) from (((Turn.refl _ w).alloc _).alloc _).alloc _)
  have hdl : (leftL 1 bs).length ≤ 1048576 := by
    unfold leftL
    split
    · simp; omega
    · exact hl
  have h2b := head_rest_le bs
  have h2l : (headP bs).rest.length ≤ 1048576 := by omega
  have HFIT := hide (parse_fit bs hl)
  rw [unhide HP] at HFIT
  have HHN := hide (fun W (r : RdIs w.heap.size W (w.heap.size + 1) (.slice p0 bs.length p2) bs false) => num_any w.heap.size (w.heap.size + 1) W _ bs false 1 (by omega) hl r)
  have HHT := hide (fun W v1 (r : RdIs w.heap.size W (w.heap.size + 1) v1 (leftL 1 bs) (shortB 1 bs false)) => text_any w.heap.size (w.heap.size + 1) W v1 _ _ hdl r)
  clear h hk
  go_enter Try.func28, Try.ntmps28
  go_wp2_with fail
  generalize hW : (((w.alloc (.cells #[.int .i64 0, .string ⟨#[]⟩, .int .i64 0, .string ⟨#[]⟩] 32)).alloc (.cells #[.slice p0 bs.length p2, .bool false] 70)).alloc (.cells #[.int .i64 0, .string ⟨#[]⟩, .int .i64 0, .string ⟨#[]⟩] 32)) = W0 at *
  clear hW
  refine (unhide HHN _ (unhide RD0)).mono ?_
  rintro e w1 ⟨v1, rfl, R1, T1⟩
  have X1 := hide ((unhide X0).turn (unhide T1) (by intro hm; simp at hm <;> omega))
  have Y1 := hide ((unhide Y0).turn (unhide T1) (by intro hm; simp at hm <;> omega))
  have TW1 := hide ((unhide TW).trans ((unhide T1).mono (by simp)))
  clear X0 Y0 TW T1 RD0 HHN
  have ek : numL (takeL 1 bs) = kindP bs := rfl
  rw [ek]
  clear ek
  obtain ⟨⟨y0, y1, y2, y3⟩, f0, f1, f2, f3⟩ := (unhide Y1).four
  go_wp2_with fail
  clear y0 y1 y2 y3 f0 f1 f2 f3
  have T1s := hide ((Turn.refl [w.heap.size + 1 + 1] w1).setCell (g := w.heap.size + 1 + 1) (by simp) 0 (.int .i64 (kindP bs)))
  have R1s := hide ((unhide R1).turn (unhide T1s) (by intro hm; simp at hm <;> omega) (by intro k hk; simp at hk <;> omega))
  have X1s := hide ((unhide X1).turn (unhide T1s) (by intro hm; simp at hm <;> omega))
  have Y1s := hide ((unhide Y1).set 0 (.int .i64 (kindP bs)) (by simp))
  have TW1s := hide ((unhide TW1).trans ((unhide T1s).mono (by simp)))
  simp only [List.set] at Y1s
  generalize w1.setCell ⟨w.heap.size + 1 + 1, 0, none⟩ (.int .i64 (kindP bs)) = W1 at *
  clear R1 X1 Y1 TW1 T1s
  refine (unhide HHT _ _ (unhide R1s)).mono ?_
  rintro e w2 ⟨v2, rfl, R2, T2⟩
  have R2' := hide (show RdIs w.heap.size w2 (w.heap.size + 1) v2 (headP bs).rest (headP bs).short from unhide R2)
  have en : takeL (numL (takeL 1 (leftL 1 bs))).toNat (leftL 1 (leftL 1 bs)) = (headP bs).got := rfl
  rw [en]
  have X2 := hide ((unhide X1s).turn (unhide T2) (by intro hm; simp at hm <;> omega))
  have Y2 := hide ((unhide Y1s).turn (unhide T2) (by intro hm; simp at hm <;> omega))
  have TW2 := hide ((unhide TW1s).trans ((unhide T2).mono (by simp)))
  clear X1s Y1s TW1s R1s R2 HHT en
  generalize (headP bs).got.toArray = nm at *
  generalize (headP bs).rest = rest2 at *
  generalize (headP bs).short = s2 at *
  obtain ⟨⟨y0, y1, y2, y3⟩, f0, f1, f2, f3⟩ := (unhide Y2).four
  have T2s := hide ((Turn.refl [w.heap.size + 1 + 1] w2).setCell (g := w.heap.size + 1 + 1) (by simp) 1 (.string ⟨nm⟩))
  have R2s := hide ((unhide R2').turn (unhide T2s) (by intro hm; simp at hm <;> omega) (by intro k hk; simp at hk <;> omega))
  have X2s := hide ((unhide X2).turn (unhide T2s) (by intro hm; simp at hm <;> omega))
  have Y2s := hide ((unhide Y2).set 1 (.string ⟨nm⟩) (by simp))
  have TW2s := hide ((unhide TW2).trans ((unhide T2s).mono (by simp)))
  simp only [List.set] at Y2s
  go_wp2_with (first
    | (go_at_call 23; refine (recKindOf_any (kindP bs) _).mono ?_; rintro e w9 ⟨rfl, hw9⟩; rw [hw9, unhide HKV]; clear hw9 w9)
    | fail)
  refine (take_value w.heap.size (w.heap.size + 1) (w.heap.size + 1 + 1) _ v2 rest2 s2 (kindP bs) ⟨nm⟩ h2l (by omega) (by omega) (unhide R2s) (unhide Y2s)).mono ?_
  rintro e w3 ⟨rfl, P3⟩
  obtain ⟨v3, R3p, Y3p, T3⟩ := unhide P3
  have X3 := hide ((unhide X2s).turn T3 (by intro hm; simp at hm <;> omega))
  have TW3 := hide ((unhide TW2s).trans (T3.mono (by simp)))
  have R3 := hide (show RdIs w.heap.size w3 (w.heap.size + 1) v3 (leftL 8 rest2) (shortB 8 rest2 s2) from R3p)
  have Y3 := hide (show BoxF w3 (w.heap.size + 1 + 1) [.int .i64 (kindP bs), .string ⟨nm⟩, .int .i64 (numL (takeL 8 rest2)), .string (⟨#[]⟩)] from Y3p)
  clear R3p Y3p P3 T3 X2s Y2s R2s TW2s X2 Y2 TW2 R2' y0 y1 y2 y3 f0 f1 f2 f3 T2 T2s
  have h3b : (leftL 8 rest2).length ≤ bs.length := by have := leftL_le 8 rest2; omega
  generalize numL (takeL 8 rest2) = num3 at *
  generalize leftL 8 rest2 = rest3 at *
  generalize shortB 8 rest2 s2 = s3 at *
  have HD := hide (show ByRd w3 (.slice p0 (bs.length - (rest3).length) p2) (bs.take (bs.length - (rest3).length)) from by
    obtain ⟨a, c, e, hin, hc⟩ := (unhide BR).up ((unhide TW3).below (Nat.le_refl _) (fun k hk => by simp at hk; omega))
    simp only [Value.slice.injEq] at e
    obtain ⟨rfl, _, rfl⟩ := e
    exact cut_take hin hc _ (by omega))
  obtain ⟨q0, q1, q2, rfl⟩ : ∃ a n c, v3 = .slice a n c := by obtain ⟨a, c, e⟩ := (unhide R3).by'.len; exact ⟨a, _, c, e⟩
  obtain rfl : q1 = (rest3).length := by obtain ⟨a, c, e⟩ := (unhide R3).by'.len; simp only [Value.slice.injEq] at e; exact e.2.1
  have r0 := (unhide R3).c0
  have hint : (bs.length : Int) - ((rest3).length : Int) = ((bs.length - (rest3).length : Nat) : Int) := by omega
  have hdc : bs.length - (rest3).length ≤ p2 := by omega
  have hdl2 : bs.length - (rest3).length ≤ 1048576 := by omega
  have HN2 := hide (num_any w.heap.size (w.heap.size + 1) w3 _ _ _ 2 (by omega) (by omega) (unhide R3))
  generalize hdd : bs.length - (rest3).length = dd at *
  have HDD := hide hdd
  clear hdd
  go_wp2_with fail
  clear r0
  refine (unhide HN2).mono ?_
  rintro e w4 ⟨v4, rfl, R4, T4⟩
  have X4 := hide ((unhide X3).turn (unhide T4) (by intro hm; simp at hm <;> omega))
  have Y4 := hide ((unhide Y3).turn (unhide T4) (by intro hm; simp at hm <;> omega))
  have TW4 := hide ((unhide TW3).trans ((unhide T4).mono (by simp)))
  have HD4 := hide (show ByRd w4 (.slice p0 dd p2) (bs.take dd) from by
    obtain ⟨a, c, e, hin, hc⟩ := (unhide BR).up ((unhide TW4).below (Nat.le_refl _) (fun k hk => by simp at hk; omega))
    simp only [Value.slice.injEq] at e
    obtain ⟨rfl, _, rfl⟩ := e
    exact cut_take hin hc _ (by omega))
  clear X3 Y3 TW3 R3 T4 HN2 HD
  have HF2 := hide (fun W => implRecOk_any ⟨kindP bs, ⟨nm⟩, num3, ⟨#[]⟩⟩ W (unhide HFIT))
  unfold recVal at HF2
  simp only at HF2
  have r1 := (unhide R4).c1
  obtain ⟨⟨y0, y1, y2, y3⟩, f0, f1, f2, f3⟩ := (unhide Y4).four
  have B4 := hide ((unhide TW4).below (Nat.le_refl _) (by intro k hk; simp at hk <;> omega))
  have hsl : (bs.take dd).length ≤ maxLen := by simp; unfold maxLen; omega
  generalize hsm : numL (takeL 2 rest3) = sm at *
  have HSM := hide hsm
  clear hsm
  cases hs4 : shortB 2 rest3 s3
  · rw [hs4] at r1
    cases hok : recOkB ⟨kindP bs, ⟨nm⟩, num3, ⟨#[]⟩⟩
    · rw [hok] at HF2
      have HO := hide (show IsRead bs none by rw [← readI_no (unhide HP) (.inr (.inl hok))]; exact readI_is bs)
      clear hok hs4
      go_wp2_with fail
      refine (unhide HF2 _).mono ?_
      rintro e w5 ⟨rfl, b5⟩
      have X5 := hide ((unhide X4).up b5)
      have B5 := hide ((unhide B4).trans (b5.mono (unhide B4).size))
      clear b5 y0 y1 y2 y3 f0 f1 f2 f3 r1
      obtain ⟨⟨x0, x1, x2, x3⟩, g0, g1, g2, g3⟩ := (unhide X5).four
      go_wp2_with fail
      refine bodyPost_ret (v := readVal none) (by simp [results, Try.results28, go_sem, x0, x1, x2, x3, readVal]) rfl ?_
      exact ⟨none, rfl, HO, (unhide B5).trans (Turn.below (S := [w.heap.size]) (((((Turn.refl [w.heap.size] w5).setCell (g := w.heap.size) (by simp) _ _).setCell (g := w.heap.size) (by simp) _ _).setCell (g := w.heap.size) (by simp) _ _).setCell (g := w.heap.size) (by simp) _ _) (unhide B5).size (by simp))⟩
    · rw [hok] at HF2
      by_cases heq : sm = recSum (bs.take dd)
      · have HO := hide (show IsRead bs (some (⟨kindP bs, ⟨nm⟩, num3, ⟨#[]⟩⟩, dd + 2)) by
          have h := readI_yes (unhide HP) hs4 hok ((unhide HSM).trans (by rw [unhide HDD]; exact heq))
          rw [unhide HDD, List.length_take, Nat.min_eq_left (by have := unhide HDD; omega)] at h
          rw [← h]
          exact readI_is bs)
        have HQ := hide heq
        clear hok hs4 heq
        go_wp2_with fail
        refine (unhide HF2 _).mono ?_
        rintro e w5 ⟨rfl, b5⟩
        have X5 := hide ((unhide X4).up b5)
        have Y5 := hide ((unhide Y4).up b5)
        have HD5 := hide ((unhide HD4).up b5)
        have B5 := hide ((unhide B4).trans (b5.mono (unhide B4).size))
        clear b5 y0 y1 y2 y3 f0 f1 f2 f3 r1
        obtain ⟨⟨x0, x1, x2, x3⟩, g0, g1, g2, g3⟩ := (unhide X5).four
        obtain ⟨⟨y0, y1, y2, y3⟩, f0, f1, f2, f3⟩ := (unhide Y5).four
        go_wp2_with (first
          | (go_at_call 24; refine (implSum_any _ _ (bs.take dd) hsl (unhide HD5)).mono ?_; rw [← unhide HQ]; rintro e w6 ⟨rfl, hw6⟩; rw [hw6]; clear hw6 w6)
          | fail)
        refine bodyPost_ret (v := readVal (some (⟨kindP bs, ⟨nm⟩, num3, ⟨#[]⟩⟩, dd + 2))) (by simp [results, Try.results28, go_sem, x0, x1, x2, x3, readVal]) rfl ?_
        exact ⟨_, rfl, HO, (unhide B5).trans (Turn.below (S := [w.heap.size]) (((((Turn.refl [w.heap.size] w5).setCell (g := w.heap.size) (by simp) _ _).setCell (g := w.heap.size) (by simp) _ _).setCell (g := w.heap.size) (by simp) _ _).setCell (g := w.heap.size) (by simp) _ _) (unhide B5).size (by simp))⟩
      · have HO := hide (show IsRead bs none by rw [← readI_no (unhide HP) (.inr (.inr (by rw [unhide HSM, unhide HDD]; exact heq)))]; exact readI_is bs)
        generalize hsx : recSum (bs.take dd) = sx at *
        have HSX := hide hsx
        have hne : (sm != sx) = true := by simpa using heq
        clear hok hs4 heq hsx
        go_wp2_with fail
        refine (unhide HF2 _).mono ?_
        rintro e w5 ⟨rfl, b5⟩
        have X5 := hide ((unhide X4).up b5)
        have HD5 := hide ((unhide HD4).up b5)
        have B5 := hide ((unhide B4).trans (b5.mono (unhide B4).size))
        clear b5 y0 y1 y2 y3 f0 f1 f2 f3 r1
        obtain ⟨⟨x0, x1, x2, x3⟩, g0, g1, g2, g3⟩ := (unhide X5).four
        go_wp2_with (first
          | (go_at_call 24; refine (implSum_any _ _ (bs.take dd) hsl (unhide HD5)).mono ?_; rw [unhide HSX]; rintro e w6 ⟨rfl, hw6⟩; rw [hw6]; clear hw6 w6)
          | fail)
        refine bodyPost_ret (v := readVal none) (by simp [results, Try.results28, go_sem, x0, x1, x2, x3, readVal]) rfl ?_
        exact ⟨none, rfl, HO, (unhide B5).trans (Turn.below (S := [w.heap.size]) (((((Turn.refl [w.heap.size] w5).setCell (g := w.heap.size) (by simp) _ _).setCell (g := w.heap.size) (by simp) _ _).setCell (g := w.heap.size) (by simp) _ _).setCell (g := w.heap.size) (by simp) _ _) (unhide B5).size (by simp))⟩
  · rw [hs4] at r1
    have HO := hide (show IsRead bs none by rw [← readI_no (unhide HP) (.inl hs4)]; exact readI_is bs)
    clear hs4
    obtain ⟨⟨x0, x1, x2, x3⟩, g0, g1, g2, g3⟩ := (unhide X4).four
    go_wp2_with fail
    refine bodyPost_ret (v := readVal none) (by simp [results, Try.results28, go_sem, x0, x1, x2, x3, readVal]) rfl ?_
    exact ⟨none, rfl, HO, (unhide B4).trans (Turn.below (S := [w.heap.size]) (((((Turn.refl [w.heap.size] w4).setCell (g := w.heap.size) (by simp) _ _).setCell (g := w.heap.size) (by simp) _ _).setCell (g := w.heap.size) (by simp) _ _).setCell (g := w.heap.size) (by simp) _ _) (unhide B4).size (by simp))⟩
theorem implRead_any (v : Value) (bs : List UInt8) (w : World) (hl : bs.length ≤ 1048576) (h : ByRd w v bs) : Calls Try.prog 28 #[v] w fun e w' => RetRead bs w e w' := by
  by_cases k1 : kindP bs = 1
  · exact implRead_1 v bs w hl h k1
  · by_cases k2 : kindP bs = 2
    · exact implRead_2 v bs w hl h k2
    · by_cases k3 : kindP bs = 3
      · exact implRead_3 v bs w hl h k3
      · by_cases k4 : kindP bs = 4
        · exact implRead_4 v bs w hl h k4
        · exact implRead_0 v bs w hl h ⟨k1, k2, k3, k4⟩
end Go.Proofs.Ytcpjcdbhcllbiaa
