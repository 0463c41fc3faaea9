/-
  What the laws on records ask: a drawn record; records compared; the walk of the law that a record is read back.
-/
import Derived.Test.YtmlcglkdipigpaaDrawRec
import Derived.Test.YtmlcglkdipigpaaRecRead
import Derived.Test.YtmlcglkdipigpaaRecBytes
import Derived.Test.YtmlcglkdipigpaaByReader
import Derived.Laws.StructEq
import Derived.Handy
set_option linter.unusedVariables false
namespace Go.Proofs.Ytmlcglkdipigpaa
open Go.RowKit Go.Maps Go.Deep

theorem bytesIn_of {w : World} {a : Option Addr} {bs : List UInt8} (h : ByIn w a bs) : BytesIn w a bs.length := by
  rcases h with rfl | ⟨b, off, e, hb, hc⟩
  · exact .inl rfl
  · exact .inr ⟨b, off, e, hb, fun i hi => ⟨bs[i].toNat, by have := bs[i].toNat_lt; omega, hc i hi⟩⟩
/-- a record is drawn out of bytes -/
def RetDrawn (w : World) (e : Ending) (w' : World) : Prop := ∃ r : RecV, e = .returned (recVal r) ∧ Hid (RecFit r) ∧ Below w.heap.size w w'
theorem fit_of {r : RecV} (h : r.name.size ≤ 1000000 ∧ r.text.size ≤ 1000000 ∧ IntFit r.kind ∧ IntFit r.num) : RecFit r := ⟨by unfold maxLen; omega, by unfold maxLen; omega, h.2.2.1, h.2.2.2⟩
set_option maxHeartbeats 1600000 in
theorem drawRec_any (w : World) (a : Option Addr) (cap : Nat) (bs : List UInt8) (hl : bs.length ≤ maxLen) (hc : bs.length ≤ cap) (hb : ByIn w a bs) :
    Calls Try.prog 5 #[.slice a bs.length cap] w fun e w' => RetDrawn w e w' := by
  have bb := (Below.refl w.heap.size w).alloc (Nat.le_refl _) (.cells #[.int .i64 0, .string ⟨#[]⟩, .int .i64 0, .string ⟨#[]⟩] 24)
  have hwz : w.heap.size < (w.alloc (.cells #[.int .i64 0, .string ⟨#[]⟩, .int .i64 0, .string ⟨#[]⟩] 24)).heap.size := by simp
  have BX0 := hide (boxF_new4 w (.int .i64 0) (.string ⟨#[]⟩) (.int .i64 0) (.string ⟨#[]⟩) 24)
  have HO := hide (l1Open_any (w.alloc (.cells #[.int .i64 0, .string ⟨#[]⟩, .int .i64 0, .string ⟨#[]⟩] 24)) a bs.length cap hl hc (bytesIn_of (hb.up bb)))
  have BB := hide bb
  clear hb hl hc bb
  go_enter Try.func5, Try.ntmps5
  go_wp2_with fail
  generalize w.alloc (.cells #[.int .i64 0, .string ⟨#[]⟩, .int .i64 0, .string ⟨#[]⟩] 24) = W at *
  refine (unhide HO).mono ?_
  rintro e w1 ⟨g, rfl, hr1, ht1⟩
  have HR1 := hide hr1
  have BX1 := hide ((unhide BX0).turn ht1 (by simp))
  have B1 := hide ((unhide BB).trans (ht1.below (unhide BB).size (by simp)))
  have hgb := hr1.above
  clear hr1 ht1 HO BX0
  go_wp2_with fail
  refine (l32Rec_any w1 W.heap.size g 0 (by omega) (unhide HR1)).mono ?_
  rintro e w2 ⟨r, rfl, hf, _, ht2⟩
  have HF := hide (fit_of hf)
  have BX2 := hide ((unhide BX1).turn ht2 (by simp; omega))
  have B2 := hide ((unhide B1).trans (ht2.below (unhide B1).size (by simp; omega)))
  obtain ⟨⟨z0, z1, z2, z3⟩, f0, f1, f2, f3⟩ := (unhide BX2).four
  obtain ⟨y0, y1, y2, y3, _, t⟩ := fill4 w2 w.heap.size (.int .i64 r.kind) (.string r.name) (.int .i64 r.num) (.string r.text) (fun i hi => ⟨_, (unhide BX2).1.2 i _ (List.getElem?_eq_getElem (by simpa using hi))⟩)
  have HE := hide (show RetDrawn w (.returned (.agg #[.int .i64 r.kind, .string r.name, .int .i64 r.num, .string r.text])) _ from ⟨r, rfl, HF, (unhide B2).trans (t.below (unhide B2).size (by simp))⟩)
  have Y := hide (And.intro y0 (And.intro y1 (And.intro y2 y3)))
  clear HR1 ht2 hf t y0 y1 y2 y3 BX1 B1
  unfold recVal
  go_wp2_with fail
  obtain ⟨y0, y1, y2, y3⟩ := unhide Y
  exact bodyPost_ret (v := .agg #[.int .i64 r.kind, .string r.name, .int .i64 r.num, .string r.text]) (by simp [results, Try.results5, go_sem, y0, y1, y2, y3]) rfl (unhide HE)

theorem cmpRec (x y : RecV) (w : World) : (Op.equalIn 10000 24 (recVal x) (recVal y)).run Try.prog w = .ok ((x.kind == y.kind) && ((x.name.toList == y.name.toList) && ((x.num == y.num) && (x.text.toList == y.text.toList)))) w := by
  unfold recVal
  rw [run_equalIn_struct w 9999 24 _ _ (by kernel_rfl) (by kernel_rfl)]
  have hf : (Try.prog.fieldsOf 24).toList.map (fun f => (f.name, f.type, f.offset)) = [("Kind", 3, 0), ("Name", 9, 1), ("Num", 3, 2), ("Text", 9, 3)] := by kernel_rfl
  have hp : ∀ (T : TypeId) (a b c d : Value) (k : Nat) (v : Value), (isAgg T).run Try.prog w = .ok false w → (#[a, b, c, d] : Array Value)[k]? = some v → (part T #[a, b, c, d] k).run Try.prog w = .ok v w := by
    intro T a b c d k v ha hv
    unfold part
    simp only [Sem.run_bind, ha, Result.andThen_ok, Bool.false_eq_true, if_false, hv, Sem.run_pure]
  have hs : (isAgg 9).run Try.prog w = .ok false w := by kernel_rfl
  have hi : (isAgg 3).run Try.prog w = .ok false w := by kernel_rfl
  generalize (Try.prog.fieldsOf 24).toList = fs at hf ⊢
  match fs, hf with
  | [], hf => simp at hf
  | [_], hf => simp at hf
  | [_, _], hf => simp at hf
  | [_, _, _], hf => simp at hf
  | _ :: _ :: _ :: _ :: _ :: _, hf => simp at hf
  | [f0, f1, f2, f3], hf =>
    simp only [List.map_cons, List.map_nil, List.cons.injEq, Prod.mk.injEq, and_true] at hf
    obtain ⟨⟨n0, t0, o0⟩, ⟨n1, t1, o1⟩, ⟨n2, t2, o2⟩, ⟨n3, t3, o3⟩⟩ := hf
    simp only [Op.eqFields, n0, n1, n2, n3, t0, t1, t2, t3, o0, o1, o2, o3]
    rw [if_pos (by decide), if_pos (by decide), if_pos (by decide), if_pos (by decide)]
    simp only [Sem.run_bind]
    rw [hp _ _ _ _ _ 0 (.int .i64 x.kind) hi rfl, Result.andThen_ok, hp _ _ _ _ _ 0 (.int .i64 y.kind) hi rfl, Result.andThen_ok, run_equalIn_int w 9998 3 .i64 .i64 x.kind y.kind Try.underlying3, Result.andThen_ok]
    cases (x.kind == y.kind)
    · simp
    simp only [Bool.not_true, Bool.false_eq_true, if_false, Sem.run_bind]
    rw [hp _ _ _ _ _ 1 (.string x.name) hs rfl, Result.andThen_ok, hp _ _ _ _ _ 1 (.string y.name) hs rfl, Result.andThen_ok, run_equalIn_string w 9998 9 x.name y.name Try.underlying9, Result.andThen_ok]
    cases (x.name.toList == y.name.toList)
    · simp
    simp only [Bool.not_true, Bool.false_eq_true, if_false, Sem.run_bind]
    rw [hp _ _ _ _ _ 2 (.int .i64 x.num) hi rfl, Result.andThen_ok, hp _ _ _ _ _ 2 (.int .i64 y.num) hi rfl, Result.andThen_ok, run_equalIn_int w 9998 3 .i64 .i64 x.num y.num Try.underlying3, Result.andThen_ok]
    cases (x.num == y.num)
    · simp
    simp only [Bool.not_true, Bool.false_eq_true, if_false, Sem.run_bind]
    rw [hp _ _ _ _ _ 3 (.string x.text) hs rfl, Result.andThen_ok, hp _ _ _ _ _ 3 (.string y.text) hs rfl, Result.andThen_ok, run_equalIn_string w 9998 9 x.text y.text Try.underlying9, Result.andThen_ok]
    cases (x.text.toList == y.text.toList) <;> simp
theorem cmpRec_same (x : RecV) (w : World) : (Op.equalIn 10000 24 (recVal x) (recVal x)).run Try.prog w = .ok true w := by
  rw [cmpRec]
  simp
theorem read_back {r : RecV} (hf : RecFit r) (hb : recOkB r = true) (more : List UInt8) {o : Option (RecV × Nat)} (h : IsRead (recAll r ++ more) o) : o = some (r, (recAll r).length) :=
  isRead_same h ⟨hf, hb, rfl, more, rfl⟩
end Go.Proofs.Ytmlcglkdipigpaa
