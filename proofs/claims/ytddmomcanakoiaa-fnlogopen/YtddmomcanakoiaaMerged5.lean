/-
  The specification's draws of a disk and a number, of a disk and bytes.
-/
/-
  The specification's draw of a disk that is opened.
-/
import Derived.Test.YtddmomcanakoiaaDrawDisk
set_option linter.unusedVariables false
namespace Go.Proofs.Ytddmomcanakoiaa
open Go.RowKit Go.Maps Go.Deep

theorem bytesIn_of' {w : World} {a : Option Addr} {bs : List UInt8} (h : ByIn w a bs) : BytesIn w a bs.length := by
  rcases h with rfl | ⟨b, off, rfl, hb, hc⟩
  · exact .inl rfl
  · exact .inr ⟨b, off, rfl, hb, fun i hi => ⟨bs[i].toNat, by have := bs[i].toNat_lt; omega, hc i hi⟩⟩
def DkFit (d : DiskV) : Prop := d.safe.length ≤ 9000 ∧ d.soft.length ≤ 2000 ∧ -2 ≤ d.fuse ∧ d.fuse ≤ 401
theorem Rdy.below {base g N B : Nat} {w0 w : World} (h : Rdy base g N w0 w) (hB : B ≤ w0.heap.size) (hb : B ≤ base) : Below B w0 w := by
  obtain ⟨p, _, hr⟩ := h.rd
  exact h.turn.below hB (by have := hr.above; simp; omega)
theorem setR (wx : World) (gr : Nat) (v0 v1 v2 v3 : Value) : Turn [gr] wx ((((wx.setCell ⟨gr, 0, none⟩ v0).setCell ⟨gr, 1, none⟩ v1).setCell ⟨gr, 2, none⟩ v2).setCell ⟨gr, 3, none⟩ v3) :=
  ((((Turn.refl [gr] wx).setCell (g := gr) (by simp) _ _).setCell (g := gr) (by simp) _ _).setCell (g := gr) (by simp) _ _).setCell (g := gr) (by simp) _ _
end Go.Proofs.Ytddmomcanakoiaa

set_option linter.unusedVariables false
namespace Go.Proofs.Ytddmomcanakoiaa
open Go.RowKit Go.Maps Go.Deep

set_option maxHeartbeats 6400000 in
theorem drawOpen_any (w : World) (a : Option Addr) (cap : Nat) (bs : List UInt8) (hl : bs.length ≤ maxLen) (hc : bs.length ≤ cap) (hb : ByIn w a bs) :
    Calls Try.prog 12 #[.slice a bs.length cap] w fun e w' => ∃ a0 n0 c0 a1 n1 c1, ∃ (d : DiskV), e = .returned (.agg #[.slice a0 n0 c0, .slice a1 n1 c1, .int .i64 d.fuse, .bool d.down]) ∧ Hid (DiskRd w' (.agg #[.slice a0 n0 c0, .slice a1 n1 c1, .int .i64 d.fuse, .bool d.down]) d) ∧ Hid (DkFit d) ∧ Below w.heap.size w w' := by
  have b0 := (Below.refl w.heap.size w).alloc (Nat.le_refl _) (.cells #[.slice none 0 0, .slice none 0 0, .int .i64 0, .bool false] 35)
  have X0 := hide (boxF_new4 w (.slice none 0 0) (.slice none 0 0) (.int .i64 0) (.bool false) 35)
  have HO := hide (l1Open_any (w.alloc (.cells #[.slice none 0 0, .slice none 0 0, .int .i64 0, .bool false] 35)) a bs.length cap hl hc (bytesIn_of' (hb.up b0)))
  have B0 := hide b0
  have Z0 := hide (show (w.alloc (.cells #[.slice none 0 0, .slice none 0 0, .int .i64 0, .bool false] 35)).heap.size = w.heap.size + 1 by simp)
  clear b0 hb hl hc
  go_enter Try.func12, Try.ntmps12
  go_wp2_with fail
  generalize w.alloc (.cells #[.slice none 0 0, .slice none 0 0, .int .i64 0, .bool false] 35) = W0 at *
  refine (unhide HO).mono ?_
  rintro e w1 ⟨g, rfl, hr1, ht1⟩
  have hbl : Below W0.heap.size W0 w1 := ht1.below (Nat.le_refl _) (by simp)
  have X1 := hide ((unhide X0).up hbl)
  have B1 := hide ((unhide B0).trans (hbl.mono (unhide B0).size))
  have HG := hide (show w.heap.size < g from by have := hr1.above; have := unhide Z0; omega)
  have R1 := hide (Rdy.refl hr1 (Nat.le_refl 0))
  have HBS := hide (show w.heap.size ≤ W0.heap.size from (unhide B0).size)
  clear hr1 ht1 hbl X0 B0 HO
  go_wp2_with fail
  refine (l32Disk_any W0.heap.size g 0 w1 w1 (by omega) (unhide R1)).mono ?_
  rintro e w2 ⟨a0, n0, c0, a1, n1, c1, d, rfl, RD2, HF, R2⟩
  have X2 := hide ((unhide X1).turn (unhide R2).turn (by have := unhide HG; simp; omega))
  have B2 := hide ((unhide B1).trans ((unhide R2).below (unhide B1).size (unhide HBS)))
  have t4 := setR w2 w.heap.size (.slice a0 n0 c0) (.slice a1 n1 c1) (.int .i64 d.fuse) (.bool d.down)
  have DK := hide (unhide RD2 _ [w.heap.size] t4 (by have := (unhide R1).lt; have := unhide HG; simp; omega))
  have B3 := hide ((unhide B2).trans (t4.below (unhide B2).size (by simp)))
  clear t4 RD2 R1 R2 X1 B1 B2
  obtain ⟨⟨x0, x1, x2, x3⟩, x4, x5, x6, x7⟩ := (unhide X2).four
  go_wp2_with fail
  refine bodyPost_ret (v := .agg #[.slice a0 n0 c0, .slice a1 n1 c1, .int .i64 d.fuse, .bool d.down]) (by simp [results, Try.results12, go_sem, x0, x1, x2, x3]) rfl ?_
  exact ⟨a0, n0, c0, a1, n1, c1, d, rfl, DK, HF, unhide B3⟩
def RetDrawnR (w : World) (e : Ending) (w' : World) : Prop := ∃ r : RecV, e = .returned (recVal r) ∧ Hid (RecFit r) ∧ Below w.heap.size w w'
set_option maxHeartbeats 1600000 in
theorem drawRecOk_any (w : World) (a : Option Addr) (cap : Nat) (bs : List UInt8) (hl : bs.length ≤ maxLen) (hc : bs.length ≤ cap) (hb : ByIn w a bs) :
    Calls Try.prog 16 #[.slice a bs.length cap] w fun e w' => RetDrawnR w e w' := by
  have bb := (Below.refl w.heap.size w).alloc (Nat.le_refl _) (.cells #[.int .i64 0, .string ⟨#[]⟩, .int .i64 0, .string ⟨#[]⟩] 32)
  have hwz : w.heap.size < (w.alloc (.cells #[.int .i64 0, .string ⟨#[]⟩, .int .i64 0, .string ⟨#[]⟩] 32)).heap.size := by simp
  have BX0 := hide (boxF_new4 w (.int .i64 0) (.string ⟨#[]⟩) (.int .i64 0) (.string ⟨#[]⟩) 32)
  have HO := hide (l1Open_any (w.alloc (.cells #[.int .i64 0, .string ⟨#[]⟩, .int .i64 0, .string ⟨#[]⟩] 32)) a bs.length cap hl hc (bytesIn_of' (hb.up bb)))
  have BB := hide bb
  clear hb hl hc bb
  go_enter Try.func16, Try.ntmps16
  go_wp2_with fail
  generalize w.alloc (.cells #[.int .i64 0, .string ⟨#[]⟩, .int .i64 0, .string ⟨#[]⟩] 32) = W at *
  refine (unhide HO).mono ?_
  rintro e w1 ⟨g, rfl, hr1, ht1⟩
  have HR1 := hide hr1
  have BX1 := hide ((unhide BX0).turn ht1 (by simp))
  have B1 := hide ((unhide BB).trans (ht1.below (unhide BB).size (by simp)))
  have hgb := hr1.above
  clear hr1 ht1 HO BX0
  go_wp2_with fail
  refine (l32Rec_any w1 W.heap.size g 0 (by omega) (unhide HR1)).mono ?_
  rintro e w2 ⟨r, rfl, hf, _, ht2⟩
  have HF := hide (fit_of' hf)
  have BX2 := hide ((unhide BX1).turn ht2 (by simp; omega))
  have B2 := hide ((unhide B1).trans (ht2.below (unhide B1).size (by simp; omega)))
  obtain ⟨⟨z0, z1, z2, z3⟩, f0, f1, f2, f3⟩ := (unhide BX2).four
  obtain ⟨y0, y1, y2, y3, _, t⟩ := fill4 w2 w.heap.size (.int .i64 r.kind) (.string r.name) (.int .i64 r.num) (.string r.text) (fun i hi => ⟨_, (unhide BX2).1.2 i _ (List.getElem?_eq_getElem (by simpa using hi))⟩)
  have HE := hide (show RetDrawnR w (.returned (.agg #[.int .i64 r.kind, .string r.name, .int .i64 r.num, .string r.text])) _ from ⟨r, rfl, HF, (unhide B2).trans (t.below (unhide B2).size (by simp))⟩)
  have Y := hide (And.intro y0 (And.intro y1 (And.intro y2 y3)))
  clear HR1 ht2 hf t y0 y1 y2 y3 BX1 B1
  unfold recVal
  go_wp2_with fail
  obtain ⟨y0, y1, y2, y3⟩ := unhide Y
  exact bodyPost_ret (v := .agg #[.int .i64 r.kind, .string r.name, .int .i64 r.num, .string r.text]) (by simp [results, Try.results16, go_sem, y0, y1, y2, y3]) rfl (unhide HE)
end Go.Proofs.Ytddmomcanakoiaa
