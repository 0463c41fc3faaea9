/-
  The walk of the law on bytes written in pieces. (Made by wip/mkpieces.py.)
-/
import Derived.Test.YtbbaiabcapbdoaaDrawFall
import Derived.Test.YtbbaiabcapbdoaaPeDisk
import Derived.Test.YtbbaiabcapbdoaaSpecWriteN
import Derived.Test.YtbbaiabcapbdoaaWriteImpl
import Derived.Test.YtbbaiabcapbdoaaDiskKit
import Derived.Test.YtbbaiabcapbdoaaByArg
import Derived.Handy
import Derived.Deep.DeepCutAuto
import Derived.Deep.RegionWith
import Derived.Deep.RegionHeld3
set_option linter.unusedVariables false
namespace Go.Proofs.Ytbbaiabcapbdoaa
open Go.RowKit Go.Maps Go.Deep

theorem dk_small {d : DiskV} (h : DkFit d) : SmallDisk d := by unfold DkFit at h; exact ⟨by omega, by omega⟩
theorem own_form {S : List Nat} {w : World} {v : Value} {d : DiskV} (h : DiskOwn S w v d) : ∃ a0 n0 c0 a1 n1 c1, v = .agg #[.slice a0 n0 c0, .slice a1 n1 c1, .int .i64 d.fuse, .bool d.down] := by
  obtain ⟨v0, v1, rfl, h0, h1⟩ := h.rd
  obtain ⟨p0, p2, rfl⟩ := h0.len
  obtain ⟨p3, p5, rfl⟩ := h1.len
  exact ⟨_, _, _, _, _, _, rfl⟩
theorem by_len {w : World} {a : Option Addr} {n c : Nat} {bs : List UInt8} (h : ByRd w (.slice a n c) bs) : n = bs.length ∧ n ≤ c ∧ ByIn w a bs := by
  obtain ⟨a', c', e, h1, h2⟩ := h
  simp only [Value.slice.injEq] at e
  obtain ⟨rfl, rfl, rfl⟩ := e
  exact ⟨rfl, h2, h1⟩
theorem by_pre {w : World} {a : Option Addr} {n c : Nat} {bs : List UInt8} (h : ByRd w (.slice a n c) bs) (k : Nat) (hk : k ≤ n) : ByRd w (.slice a k c) (bs.take k) := by
  obtain ⟨rfl, h2, h1⟩ := by_len h
  refine ⟨a, c, by simp [Nat.min_eq_left hk], ?_, by simp; omega⟩
  rcases h1 with rfl | ⟨b, off, rfl, hb, hx⟩
  · exact .inl (by simp)
  · refine .inr ⟨b, off, rfl, hb, fun i hi => ?_⟩
    have hi' : i < bs.length := by simp at hi; omega
    rw [List.getElem_take]
    exact hx i hi'
theorem add_off (b off k : Nat) : (⟨b, off, none⟩ : Addr).add k = ⟨b, off + k, none⟩ := by
  by_cases e : k = 0
  · subst e; simp [Addr.add]
  · simp [Addr.add, e]
theorem by_suf {w : World} {a : Option Addr} {n c : Nat} {bs : List UInt8} (h : ByRd w (.slice a n c) bs) (k : Nat) (hk : k ≤ n) : ByRd w (.slice (a.map (fun x => x.add k)) (n - k) (c - k)) (bs.drop k) := by
  obtain ⟨rfl, h2, h1⟩ := by_len h
  refine ⟨_, c - k, by rw [List.length_drop], ?_, by rw [List.length_drop]; omega⟩
  rcases h1 with rfl | ⟨b, off, rfl, hb, hx⟩
  · exact .inl (by simp)
  · refine .inr ⟨b, off + k, by simp [add_off], hb, fun i hi => ?_⟩
    rw [List.getElem_drop, Nat.add_assoc]
    exact hx (k + i) (by simp at hi; omega)
theorem by_suf0 {w : World} {a : Option Addr} {n c : Nat} {bs : List UInt8} (h : ByRd w (.slice a n c) bs) (k : Nat) (hk : k ≤ n) (hc : c = k) : ByRd w (.slice a (n - k) (c - k)) (bs.drop k) := by
  obtain ⟨rfl, h2, h1⟩ := by_len h
  refine ⟨_, c - k, by rw [List.length_drop], .inl ?_, by rw [List.length_drop]; omega⟩
  exact List.drop_eq_nil_of_le (by omega)
theorem fz_neg {f : Int} (h : f < 0) (k : Nat) : fz f k = f := by simp [fz, h]
theorem fz_pos {f : Int} (h : ¬ f < 0) (k : Nat) : fz f k = f - k := by simp [fz, h]
theorem ok_iff (d : DiskV) (h : d.down = false) : diskOkB d = true ↔ (d.safe.length + d.soft.length ≤ 8000 ∧ -1 ≤ d.fuse ∧ d.fuse ≤ 400) := by
  simp [diskOkB, h]
  omega
theorem fell_ok {s : List UInt8} (h : s.length ≤ 8000) : diskOkB ⟨s, [], -1, true⟩ = true := by simp [diskOkB]; omega
theorem wr_down {d : DiskV} (h : diskOkB d = true) (hd : d.down = true) (bs : List UInt8) : wrV d bs = d ∧ wrI d bs = 2 := by simp [wrV, wrI, h, wrOut, wrCode, hd]
theorem wr_act {d : DiskV} (h : diskOkB d = true) (hd : d.down = false) (bs : List UInt8) (hr : d.safe.length + d.soft.length + bs.length ≤ 8000) : wrV d bs = actD d bs ∧ wrI d bs = actC d bs := by
  have : ¬ 8000 < d.safe.length + d.soft.length + bs.length := by omega
  simp [wrV, wrI, h, wrOut, wrCode, hd, this]
theorem take_two (bs : List UInt8) (k m : Nat) : bs.take k ++ (bs.drop k).take m = bs.take (k + m) := by rw [List.take_add]
/-- what two pieces come to -/
def PcIs (c p q : Int) (e x y : DiskV) (z : Bool) : Prop := if p = 2 ∧ z = true then c = 2 ∧ x = e else q = c ∧ y = e
theorem pieces {d : DiskV} {bs : List UInt8} {k : Nat} (hk : k ≤ bs.length) (h1 : wrI d bs ≠ 1) (h3 : wrI d bs ≠ 3) :
    PcIs (wrI d bs) (wrI d (bs.take k)) (wrI (wrV d (bs.take k)) (bs.drop k)) (wrV d bs) (wrV d (bs.take k)) (wrV (wrV d (bs.take k)) (bs.drop k)) (decide (bs.length - k = 0)) := by
  have hok : diskOkB d = true := by
    cases h : diskOkB d
    · exact absurd (by simp [wrI, h]) h1
    · rfl
  have hlk : (bs.take k).length = k := by simp [Nat.min_eq_left hk]
  have hld : (bs.drop k).length = bs.length - k := by simp
  cases hd : d.down
  · have hr : d.safe.length + d.soft.length + bs.length ≤ 8000 := by
      apply Decidable.byContradiction
      intro hr
      exact h3 (by simp [wrI, hok, wrCode, hd]; omega)
    obtain ⟨e1, e2⟩ := wr_act hok hd bs hr
    obtain ⟨e3, e4⟩ := wr_act hok hd (bs.take k) (by omega)
    obtain ⟨o1, o2, o3⟩ := (ok_iff d hd).1 hok
    rw [e1, e2, e3, e4]
    cases hg : goneB d (bs.take k)
    · -- the first piece is written whole
      have f1 : ¬ (0 ≤ d.fuse ∧ d.fuse < (k : Int)) := by
        simp only [goneB, hlk, Bool.and_eq_false_iff, decide_eq_false_iff_not] at hg
        omega
      have ea : actD d (bs.take k) = ⟨d.safe, d.soft ++ bs.take k, fz d.fuse k, d.down⟩ := by
        simp only [actD, hg, atD, hlk]
        rw [show List.take k (List.take k bs) = List.take k bs by rw [List.take_take, Nat.min_self]]
        simp
      have ec : actC d (bs.take k) = 0 := by simp [actC, hg]
      have hfz : (d.fuse < 0 → fz d.fuse k = d.fuse) ∧ (¬ d.fuse < 0 → fz d.fuse k = d.fuse - k) := ⟨fun h => fz_neg h k, fun h => fz_pos h k⟩
      rw [ea, ec]
      have hx : diskOkB ⟨d.safe, d.soft ++ bs.take k, fz d.fuse k, d.down⟩ = true := by
        rw [ok_iff _ (by simpa using hd)]
        simp only [List.length_append, hlk]
        by_cases hn : d.fuse < 0
        · rw [hfz.1 hn]; omega
        · rw [hfz.2 hn]; omega
      obtain ⟨e5, e6⟩ := wr_act hx (by simpa using hd) (bs.drop k) (by simp only [List.length_append, hlk, hld]; omega)
      rw [e5, e6]
      have hz : PcIs (actC d bs) 0 (actC ⟨d.safe, d.soft ++ bs.take k, fz d.fuse k, d.down⟩ (bs.drop k)) (actD d bs) ⟨d.safe, d.soft ++ bs.take k, fz d.fuse k, d.down⟩ (actD ⟨d.safe, d.soft ++ bs.take k, fz d.fuse k, d.down⟩ (bs.drop k)) (decide (bs.length - k = 0)) = (actC ⟨d.safe, d.soft ++ bs.take k, fz d.fuse k, d.down⟩ (bs.drop k) = actC d bs ∧ actD ⟨d.safe, d.soft ++ bs.take k, fz d.fuse k, d.down⟩ (bs.drop k) = actD d bs) := by simp [PcIs]
      rw [hz]
      have hgg : goneB ⟨d.safe, d.soft ++ bs.take k, fz d.fuse k, d.down⟩ (bs.drop k) = goneB d bs := by
        simp only [goneB, hld]
        by_cases hn : d.fuse < 0
        · rw [hfz.1 hn]
          have : decide (0 ≤ d.fuse) = false := by simpa using hn
          simp [this]
        · rw [hfz.2 hn]
          rw [Bool.eq_iff_iff]
          simp
          omega
      refine ⟨by simp only [actC, hgg], ?_⟩
      simp only [actD, hgg]
      cases hgb : goneB d bs
      · simp only [atD, hld, Bool.false_eq_true, if_false]
        rw [show List.take (bs.length - k) (List.drop k bs) = List.drop k bs from List.take_of_length_le (by rw [hld]; exact Nat.le_refl _), show List.take bs.length bs = bs from List.take_of_length_le (Nat.le_refl _), List.append_assoc, List.take_append_drop]
        congr 1
        by_cases hn : d.fuse < 0
        · rw [fz_neg hn, fz_neg hn, fz_neg hn]
        · rw [fz_pos hn, fz_pos hn, fz_pos (by omega)]
          omega
      · have g1 : 0 ≤ d.fuse ∧ d.fuse < (bs.length : Int) := by simpa [goneB] using hgb
        have hn : ¬ d.fuse < 0 := by omega
        simp only [fellD, atD, if_true]
        rw [fz_pos hn, List.append_assoc, take_two, show k + (d.fuse - (k : Int)).toNat = d.fuse.toNat by omega]
    · -- the fuse ends within the first piece
      have g1 : 0 ≤ d.fuse ∧ d.fuse < (k : Int) := by simpa [goneB, hlk] using hg
      have hgb : goneB d bs = true := by simp [goneB]; omega
      have ex : actD d (bs.take k) = actD d bs := by
        simp only [actD, hg, hgb, if_true, fellD, atD]
        rw [List.take_take, Nat.min_eq_left (by omega)]
      have ec : actC d (bs.take k) = 2 := by simp [actC, hg]
      have ecb : actC d bs = 2 := by simp [actC, hgb]
      rw [ex, ec, ecb]
      have hxd : (actD d bs).down = true := by simp [actD, hgb, fellD]
      have hxo : diskOkB (actD d bs) = true := by
        simp only [actD, hgb, if_true, fellD]
        apply fell_ok
        have hm : min d.fuse.toNat bs.length ≤ bs.length := Nat.min_le_right _ _
        simp [atD]
        omega
      obtain ⟨e5, e6⟩ := wr_down hxo hxd (bs.drop k)
      rw [e5, e6]
      unfold PcIs
      split
      · exact ⟨rfl, rfl⟩
      · exact ⟨rfl, rfl⟩
  · obtain ⟨e1, e2⟩ := wr_down hok hd bs
    obtain ⟨e3, e4⟩ := wr_down hok hd (bs.take k)
    obtain ⟨e5, e6⟩ := wr_down hok hd (bs.drop k)
    rw [e1, e2, e3, e4, e5, e6]
    unfold PcIs
    split
    · exact ⟨rfl, rfl⟩
    · exact ⟨rfl, rfl⟩
theorem below_s4 {n : Nat} {W X : World} {nb : Nat} (h : Below n W X) (hn : n ≤ nb) (a b c d : Value) : Below n W ((((X.setCell ⟨nb, 0, none⟩ a).setCell ⟨nb, 1, none⟩ b).setCell ⟨nb, 2, none⟩ c).setCell ⟨nb, 3, none⟩ d) :=
  (((h.setCell (p := ⟨nb, 0, none⟩) hn _).setCell (p := ⟨nb, 1, none⟩) hn _).setCell (p := ⟨nb, 2, none⟩) hn _).setCell (p := ⟨nb, 3, none⟩) hn _
theorem ended_a {W X : World} {q0 : Option Addr} {q1 q2 : Nat} {q3 : Option Addr} {q4 q5 : Nat} {f : Int} {b : Bool} {d : DiskV} (hb : Below W.heap.size W X) (h : DiskRd X (.agg #[.slice q0 q1 q2, .slice q3 q4 q5, .int .i64 f, .bool b]) d) :
    BoxF (X.alloc (.cells #[.slice q0 q1 q2, .slice q3 q4 q5, .int .i64 f, .bool b] 24)) X.heap.size [.slice q0 q1 q2, .slice q3 q4 q5, .int .i64 f, .bool b] ∧ DiskRd (X.alloc (.cells #[.slice q0 q1 q2, .slice q3 q4 q5, .int .i64 f, .bool b] 24)) (.agg #[.slice q0 q1 q2, .slice q3 q4 q5, .int .i64 f, .bool b]) d ∧ Below W.heap.size W (X.alloc (.cells #[.slice q0 q1 q2, .slice q3 q4 q5, .int .i64 f, .bool b] 24)) :=
  ⟨boxF_new4 X _ _ _ _ _, h.up ((Below.refl _ _).alloc (Nat.le_refl _) _), hb.alloc hb.size _⟩
theorem ended_b {W X : World} {nb : Nat} {z0 z1 z2 z3 : Value} {S : List Nat} {q0 : Option Addr} {q1 q2 : Nat} {q3 : Option Addr} {q4 q5 : Nat} {f : Int} {b : Bool} {d : DiskV} (hb : Below W.heap.size W X) (n : BoxF X nb [z0, z1, z2, z3]) (hn : W.heap.size ≤ nb) (hm : ∀ k ∈ S, nb < k) (h : DiskOwn S X (.agg #[.slice q0 q1 q2, .slice q3 q4 q5, .int .i64 f, .bool b]) d) :
    BoxF ((((X.setCell ⟨nb, 0, none⟩ (.slice q0 q1 q2)).setCell ⟨nb, 1, none⟩ (.slice q3 q4 q5)).setCell ⟨nb, 2, none⟩ (.int .i64 f)).setCell ⟨nb, 3, none⟩ (.bool b)) nb [.slice q0 q1 q2, .slice q3 q4 q5, .int .i64 f, .bool b] ∧ DiskRd ((((X.setCell ⟨nb, 0, none⟩ (.slice q0 q1 q2)).setCell ⟨nb, 1, none⟩ (.slice q3 q4 q5)).setCell ⟨nb, 2, none⟩ (.int .i64 f)).setCell ⟨nb, 3, none⟩ (.bool b)) (.agg #[.slice q0 q1 q2, .slice q3 q4 q5, .int .i64 f, .bool b]) d ∧ Below W.heap.size W ((((X.setCell ⟨nb, 0, none⟩ (.slice q0 q1 q2)).setCell ⟨nb, 1, none⟩ (.slice q3 q4 q5)).setCell ⟨nb, 2, none⟩ (.int .i64 f)).setCell ⟨nb, 3, none⟩ (.bool b)) := by
  have q := (((n.set 0 (.slice q0 q1 q2) (by simp)).set 1 (.slice q3 q4 q5) (by simp)).set 2 (.int .i64 f) (by simp)).set 3 (.bool b) (by simp)
  simp only [List.set] at q
  have t := setR X nb (.slice q0 q1 q2) (.slice q3 q4 q5) (.int .i64 f) (.bool b)
  exact ⟨q, (h.turn t (fun k hk hq => by have := hm k hk; simp at hq; omega)).rd, hb.trans (t.below hb.size (by simpa using hn))⟩
theorem small_wr {d : DiskV} (h : DkFit d) (bs : List UInt8) (hb : bs.length ≤ 100) : SmallDisk (wrV d bs) := by
  unfold DkFit at h
  unfold wrV
  split
  · unfold wrOut
    split
    · exact ⟨by omega, by omega⟩
    · split
      · exact ⟨by omega, by omega⟩
      · unfold actD
        have hm : min d.fuse.toNat bs.length ≤ bs.length := Nat.min_le_right _ _
        split
        · unfold SmallDisk fellD atD
          simp
          omega
        · unfold SmallDisk atD
          simp
          omega
  · unfold SmallDisk noDisk
    simp
set_option maxRecDepth 20000 in
set_option maxHeartbeats 12800000 in
theorem pieces_walk (a a2 : Option Addr) (cap cap2 : Nat) (bs ms : List UInt8) (w : World) (hl : bs.length ≤ maxLen) (hc : bs.length ≤ cap) (hb : ByIn w a bs) (hl2 : ms.length ≤ maxLen) (hc2 : ms.length ≤ cap2) (hb2 : ByIn w a2 ms) :
    Calls Try.prog 3 #[.slice a bs.length cap, .slice a2 ms.length cap2] w fun e w' => e = .returned (.bool true) ∧ Below w.heap.size w w' := by
  by_cases hl0 : (bs.length : Int) ≤ 1048576
  rotate_left
  · unfold maxLen at hl hl2
    go_enter Try.func3, Try.ntmps3
    go_wp2_with fail
    go_ret
    exact ⟨rfl, Below.refl _ _⟩
  by_cases hl3 : (ms.length : Int) ≤ 1048576
  rotate_left
  · unfold maxLen at hl hl2
    go_enter Try.func3, Try.ntmps3
    go_wp2_with fail
    go_ret
    exact ⟨rfl, Below.refl _ _⟩
  have HD := hide (drawWrite_any w a cap bs hl hc hb)
  clear hb hc hl hb2 hc2 hl2
  go_enter Try.func3, Try.ntmps3
  go_wp2_with fail
  refine (unhide HD).mono ?_
  rintro e w1 ⟨a0, n0, c0, a1, n1, c1, d, ya, yn, yc, ys, rfl, RD, HF, RY, HYL, b⟩
  have B2 := hide b
  clear b
  clear HD
  have HS := hide (dk_small (unhide HF))
  have HYN := hide (by_len (unhide RY)).1
  have x3 := boxF_new4 w1 (.slice a0 n0 c0) (.slice a1 n1 c1) (.int .i64 d.fuse) (.bool d.down) 24
  have b4 := (Below.refl w1.heap.size w1).alloc (Nat.le_refl _) (.cells #[.slice a0 n0 c0, .slice a1 n1 c1, .int .i64 d.fuse, .bool d.down] 24)
  have B5 := hide ((unhide B2).trans (b4.mono (unhide B2).size))
  clear B2
  have F6 := hide ((unhide RD).up b4)
  clear RD
  have F7 := hide ((unhide RY).up b4)
  clear RY
  have X8 := hide x3
  clear x3 b4
  obtain ⟨⟨c9, c10, c11, c12⟩, z13, z14, z15, z16⟩ := (unhide X8).four
  go_wp2_with fail
  generalize w1.alloc (.cells #[.slice a0 n0 c0, .slice a1 n1 c1, .int .i64 d.fuse, .bool d.down] 24) = W17 at *
  generalize w1.heap.size = g18 at *
  clear c9 c10 c11 c12 z13 z14 z15 z16
  refine (implWrite_any d _ ys _ W17 (unhide HS) (by have := unhide HYL; omega) (unhide F6) (unhide F7)).mono ?_
  rintro e w19 ⟨ve, Se, rfl, Oe, Le, b⟩
  obtain ⟨re0, re1, re2, re3, re4, re5, rfl⟩ := own_form (unhide Oe)
  have B20 := hide ((unhide B5).trans (b.mono (unhide B5).size))
  clear B5
  have F21 := hide ((unhide F6).up b)
  clear F6
  have F22 := hide ((unhide F7).up b)
  clear F7
  have X23 := hide ((unhide X8).up b)
  clear X8
  clear b
  have F24 := hide ((unhide Oe).rd)
  clear Oe Le
  have x25 := boxF_new4 w19 (.slice re0 re1 re2) (.slice re3 re4 re5) (.int .i64 (wrV d ys).fuse) (.bool (wrV d ys).down) 24
  have b26 := (Below.refl w19.heap.size w19).alloc (Nat.le_refl _) (.cells #[.slice re0 re1 re2, .slice re3 re4 re5, .int .i64 (wrV d ys).fuse, .bool (wrV d ys).down] 24)
  have B27 := hide ((unhide B20).trans (b26.mono (unhide B20).size))
  clear B20
  have F28 := hide ((unhide F21).up b26)
  clear F21
  have F29 := hide ((unhide F22).up b26)
  clear F22
  have F30 := hide ((unhide F24).up b26)
  clear F24
  have X31 := hide ((unhide X23).up b26)
  clear X23
  have X32 := hide x25
  clear x25 b26
  obtain ⟨⟨c33, c34, c35, c36⟩, z37, z38, z39, z40⟩ := (unhide X31).four
  go_wp2_with fail
  generalize w19.alloc (.cells #[.slice re0 re1 re2, .slice re3 re4 re5, .int .i64 (wrV d ys).fuse, .bool (wrV d ys).down] 24) = W41 at *
  generalize w19.heap.size = g42 at *
  clear c33 c34 c35 c36 z37 z38 z39 z40
  refine (specWrite_any d _ ys _ W41 (unhide HS) (by have := unhide HYL; omega) (unhide F28) (unhide F29)).mono ?_
  rintro e w43 ⟨vf, Sf, rfl, Of, Lf, b⟩
  obtain ⟨rf0, rf1, rf2, rf3, rf4, rf5, rfl⟩ := own_form (unhide Of)
  have B44 := hide ((unhide B27).trans (b.mono (unhide B27).size))
  clear B27
  have F45 := hide ((unhide F28).up b)
  clear F28
  have F46 := hide ((unhide F29).up b)
  clear F29
  have F47 := hide ((unhide F30).up b)
  clear F30
  have X48 := hide ((unhide X31).up b)
  clear X31
  have X49 := hide ((unhide X32).up b)
  clear X32
  clear b
  have F50 := hide ((unhide Of).rd)
  clear Of Lf
  have x51 := boxF_new4 w43 (.slice rf0 rf1 rf2) (.slice rf3 rf4 rf5) (.int .i64 (wrV d ys).fuse) (.bool (wrV d ys).down) 24
  have b52 := (Below.refl w43.heap.size w43).alloc (Nat.le_refl _) (.cells #[.slice rf0 rf1 rf2, .slice rf3 rf4 rf5, .int .i64 (wrV d ys).fuse, .bool (wrV d ys).down] 24)
  have B53 := hide ((unhide B44).trans (b52.mono (unhide B44).size))
  clear B44
  have F54 := hide ((unhide F45).up b52)
  clear F45
  have F55 := hide ((unhide F46).up b52)
  clear F46
  have F56 := hide ((unhide F47).up b52)
  clear F47
  have F57 := hide ((unhide F50).up b52)
  clear F50
  have X58 := hide ((unhide X48).up b52)
  clear X48
  have X59 := hide ((unhide X49).up b52)
  clear X49
  have X60 := hide x51
  clear x51 b52
  obtain ⟨⟨c61, c62, c63, c64⟩, z65, z66, z67, z68⟩ := (unhide X59).four
  obtain ⟨⟨c69, c70, c71, c72⟩, z73, z74, z75, z76⟩ := (unhide X60).four
  go_wp2_with fail
  generalize w43.alloc (.cells #[.slice rf0 rf1 rf2, .slice rf3 rf4 rf5, .int .i64 (wrV d ys).fuse, .bool (wrV d ys).down] 24) = W77 at *
  generalize w43.heap.size = g78 at *
  clear c61 c62 c63 c64 z65 z66 z67 z68 c69 c70 c71 c72 z73 z74 z75 z76
  refine (peDisk_same (wrV d ys) _ _ W77 (unhide F56) (unhide F57)).mono ?_
  rintro e w79 ⟨rfl, b⟩
  have B80 := hide ((unhide B53).trans (b.mono (unhide B53).size))
  clear B53
  have F81 := hide ((unhide F54).up b)
  clear F54
  have F82 := hide ((unhide F55).up b)
  clear F55
  have F83 := hide ((unhide F56).up b)
  clear F56
  have F84 := hide ((unhide F57).up b)
  clear F57
  have X85 := hide ((unhide X58).up b)
  clear X58
  have X86 := hide ((unhide X59).up b)
  clear X59
  have X87 := hide ((unhide X60).up b)
  clear X60
  clear b
  by_cases h1 : wrI d ys = 1
  · have h1b : (wrI d ys == 1) = true := by simp [h1]
    clear h1
    go_wp2_with fail
    go_ret
    exact ⟨rfl, unhide B80⟩
  by_cases h3 : wrI d ys = 3
  · have h1b : (wrI d ys == 1) = false := by simpa using h1
    have h3b : (wrI d ys == 3) = true := by simp [h3]
    clear h1 h3
    go_wp2_with fail
    go_ret
    exact ⟨rfl, unhide B80⟩
  have h1b : (wrI d ys == 1) = false := by simpa using h1
  have h3b : (wrI d ys == 3) = false := by simpa using h3
  have HPC := hide (fun (k : Nat) (hk : k ≤ ys.length) => pieces hk h1 h3)
  clear h1 h3
  have hyn : yn ≤ 39 := by have := unhide HYL; have := unhide HYN; omega
  go_upto_region 10 with fail
  go_cut [11] (fun s11 wx => (∃ K : Nat, s11 = .int .i64 (K : Int) ∧ K ≤ yn) ∧ wx = w79)
  case first =>
    go_wp2_with fail
    go_meet
    refine ⟨⟨ms.length % (yn + 1), ?_, by have := Nat.mod_lt ms.length (show 0 < yn + 1 by omega); omega⟩, rfl⟩
    go_num
  case rest =>
  obtain ⟨⟨k, rfl, hk⟩, hwc⟩ := hcut
  have hwc2 := hwc.symm
  clear hwc
  subst hwc2
  have HK := hide (show k ≤ ys.length by have := unhide HYN; omega)
  have HPK := hide (unhide HPC k (unhide HK))
  clear HPC
  have HSX := hide (small_wr (unhide HF) (ys.take k) (by have := unhide HYL; simp; omega))
  have hkc : (k : Int) ≤ (yc : Int) := by have := (by_len (unhide F82)).2.1; omega
  have hky : (k : Int) ≤ (yn : Int) := by omega
  obtain ⟨⟨c88, c89, c90, c91⟩, z92, z93, z94, z95⟩ := (unhide X85).four
  go_upto_region 11 with fail
  go_cut [12, 13] (fun sa sb wx => ∃ gx q0 q1 q2 q3 q4 q5, sa = .pointer (some ⟨gx, 0, none⟩) ∧ sb = .int .i64 (wrI d (ys.take k)) ∧ Hid (BoxF wx gx [.slice q0 q1 q2, .slice q3 q4 q5, .int .i64 (wrV d (ys.take k)).fuse, .bool (wrV d (ys.take k)).down]) ∧ Hid (DiskRd wx (.agg #[.slice q0 q1 q2, .slice q3 q4 q5, .int .i64 (wrV d (ys.take k)).fuse, .bool (wrV d (ys.take k)).down]) (wrV d (ys.take k))) ∧ Hid (Below w79.heap.size w79 wx))
  case first =>
    have BD := hide (show Below w79.heap.size w79 w79.drew from (Below.refl _ _).drew)
    have BE := hide (show Below w79.heap.size w79 (w79.alloc (.cells #[.slice none 0 0, .slice none 0 0, .int .i64 0, .bool false] 24)).drew from ((Below.refl _ _).alloc (Nat.le_refl _) _).drew)
    have NB := hide ((boxF_new4 w79 (.slice none 0 0) (.slice none 0 0) (.int .i64 0) (.bool false) 24).up ((Below.refl _ _).drew))
    have KP := hide (show ∀ X : World, Below w79.heap.size w79 X → (fun (X : World) => (X.cell? ⟨g18, 0, none⟩ = some (.slice a0 n0 c0) ∧ X.cell? ⟨g18, 1, none⟩ = some (.slice a1 n1 c1) ∧ X.cell? ⟨g18, 2, none⟩ = some (.int .i64 d.fuse) ∧ X.cell? ⟨g18, 3, none⟩ = some (.bool d.down)) ∧ Hid (Below w79.heap.size w79 X)) X from fun X b => ⟨((unhide X85).up b).four.1, hide b⟩)
    go_region_held3 (fun (X : World) => (X.cell? ⟨g18, 0, none⟩ = some (.slice a0 n0 c0) ∧ X.cell? ⟨g18, 1, none⟩ = some (.slice a1 n1 c1) ∧ X.cell? ⟨g18, 2, none⟩ = some (.int .i64 d.fuse) ∧ X.cell? ⟨g18, 3, none⟩ = some (.bool d.down)) ∧ Hid (Below w79.heap.size w79 X)) ((first | (refine unhide KP _ ?_; exact unhide (by assumption)) | (refine unhide KP _ ?_; exact (unhide BB3).alloc (unhide BB3).size _) | (refine unhide KP _ ?_; exact (unhide BD).alloc (unhide BD).size _) | (refine unhide KP _ ?_; exact below_s4 (unhide BB3) (by first | exact Nat.le_refl _ | exact (unhide BB3).size) _ _ _ _) | (refine unhide KP _ ?_; exact below_s4 ((unhide BB3).alloc (unhide BB3).size _) (by first | exact Nat.le_refl _ | exact (unhide BB3).size) _ _ _ _)))
      (first
      | (go_at_call 6; (with_reducible show Calls _ _ _ w79.drew _); refine (implWrite_any d _ (ys.take k) _ _ (unhide HS) (by have := unhide HYL; simp; omega) ((unhide F81).up (unhide BD)) (by_pre ((unhide F82).up (unhide BD)) k hk)).mono ?_; rintro e w4 ⟨v4, S4, rfl, O4, L4, b4⟩; obtain ⟨q0, q1, q2, q3, q4, q5, rfl⟩ := own_form (unhide O4); have BB3 := hide ((unhide BD).trans (b4.mono (unhide BD).size)); have KA := hide (ended_a (unhide BB3) (unhide O4).rd); clear b4 O4 L4 NB)
      | (go_at_call 6; (with_reducible show Calls _ _ _ (w79.alloc _).drew _); refine (implWrite_any d _ (ys.take k) _ _ (unhide HS) (by have := unhide HYL; simp; omega) ((unhide F81).up (unhide BE)) (by_pre ((unhide F82).up (unhide BE)) k hk)).mono ?_; rintro e w4 ⟨v4, S4, rfl, O4, L4, b4⟩; obtain ⟨q0, q1, q2, q3, q4, q5, rfl⟩ := own_form (unhide O4); have NB4 := hide ((unhide NB).up b4); have BB3 := hide ((unhide BE).trans (b4.mono (unhide BE).size)); have KA := hide (ended_b (unhide BB3) (unhide NB4) (Nat.le_refl _) (fun k hk => by have := unhide L4 k hk; have := (unhide NB).1.1; omega) (unhide O4)); obtain ⟨⟨nc0, nc1, nc2, nc3⟩, nf0, nf1, nf2, nf3⟩ := (unhide NB4).four; clear b4 O4 L4)
      | fail)
    all_goals
      go_wp2_with fail
      go_meet
      exact ⟨_, q0, q1, q2, q3, q4, q5, rfl, rfl, hide (unhide KA).1, hide (unhide KA).2.1, hide (unhide KA).2.2⟩
  case rest =>
  obtain ⟨g96, rx0, rx1, rx2, rx3, rx4, rx5, rfl, rfl, BXx, RXx, HBC⟩ := hcut
  clear c88 c89 c90 c91 z92 z93 z94 z95
  have bc := unhide HBC
  clear HBC
  generalize wc = w97 at *
  have B98 := hide ((unhide B80).trans (bc.mono (unhide B80).size))
  clear B80
  have F99 := hide ((unhide F81).up bc)
  clear F81
  have F100 := hide ((unhide F82).up bc)
  clear F82
  have F101 := hide ((unhide F83).up bc)
  clear F83
  have F102 := hide ((unhide F84).up bc)
  clear F84
  have X103 := hide ((unhide X85).up bc)
  clear X85
  have X104 := hide ((unhide X86).up bc)
  clear X86
  have X105 := hide ((unhide X87).up bc)
  clear X87
  clear bc
  obtain ⟨⟨c106, c107, c108, c109⟩, z110, z111, z112, z113⟩ := (unhide BXx).four
  go_upto_region 12 with fail
  go_cut [14, 15] (fun sa sb wx => ∃ gx q0 q1 q2 q3 q4 q5, sa = .pointer (some ⟨gx, 0, none⟩) ∧ sb = .int .i64 (wrI (wrV d (ys.take k)) (ys.drop k)) ∧ Hid (BoxF wx gx [.slice q0 q1 q2, .slice q3 q4 q5, .int .i64 (wrV (wrV d (ys.take k)) (ys.drop k)).fuse, .bool (wrV (wrV d (ys.take k)) (ys.drop k)).down]) ∧ Hid (DiskRd wx (.agg #[.slice q0 q1 q2, .slice q3 q4 q5, .int .i64 (wrV (wrV d (ys.take k)) (ys.drop k)).fuse, .bool (wrV (wrV d (ys.take k)) (ys.drop k)).down]) (wrV (wrV d (ys.take k)) (ys.drop k))) ∧ Hid (Below w97.heap.size w97 wx))
  case first =>
    have BD := hide (show Below w97.heap.size w97 w97.drew from (Below.refl _ _).drew)
    have BE := hide (show Below w97.heap.size w97 (w97.alloc (.cells #[.slice none 0 0, .slice none 0 0, .int .i64 0, .bool false] 24)).drew from ((Below.refl _ _).alloc (Nat.le_refl _) _).drew)
    have NB := hide ((boxF_new4 w97 (.slice none 0 0) (.slice none 0 0) (.int .i64 0) (.bool false) 24).up ((Below.refl _ _).drew))
    by_cases hck : yc = k
    · have hck2 := hck.symm
      clear hck
      subst hck2
      have KP := hide (show ∀ X : World, Below w97.heap.size w97 X → (fun (X : World) => (X.cell? ⟨g96, 0, none⟩ = some (.slice rx0 rx1 rx2) ∧ X.cell? ⟨g96, 1, none⟩ = some (.slice rx3 rx4 rx5) ∧ X.cell? ⟨g96, 2, none⟩ = some (.int .i64 (wrV d (ys.take k)).fuse) ∧ X.cell? ⟨g96, 3, none⟩ = some (.bool (wrV d (ys.take k)).down)) ∧ Hid (Below w97.heap.size w97 X)) X from fun X b => ⟨((unhide BXx).up b).four.1, hide b⟩)
      go_region_held3 (fun (X : World) => (X.cell? ⟨g96, 0, none⟩ = some (.slice rx0 rx1 rx2) ∧ X.cell? ⟨g96, 1, none⟩ = some (.slice rx3 rx4 rx5) ∧ X.cell? ⟨g96, 2, none⟩ = some (.int .i64 (wrV d (ys.take k)).fuse) ∧ X.cell? ⟨g96, 3, none⟩ = some (.bool (wrV d (ys.take k)).down)) ∧ Hid (Below w97.heap.size w97 X)) ((first | (refine unhide KP _ ?_; exact unhide (by assumption)) | (refine unhide KP _ ?_; exact (unhide BB3).alloc (unhide BB3).size _) | (refine unhide KP _ ?_; exact (unhide BD).alloc (unhide BD).size _) | (refine unhide KP _ ?_; exact below_s4 (unhide BB3) (by first | exact Nat.le_refl _ | exact (unhide BB3).size) _ _ _ _) | (refine unhide KP _ ?_; exact below_s4 ((unhide BB3).alloc (unhide BB3).size _) (by first | exact Nat.le_refl _ | exact (unhide BB3).size) _ _ _ _)))
        (first
        | (go_at_call 6; (with_reducible show Calls _ _ _ w97.drew _); refine (implWrite_any (wrV d (ys.take k)) _ (ys.drop k) _ _ (unhide HSX) (by have := unhide HYL; simp; omega) ((unhide RXx).up (unhide BD)) (by first | exact by_suf ((unhide F100).up (unhide BD)) k hk | exact by_suf0 ((unhide F100).up (unhide BD)) k hk rfl | simpa using by_suf0 ((unhide F100).up (unhide BD)) k hk rfl)).mono ?_; rintro e w4 ⟨v4, S4, rfl, O4, L4, b4⟩; obtain ⟨q0, q1, q2, q3, q4, q5, rfl⟩ := own_form (unhide O4); have BB3 := hide ((unhide BD).trans (b4.mono (unhide BD).size)); have KA := hide (ended_a (unhide BB3) (unhide O4).rd); clear b4 O4 L4 NB)
        | (go_at_call 6; (with_reducible show Calls _ _ _ (w97.alloc _).drew _); refine (implWrite_any (wrV d (ys.take k)) _ (ys.drop k) _ _ (unhide HSX) (by have := unhide HYL; simp; omega) ((unhide RXx).up (unhide BE)) (by first | exact by_suf ((unhide F100).up (unhide BE)) k hk | exact by_suf0 ((unhide F100).up (unhide BE)) k hk rfl | simpa using by_suf0 ((unhide F100).up (unhide BE)) k hk rfl)).mono ?_; rintro e w4 ⟨v4, S4, rfl, O4, L4, b4⟩; obtain ⟨q0, q1, q2, q3, q4, q5, rfl⟩ := own_form (unhide O4); have NB4 := hide ((unhide NB).up b4); have BB3 := hide ((unhide BE).trans (b4.mono (unhide BE).size)); have KA := hide (ended_b (unhide BB3) (unhide NB4) (Nat.le_refl _) (fun k hk => by have := unhide L4 k hk; have := (unhide NB).1.1; omega) (unhide O4)); obtain ⟨⟨nc0, nc1, nc2, nc3⟩, nf0, nf1, nf2, nf3⟩ := (unhide NB4).four; clear b4 O4 L4)
        | fail)
      all_goals
        go_wp2_with fail
        go_meet
        exact ⟨_, q0, q1, q2, q3, q4, q5, rfl, rfl, hide (unhide KA).1, hide (unhide KA).2.1, hide (unhide KA).2.2⟩
    · skip
      have KP := hide (show ∀ X : World, Below w97.heap.size w97 X → (fun (X : World) => (X.cell? ⟨g96, 0, none⟩ = some (.slice rx0 rx1 rx2) ∧ X.cell? ⟨g96, 1, none⟩ = some (.slice rx3 rx4 rx5) ∧ X.cell? ⟨g96, 2, none⟩ = some (.int .i64 (wrV d (ys.take k)).fuse) ∧ X.cell? ⟨g96, 3, none⟩ = some (.bool (wrV d (ys.take k)).down)) ∧ Hid (Below w97.heap.size w97 X)) X from fun X b => ⟨((unhide BXx).up b).four.1, hide b⟩)
      go_region_held3 (fun (X : World) => (X.cell? ⟨g96, 0, none⟩ = some (.slice rx0 rx1 rx2) ∧ X.cell? ⟨g96, 1, none⟩ = some (.slice rx3 rx4 rx5) ∧ X.cell? ⟨g96, 2, none⟩ = some (.int .i64 (wrV d (ys.take k)).fuse) ∧ X.cell? ⟨g96, 3, none⟩ = some (.bool (wrV d (ys.take k)).down)) ∧ Hid (Below w97.heap.size w97 X)) ((first | (refine unhide KP _ ?_; exact unhide (by assumption)) | (refine unhide KP _ ?_; exact (unhide BB3).alloc (unhide BB3).size _) | (refine unhide KP _ ?_; exact (unhide BD).alloc (unhide BD).size _) | (refine unhide KP _ ?_; exact below_s4 (unhide BB3) (by first | exact Nat.le_refl _ | exact (unhide BB3).size) _ _ _ _) | (refine unhide KP _ ?_; exact below_s4 ((unhide BB3).alloc (unhide BB3).size _) (by first | exact Nat.le_refl _ | exact (unhide BB3).size) _ _ _ _)))
        (first
        | (go_at_call 6; (with_reducible show Calls _ _ _ w97.drew _); refine (implWrite_any (wrV d (ys.take k)) _ (ys.drop k) _ _ (unhide HSX) (by have := unhide HYL; simp; omega) ((unhide RXx).up (unhide BD)) (by first | exact by_suf ((unhide F100).up (unhide BD)) k hk | exact by_suf0 ((unhide F100).up (unhide BD)) k hk rfl | simpa using by_suf0 ((unhide F100).up (unhide BD)) k hk rfl)).mono ?_; rintro e w4 ⟨v4, S4, rfl, O4, L4, b4⟩; obtain ⟨q0, q1, q2, q3, q4, q5, rfl⟩ := own_form (unhide O4); have BB3 := hide ((unhide BD).trans (b4.mono (unhide BD).size)); have KA := hide (ended_a (unhide BB3) (unhide O4).rd); clear b4 O4 L4 NB)
        | (go_at_call 6; (with_reducible show Calls _ _ _ (w97.alloc _).drew _); refine (implWrite_any (wrV d (ys.take k)) _ (ys.drop k) _ _ (unhide HSX) (by have := unhide HYL; simp; omega) ((unhide RXx).up (unhide BE)) (by first | exact by_suf ((unhide F100).up (unhide BE)) k hk | exact by_suf0 ((unhide F100).up (unhide BE)) k hk rfl | simpa using by_suf0 ((unhide F100).up (unhide BE)) k hk rfl)).mono ?_; rintro e w4 ⟨v4, S4, rfl, O4, L4, b4⟩; obtain ⟨q0, q1, q2, q3, q4, q5, rfl⟩ := own_form (unhide O4); have NB4 := hide ((unhide NB).up b4); have BB3 := hide ((unhide BE).trans (b4.mono (unhide BE).size)); have KA := hide (ended_b (unhide BB3) (unhide NB4) (Nat.le_refl _) (fun k hk => by have := unhide L4 k hk; have := (unhide NB).1.1; omega) (unhide O4)); obtain ⟨⟨nc0, nc1, nc2, nc3⟩, nf0, nf1, nf2, nf3⟩ := (unhide NB4).four; clear b4 O4 L4)
        | fail)
      all_goals
        go_wp2_with fail
        go_meet
        exact ⟨_, q0, q1, q2, q3, q4, q5, rfl, rfl, hide (unhide KA).1, hide (unhide KA).2.1, hide (unhide KA).2.2⟩
  case rest =>
  obtain ⟨g114, ryy0, ryy1, ryy2, ryy3, ryy4, ryy5, rfl, rfl, BXyy, RXyy, HBC⟩ := hcut
  clear c106 c107 c108 c109 z110 z111 z112 z113
  have bc := unhide HBC
  clear HBC
  generalize wc = w115 at *
  have B116 := hide ((unhide B98).trans (bc.mono (unhide B98).size))
  clear B98
  have F117 := hide ((unhide F99).up bc)
  clear F99
  have F118 := hide ((unhide F100).up bc)
  clear F100
  have F119 := hide ((unhide F101).up bc)
  clear F101
  have F120 := hide ((unhide F102).up bc)
  clear F102
  have F121 := hide ((unhide RXx).up bc)
  clear RXx
  have X122 := hide ((unhide X103).up bc)
  clear X103
  have X123 := hide ((unhide X104).up bc)
  clear X104
  have X124 := hide ((unhide X105).up bc)
  clear X105
  have X125 := hide ((unhide BXx).up bc)
  clear BXx
  clear bc
  clear HSX
  have HZK := hide (show decide (ys.length - k = 0) = decide (yn - k = 0) by have := unhide HYN; rw [this])
  have HP2 := unhide HPK
  rw [unhide HZK] at HP2
  clear HPK HZK
  have HRE := hide (unhide F119)
  have HRX := hide (unhide F121)
  have HRY := hide (unhide RXyy)
  generalize wrI d ys = C at *
  generalize wrI d (ys.take k) = P at *
  generalize wrI (wrV d (ys.take k)) (ys.drop k) = Q at *
  generalize wrV (wrV d (ys.take k)) (ys.drop k) = Y at *
  generalize wrV d (ys.take k) = X at *
  generalize wrV d ys = E at *
  by_cases hP : P = 2
  · have hPb : (P == 2) = true := by simp [hP]
    by_cases hz : yn - k = 0
    · have hzi : ((yn - k : Nat) : Int) = 0 := by omega
      have hzb : (((yn - k : Nat) : Int) == 0) = true := by simp [hz]
      obtain ⟨rfl, rfl⟩ : C = 2 ∧ X = E := by simpa [PcIs, hP, hz] using HP2
      have HZ := hide hz
      clear hP hz HP2 hzi
      by_cases hck : yc = k
      · have hck2 := hck.symm
        clear hck
        subst hck2
        obtain ⟨⟨c126, c127, c128, c129⟩, z130, z131, z132, z133⟩ := (unhide X123).four
        obtain ⟨⟨c134, c135, c136, c137⟩, z138, z139, z140, z141⟩ := (unhide X125).four
        go_wp2_with fail
        clear c126 c127 c128 c129 z130 z131 z132 z133 c134 c135 c136 c137 z138 z139 z140 z141
        refine (peDisk_same X _ _ w115 (unhide F121) (unhide F119)).mono ?_
        rintro e w142 ⟨rfl, b⟩
        have B143 := hide ((unhide B116).trans (b.mono (unhide B116).size))
        clear B116
        have F144 := hide ((unhide F117).up b)
        clear F117
        have F145 := hide ((unhide F118).up b)
        clear F118
        have F146 := hide ((unhide F119).up b)
        clear F119
        have F147 := hide ((unhide F120).up b)
        clear F120
        have F148 := hide ((unhide F121).up b)
        clear F121
        have F149 := hide ((unhide RXyy).up b)
        clear RXyy
        have X150 := hide ((unhide X122).up b)
        clear X122
        have X151 := hide ((unhide X123).up b)
        clear X123
        have X152 := hide ((unhide X124).up b)
        clear X124
        have X153 := hide ((unhide X125).up b)
        clear X125
        have X154 := hide ((unhide BXyy).up b)
        clear BXyy
        clear b
        go_wp2_with fail
        go_ret
        exact ⟨rfl, unhide B143⟩
      · skip
        obtain ⟨⟨c155, c156, c157, c158⟩, z159, z160, z161, z162⟩ := (unhide X123).four
        obtain ⟨⟨c163, c164, c165, c166⟩, z167, z168, z169, z170⟩ := (unhide X125).four
        go_wp2_with fail
        clear c155 c156 c157 c158 z159 z160 z161 z162 c163 c164 c165 c166 z167 z168 z169 z170
        refine (peDisk_same X _ _ w115 (unhide F121) (unhide F119)).mono ?_
        rintro e w171 ⟨rfl, b⟩
        have B172 := hide ((unhide B116).trans (b.mono (unhide B116).size))
        clear B116
        have F173 := hide ((unhide F117).up b)
        clear F117
        have F174 := hide ((unhide F118).up b)
        clear F118
        have F175 := hide ((unhide F119).up b)
        clear F119
        have F176 := hide ((unhide F120).up b)
        clear F120
        have F177 := hide ((unhide F121).up b)
        clear F121
        have F178 := hide ((unhide RXyy).up b)
        clear RXyy
        have X179 := hide ((unhide X122).up b)
        clear X122
        have X180 := hide ((unhide X123).up b)
        clear X123
        have X181 := hide ((unhide X124).up b)
        clear X124
        have X182 := hide ((unhide X125).up b)
        clear X125
        have X183 := hide ((unhide BXyy).up b)
        clear BXyy
        clear b
        go_wp2_with fail
        go_ret
        exact ⟨rfl, unhide B172⟩
    · have hzb : (((yn - k : Nat) : Int) == 0) = false := by simp; omega
      obtain ⟨rfl, rfl⟩ : Q = C ∧ Y = E := by simpa [PcIs, hP, hz] using HP2
      have HZ := hide hz
      clear hP hz HP2
      by_cases hck : yc = k
      · have hck2 := hck.symm
        clear hck
        subst hck2
        obtain ⟨⟨c184, c185, c186, c187⟩, z188, z189, z190, z191⟩ := (unhide X123).four
        obtain ⟨⟨c192, c193, c194, c195⟩, z196, z197, z198, z199⟩ := (unhide BXyy).four
        go_wp2_with fail
        clear c184 c185 c186 c187 z188 z189 z190 z191 c192 c193 c194 c195 z196 z197 z198 z199
        refine (peDisk_same Y _ _ w115 (unhide RXyy) (unhide F119)).mono ?_
        rintro e w200 ⟨rfl, b⟩
        have B201 := hide ((unhide B116).trans (b.mono (unhide B116).size))
        clear B116
        have F202 := hide ((unhide F117).up b)
        clear F117
        have F203 := hide ((unhide F118).up b)
        clear F118
        have F204 := hide ((unhide F119).up b)
        clear F119
        have F205 := hide ((unhide F120).up b)
        clear F120
        have F206 := hide ((unhide F121).up b)
        clear F121
        have F207 := hide ((unhide RXyy).up b)
        clear RXyy
        have X208 := hide ((unhide X122).up b)
        clear X122
        have X209 := hide ((unhide X123).up b)
        clear X123
        have X210 := hide ((unhide X124).up b)
        clear X124
        have X211 := hide ((unhide X125).up b)
        clear X125
        have X212 := hide ((unhide BXyy).up b)
        clear BXyy
        clear b
        go_wp2_with fail
        go_ret
        exact ⟨rfl, unhide B201⟩
      · skip
        obtain ⟨⟨c213, c214, c215, c216⟩, z217, z218, z219, z220⟩ := (unhide X123).four
        obtain ⟨⟨c221, c222, c223, c224⟩, z225, z226, z227, z228⟩ := (unhide BXyy).four
        go_wp2_with fail
        clear c213 c214 c215 c216 z217 z218 z219 z220 c221 c222 c223 c224 z225 z226 z227 z228
        refine (peDisk_same Y _ _ w115 (unhide RXyy) (unhide F119)).mono ?_
        rintro e w229 ⟨rfl, b⟩
        have B230 := hide ((unhide B116).trans (b.mono (unhide B116).size))
        clear B116
        have F231 := hide ((unhide F117).up b)
        clear F117
        have F232 := hide ((unhide F118).up b)
        clear F118
        have F233 := hide ((unhide F119).up b)
        clear F119
        have F234 := hide ((unhide F120).up b)
        clear F120
        have F235 := hide ((unhide F121).up b)
        clear F121
        have F236 := hide ((unhide RXyy).up b)
        clear RXyy
        have X237 := hide ((unhide X122).up b)
        clear X122
        have X238 := hide ((unhide X123).up b)
        clear X123
        have X239 := hide ((unhide X124).up b)
        clear X124
        have X240 := hide ((unhide X125).up b)
        clear X125
        have X241 := hide ((unhide BXyy).up b)
        clear BXyy
        clear b
        go_wp2_with fail
        go_ret
        exact ⟨rfl, unhide B230⟩
  · have hPb : (P == 2) = false := by simpa using hP
    obtain ⟨rfl, rfl⟩ : Q = C ∧ Y = E := by simpa [PcIs, hP] using HP2
    clear hP HP2
    obtain ⟨⟨c242, c243, c244, c245⟩, z246, z247, z248, z249⟩ := (unhide X123).four
    obtain ⟨⟨c250, c251, c252, c253⟩, z254, z255, z256, z257⟩ := (unhide BXyy).four
    go_wp2_with fail
    clear c242 c243 c244 c245 z246 z247 z248 z249 c250 c251 c252 c253 z254 z255 z256 z257
    refine (peDisk_same Y _ _ w115 (unhide RXyy) (unhide F119)).mono ?_
    rintro e w258 ⟨rfl, b⟩
    have B259 := hide ((unhide B116).trans (b.mono (unhide B116).size))
    clear B116
    have F260 := hide ((unhide F117).up b)
    clear F117
    have F261 := hide ((unhide F118).up b)
    clear F118
    have F262 := hide ((unhide F119).up b)
    clear F119
    have F263 := hide ((unhide F120).up b)
    clear F120
    have F264 := hide ((unhide F121).up b)
    clear F121
    have F265 := hide ((unhide RXyy).up b)
    clear RXyy
    have X266 := hide ((unhide X122).up b)
    clear X122
    have X267 := hide ((unhide X123).up b)
    clear X123
    have X268 := hide ((unhide X124).up b)
    clear X124
    have X269 := hide ((unhide X125).up b)
    clear X125
    have X270 := hide ((unhide BXyy).up b)
    clear BXyy
    clear b
    go_wp2_with fail
    go_ret
    exact ⟨rfl, unhide B259⟩
end Go.Proofs.Ytbbaiabcapbdoaa
