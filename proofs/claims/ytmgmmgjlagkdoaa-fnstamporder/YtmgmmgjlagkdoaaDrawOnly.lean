/-
  What the law on cut stamps draws: marks, and names.
-/
import Derived.Test.YtmgmmgjlagkdoaaDrawMarks
import Derived.Test.YtmgmmgjlagkdoaaStrApp
import Derived.Test.YtmgmmgjlagkdoaaByArg
set_option linter.unusedVariables false
namespace Go.Proofs.Ytmgmmgjlagkdoaa
open Go.RowKit Go.Maps Go.Deep

theorem bytesIn_of {w : World} {a : Option Addr} {bs : List UInt8} (h : ByIn w a bs) : BytesIn w a bs.length := by
  rcases h with rfl | ⟨b, off, e, hb, hc⟩
  · exact .inl rfl
  · exact .inr ⟨b, off, e, hb, fun i hi => ⟨bs[i].toNat, by have := bs[i].toNat_lt; omega, hc i hi⟩⟩
/-- few short texts -/
def SmT (n : Nat) (ts : List ByteArray) : Prop := ts.length ≤ n ∧ ∀ t ∈ ts, t.size ≤ 100
theorem SmT.small {n : Nat} {ts : List ByteArray} (h : SmT n ts) (hn : n ≤ 1000) : SmallStringS ts := ⟨by have := h.1; omega, fun t ht => by have := h.2 t ht; omega⟩
theorem SmT.snoc {n : Nat} {ts : List ByteArray} (h : SmT n ts) {t : ByteArray} (ht : t.size ≤ 100) : SmT (n + 1) (ts ++ [t]) :=
  ⟨by have := h.1; simp; omega, fun x hx => (List.mem_append.1 hx).elim (h.2 x) (fun e => by simp at e; rw [e]; exact ht)⟩
def RetDOnly (w : World) (e : Ending) (w' : World) : Prop := ∃ v xs u ts, e = .returned (.tuple #[v, u]) ∧ Hid (MarkSRd w' v xs) ∧ Hid (Sm 40 xs) ∧ Hid (StringSRd w' u ts) ∧ Hid (SmT 4 ts) ∧ Below w.heap.size w w'
/-- what stands between the rounds of the names -/
structure MidT (base g p : Nat) (w : World) (o : Value) (n q : Nat) (wr : World) : Prop where
  row : ∃ ts, TxRow w.heap.size wr o ts ∧ SmT n ts
  rd : ∃ r, r ≤ p + q ∧ RdIn base wr g r
  turn : Turn [g] w wr
theorem MidT.form {base g p : Nat} {w : World} {o : Value} {n q : Nat} {wr : World} (h : MidT base g p w o n q wr) : ∃ a n c, o = .slice a n c := by
  obtain ⟨xs, h1, _⟩ := h.row
  obtain ⟨a, c, e⟩ := h1.slice
  exact ⟨a, _, c, e⟩
theorem MidT.step {base g p : Nat} {w : World} {o : Value} {n q : Nat} {wr : World} (h : MidT base g p w o n q wr) (hg : g < w.heap.size) {W : World} (t : Turn [g] wr W) {r : Nat} (hr : RdIn base W g r) {q' : Nat} (hq : r ≤ p + q') : MidT base g p w o n q' W := by
  obtain ⟨xs, h1, h2⟩ := h.row
  exact ⟨⟨xs, h1.turn t hg, h2⟩, ⟨r, hq, hr⟩, h.turn.trans t⟩
theorem MidT.up {base g p : Nat} {w : World} {o : Value} {n q : Nat} {wr : World} (h : MidT base g p w o n q wr) (hg : g < w.heap.size) {W : World} (hb : Below wr.heap.size wr W) : MidT base g p w o n q W := by
  obtain ⟨r, h3, h4⟩ := h.rd
  exact h.step hg (Turn.of_below hb) (RdIn.turn (S := []) h4 (Turn.of_below hb) (by simp) (by simp)) h3
/-- a row of texts has grown -/
theorem MidT.grown {base g p : Nat} {w : World} {o o' : Value} {n n' q : Nat} {wr W : World} (h : MidT base g p w o n q wr) (hg : g < w.heap.size) {ts : List ByteArray} (hr : ∀ k, o.ownBlock = some k → w.heap.size ≤ k) (hgr : wr.grownBy W o.ownBlock) (hrow : TxRow w.heap.size W o' ts) (hs : SmT n' ts) : MidT base g p w o' n' q W := by
  obtain ⟨r, h3, h4⟩ := h.rd
  have ha := h4.above
  cases ho : o.ownBlock with
  | none =>
    have t : Turn [] wr W := Turn.of_grown (row := o.ownBlock) hgr (fun k hk => by rw [ho] at hk; cases hk)
    exact ⟨⟨ts, hrow, hs⟩, ⟨r, h3, RdIn.turn h4 t (by simp) (by simp)⟩, h.turn.trans (t.mono (by simp))⟩
  | some b =>
    have hb := hr b ho
    have t : Turn [b] wr W := Turn.of_grown (row := o.ownBlock) hgr (fun k hk => by rw [ho] at hk; cases hk; simp)
    exact ⟨⟨ts, hrow, hs⟩, ⟨r, h3, RdIn.turn h4 t (by simp; omega) (by simp; omega)⟩, turn_join h.turn (t.mono (fun k hk => .inl (by simp at hk; simp [hk]))) hb⟩

set_option maxRecDepth 20000 in
set_option maxHeartbeats 6400000 in
theorem drawOnly_any (w : World) (a : Option Addr) (cap : Nat) (bs : List UInt8) (hl : bs.length ≤ maxLen) (hc : bs.length ≤ cap) (hb : ByIn w a bs) :
    Calls Try.prog 6 #[.slice a bs.length cap] w fun e w' => RetDOnly w e w' := by
  have HO := hide (l1Open_any w a bs.length cap hl hc (bytesIn_of hb))
  clear hb hl hc
  go_enter Try.func6, Try.ntmps6
  go_wp2_with fail
  refine (unhide HO).mono ?_
  rintro e w1 ⟨g, rfl, hr1, ht1⟩
  have R1 := hide hr1
  have B1 := hide (show Below w.heap.size w w1 from ht1.below (Nat.le_refl _) (by simp))
  have hgl := hr1.lt
  have hga := hr1.above
  clear hr1 ht1 HO
  go_wp2_with fail
  refine (l34Marks_any w.heap.size g 0 w1 (by omega) (unhide R1)).mono ?_
  rintro e w2 ⟨v, xs, rfl, HV, HS, HR, HT⟩
  obtain ⟨va, vn, vc, rfl⟩ := (unhide HV).rd.form
  obtain ⟨q2, hq2, hr2⟩ := unhide HR
  have R2 := hide hr2
  have B2 := hide (show Below w.heap.size w w2 from (unhide B1).trans ((unhide HT).below (unhide B1).size (by simpa using hga)))
  have hgl2 : g < w2.heap.size := hr2.lt
  clear R1 HR hr2 HT B1
  go_wp2_with fail
  refine (pick_any w2 w.heap.size g q2 4 (by omega) (by omega) (by omega) (unhide R2)).mono ?_
  rintro e w3 ⟨n', rfl, n0, n4, hr3, ht3⟩
  obtain ⟨n, rfl⟩ := Int.eq_ofNat_of_zero_le n0
  have M3 := hide (show MidT w.heap.size g q2 w2 (.slice none 0 0) 0 1 w3 from ⟨⟨[], TxRow.nil _ _, by simp [SmT]⟩, ⟨_, Nat.le_refl _, hr3⟩, ht3⟩)
  clear hr3 ht3 R2
  go_wp2_with fail
  go_loopw [6, 8] (fun o i wr => ∃ k : Nat, k ≤ n ∧ i = .int .i64 k ∧ Hid (MidT w.heap.size g q2 w2 o k (1 + k) wr)) (fun _ i _ => n - (intOf i).toNat)
  case atStart => exact ⟨0, Nat.zero_le _, rfl, M3⟩
  case round =>
    obtain ⟨k, hk, rfl, HM⟩ := hrel
    obtain ⟨oa, on, oc, rfl⟩ := (unhide HM).form
    by_cases hlt : k < n
    · obtain ⟨r, hrq, hrr⟩ := (unhide HM).rd
      have HRR := hide hrr
      have HRQ := hide hrq
      clear hrr hrq
      go_wp2_with fail
      refine (l34Src_any wr w.heap.size g r (by have := unhide HRQ; omega) (unhide HRR)).mono ?_
      rintro e w4 ⟨s, rfl, hs, hr4, ht4⟩
      have M4 := hide ((unhide HM).step hgl2 ht4 hr4 (q' := 1 + (k + 1)) (by have := unhide HRQ; omega))
      clear hr4 ht4 HM HRR
      have bz := (Below.refl w4.heap.size w4).alloc (Nat.le_refl _) (.cells #[.string s] 9)
      have cs : (w4.alloc (.cells #[.string s] 9)).cell? ⟨w4.heap.size, 0, none⟩ = some (.string s) := by rw [World.cell?_alloc_at _ _ _ _ rfl]; rfl
      have M5 := hide ((unhide M4).up hgl2 bz)
      obtain ⟨ts, tr, tsm⟩ := (unhide M5).row
      have TR := hide tr
      have TS := hide tsm
      have hle : w2.heap.size ≤ (w4.alloc (.cells #[.string s] 9)).heap.size := (unhide M5).turn.size
      clear bz tr tsm M4
      go_wp2_with (first
        | (at_builtin; refine wpList_txAppend rfl _ _ rfl w2.heap.size _ ts s w4.heap.size rfl rfl (unhide TR) cs (by have := (unhide TS).1; omega) hle ?_; intro g6 n6 c6 w6 r6 gr6; have M6 := hide ((unhide M5).grown hgl2 (fun y hy => (unhide TR).ge y hy) gr6 r6 ((unhide TS).snoc hs)); clear r6 gr6)
        | fail)
      go_roundw
      case rel => exact ⟨k + 1, by omega, by go_num, M6⟩
      case measure => simp [intOf]; omega
    · obtain ⟨⟨ts, tr, tsm⟩, _, hT⟩ := unhide HM
      have HE := hide (show RetDOnly w (.returned (.tuple #[.slice va vn vc, .slice oa on oc])) wr from ⟨_, xs, _, ts, rfl, hide ((unhide HV).turn hT hgl).rd, HS, hide tr.rd, hide ⟨by have := tsm.1; omega, tsm.2⟩, (unhide B2).trans (hT.below (unhide B2).size (by simpa using hga))⟩)
      clear tr tsm hT HM M3
      go_wp2_with fail
      go_ret2
      exact unhide HE
end Go.Proofs.Ytmgmmgjlagkdoaa
