/-
  SayRead of both sides at any bytes.
-/
/-
  Lists of words: for reading, and of one's own; a row of words that one may append to.
-/
import Derived.Test.YtlgmmibncoedgaaSayReadS
import Derived.Test.YtlgmmibncoedgaaSayReadI
import Derived.Test.YtlgmmibncoedgaaMerged27
import Derived.Test.YtlgmmibncoedgaaMerged21
import Derived.Test.YtlgmmibncoedgaaMerged3
import Derived.Deep.AppendLies
import Derived.Handy
set_option linter.unusedVariables false
namespace Go.Proofs.Ytlgmmibncoedgaa
open Go.RowKit Go.Maps Go.Deep

def sayV (bs : List UInt8) : SayV := (sayRd bs).getD noSay
def sayIs (bs : List UInt8) : Bool := (sayRd bs).isSome
theorem small_sayV (bs : List UInt8) : SmallSay (sayV bs) := by
  unfold sayV
  have hn : SmallSay noSay := ⟨⟨by decide, by simp [VerSmall, noSay]⟩, ⟨by decide, by simp [noSay], fun x hx => by simp [noSay] at hx⟩, by simp [noSay], by simp [noSay], by simp [noSay], by simp [noSay]⟩
  cases h : sayRd bs with
  | none => exact hn
  | some s =>
    unfold sayRd at h
    split at h
    · cases h1 : rdSay bs with
      | none => rw [h1] at h; cases h
      | some q =>
        obtain ⟨s', r⟩ := q
        rw [h1] at h
        simp only [Option.bind_some] at h
        split at h
        · simp only [Option.some.injEq] at h
          subst h
          exact rdSay_small h1
        · cases h
    · cases h
set_option maxRecDepth 20000 in
set_option maxHeartbeats 1600000 in
theorem specSayRead_own (bs : List UInt8) (v : Value) (w : World) (hs : SmallByteS bs) (h : ByRd w v bs) :
    Calls Try.prog 55 #[v] w fun e w' => ∃ v S, e = .returned (.tuple #[v, .bool (sayIs bs)]) ∧ Hid (SayOwn S w' v (sayV bs)) ∧ Hid (∀ k ∈ S, w.heap.size ≤ k) ∧ Below w.heap.size w w' := by
  by_cases hl : bs.length ≤ 260
  · exact specSayRead_any bs v w hl h
  · have HE := hide (sayRd_long (bs := bs) (by omega))
    obtain ⟨a, cc, rfl⟩ := h.len
    have hl' : 260 < (bs.length : Int) := by omega
    have hm : bs.length ≤ 1048576 := hs
    have x0 := boxF_new w [.int .i64 0, .int .i64 0, .int .i64 0, .string ⟨#[]⟩, .int .i64 0, .slice none 0 0] 26
    have b0 := (Below.refl w.heap.size w).alloc (Nat.le_refl _) (.cells #[.int .i64 0, .int .i64 0, .int .i64 0, .string ⟨#[]⟩, .int .i64 0, .slice none 0 0] 26)
    have HP := hide (fun (W : World) (b : Below w.heap.size w W) => show (∃ v S, Ending.returned (.tuple #[.agg #[.int .i64 0, .int .i64 0, .int .i64 0, .string ⟨#[]⟩, .int .i64 0, .slice none 0 0], .bool false]) = .returned (.tuple #[v, .bool (sayIs bs)]) ∧ Hid (SayOwn S W v (sayV bs)) ∧ Hid (∀ k ∈ S, w.heap.size ≤ k) ∧ Below w.heap.size w W) from
      ⟨_, [], by unfold sayIs; rw [unhide HE]; rfl, hide (by unfold sayV; rw [unhide HE]; exact ⟨_, rfl, .inl ⟨rfl, rfl, none, 0, rfl⟩⟩), hide (by simp), b⟩)
    obtain ⟨⟨c0, c1, c2, c3, c4, c5⟩, -⟩ := x0.six
    have HY := hide (And.intro c0 (And.intro c1 (And.intro c2 (And.intro c3 (And.intro c4 c5)))))
    have BY := hide b0
    simp only [List.toArray] at HY
    clear x0 b0 h hs hl c0 c1 c2 c3 c4 c5
    generalize bs.length = n at *
    go_enter Try.func55, Try.ntmps55
    go_wp2_with fail
    obtain ⟨y0, y1, y2, y3, y4, y5⟩ := unhide HY
    refine bodyPost_ret (v := .tuple #[.agg #[.int .i64 0, .int .i64 0, .int .i64 0, .string ⟨#[]⟩, .int .i64 0, .slice none 0 0], .bool false]) ?_ rfl ?_
    · simp [results, Try.results55, go_sem, y0, y1, y2, y3, y4, y5]
    · exact unhide HP _ (unhide BY)
theorem specSayRead_kit (bs : List UInt8) (v : Value) (w : World) (hs : SmallByteS bs) (h : ByRd w v bs) :
    Calls Try.prog 55 #[v] w fun e w' => ∃ v, e = .returned (.tuple #[v, .bool (sayIs bs)]) ∧ Hid (SayRd w' v (sayV bs)) ∧ Below w.heap.size w w' := (specSayRead_own bs v w hs h).mono fun _ _ h => by
  obtain ⟨v, S, h0, h1, _, h3⟩ := h
  exact ⟨v, h0, hide (unhide h1).rd, h3⟩
set_option maxRecDepth 20000 in
set_option maxHeartbeats 1600000 in
theorem implSayRead_kit (bs : List UInt8) (v : Value) (w : World) (hs : SmallByteS bs) (h : ByRd w v bs) :
    Calls Try.prog 14 #[v] w fun e w' => ∃ v S, e = .returned (.tuple #[v, .bool (sayIs bs)]) ∧ Hid (SayOwn S w' v (sayV bs)) ∧ Hid (∀ k ∈ S, w.heap.size ≤ k) ∧ Below w.heap.size w w' := by
  obtain ⟨a, cc, rfl⟩ := h.len
  by_cases hl : bs.length ≤ 260
  · have HC := hide (fun (W : World) (b : Below w.heap.size w W) => readWord_any bs (.slice a bs.length cc) W hl (h.up b))
    have hl' : ¬ 260 < (bs.length : Int) := by omega
    have x0 := boxF_new w [.int .i64 0, .int .i64 0, .int .i64 0, .string ⟨#[]⟩, .int .i64 0, .slice none 0 0] 26
    have b0 := (Below.refl w.heap.size w).alloc (Nat.le_refl _) (.cells #[.int .i64 0, .int .i64 0, .int .i64 0, .string ⟨#[]⟩, .int .i64 0, .slice none 0 0] 26)
    have X0 := hide x0
    have B0 := hide b0
    simp only [List.toArray] at X0
    have Z0 := hide (show w.heap.size < (w.alloc (.cells #[.int .i64 0, .int .i64 0, .int .i64 0, .string ⟨#[]⟩, .int .i64 0, .slice none 0 0] 26)).heap.size by simp)
    clear h hs hl x0 b0
    go_enter Try.func14, Try.ntmps14
    go_wp2_with fail
    refine (unhide HC _ (unhide B0)).mono ?_
    rintro e w1 ⟨v1, S, rfl, O1, L1, b1⟩
    have X1 := hide ((unhide X0).up b1)
    have B1 := hide ((unhide B0).trans (b1.mono (unhide B0).size))
    clear b1
    obtain ⟨k, f, t, nm, vl, sa, sn, sc, rfl⟩ := (unhide O1).rd.form
    obtain ⟨yy, ty⟩ := fill6W (unhide X1) (.int .i64 k) (.int .i64 f) (.int .i64 t) (.string nm) (.int .i64 vl) (.slice sa sn sc)
    have HP := hide (show (∃ v S, Ending.returned (.tuple #[.agg #[.int .i64 k, .int .i64 f, .int .i64 t, .string nm, .int .i64 vl, .slice sa sn sc], .bool (sayRd bs).isSome]) = .returned (.tuple #[v, .bool (sayIs bs)]) ∧ Hid (SayOwn S _ v (sayV bs)) ∧ Hid (∀ k ∈ S, w.heap.size ≤ k) ∧ Below w.heap.size w _) from
      ⟨_, S, rfl, hide ((unhide O1).turn ty (fun j hj hm => by have := unhide L1 j hj; have := unhide Z0; simp at hm; omega)), hide (fun j hj => by have := unhide L1 j hj; have := unhide Z0; omega), (unhide B1).trans (ty.below (unhide B1).size (by simp))⟩)
    obtain ⟨⟨y0, y1, y2, y3, y4, y5⟩, -⟩ := yy.sixW
    have HY := hide (And.intro y0 (And.intro y1 (And.intro y2 (And.intro y3 (And.intro y4 y5)))))
    obtain ⟨⟨c0, c1, c2, c3, c4, c5⟩, f0, f1, f2, f3, f4, f5⟩ := (unhide X1).sixW
    clear yy ty y0 y1 y2 y3 y4 y5 O1 L1 HC
    go_wp2_with fail
    obtain ⟨y0, y1, y2, y3, y4, y5⟩ := unhide HY
    refine bodyPost_ret (v := .tuple #[.agg #[.int .i64 k, .int .i64 f, .int .i64 t, .string nm, .int .i64 vl, .slice sa sn sc], .bool (sayRd bs).isSome]) ?_ rfl ?_
    · simp [results, Try.results14, go_sem, y0, y1, y2, y3, y4, y5]
    · exact unhide HP
  · have HE := hide (sayRd_long (bs := bs) (by omega))
    have hl' : 260 < (bs.length : Int) := by omega
    have hm : bs.length ≤ 1048576 := hs
    have x0 := boxF_new w [.int .i64 0, .int .i64 0, .int .i64 0, .string ⟨#[]⟩, .int .i64 0, .slice none 0 0] 26
    have b0 := (Below.refl w.heap.size w).alloc (Nat.le_refl _) (.cells #[.int .i64 0, .int .i64 0, .int .i64 0, .string ⟨#[]⟩, .int .i64 0, .slice none 0 0] 26)
    have HP := hide (fun (W : World) (b : Below w.heap.size w W) => show (∃ v S, Ending.returned (.tuple #[.agg #[.int .i64 0, .int .i64 0, .int .i64 0, .string ⟨#[]⟩, .int .i64 0, .slice none 0 0], .bool false]) = .returned (.tuple #[v, .bool (sayIs bs)]) ∧ Hid (SayOwn S W v (sayV bs)) ∧ Hid (∀ k ∈ S, w.heap.size ≤ k) ∧ Below w.heap.size w W) from
      ⟨_, [], by unfold sayIs; rw [unhide HE]; rfl, hide (by unfold sayV; rw [unhide HE]; exact ⟨_, rfl, .inl ⟨rfl, rfl, none, 0, rfl⟩⟩), hide (by simp), b⟩)
    obtain ⟨⟨c0, c1, c2, c3, c4, c5⟩, -⟩ := x0.sixW
    have HY := hide (And.intro c0 (And.intro c1 (And.intro c2 (And.intro c3 (And.intro c4 c5)))))
    have BY := hide b0
    simp only [List.toArray] at HY
    clear x0 b0 h hs hl c0 c1 c2 c3 c4 c5
    generalize bs.length = n at *
    go_enter Try.func14, Try.ntmps14
    go_wp2_with fail
    obtain ⟨y0, y1, y2, y3, y4, y5⟩ := unhide HY
    refine bodyPost_ret (v := .tuple #[.agg #[.int .i64 0, .int .i64 0, .int .i64 0, .string ⟨#[]⟩, .int .i64 0, .slice none 0 0], .bool false]) ?_ rfl ?_
    · simp [results, Try.results14, go_sem, y0, y1, y2, y3, y4, y5]
    · exact unhide HP _ (unhide BY)
end Go.Proofs.Ytlgmmibncoedgaa

set_option linter.unusedVariables false
namespace Go.Proofs.Ytlgmmibncoedgaa
open Go.RowKit Go.Maps Go.Deep

/-- a word's six cells, the list of its versions given as a value -/
structure SayCells (w : World) (b o : Nat) (s : SayV) (v : Value) : Prop where
  c0 : w.cell? ⟨b, o, none⟩ = some (.int .i64 s.kind)
  c1 : w.cell? ⟨b, o + 1, none⟩ = some (.int .i64 s.src)
  c2 : w.cell? ⟨b, o + 2, none⟩ = some (.int .i64 s.dst)
  c3 : w.cell? ⟨b, o + 3, none⟩ = some (.string s.name)
  c4 : w.cell? ⟨b, o + 4, none⟩ = some (.int .i64 s.val)
  c5 : w.cell? ⟨b, o + 5, none⟩ = some v
theorem SayCells.of {w w' : World} {b o : Nat} {s : SayV} {v : Value} (h : SayCells w b o s v) (hc : ∀ i, w'.cell? ⟨b, i, none⟩ = w.cell? ⟨b, i, none⟩) : SayCells w' b o s v :=
  ⟨(hc _).trans h.c0, (hc _).trans h.c1, (hc _).trans h.c2, (hc _).trans h.c3, (hc _).trans h.c4, (hc _).trans h.c5⟩
def SayAt (w : World) (b off : Nat) (ns : List SayV) : Prop := ∀ i (h : i < ns.length), ∃ v, SayCells w b (off + i * 6) ns[i] v ∧ VerRd w v ns[i].stamp
def SaySRd (w : World) (v : Value) (ns : List SayV) : Prop := ∃ a c, v = .slice a ns.length c ∧ (ns = [] ∨ ∃ b off, a = some ⟨b, off, none⟩ ∧ b < w.heap.size ∧ SayAt w b off ns)
def SmallSayS (ns : List SayV) : Prop := ns.length ≤ 10000 ∧ ∀ x ∈ ns, SmallSay x ∧ x.stamp.length ≤ 255
theorem SayAt.up {w w' : World} {b off : Nat} {ns : List SayV} (h : SayAt w b off ns) (hb : b < w.heap.size) (hw : Below w.heap.size w w') : SayAt w' b off ns := by
  intro i hi
  obtain ⟨v, c, hv⟩ := h i hi
  exact ⟨v, c.of (fun i => hw.cell (by exact hb)), hv.up hw⟩
theorem SaySRd.up {w w' : World} {v : Value} {ns : List SayV} (h : SaySRd w v ns) (hw : Below w.heap.size w w') : SaySRd w' v ns := by
  obtain ⟨a, c, e, h⟩ := h
  refine ⟨a, c, e, ?_⟩
  rcases h with h | ⟨b, off, e, hb, h⟩
  · exact .inl h
  · exact .inr ⟨b, off, e, Nat.lt_of_lt_of_le hb hw.size, h.up hb hw⟩
theorem SaySRd.form {w : World} {v : Value} {ns : List SayV} (h : SaySRd w v ns) : ∃ a n c, v = .slice a n c := by
  obtain ⟨a, c, e, _⟩ := h
  exact ⟨a, _, c, e⟩
def SayOwnAt (w : World) (b off : Nat) (ns : List SayV) (G : Nat → List Nat) : Prop := ∀ i (h : i < ns.length), b ∉ G i ∧ ∃ v, SayCells w b (off + i * 6) ns[i] v ∧ VerOwn (G i) w v ns[i].stamp
/-- a row of words in the blocks S -/
structure SayRowOwn (S : List Nat) (w : World) (b off : Nat) (ns : List SayV) (G : Nat → List Nat) : Prop where
  mem : b ∈ S
  sub : ∀ i, i < ns.length → ∀ k ∈ G i, k ∈ S
  fz : ∀ i, i < ns.length * 6 → w.frozen? ⟨b, off + i, none⟩ = false
  apart : ∀ i j, i < ns.length → j < ns.length → i ≠ j → ∀ k ∈ G i, k ∉ G j
  at' : SayOwnAt w b off ns G
def SaySOwn (S : List Nat) (w : World) (v : Value) (ns : List SayV) : Prop :=
  ∃ a c, v = .slice a ns.length c ∧ (∀ k ∈ S, k < w.heap.size) ∧ (ns = [] ∨ ∃ b off G, a = some ⟨b, off, none⟩ ∧ SayRowOwn S w b off ns G)
theorem SayOwnAt.rd {w : World} {b off : Nat} {ns : List SayV} {G : Nat → List Nat} (h : SayOwnAt w b off ns G) : SayAt w b off ns := by
  intro i hi
  obtain ⟨_, v, c, hv⟩ := h i hi
  exact ⟨v, c, hv.rd⟩
theorem SaySOwn.rd {S : List Nat} {w : World} {v : Value} {ns : List SayV} (h : SaySOwn S w v ns) : SaySRd w v ns := by
  obtain ⟨a, c, rfl, hl, h⟩ := h
  rcases h with h | ⟨b, off, G, rfl, h⟩
  · exact ⟨a, c, rfl, .inl h⟩
  · exact ⟨_, c, rfl, .inr ⟨b, off, rfl, hl b h.mem, h.at'.rd⟩⟩
theorem SaySOwn.lt {S : List Nat} {w : World} {v : Value} {ns : List SayV} (h : SaySOwn S w v ns) : ∀ k ∈ S, k < w.heap.size := by
  obtain ⟨a, c, rfl, hl, h⟩ := h
  exact hl
theorem SaySOwn.turn {S S' : List Nat} {w w' : World} {v : Value} {ns : List SayV} (h : SaySOwn S w v ns) (ht : Turn S' w w') (hS : ∀ k ∈ S, k ∉ S') : SaySOwn S w' v ns := by
  obtain ⟨a, c, rfl, hl, h⟩ := h
  refine ⟨a, c, rfl, fun k hk => Nat.lt_of_lt_of_le (hl k hk) ht.size, ?_⟩
  rcases h with h | ⟨b, off, G, rfl, h⟩
  · exact .inl h
  · have hb := hl b h.mem
    have hn := hS b h.mem
    refine .inr ⟨b, off, G, rfl, h.mem, h.sub, fun i hi => (ht.frozen hb hn).trans (h.fz i hi), h.apart, ?_⟩
    intro i hi
    obtain ⟨hg, v, c, hv⟩ := h.at' i hi
    exact ⟨hg, v, c.of (fun i => ht.cell hb hn), hv.turn ht (fun k hk => hS k (h.sub i hi k hk))⟩
theorem SaySOwn.up {S : List Nat} {w w' : World} {v : Value} {ns : List SayV} (h : SaySOwn S w v ns) (hb : Below w.heap.size w w') : SaySOwn S w' v ns := h.turn (Turn.of_below (S := []) hb) (by simp)
/-- raw words: each with the value of its list of versions -/
def syCells (xs : List (SayV × Value)) : List Value := xs.flatMap fun x => [.int .i64 x.1.kind, .int .i64 x.1.src, .int .i64 x.1.dst, .string x.1.name, .int .i64 x.1.val, x.2]
theorem syCells_snoc (ns : List (SayV × Value)) (x : SayV × Value) : syCells (ns ++ [x]) = syCells ns ++ [.int .i64 x.1.kind, .int .i64 x.1.src, .int .i64 x.1.dst, .string x.1.name, .int .i64 x.1.val, x.2] := by simp [syCells]
theorem syCells_get (ns : List (SayV × Value)) (i : Nat) (h : i < ns.length) : (syCells ns)[i * 6]? = some (.int .i64 ns[i].1.kind) ∧ (syCells ns)[i * 6 + 1]? = some (.int .i64 ns[i].1.src) ∧ (syCells ns)[i * 6 + 2]? = some (.int .i64 ns[i].1.dst) ∧ (syCells ns)[i * 6 + 3]? = some (.string ns[i].1.name) ∧ (syCells ns)[i * 6 + 4]? = some (.int .i64 ns[i].1.val) ∧ (syCells ns)[i * 6 + 5]? = some ns[i].2 := by
  induction ns generalizing i with
  | nil => simp at h
  | cons x xs ih =>
    cases i with
    | zero => simp [syCells]
    | succ i =>
      have := ih i (by simpa using h)
      have e : syCells (x :: xs) = [.int .i64 x.1.kind, .int .i64 x.1.src, .int .i64 x.1.dst, .string x.1.name, .int .i64 x.1.val, x.2] ++ syCells xs := by simp [syCells]
      rw [e, show (i + 1) * 6 = i * 6 + 1 + 1 + 1 + 1 + 1 + 1 by omega]
      simpa using this
/-- a row of words, at or above a block, that one may append to -/
def SyRow (B : Nat) (w : World) (v : Value) (xs : List (SayV × Value)) : Prop := w.ownsRow B 26 6 v xs.length (syCells xs)
theorem SyRow.nil (B : Nat) (w : World) : SyRow B w (.slice none 0 0) [] := ⟨rfl, .inl ⟨rfl, rfl⟩⟩
theorem SyRow.slice {B : Nat} {w : World} {v : Value} {xs : List (SayV × Value)} (h : SyRow B w v xs) : ∃ a c, v = .slice a xs.length c := by
  rcases h.2 with ⟨rfl, h0⟩ | ⟨g, cap, cur, rfl, _⟩
  · rw [h0]; exact ⟨_, _, rfl⟩
  · exact ⟨_, _, rfl⟩
theorem SyRow.ge {B : Nat} {w : World} {v : Value} {xs : List (SayV × Value)} (h : SyRow B w v xs) : ∀ g, v.ownBlock = some g → B ≤ g := by
  intro g hg
  rcases h.2 with ⟨rfl, _⟩ | ⟨g', cap, cur, rfl, hB, _⟩
  · simp [Value.ownBlock] at hg
  · simp [Value.ownBlock] at hg; omega
theorem SyRow.lt {B : Nat} {w : World} {v : Value} {xs : List (SayV × Value)} (h : SyRow B w v xs) : ∀ g, v.ownBlock = some g → g < w.heap.size := by
  intro g hg
  rcases h.2 with ⟨rfl, _⟩ | ⟨g', cap, cur, rfl, hB, hh, _⟩
  · simp [Value.ownBlock] at hg
  · simp [Value.ownBlock] at hg; rw [← hg]; exact (Array.getElem?_eq_some_iff.1 hh).1
theorem SyRow.keep {B : Nat} {w w' : World} {v : Value} {xs : List (SayV × Value)} (h : SyRow B w v xs) (hk : ∀ g, v.ownBlock = some g → w'.heap[g]? = w.heap[g]?) : SyRow B w' v xs := by
  refine ⟨h.1, ?_⟩
  rcases h.2 with h0 | ⟨g, cap, cur, e, hB, hg, r⟩
  · exact .inl h0
  · exact .inr ⟨g, cap, cur, e, hB, (hk g (by rw [e]; rfl)).trans hg, r⟩
theorem SyRow.up {B : Nat} {w w' : World} {v : Value} {xs : List (SayV × Value)} (h : SyRow B w v xs) (hb : Below w.heap.size w w') : SyRow B w' v xs := h.keep (fun g hg => hb.block g (h.lt g hg))
/-- what the raw words stand for: each one's versions in blocks of their own, the later ones' in later blocks, none of them the row's -/
def SysO (B : Nat) (w : World) (v : Value) (xs : List (SayV × Value)) : Prop :=
  ∃ G : Nat → List Nat, (∀ i (h : i < xs.length), VerOwn (G i) w xs[i].2 xs[i].1.stamp ∧ ∀ k ∈ G i, B ≤ k ∧ v.ownBlock ≠ some k) ∧ ∀ i j, i < j → j < xs.length → ∀ k ∈ G i, ∀ k' ∈ G j, k < k'
theorem SysO.nil (B : Nat) (w : World) (v : Value) : SysO B w v [] := ⟨fun _ => [], fun i h => by simp at h, fun i j _ h => by simp at h⟩
theorem SysO.up {B : Nat} {w w' : World} {v : Value} {xs : List (SayV × Value)} (h : SysO B w v xs) (hb : Below w.heap.size w w') : SysO B w' v xs := by
  obtain ⟨G, h1, h2⟩ := h
  exact ⟨G, fun i hi => ⟨(h1 i hi).1.up hb, (h1 i hi).2⟩, h2⟩
/-- one more, read behind all that there was -/
theorem SysO.snoc {B : Nat} {w w2 w3 w4 : World} {v : Value} {g : Nat} {n c : Nat} {xs : List (SayV × Value)} {s : SayV} {u : Value} {S : List Nat} (h : SysO B w v xs) (hv : ∀ k, v.ownBlock = some k → k < w.heap.size) (hB : B ≤ w.heap.size) (b2 : Below w.heap.size w w2) (hu : VerOwn S w2 u s.stamp) (hS : ∀ k ∈ S, w.heap.size ≤ k) (b3 : Below w2.heap.size w2 w3) (hg : w3.grownBy w4 v.ownBlock) (hr : v.ownBlock = some g ∨ g = w3.heap.size) :
    SysO B w4 (.slice (some ⟨g, 0, none⟩) n c) (xs ++ [(s, u)]) := by
  obtain ⟨G, h1, h2⟩ := h
  have t4 : Turn v.ownBlock.toList w3 w4 := Turn.of_grown hg (fun k hk => .inl (by rw [hk]; simp))
  have hlt : ∀ i (hi : i < xs.length), ∀ k ∈ G i, k < w.heap.size := fun i hi k hk => (h1 i hi).1.lt k hk
  have hs2 := b2.size
  have hs3 := b3.size
  refine ⟨fun i => if i < xs.length then G i else S, fun i hi => ?_, fun i j hij hj k hk k' hk' => ?_⟩
  · by_cases e : i < xs.length
    · simp only [if_pos e]
      rw [List.getElem_append_left e]
      obtain ⟨o, q⟩ := h1 i e
      refine ⟨((o.up b2).up b3).turn t4 (fun k hk hm => (q k hk).2 (by simpa using hm)), fun k hk => ⟨(q k hk).1, fun e2 => ?_⟩⟩
      have hk1 := hlt i e k hk
      simp [Value.ownBlock] at e2
      rcases hr with hr | hr
      · exact (q k hk).2 (by rw [← e2]; exact hr)
      · omega
    · simp only [if_neg e]
      rw [List.getElem_append_right (by omega)]
      have e0 : i - xs.length = 0 := by simp at hi; omega
      simp only [e0, List.getElem_cons_zero]
      refine ⟨(hu.up b3).turn t4 (fun k hk hm => ?_), fun k hk => ⟨Nat.le_trans hB (hS k hk), fun e2 => ?_⟩⟩
      · have q1 := hv k (by simpa using hm)
        have q2 := hS k hk
        omega
      · have q2 := hS k hk
        have q3 := hu.lt k hk
        simp [Value.ownBlock] at e2
        rcases hr with hr | hr
        · have := hv g hr; omega
        · omega
  · simp only [List.length_append, List.length_cons, List.length_nil] at hj
    have ei : i < xs.length := by omega
    simp only [if_pos ei] at hk
    by_cases e : j < xs.length
    · simp only [if_pos e] at hk'
      exact h2 i j hij e k hk k' hk'
    · simp only [if_neg e] at hk'
      have q1 := hlt i ei k hk
      have q2 := hS k' hk'
      omega
theorem SyRow.own {B : Nat} {w : World} {v : Value} {xs : List (SayV × Value)} (h : SyRow B w v xs) (ho : SysO B w v xs) : ∃ S, SaySOwn S w v (xs.map (·.1)) ∧ ∀ k ∈ S, B ≤ k := by
  have hh : w.ownsRow B 26 6 v xs.length (syCells xs) := h
  obtain ⟨G, h1, h2⟩ := ho
  rcases h with ⟨_, ⟨rfl, h0⟩ | ⟨g, cap, cur, rfl, hB, hg, hnc, _⟩⟩
  · have e : xs = [] := List.eq_nil_of_length_eq_zero h0
    subst e
    exact ⟨[], ⟨none, 0, rfl, by simp, .inl rfl⟩, by simp⟩
  · refine ⟨g :: (List.range xs.length).flatMap G, ⟨some ⟨g, 0, none⟩, cap, by simp, ?_, .inr ⟨g, 0, G, rfl, by simp, ?_, ?_, ?_, ?_⟩⟩, ?_⟩
    · intro k hk
      simp only [List.mem_cons, List.mem_flatMap, List.mem_range] at hk
      rcases hk with rfl | ⟨i, hi, hk⟩
      · exact (Array.getElem?_eq_some_iff.1 hg).1
      · exact (h1 i hi).1.lt k hk
    · intro i hi k hk
      simp only [List.length_map] at hi
      simp only [List.mem_cons, List.mem_flatMap, List.mem_range]
      exact .inr ⟨i, hi, hk⟩
    · intro i hi
      exact hh.frozenAt _
    · intro i j hi hj hij k hk hk'
      simp only [List.length_map] at hi hj
      rcases Nat.lt_or_gt_of_ne hij with q | q
      · have := h2 i j q hj k hk k hk'; omega
      · have := h2 j i q hi k hk' k hk; omega
    · intro i hi
      simp only [List.length_map] at hi
      obtain ⟨o, q⟩ := h1 i hi
      refine ⟨fun hm => (q g hm).2 (by simp [Value.ownBlock]), xs[i].2, ?_, by simpa using o⟩
      obtain ⟨e0, e1, e2, e3, e4, e5⟩ := syCells_get xs i hi
      simp only [List.getElem_map]
      constructor
      · rw [Nat.zero_add, hh.cellAt _ (by omega)]; exact e0
      · rw [Nat.zero_add, hh.cellAt _ (by omega)]; exact e1
      · rw [Nat.zero_add, hh.cellAt _ (by omega)]; exact e2
      · rw [Nat.zero_add, hh.cellAt _ (by omega)]; exact e3
      · rw [Nat.zero_add, hh.cellAt _ (by omega)]; exact e4
      · rw [Nat.zero_add, hh.cellAt _ (by omega)]; exact e5
    · intro k hk
      simp only [List.mem_cons, List.mem_flatMap, List.mem_range] at hk
      rcases hk with rfl | ⟨i, hi, hk⟩
      · exact hB
      · exact ((h1 i hi).2 k hk).1
theorem infoSy : (Try.prog.info? 26).map (fun i => (i.zero, i.size, i.bytes)) = some (some (.agg #[.int .i64 0, .int .i64 0, .int .i64 0, .string ByteArray.empty, .int .i64 0, .slice none 0 0]), 6, 72) := by kernel_rfl
theorem news_say {w : World} {g : Nat} {s : SayV} {v : Value} (c : SayCells w g 0 s v) : ∀ j u, ([.int .i64 s.kind, .int .i64 s.src, .int .i64 s.dst, .string s.name, .int .i64 s.val, v] : List Value)[j]? = some u → w.cell? ((⟨g, 0, none⟩ : Addr).add j) = some u := by
  intro j u hj
  match j, hj with
  | 0, hj => simp at hj; subst hj; simpa [Addr.add] using c.c0
  | 1, hj => simp at hj; subst hj; simpa [Addr.add] using c.c1
  | 2, hj => simp at hj; subst hj; simpa [Addr.add] using c.c2
  | 3, hj => simp at hj; subst hj; simpa [Addr.add] using c.c3
  | 4, hj => simp at hj; subst hj; simpa [Addr.add] using c.c4
  | 5, hj => simp at hj; subst hj; simpa [Addr.add] using c.c5
/-- one more word, which lies in a block of its own -/
theorem wpList_syAppend {w : World} {ops : Array Oper} {rest : List Oper} {o : Oper} {a : Act} {Q : Exit → Act → World → Prop} (hgd : o.guard = none) (s x : Operand)
    (ho : o.op = .call { callee := .builtin .append, args := #[s, x], argTypes := #[23, 23] }) (B : Nat) (v : Value) (ns : List (SayV × Value)) (y : SayV) (ya : Option Addr) (yn yc : Nat) (g : Nat) (hs : a.eval s = v) (hx : a.eval x = .slice (some ⟨g, 0, none⟩) 1 1)
    (hv : SyRow B w v ns) (c0 : SayCells w g 0 y (.slice ya yn yc)) (hl : ns.length ≤ 1000000) (hB : B ≤ w.heap.size)
    (h : ∀ g' n c w', SyRow B w' (.slice (some ⟨g', 0, none⟩) n c) (ns ++ [(y, .slice ya yn yc)]) → w.grownBy w' v.ownBlock → (v.ownBlock = some g' ∨ g' = w.heap.size) → wpList Try.prog ops Q rest (a.put o.dst (.slice (some ⟨g', 0, none⟩) n c)) w') : wpList Try.prog ops Q (o :: rest) a w := by
  obtain ⟨i0, hi, hz0, hz1, hz2⟩ := info_parts1 infoSy
  refine wpList_append_lies w hgd s x 23 ho B 26 i0 _ 6 72 Try.underlying23 hi hz0 hz1 hz2 rfl (by decide) v ns.length (syCells ns) hs hv ⟨g, 0, none⟩ 1 1 [.int .i64 y.kind, .int .i64 y.src, .int .i64 y.dst, .string y.name, .int .i64 y.val, .slice ya yn yc] hx rfl (news_say c0) (by intro u hu; simp at hu; rcases hu with rfl | rfl | rfl | rfl | rfl | rfl <;> rfl) (by decide) (by unfold maxLen; omega) (by omega) hB w.heap.size rfl ?_
  intro g' cap w' h2 h3 h4 h5
  refine h g' _ cap w' ?_ h3 h4
  unfold SyRow
  rw [syCells_snoc, List.length_append]
  exact h2
end Go.Proofs.Ytlgmmibncoedgaa
