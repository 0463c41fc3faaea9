/-
  Lists of words compared; their marks written, and found again.
-/
/-
  The words of a whole stream: those of its bodies that are words, and how many bytes are no part of one.
-/
import Derived.Test.YtlgmmibncoedgaaMerged28
import Derived.Deep.RegionWith
import Derived.Deep.RegionHeld3
import Derived.Test.YtlgmmibncoedgaaMerged11
import Derived.Test.YtlgmmibncoedgaaMerged16
set_option linter.unusedVariables false
namespace Go.Proofs.Ytlgmmibncoedgaa
open Go.RowKit Go.Maps Go.Deep

/-- how many marks words take -/
def nSayS (ns : List SayV) : Nat := (ns.map (fun x => 5 + 2 * x.stamp.length)).sum
def sayMark (k : Nat) (s : SayV) : SayV := ⟨(k : Int), ((k + 1 : Nat) : Int), ((k + 2 : Nat) : Int), mText ((k + 3 : Nat) : Int), ((k + 4 : Nat) : Int), marksVer (k + 5) s.stamp.length⟩
/-- the words with marks from k on -/
def marksSayS : Nat → List SayV → List SayV
  | _, [] => []
  | k, x :: xs => sayMark k x :: marksSayS (k + (5 + 2 * x.stamp.length)) xs
theorem marksSayS_len (k : Nat) (ns : List SayV) : (marksSayS k ns).length = ns.length := by
  induction ns generalizing k with
  | nil => rfl
  | cons x xs ih => simp [marksSayS, ih]
theorem marksSayS_get (k : Nat) (ns : List SayV) (i : Nat) (h : i < ns.length) : (marksSayS k ns)[i]? = some (sayMark (k + nSayS (ns.take i)) ns[i]) := by
  induction ns generalizing k i with
  | nil => simp at h
  | cons x xs ih =>
    match i, h with
    | 0, _ => simp [marksSayS, nSayS]
    | i + 1, h =>
      simp only [marksSayS, List.getElem?_cons_succ, List.take_succ_cons, List.getElem_cons_succ]
      rw [ih _ i (by simpa using h)]
      simp only [nSayS, List.map_cons, List.sum_cons]
      rw [show k + (5 + 2 * x.stamp.length) + ((xs.take i).map (fun x => 5 + 2 * x.stamp.length)).sum = k + (5 + 2 * x.stamp.length + ((xs.take i).map (fun x => 5 + 2 * x.stamp.length)).sum) by omega]
theorem nSayS_take (ns : List SayV) (i : Nat) (h : i < ns.length) : nSayS (ns.take (i + 1)) = nSayS (ns.take i) + 5 + 2 * ns[i].stamp.length := by
  unfold nSayS
  rw [List.take_succ_eq_append_getElem h, List.map_append, List.sum_append]
  simp only [List.map_cons, List.map_nil, List.sum_cons, List.sum_nil]
  omega
theorem nSayS_le' (ns : List SayV) (hs : ∀ x ∈ ns, x.stamp.length ≤ 255) : nSayS ns ≤ ns.length * 515 := by
  induction ns with
  | nil => simp [nSayS]
  | cons x xs ih =>
    have h1 := ih (fun y hy => hs y (List.mem_cons_of_mem _ hy))
    have h2 := hs x (List.mem_cons_self)
    unfold nSayS at h1 ⊢
    simp only [List.map_cons, List.sum_cons, List.length_cons] at h1 ⊢
    omega
theorem nSayS_le {ns : List SayV} (hs : SmallSayS ns) : nSayS ns ≤ 100000000 := by
  have := nSayS_le' ns (fun x hx => (hs.2 x hx).2)
  have := hs.1
  omega
theorem nSayS_take_le {ns : List SayV} (hs : SmallSayS ns) (i : Nat) : nSayS (ns.take i) ≤ 100000000 := by
  have := nSayS_le' (ns.take i) (fun x hx => (hs.2 x (List.mem_of_mem_take hx)).2)
  have := hs.1
  have : (ns.take i).length ≤ ns.length := by simp; omega
  omega
/-- the first j are marked -/
def mtSayS (ns : List SayV) (k j : Nat) : List SayV := (marksSayS k ns).take j ++ ns.drop j
theorem mtSayS_len (ns : List SayV) (k j : Nat) (h : j ≤ ns.length) : (mtSayS ns k j).length = ns.length := by simp [mtSayS, marksSayS_len]; omega
theorem mtSayS_at (ns : List SayV) (k j : Nat) (h : j < ns.length) : (mtSayS ns k j)[j]? = some ns[j] := by
  unfold mtSayS
  rw [List.getElem?_append_right (by simp [marksSayS_len]; omega)]
  simp [marksSayS_len, Nat.min_eq_left (Nat.le_of_lt h), List.getElem?_eq_getElem h]
theorem mtSayS_step (ns : List SayV) (k j : Nat) (h : j < ns.length) : (mtSayS ns k j).set j (sayMark (k + nSayS (ns.take j)) ns[j]) = mtSayS ns k (j + 1) := by
  have hl := marksSayS_len k ns
  unfold mtSayS
  have e1 : (marksSayS k ns).take (j + 1) = (marksSayS k ns).take j ++ [sayMark (k + nSayS (ns.take j)) ns[j]] := by
    rw [List.take_succ_eq_append_getElem (by omega)]
    have := marksSayS_get k ns j h
    rw [List.getElem?_eq_getElem (by omega)] at this
    rw [Option.some.inj this]
  rw [e1, List.set_append_right _ _ (by rw [List.length_take, hl]; omega), List.append_assoc]
  congr 1
  rw [List.drop_eq_getElem_cons h, List.length_take, hl, Nat.min_eq_left (Nat.le_of_lt h), Nat.sub_self]
  rfl
theorem mtSayS_all (ns : List SayV) (k : Nat) : mtSayS ns k ns.length = marksSayS k ns := by
  unfold mtSayS
  rw [List.drop_length, List.append_nil, ← marksSayS_len k ns, List.take_length]
theorem mtSayS_zero (ns : List SayV) (k : Nat) : mtSayS ns k 0 = ns := by simp [mtSayS]
/-- one word of the row is written anew: its five cells in the row, its versions in their own blocks -/
theorem SayRowOwn.step {S : List Nat} {w w1 w2 : World} {b off : Nat} {ns : List SayV} {G : Nat → List Nat} (h : SayRowOwn S w b off ns G) (hl : ∀ k ∈ S, k < w.heap.size) {j : Nat} (hj : j < ns.length) (s : SayV) (u : Value)
    (t1 : Turn [b] w w1) (hf : ∀ i, w1.frozen? ⟨b, i, none⟩ = w.frozen? ⟨b, i, none⟩) (hc : SayCells w1 b (off + j * 6) s u) (hoth : ∀ i, (i < off + j * 6 ∨ off + j * 6 + 5 < i) → w1.cell? ⟨b, i, none⟩ = w.cell? ⟨b, i, none⟩)
    (ht : Turn (G j) w1 w2) (hm : VerOwn (G j) w2 u s.stamp) : SayRowOwn S w2 b off (ns.set j s) G ∧ Turn S w w2 := by
  have hb := hl b h.mem
  have hbj : b ∉ G j := (h.at' j hj).1
  have hsz : b < w1.heap.size := Nat.lt_of_lt_of_le hb t1.size
  have cell : ∀ i, w2.cell? ⟨b, i, none⟩ = w1.cell? ⟨b, i, none⟩ := fun i => ht.cell hsz hbj
  have hlen : (ns.set j s).length = ns.length := by simp
  refine ⟨⟨h.mem, fun i hi => h.sub i (by rw [← hlen]; exact hi), fun i hi => ?_, by rw [hlen]; exact h.apart, fun i hi => ?_⟩, ?_⟩
  · rw [ht.frozen hsz hbj, hf]
    exact h.fz i (by rw [hlen] at hi; exact hi)
  · have hi' : i < ns.length := by rw [← hlen]; exact hi
    obtain ⟨hg, v, c, hv⟩ := h.at' i hi'
    by_cases e : i = j
    · subst e
      simp only [List.getElem_set_self]
      exact ⟨hg, u, hc.of cell, hm⟩
    · rw [List.getElem_set_ne (by omega)]
      refine ⟨hg, v, ?_, (hv.turn t1 (fun k hk => by simp; intro e2; subst e2; exact hg hk)).turn ht (fun k hk => h.apart i j hi' hj e k hk)⟩
      have far : ∀ q, q < 6 → w2.cell? ⟨b, off + i * 6 + q, none⟩ = w.cell? ⟨b, off + i * 6 + q, none⟩ := fun q hq => (cell _).trans (hoth _ (by omega))
      have f0 := far 0 (by omega)
      simp only [Nat.add_zero] at f0
      exact ⟨f0.trans c.c0, (far 1 (by omega)).trans c.c1, (far 2 (by omega)).trans c.c2, (far 3 (by omega)).trans c.c3, (far 4 (by omega)).trans c.c4, (far 5 (by omega)).trans c.c5⟩
  · exact (t1.mono (fun k hk => by simp at hk; subst hk; exact .inl h.mem)).trans (ht.mono (fun k hk => .inl (h.sub j hj k hk)))
set_option maxHeartbeats 3200000 in
theorem eqSayS_row (w : World) (b off cap b' off' cap' : Nat) (ns : List SayV) (hs : SmallSayS ns) (hc : SayAt w b off ns) (hc' : SayAt w b' off' ns) (hb : b < w.heap.size) (hb' : b' < w.heap.size) :
    Calls Try.prog 23 #[.slice (some ⟨b, off, none⟩) ns.length cap, .slice (some ⟨b', off', none⟩) ns.length cap'] w fun e w' => e = .returned (.bool true) ∧ Below w.heap.size w w' := by
  have HS := hide hs.2
  have hl := hs.1
  have HC := hide hc
  have HC' := hide hc'
  clear hs hc hc'
  go_enter Try.func23, Try.ntmps23
  go_wp2_with fail
  go_loopw [5] (fun i wr => ∃ (k : Nat), k ≤ ns.length ∧ i = .int .i64 k ∧ Hid (Below w.heap.size w wr)) (fun i _ => ns.length - (intOf i).toNat)
  case atStart => exact ⟨0, Nat.zero_le _, rfl, Below.refl _ _⟩
  case round =>
    obtain ⟨k, hk, rfl, HB⟩ := hrel
    by_cases hlt : k < ns.length
    · obtain ⟨v, ⟨c0, c1, c2, c3, c4, c5⟩, hv⟩ := (unhide HC).up hb (unhide HB) k hlt
      obtain ⟨v', ⟨d0, d1, d2, d3, d4, d5⟩, hv'⟩ := (unhide HC').up hb' (unhide HB) k hlt
      have HV := hide (fun W (bW : Below wr.heap.size wr W) => eqSay_kit ns[k] (.agg #[.int .i64 ns[k].kind, .int .i64 ns[k].src, .int .i64 ns[k].dst, .string ns[k].name, .int .i64 ns[k].val, v]) (.agg #[.int .i64 ns[k].kind, .int .i64 ns[k].src, .int .i64 ns[k].dst, .string ns[k].name, .int .i64 ns[k].val, v']) W (unhide HS _ (List.getElem_mem hlt)).1 ⟨v, rfl, hv.up bW⟩ ⟨v', rfl, hv'.up bW⟩)
      obtain ⟨va, vc, rfl⟩ := hv.len
      obtain ⟨va', vc', rfl⟩ := hv'.len
      clear hv hv'
      generalize ns[k].stamp.length = m at *
      generalize ns[k].kind = z0 at *
      generalize ns[k].src = z1 at *
      generalize ns[k].dst = z2 at *
      generalize ns[k].name = z3 at *
      generalize ns[k].val = z4 at *
      go_wp2_with fail
      go_region_with (go_at_call 56; refine (unhide HV _ ((Below.refl _ _).drew)).mono ?_; rintro e w2 ⟨rfl, hb2⟩)
      all_goals
        have hb3 := hide ((unhide HB).trans (Below.mono (((Below.refl wr.heap.size wr).drew).trans hb2) (unhide HB).size))
        clear c0 c1 c2 c3 c4 c5 d0 d1 d2 d3 d4 d5
        go_wp2_with fail
        go_roundw
        case rel => exact ⟨k + 1, by omega, by go_num, hb3⟩
        case measure => simp [intOf]; omega
    · go_wp2_with fail
      go_ret
      exact ⟨rfl, unhide HB⟩
theorem eqSayS_kit (ns : List SayV) (v v' : Value) (w : World) (hs : SmallSayS ns) (h : SaySRd w v ns) (h' : SaySRd w v' ns) :
    Calls Try.prog 23 #[v, v'] w fun e w' => e = .returned (.bool true) ∧ Below w.heap.size w w' := by
  have none : ∀ a a' c c', Calls Try.prog 23 #[.slice a 0 c, .slice a' 0 c'] w fun e w' => e = .returned (.bool true) ∧ Below w.heap.size w w' := by
    intro a a' c c'
    go_enter Try.func23, Try.ntmps23
    go_wp2
    refine wp_loop_rounds 1 ?_
    rw [rounds_succ]
    go_wp2
    go_ret
    exact ⟨rfl, Below.refl _ _⟩
  obtain ⟨a, c, rfl, h⟩ := h
  obtain ⟨a', c', rfl, h'⟩ := h'
  rcases h with rfl | ⟨b, off, rfl, hb, hc⟩
  · exact none _ _ _ _
  · rcases h' with rfl | ⟨b', off', rfl, hb', hc'⟩
    · exact none _ _ _ _
    · exact eqSayS_row w b off c b' off' c' ns hs hc hc' hb hb'
/-- the five cells written behind one another -/
theorem five_set {w : World} {b o : Nat} {s : SayV} {u : Value} (h : SayCells w b o s u) (k0 k1 k2 k4 : Int) (t : ByteArray) :
    SayCells (((((w.setCell ⟨b, o, none⟩ (.int .i64 k0)).setCell ⟨b, o + 1, none⟩ (.int .i64 k1)).setCell ⟨b, o + 2, none⟩ (.int .i64 k2)).setCell ⟨b, o + 3, none⟩ (.string t)).setCell ⟨b, o + 4, none⟩ (.int .i64 k4)) b o ⟨k0, k1, k2, t, k4, s.stamp⟩ u := by
  have ne : ∀ (X : World) (p q : Nat) (v : Value), p ≠ q → (X.setCell ⟨b, q, none⟩ v).cell? ⟨b, p, none⟩ = X.cell? ⟨b, p, none⟩ := fun X p q v h => World.cell?_setCell_other _ _ _ _ (by intro e; have := congrArg Addr.off e; simp only at this; omega)
  have sm : ∀ (X : World) (p : Nat) (v x : Value), X.cell? ⟨b, p, none⟩ = some x → (X.setCell ⟨b, p, none⟩ v).cell? ⟨b, p, none⟩ = some v := fun X p v x h => World.cell?_setCell_same _ _ _ h
  constructor
  · rw [ne _ _ _ _ (by omega), ne _ _ _ _ (by omega), ne _ _ _ _ (by omega), ne _ _ _ _ (by omega)]; exact sm _ _ _ _ h.c0
  · rw [ne _ _ _ _ (by omega), ne _ _ _ _ (by omega), ne _ _ _ _ (by omega)]; exact sm _ _ _ _ (by rw [ne _ _ _ _ (by omega)]; exact h.c1)
  · rw [ne _ _ _ _ (by omega), ne _ _ _ _ (by omega)]; exact sm _ _ _ _ (by rw [ne _ _ _ _ (by omega), ne _ _ _ _ (by omega)]; exact h.c2)
  · rw [ne _ _ _ _ (by omega)]; exact sm _ _ _ _ (by rw [ne _ _ _ _ (by omega), ne _ _ _ _ (by omega), ne _ _ _ _ (by omega)]; exact h.c3)
  · exact sm _ _ _ _ (by rw [ne _ _ _ _ (by omega), ne _ _ _ _ (by omega), ne _ _ _ _ (by omega), ne _ _ _ _ (by omega)]; exact h.c4)
  · rw [ne _ _ _ _ (by omega), ne _ _ _ _ (by omega), ne _ _ _ _ (by omega), ne _ _ _ _ (by omega), ne _ _ _ _ (by omega)]; exact h.c5
end Go.Proofs.Ytlgmmibncoedgaa

set_option linter.unusedVariables false
namespace Go.Proofs.Ytlgmmibncoedgaa
open Go.RowKit Go.Maps Go.Deep

def saysL (ls : List (List UInt8)) : List SayV := (ls.filter sayIs).map sayV
/-- the bytes of the frames whose bodies are words, and of those whose are none -/
def wordB (ls : List (List UInt8)) : Nat := sumB (ls.filter sayIs)
def looseB (ls : List (List UInt8)) : Nat := sumB (ls.filter fun x => !sayIs x)
theorem word_loose (ls : List (List UInt8)) : wordB ls + looseB ls = sumB ls := by
  unfold wordB looseB
  induction ls with
  | nil => rfl
  | cons x xs ih =>
    rw [List.filter_cons, List.filter_cons, sumB_cons]
    cases sayIs x <;> simp [sumB_cons] <;> omega
theorem saysL_snoc_yes {ls : List (List UInt8)} {x : List UInt8} (h : sayIs x = true) : saysL (ls ++ [x]) = saysL ls ++ [sayV x] ∧ wordB (ls ++ [x]) = wordB ls + x.length + 5 ∧ looseB (ls ++ [x]) = looseB ls := by
  unfold saysL wordB looseB
  rw [List.filter_append, List.filter_append]
  simp [h, sumB_append, sumB_cons, sumB_nil]
  omega
theorem saysL_snoc_no {ls : List (List UInt8)} {x : List UInt8} (h : sayIs x = false) : saysL (ls ++ [x]) = saysL ls ∧ wordB (ls ++ [x]) = wordB ls ∧ looseB (ls ++ [x]) = looseB ls + x.length + 5 := by
  unfold saysL wordB looseB
  rw [List.filter_append, List.filter_append]
  simp [h, sumB_append, sumB_cons, sumB_nil]
  omega
theorem sayV_stamp (bs : List UInt8) : (sayV bs).stamp.length ≤ 255 := by
  unfold sayV
  cases h : sayRd bs with
  | none => simp [noSay]
  | some s =>
    unfold sayRd at h
    split at h
    · cases h1 : rdSay bs with
      | none => rw [h1] at h; cases h
      | some q =>
        obtain ⟨s', r⟩ := q
        rw [h1] at h
        simp only [Option.bind_some] at h
        split at h
        · simp only [Option.some.injEq] at h
          subst h
          exact (rdSay_back h1).2.2.1
        · cases h
    · cases h
/-- all bodies that are heard -/
def allH (bs : List UInt8) : List (List UInt8) := feedH ⟨[], 0⟩ bs ++ endH (feedS ⟨[], 0⟩ bs)
def saysOut (bs : List UInt8) : List SayV := saysL (allH bs)
def saysI (bs : List UInt8) : Int := if feedB ⟨[], 0⟩ bs then (bs.length : Int) - (wordB (allH bs) : Int) else 0
theorem all_len {bs : List UInt8} (h : feedB ⟨[], 0⟩ bs = true) : endI (feedS ⟨[], 0⟩ bs) + (sumB (allH bs) : Int) = (bs.length : Int) := by
  have := end_all h
  unfold allH
  rw [sumB_append]
  omega
theorem says_spec {bs : List UInt8} (h : feedB ⟨[], 0⟩ bs = true) : endI (feedS ⟨[], 0⟩ bs) + (looseB (allH bs) : Int) = saysI bs := by
  have h1 := all_len h
  have h2 := word_loose (allH bs)
  unfold saysI
  rw [h]
  simp only [if_true]
  omega
theorem all_no {bs : List UInt8} (h : feedB ⟨[], 0⟩ bs = false) : allH bs = [] := by
  have e1 : feedH ⟨[], 0⟩ bs = [] := by unfold feedH; rw [h]; rfl
  have e2 : feedS ⟨[], 0⟩ bs = ⟨[], 0⟩ := by unfold feedS; rw [h]; rfl
  unfold allH
  rw [e1, e2]
  unfold endH
  split
  · rw [end_nil rfl]; rfl
  · rfl
theorem sumB_len (ls : List (List UInt8)) : 5 * ls.length ≤ sumB ls := by
  induction ls with
  | nil => simp [sumB]
  | cons x xs ih => rw [sumB_cons]; simp only [List.length_cons]; omega
theorem all_bound (bs : List UInt8) : (allH bs).length ≤ 4000 ∧ sumB (allH bs) ≤ 4000 ∧ ∀ x ∈ allH bs, x.length ≤ 260 := by
  cases h : feedB ⟨[], 0⟩ bs
  · rw [all_no h]; simp [sumB]
  · have h1 := all_len h
    have h2 := (feed_yes h).2.2.2.1
    have h3 := endI_pos bs
    have h4 := sumB_len (allH bs)
    refine ⟨by omega, by omega, fun x hx => ?_⟩
    unfold allH at hx
    rcases List.mem_append.1 hx with hx | hx
    · exact (small_feedH _ _).2 x hx
    · exact (small_endH _).2 x hx
theorem saysL_len (ls : List (List UInt8)) : (saysL ls).length ≤ ls.length := by
  unfold saysL
  rw [List.length_map]
  exact List.length_filter_le _ _
theorem small_says (bs : List UInt8) : SmallSayS (saysOut bs) := by
  have h1 := saysL_len (allH bs)
  have h2 := (all_bound bs).1
  refine ⟨by unfold saysOut; omega, fun x hx => ?_⟩
  unfold saysOut saysL at hx
  obtain ⟨y, _, rfl⟩ := List.mem_map.1 hx
  exact ⟨small_sayV y, sayV_stamp y⟩
theorem sumB_take_le (ls : List (List UInt8)) (k : Nat) : wordB (ls.take k) ≤ sumB ls ∧ looseB (ls.take k) ≤ sumB ls := by
  have h1 := word_loose (ls.take k)
  have h2 := sumB_le ls k
  omega
theorem take_snocB (ls : List (List UInt8)) (k : Nat) (h : k < ls.length) : ls.take (k + 1) = ls.take k ++ [ls[k]] := List.take_succ_eq_append_getElem h
def RetSays (bs : List UInt8) (w : World) (e : Ending) (w' : World) : Prop := ∃ v S, e = .returned (.tuple #[v, .int .i64 (saysI bs)]) ∧ Hid (SaySOwn S w' v (saysOut bs)) ∧ Hid (∀ k ∈ S, w.heap.size ≤ k) ∧ Below w.heap.size w w'
theorem retSays_no {bs : List UInt8} {w w' : World} (h : feedB ⟨[], 0⟩ bs = false) (b : Below w.heap.size w w') : RetSays bs w (.returned (.tuple #[.slice none 0 0, .int .i64 0])) w' :=
  ⟨_, [], by unfold saysI; rw [h]; rfl, hide (by unfold saysOut; rw [all_no h]; exact ⟨none, 0, rfl, by simp, .inl rfl⟩), hide (by simp), b⟩
theorem rdAtB {w : World} {a : Option Addr} {n c : Nat} {ns : List (List UInt8)} (h : ByteSSRd w (.slice a n c) ns) (k : Nat) (hk : k < ns.length) : ∃ b off va vc, a = some ⟨b, off, none⟩ ∧ n = ns.length ∧ w.cell? ⟨b, off + k, none⟩ = some (.slice va ns[k].length vc) ∧ ByRd w (.slice va ns[k].length vc) ns[k] := by
  obtain ⟨a', c', e, h⟩ := h
  simp only [Value.slice.injEq] at e
  obtain ⟨rfl, rfl, rfl⟩ := e
  rcases h with rfl | ⟨b, off, rfl, _, h⟩
  · simp at hk
  · obtain ⟨v, h1, h2⟩ := h k hk
    obtain ⟨va, vc, rfl⟩ := h2.len
    exact ⟨b, off, va, vc, rfl, rfl, h1, h2⟩
theorem rdLenB {w : World} {a : Option Addr} {n c : Nat} {ns : List (List UInt8)} (h : ByteSSRd w (.slice a n c) ns) : n = ns.length := by
  obtain ⟨a', c', e, h⟩ := h
  simp only [Value.slice.injEq] at e
  exact e.2.1
def LenOk (vs : List Value) (ms : List (List UInt8)) : Prop := vs.length + ms.length ≤ 1000000
theorem spread_all {B : Nat} {Q : List Nat} {w3 w4 : World} {v v4 : Value} {vs us : List Value} {ns ms : List (List UInt8)} (hq : BsQ (fun k => v.ownBlock ≠ some k) w3 vs ns) (hm : BsQ (fun k => k ∈ Q) w3 us ms) (hQ : ∀ k ∈ Q, v.ownBlock ≠ some k) (g : w3.grownBy w4 v.ownBlock) (r : BvRow B w4 v4 (vs ++ us)) : ByteSSRd w4 v4 (ns ++ ms) := by
  have t4 : Turn v.ownBlock.toList w3 w4 := Turn.of_grown g (fun k hk => .inl (by rw [hk]; simp))
  exact r.rdQ ((hq.append (hm.mono (fun k _ hk => hQ k hk))).turn t4 (fun k hk => by simpa using hk))
theorem sayCellsNew (w : World) (k f t : Int) (nm : ByteArray) (x : Int) (v : Value) (st : List VerV) (T : TypeId) : SayCells (w.alloc (.cells #[.int .i64 k, .int .i64 f, .int .i64 t, .string nm, .int .i64 x, v] T)) w.heap.size 0 ⟨k, f, t, nm, x, st⟩ v := by
  have h := (boxF_new w [.int .i64 k, .int .i64 f, .int .i64 t, .string nm, .int .i64 x, v] T).1
  exact ⟨h.at 0 _ rfl, h.at 1 _ rfl, h.at 2 _ rfl, h.at 3 _ rfl, h.at 4 _ rfl, h.at 5 _ rfl⟩
end Go.Proofs.Ytlgmmibncoedgaa
