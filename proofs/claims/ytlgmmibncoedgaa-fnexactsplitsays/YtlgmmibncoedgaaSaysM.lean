/-
  The words of a whole stream: those of its bodies that are words, and how many bytes are no part of one.
-/
import Derived.Test.YtlgmmibncoedgaaMerged9
import Derived.Test.YtlgmmibncoedgaaMerged22
import Derived.Test.YtlgmmibncoedgaaSayReadK
import Derived.Test.YtlgmmibncoedgaaSayRowK
set_option linter.unusedVariables false
namespace Go.Proofs.Ytlgmmibncoedgaa
open Go.RowKit Go.Maps Go.Deep

def saysL (ls : List (List UInt8)) : List SayV := (ls.filter sayIs).map sayV
/-- the bytes of the frames whose bodies are words, and of those whose are none -/
def wordB (ls : List (List UInt8)) : Nat := sumB (ls.filter sayIs)
def looseB (ls : List (List UInt8)) : Nat := sumB (ls.filter fun x => !sayIs x)
theorem word_loose (ls : List (List UInt8)) : wordB ls + looseB ls = sumB ls := by
  unfold wordB looseB
  induction ls with
  | nil => rfl
  | cons x xs ih =>
    rw [List.filter_cons, List.filter_cons, sumB_cons]
    cases sayIs x <;> simp [sumB_cons] <;> omega
theorem saysL_snoc_yes {ls : List (List UInt8)} {x : List UInt8} (h : sayIs x = true) : saysL (ls ++ [x]) = saysL ls ++ [sayV x] ∧ wordB (ls ++ [x]) = wordB ls + x.length + 5 ∧ looseB (ls ++ [x]) = looseB ls := by
  unfold saysL wordB looseB
  rw [List.filter_append, List.filter_append]
  simp [h, sumB_append, sumB_cons, sumB_nil]
  omega
theorem saysL_snoc_no {ls : List (List UInt8)} {x : List UInt8} (h : sayIs x = false) : saysL (ls ++ [x]) = saysL ls ∧ wordB (ls ++ [x]) = wordB ls ∧ looseB (ls ++ [x]) = looseB ls + x.length + 5 := by
  unfold saysL wordB looseB
  rw [List.filter_append, List.filter_append]
  simp [h, sumB_append, sumB_cons, sumB_nil]
  omega
theorem sayV_stamp (bs : List UInt8) : (sayV bs).stamp.length ≤ 255 := by
  unfold sayV
  cases h : sayRd bs with
  | none => simp [noSay]
  | some s =>
    unfold sayRd at h
    split at h
    · cases h1 : rdSay bs with
      | none => rw [h1] at h; cases h
      | some q =>
        obtain ⟨s', r⟩ := q
        rw [h1] at h
        simp only [Option.bind_some] at h
        split at h
        · simp only [Option.some.injEq] at h
          subst h
          exact (rdSay_back h1).2.2.1
        · cases h
    · cases h
/-- all bodies that are heard -/
def allH (bs : List UInt8) : List (List UInt8) := feedH ⟨[], 0⟩ bs ++ endH (feedS ⟨[], 0⟩ bs)
def saysOut (bs : List UInt8) : List SayV := saysL (allH bs)
def saysI (bs : List UInt8) : Int := if feedB ⟨[], 0⟩ bs then (bs.length : Int) - (wordB (allH bs) : Int) else 0
theorem all_len {bs : List UInt8} (h : feedB ⟨[], 0⟩ bs = true) : endI (feedS ⟨[], 0⟩ bs) + (sumB (allH bs) : Int) = (bs.length : Int) := by
  have := end_all h
  unfold allH
  rw [sumB_append]
  omega
theorem says_spec {bs : List UInt8} (h : feedB ⟨[], 0⟩ bs = true) : endI (feedS ⟨[], 0⟩ bs) + (looseB (allH bs) : Int) = saysI bs := by
  have h1 := all_len h
  have h2 := word_loose (allH bs)
  unfold saysI
  rw [h]
  simp only [if_true]
  omega
theorem all_no {bs : List UInt8} (h : feedB ⟨[], 0⟩ bs = false) : allH bs = [] := by
  have e1 : feedH ⟨[], 0⟩ bs = [] := by unfold feedH; rw [h]; rfl
  have e2 : feedS ⟨[], 0⟩ bs = ⟨[], 0⟩ := by unfold feedS; rw [h]; rfl
  unfold allH
  rw [e1, e2]
  unfold endH
  split
  · rw [end_nil rfl]; rfl
  · rfl
theorem sumB_len (ls : List (List UInt8)) : 5 * ls.length ≤ sumB ls := by
  induction ls with
  | nil => simp [sumB]
  | cons x xs ih => rw [sumB_cons]; simp only [List.length_cons]; omega
theorem all_bound (bs : List UInt8) : (allH bs).length ≤ 4000 ∧ sumB (allH bs) ≤ 4000 ∧ ∀ x ∈ allH bs, x.length ≤ 260 := by
  cases h : feedB ⟨[], 0⟩ bs
  · rw [all_no h]; simp [sumB]
  · have h1 := all_len h
    have h2 := (feed_yes h).2.2.2.1
    have h3 := endI_pos bs
    have h4 := sumB_len (allH bs)
    refine ⟨by omega, by omega, fun x hx => ?_⟩
    unfold allH at hx
    rcases List.mem_append.1 hx with hx | hx
    · exact (small_feedH _ _).2 x hx
    · exact (small_endH _).2 x hx
theorem saysL_len (ls : List (List UInt8)) : (saysL ls).length ≤ ls.length := by
  unfold saysL
  rw [List.length_map]
  exact List.length_filter_le _ _
theorem small_says (bs : List UInt8) : SmallSayS (saysOut bs) := by
  have h1 := saysL_len (allH bs)
  have h2 := (all_bound bs).1
  refine ⟨by unfold saysOut; omega, fun x hx => ?_⟩
  unfold saysOut saysL at hx
  obtain ⟨y, _, rfl⟩ := List.mem_map.1 hx
  exact ⟨small_sayV y, sayV_stamp y⟩
theorem sumB_take_le (ls : List (List UInt8)) (k : Nat) : wordB (ls.take k) ≤ sumB ls ∧ looseB (ls.take k) ≤ sumB ls := by
  have h1 := word_loose (ls.take k)
  have h2 := sumB_le ls k
  omega
theorem take_snocB (ls : List (List UInt8)) (k : Nat) (h : k < ls.length) : ls.take (k + 1) = ls.take k ++ [ls[k]] := List.take_succ_eq_append_getElem h
def RetSays (bs : List UInt8) (w : World) (e : Ending) (w' : World) : Prop := ∃ v S, e = .returned (.tuple #[v, .int .i64 (saysI bs)]) ∧ Hid (SaySOwn S w' v (saysOut bs)) ∧ Hid (∀ k ∈ S, w.heap.size ≤ k) ∧ Below w.heap.size w w'
theorem retSays_no {bs : List UInt8} {w w' : World} (h : feedB ⟨[], 0⟩ bs = false) (b : Below w.heap.size w w') : RetSays bs w (.returned (.tuple #[.slice none 0 0, .int .i64 0])) w' :=
  ⟨_, [], by unfold saysI; rw [h]; rfl, hide (by unfold saysOut; rw [all_no h]; exact ⟨none, 0, rfl, by simp, .inl rfl⟩), hide (by simp), b⟩
theorem rdAtB {w : World} {a : Option Addr} {n c : Nat} {ns : List (List UInt8)} (h : ByteSSRd w (.slice a n c) ns) (k : Nat) (hk : k < ns.length) : ∃ b off va vc, a = some ⟨b, off, none⟩ ∧ n = ns.length ∧ w.cell? ⟨b, off + k, none⟩ = some (.slice va ns[k].length vc) ∧ ByRd w (.slice va ns[k].length vc) ns[k] := by
  obtain ⟨a', c', e, h⟩ := h
  simp only [Value.slice.injEq] at e
  obtain ⟨rfl, rfl, rfl⟩ := e
  rcases h with rfl | ⟨b, off, rfl, _, h⟩
  · simp at hk
  · obtain ⟨v, h1, h2⟩ := h k hk
    obtain ⟨va, vc, rfl⟩ := h2.len
    exact ⟨b, off, va, vc, rfl, rfl, h1, h2⟩
theorem rdLenB {w : World} {a : Option Addr} {n c : Nat} {ns : List (List UInt8)} (h : ByteSSRd w (.slice a n c) ns) : n = ns.length := by
  obtain ⟨a', c', e, h⟩ := h
  simp only [Value.slice.injEq] at e
  exact e.2.1
def LenOk (vs : List Value) (ms : List (List UInt8)) : Prop := vs.length + ms.length ≤ 1000000
theorem spread_all {B : Nat} {Q : List Nat} {w3 w4 : World} {v v4 : Value} {vs us : List Value} {ns ms : List (List UInt8)} (hq : BsQ (fun k => v.ownBlock ≠ some k) w3 vs ns) (hm : BsQ (fun k => k ∈ Q) w3 us ms) (hQ : ∀ k ∈ Q, v.ownBlock ≠ some k) (g : w3.grownBy w4 v.ownBlock) (r : BvRow B w4 v4 (vs ++ us)) : ByteSSRd w4 v4 (ns ++ ms) := by
  have t4 : Turn v.ownBlock.toList w3 w4 := Turn.of_grown g (fun k hk => .inl (by rw [hk]; simp))
  exact r.rdQ ((hq.append (hm.mono (fun k _ hk => hQ k hk))).turn t4 (fun k hk => by simpa using hk))
theorem sayCellsNew (w : World) (k f t : Int) (nm : ByteArray) (x : Int) (v : Value) (st : List VerV) (T : TypeId) : SayCells (w.alloc (.cells #[.int .i64 k, .int .i64 f, .int .i64 t, .string nm, .int .i64 x, v] T)) w.heap.size 0 ⟨k, f, t, nm, x, st⟩ v := by
  have h := (boxF_new w [.int .i64 k, .int .i64 f, .int .i64 t, .string nm, .int .i64 x, v] T).1
  exact ⟨h.at 0 _ rfl, h.at 1 _ rfl, h.at 2 _ rfl, h.at 3 _ rfl, h.at 4 _ rfl, h.at 5 _ rfl⟩
end Go.Proofs.Ytlgmmibncoedgaa
