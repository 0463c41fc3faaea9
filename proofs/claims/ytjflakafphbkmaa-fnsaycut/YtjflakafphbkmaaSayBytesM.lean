/-
  The bytes of a word.
-/
import Derived.Test.YtjflakafphbkmaaSayMath
import Derived.Test.YtjflakafphbkmaaSaySum
import Derived.Test.YtjflakafphbkmaaNumU
set_option linter.unusedVariables false
namespace Go.Proofs.Ytjflakafphbkmaa
open Go.RowKit Go.Maps Go.Deep

def nameBytes (s : ByteArray) : List UInt8 := beB (s.size : Int) 0 :: s.data.toList
def verBytes (x : VerV) : List UInt8 := nameBytes x.a0 ++ beL x.a1 6
def stampBytes (ns : List VerV) : List UInt8 := ns.flatMap verBytes
def sayTail (s : SayV) : List UInt8 := if s.kind = 2 then beL s.val 8 ++ [beB (s.stamp.length : Int) 0] ++ stampBytes s.stamp else []
def sayBody (s : SayV) : List UInt8 := [beB s.kind 0, beB s.src 0, beB s.dst 0] ++ nameBytes s.name ++ sayTail s
def sayAll (s : SayV) : List UInt8 := sayBody s ++ beL (saySum (sayBody s)) 2
def sayBytesL (s : SayV) : List UInt8 := if sayOkB s then sayAll s else []
theorem stampBytes_take (ns : List VerV) (k : Nat) (h : k < ns.length) : stampBytes (ns.take (k + 1)) = stampBytes (ns.take k) ++ nameBytes ns[k].a0 ++ beL ns[k].a1 6 := by
  unfold stampBytes
  rw [List.take_succ_eq_append_getElem h, List.flatMap_append]
  simp [verBytes]
theorem nameBytes_len (s : ByteArray) : (nameBytes s).length = s.size + 1 := by simp [nameBytes]
theorem plain_size {s : ByteArray} (h : plainB s = true) : s.size ≤ 8 := by
  simp only [plainB, Bool.and_eq_true, decide_eq_true_eq] at h
  exact h.1.2
theorem stampBytes_len (ns : List VerV) (h : ∀ x ∈ ns, x.a0.size ≤ 8) : (stampBytes ns).length ≤ ns.length * 15 := by
  induction ns with
  | nil => simp [stampBytes]
  | cons x xs ih =>
    have h1 := ih (fun y hy => h y (by simp [hy]))
    have h2 := h x (by simp)
    have e : stampBytes (x :: xs) = verBytes x ++ stampBytes xs := by simp [stampBytes]
    rw [e, List.length_append]
    simp only [verBytes, List.length_append, nameBytes_len, beL_length, List.length_cons]
    omega
theorem stamp_names {ns : List VerV} (h : stampB ns = true) : ns.length ≤ 12 ∧ ∀ x ∈ ns, plainB x.a0 = true ∧ 1 ≤ x.a1 ∧ x.a1 ≤ 1099511627776 := by
  simp only [stampB, Bool.and_eq_true, decide_eq_true_eq] at h
  refine ⟨h.1, fun x hx => ?_⟩
  obtain ⟨i, hi, rfl⟩ := List.getElem_of_mem hx
  have := (h.2 i hi hi).1
  simp only [verB, Bool.and_eq_true, decide_eq_true_eq] at this
  exact ⟨this.1.1, this.1.2, this.2⟩
/-- what a word that may be has -/
structure SayGood (s : SayV) : Prop where
  kind : s.kind = 1 ∨ s.kind = 2 ∨ s.kind = 3
  src : 0 ≤ s.src ∧ s.src ≤ 9
  dst : 0 ≤ s.dst ∧ s.dst ≤ 9
  name : plainB s.name = true
  tell : s.kind = 2 → 1 ≤ s.stamp.length ∧ stampB s.stamp = true
  bare : s.kind ≠ 2 → s.val = 0 ∧ s.stamp = []
theorem say_good {s : SayV} (h : sayOkB s = true) : SayGood s := by
  simp only [sayOkB, Bool.and_eq_true, decide_eq_true_eq] at h
  obtain ⟨⟨⟨⟨_, h1⟩, h2⟩, h3⟩, h4⟩ := h
  simp only [nodeB, Bool.and_eq_true, decide_eq_true_eq] at h1 h2
  unfold tailB at h4
  by_cases k2 : s.kind = 2
  · rw [if_pos k2] at h4
    simp only [Bool.and_eq_true, decide_eq_true_eq] at h4
    exact ⟨.inr (.inl k2), h1, h2, h3, fun _ => h4, fun h => absurd k2 h⟩
  · rw [if_neg k2] at h4
    by_cases k1 : s.kind = 1 ∨ s.kind = 3
    · rw [if_pos k1] at h4
      simp only [Bool.and_eq_true, decide_eq_true_eq] at h4
      exact ⟨k1.elim .inl (fun e => .inr (.inr e)), h1, h2, h3, fun e => absurd e k2, fun _ => ⟨h4.1, List.eq_nil_of_length_eq_zero h4.2⟩⟩
    · rw [if_neg k1] at h4
      cases h4
theorem sayBody_len {s : SayV} (h : SayGood s) : (sayBody s).length ≤ 210 := by
  have hn := plain_size h.name
  unfold sayBody sayTail
  simp only [List.length_append, nameBytes_len]
  split
  · rename_i k2
    obtain ⟨h1, h2⟩ := stamp_names (h.tell k2).2
    have := stampBytes_len s.stamp (fun x hx => plain_size (h2 x hx).1)
    simp only [List.length_append, beL_length, List.length_cons, List.length_nil]
    omega
  · simp
    omega
theorem sayAll_len {s : SayV} (h : SayGood s) : (sayAll s).length ≤ 212 := by
  have := sayBody_len h
  unfold sayAll
  rw [List.length_append, beL_length]
  omega
theorem sayBytesL_len (s : SayV) : (sayBytesL s).length ≤ 212 := by
  unfold sayBytesL
  split
  · rename_i h
    exact sayAll_len (say_good h)
  · simp
def RetSay (s : SayV) (w : World) (e : Ending) (w' : World) : Prop := ∃ a n c, e = .returned (.tuple #[.slice a n c, .bool (sayOkB s)]) ∧ ByRow w.heap.size w' (.slice a n c) (sayBytesL s) ∧ Below w.heap.size w w'
end Go.Proofs.Ytjflakafphbkmaa
