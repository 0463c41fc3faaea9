/-
  The text of a tree is cut into the words of the tree. Mathematics alone.
-/
/-
  What may turn from one world to another: new blocks, and the listed ones.
-/
/-
  Lists of bytes in memory: for reading, and as rows of one's own; the laws' own helpers over them: how much they hold, how they are copied, compared, marked, and found marked again.
-/
import Derived.Test.YtjfebnplffpmoaaGreatDoorMerged16
import Derived.Test.YtjfebnplffpmoaaGreatDoorMerged17
import Derived.Test.YtjfebnplffpmoaaGreatDoorMerged3
import Derived.Deep.Draws
import Derived.Deep.RegionWith
import Derived.Deep.RegionHeld3
import Derived.Deep.Slices
import Derived.ProofKit
set_option linter.unusedVariables false
namespace Go.Proofs.YtjfebnplffpmoaaGreatDoor
open Go.RowKit Go.Maps Go.Deep

def bl (s : ByteArray) : List UInt8 := s.data.toList
theorem bl_app (a b : ByteArray) : bl (a ++ b) = bl a ++ bl b := by unfold bl; rw [ByteArray.data_append, Array.toList_append]
theorem bl_lit (l : List UInt8) : bl ⟨l.toArray⟩ = l := rfl
/-- these bytes are cut into these words, if what stands behind is as it should be -/
def LexP (c : List UInt8 → Prop) (l : List UInt8) (ts : List Tok) : Prop := ∀ S k r, AtB S k (l ++ r) → c r → Lx S k ts (k + l.length)
theorem LexP.seq {c1 c2 : List UInt8 → Prop} {l m : List UInt8} {ts us : List Tok} (h : LexP c1 l ts) (g : LexP c2 m us) (hc : ∀ r, c2 r → c1 (m ++ r)) : LexP c2 (l ++ m) (ts ++ us) := fun S k r ha hr => by
  rw [List.append_assoc] at ha
  have h1 := h S k (m ++ r) ha (hc r hr)
  have h2 := g S (k + l.length) r ha.app hr
  have := h1.trans h2
  rw [List.length_append, ← Nat.add_assoc]; exact this
theorem LexP.weak {c1 c2 : List UInt8 → Prop} {l : List UInt8} {ts : List Tok} (h : LexP c1 l ts) (hc : ∀ r, c2 r → c1 r) : LexP c2 l ts := fun S k r ha hr => h S k r ha (hc r hr)
def Any : List UInt8 → Prop := fun _ => True
def Blank : List UInt8 → Prop := fun r => ∃ r', r = 32 :: r'
theorem p_blank : LexP Any [32] [] := fun S k r ha _ => lx_blank ha
theorem p_key (b : UInt8) (l : List UInt8) (hk : isKeyB ⟨(b :: l).toArray⟩ = true) (h0 : letB (b.toNat : Int) = true) (ha : ∀ c ∈ b :: l, letB (c.toNat : Int) = true) (hl : (b :: l).length ≤ 8) : LexP Stop (b :: l) [tk ⟨(b :: l).toArray⟩] := fun S k r h hs => by
  have := lx_name h hs h0 (fun c hc => .inl (ha c hc)) hl
  rw [hk] at this
  exact this
theorem p_sign (c : List UInt8 → Prop) (b : UInt8) (l : List UInt8) (hp : ∀ r, c r → signPreL ((b :: l) ++ r) = b :: l) (h1 : digB (b.toNat : Int) = false) (h2 : letB (b.toNat : Int) = false) (h3 : b ≠ 32) : LexP c (b :: l) [sg ⟨(b :: l).toArray⟩] := fun S k r h hc => lx_sign h (hp r hc) h1 h2 h3
theorem p_one (b : UInt8) (hs : isSgnL [b] = true) (hn : isSgnL [b, 61] = false) (h1 : digB (b.toNat : Int) = false) (h2 : letB (b.toNat : Int) = false) (h3 : b ≠ 32) : LexP Any [b] [sg ⟨#[b]⟩] :=
  p_sign Any b [] (fun r _ => by show signPreL (b :: r) = [b]; rw [sign_one b r (.inr hn), if_pos hs]) h1 h2 h3
theorem p_oneB (b : UInt8) (hs : isSgnL [b] = true) (h1 : digB (b.toNat : Int) = false) (h2 : letB (b.toNat : Int) = false) (h3 : b ≠ 32) : LexP Blank [b] [sg ⟨#[b]⟩] :=
  p_sign Blank b [] (fun r hr => by
    obtain ⟨r', rfl⟩ := hr
    show signPreL (b :: 32 :: r') = [b]
    rw [sign_one b _ (.inl (by simp)), if_pos hs]) h1 h2 h3
theorem p_twoB (b : UInt8) (hs : isSgnL [b, 61] = true) (h1 : digB (b.toNat : Int) = false) (h2 : letB (b.toNat : Int) = false) (h3 : b ≠ 32) : LexP Blank [b, 61] [sg ⟨#[b, 61]⟩] :=
  p_sign Blank b [61] (fun r hr => sign_two b r hs) h1 h2 h3
theorem stop_blank (r : List UInt8) : Stop (32 :: r) := stop_cons (by decide) (by decide)
theorem p_signK {kd : Int} (h : 5 ≤ kd ∧ kd ≤ 17) : LexP Blank (bl (signN kd)) [signK kd] := by
  obtain rfl | rfl | rfl | rfl | rfl | rfl | rfl | rfl | rfl | rfl | rfl | rfl | rfl : kd = 5 ∨ kd = 6 ∨ kd = 7 ∨ kd = 8 ∨ kd = 9 ∨ kd = 10 ∨ kd = 11 ∨ kd = 12 ∨ kd = 13 ∨ kd = 14 ∨ kd = 15 ∨ kd = 16 ∨ kd = 17 := by omega
  · exact p_oneB 42 (by decide) (by decide) (by decide) (by decide)
  · exact p_oneB 47 (by decide) (by decide) (by decide) (by decide)
  · exact p_oneB 37 (by decide) (by decide) (by decide) (by decide)
  · exact p_oneB 43 (by decide) (by decide) (by decide) (by decide)
  · exact p_oneB 45 (by decide) (by decide) (by decide) (by decide)
  · exact p_oneB 61 (by decide) (by decide) (by decide) (by decide)
  · exact p_twoB 33 (by decide) (by decide) (by decide) (by decide)
  · exact p_oneB 60 (by decide) (by decide) (by decide) (by decide)
  · exact p_twoB 60 (by decide) (by decide) (by decide) (by decide)
  · exact p_oneB 62 (by decide) (by decide) (by decide) (by decide)
  · exact p_twoB 62 (by decide) (by decide) (by decide) (by decide)
  · exact (p_key 97 [110, 100] (by decide) (by decide) (by decide) (by decide)).weak (fun r hr => by obtain ⟨r', rfl⟩ := hr; exact stop_blank r')
  · exact (p_key 111 [114] (by decide) (by decide) (by decide) (by decide)).weak (fun r hr => by obtain ⟨r', rfl⟩ := hr; exact stop_blank r')
theorem p_open : LexP Any [40] [sg sOpen] := p_one 40 (by decide) (by decide) (by decide) (by decide) (by decide)
theorem p_shut : LexP Any [41] [sg sShut] := p_one 41 (by decide) (by decide) (by decide) (by decide) (by decide)
theorem p_comma : LexP Any [44] [sg sComma] := p_one 44 (by decide) (by decide) (by decide) (by decide) (by decide)
theorem p_minus : LexP Any [45] [sg sSub] := p_one 45 (by decide) (by decide) (by decide) (by decide) (by decide)
theorem any_of {c : List UInt8 → Prop} (m : List UInt8) : ∀ r, c r → Any (m ++ r) := fun _ _ => trivial
theorem stop_of {c : List UInt8 → Prop} {b : UInt8} (m : List UInt8) (h1 : letB (b.toNat : Int) = false) (h2 : digB (b.toNat : Int) = false) : ∀ r, c r → Stop ((b :: m) ++ r) := fun r _ => stop_cons h1 h2
theorem p_name {nm : ByteArray} (h : nameB nm = true) : LexP Stop (bl nm) [(2, nm)] := by
  unfold nameB at h
  simp only [Bool.and_eq_true, decide_eq_true_eq, Bool.not_eq_true'] at h
  obtain ⟨⟨⟨h1, h2⟩, h3⟩, h4⟩ := h
  rw [rest_iff] at h3
  have hl : (bl nm).length = nm.size := by unfold bl; rw [Array.length_toList]; rfl
  have hb : ∀ i, (hi : i < (bl nm).length) → byteAt nm i = (((bl nm)[i]'hi).toNat : Int) := fun i hi => by
    have hs : i < nm.data.size := by have : nm.data.size = nm.size := rfl; omega
    unfold byteAt
    rw [Array.getD, dif_pos hs]
    rfl
  have he : nm = ⟨(bl nm).toArray⟩ := by cases nm; rfl
  cases hq : bl nm with
  | nil => rw [hq] at hl; simp at hl; omega
  | cons b l =>
    have hl2 : (b :: l).length ≤ 8 := by rw [← hq, hl]; exact h2
    intro S k r ha hs
    have h0 : letB (b.toNat : Int) = true := by
      have e := hb 0 (by rw [hq]; simp)
      simp only [hq, List.getElem_cons_zero] at e
      rcases h3 0 (by omega) with q | ⟨q, _⟩
      · rw [e] at q; exact q
      · exact absurd rfl q
    have hall : ∀ c ∈ b :: l, letB (c.toNat : Int) = true ∨ digB (c.toNat : Int) = true := fun c hc => by
      obtain ⟨i, hi, e⟩ := List.getElem_of_mem hc
      have hi' : i < (bl nm).length := by rw [hq]; exact hi
      have e2 := hb i hi'
      simp only [hq, e] at e2
      rcases h3 i (by omega) with q | ⟨_, q⟩
      · rw [e2] at q; exact .inl q
      · rw [e2] at q; exact .inr q
    have := lx_name ha hs h0 hall hl2
    rw [hq] at he
    rw [← he, h4] at this
    exact this
theorem dec_lenB (u : Nat) : ∀ m : Nat, u < 10 ^ (m + 1) → (Lib.decDigits u).length ≤ m + 1 := by
  induction u using Nat.strongRecOn with
  | ind u ih =>
    intro m hm
    rw [Lib.decDigits]
    split
    · simp
    · rename_i h
      cases m with
      | zero => simp at hm; omega
      | succ m =>
        have := ih (u / 10) (by omega) m (by rw [Nat.pow_succ] at hm; omega)
        simp; omega
theorem dec_dig (u : Nat) : ∀ c ∈ Lib.decDigits u, digB (c.toNat : Int) = true := by
  induction u using Nat.strongRecOn with
  | ind u ih =>
    intro c hc
    rw [Lib.decDigits] at hc
    split at hc
    · rename_i h
      have h : u < 10 := h
      simp only [List.mem_singleton] at hc
      subst hc
      unfold digB
      simp
      omega
    · rename_i h
      rw [List.mem_append] at hc
      rcases hc with hc | hc
      · exact ih (u / 10) (by omega) c hc
      · simp only [List.mem_singleton] at hc
        subst hc
        unfold digB
        simp
        omega
theorem dec_head (u : Nat) : ∃ b l, Lib.decDigits u = b :: l ∧ (1 ≤ u → b ≠ 48) ∧ (l = [] ∨ 1 ≤ u) := by
  induction u using Nat.strongRecOn with
  | ind u ih =>
    rw [Lib.decDigits]
    split
    · rename_i h
      refine ⟨_, [], rfl, fun h1 e => ?_, .inl rfl⟩
      have h : u < 10 := h
      have := congrArg UInt8.toNat e
      simp at this
      omega
    · rename_i h
      obtain ⟨b, l, e, h1, h2⟩ := ih (u / 10) (by omega)
      exact ⟨b, l ++ [UInt8.ofNat (48 + u % 10)], by rw [e]; rfl, fun _ => h1 (by omega), .inr (by omega)⟩
theorem p_num {n : Int} (h0 : 0 ≤ n) (h1 : n ≤ 999999999999999999) : LexP Stop (bl (decN n)) [(1, decN n)] := by
  obtain ⟨b, l, e, g1, g2⟩ := dec_head n.toNat
  have hl := dec_lenB n.toNat 17 (by omega)
  have hd := dec_dig n.toNat
  unfold decN
  rw [bl_lit, e]
  rw [e] at hl hd
  intro S k r ha hs
  exact lx_num ha hs hd hl (by rcases g2 with q | q; exact .inl q; exact .inr (g1 q))
theorem p_wrap {least : Int} {y : NodeV} {s : ByteArray} {ts : List Tok} (h : LexP Stop (bl s) ts) : LexP Stop (bl (wrapT least y s)) (wrapK least y ts) := by
  unfold wrapT wrapK
  split
  · rw [bl_app, bl_app, List.append_assoc]
    exact p_open.seq (h.seq (p_shut.weak (fun _ _ => trivial)) (stop_of [] (by decide) (by decide))) (any_of _)
  · exact h
end Go.Proofs.YtjfebnplffpmoaaGreatDoor

namespace Go.Proofs.YtjfebnplffpmoaaGreatDoor
open Go.RowKit Go.Maps

/-- new blocks, and writes into the listed blocks alone -/
structure Turn (S : List Nat) (w w' : World) : Prop where
  os : w'.os = w.os
  tape : w'.tape = w.tape
  output : w'.output = w.output
  size : w.heap.size ≤ w'.heap.size
  block : ∀ k, k < w.heap.size → k ∉ S → w'.heap[k]? = w.heap[k]?
theorem Turn.refl (S : List Nat) (w : World) : Turn S w w := ⟨rfl, rfl, rfl, Nat.le_refl _, fun _ _ _ => rfl⟩
theorem Turn.trans {S : List Nat} {a b c : World} (h : Turn S a b) (k : Turn S b c) : Turn S a c :=
  ⟨k.os.trans h.os, k.tape.trans h.tape, k.output.trans h.output, Nat.le_trans h.size k.size, fun i hi hS => (k.block i (Nat.lt_of_lt_of_le hi h.size) hS).trans (h.block i hi hS)⟩
theorem Turn.mono {S S' : List Nat} {a b : World} (h : Turn S a b) (hs : ∀ k ∈ S, k ∈ S' ∨ a.heap.size ≤ k) : Turn S' a b :=
  ⟨h.os, h.tape, h.output, h.size, fun k hk hS => h.block k hk (fun hm => (hs k hm).elim hS (fun e => by omega))⟩
theorem Turn.of_below {S : List Nat} {a b : World} (h : Below a.heap.size a b) : Turn S a b := ⟨h.os, h.tape, h.output, h.size, fun k hk _ => h.block k hk⟩
theorem Turn.below {S : List Nat} {a b : World} (h : Turn S a b) {B : Nat} (hB : B ≤ a.heap.size) (hS : ∀ k ∈ S, B ≤ k) : Below B a b :=
  ⟨h.os, h.tape, h.output, h.size, fun k hk => h.block k (by omega) (fun hm => by have := hS k hm; omega)⟩
theorem Turn.of_grown {S : List Nat} {a b : World} {row : Option Nat} (h : a.grownBy b row) (hr : ∀ k, row = some k → k ∈ S ∨ a.heap.size ≤ k) : Turn S a b :=
  ⟨h.os, h.tape, h.output, h.size, fun k hk hS => h.block k hk (fun e => (hr k e.symm).elim hS (fun e => by omega))⟩
theorem Turn.alloc {S : List Nat} {a b : World} (h : Turn S a b) (o : Obj) : Turn S a (b.alloc o) := h.trans (Turn.of_below ((Below.refl _ _).alloc (Nat.le_refl _) o))
theorem Turn.of_alloc (S : List Nat) (w : World) (o : Obj) : Turn S w (w.alloc o) := (Turn.refl S w).alloc o

theorem Turn.setCell {S : List Nat} {a b : World} (h : Turn S a b) {g : Nat} (hg : g ∈ S) (i : Nat) (v : Value) : Turn S a (b.setCell ⟨g, i, none⟩ v) :=
  h.trans ⟨rfl, rfl, rfl, by simp, fun k _ hS => Below.heap_setCell b ⟨g, i, none⟩ v k (fun e => hS (by rw [e]; exact hg))⟩
theorem Turn.dn {S : List Nat} {a b : World} (h : Turn S a b) (n : Nat) : Turn S a (b.drewN n) := h.trans ⟨rfl, rfl, rfl, Nat.le_refl _, fun _ _ _ => rfl⟩
theorem Turn.cell {S : List Nat} {a b : World} (h : Turn S a b) {g i : Nat} (hg : g < a.heap.size) (hS : g ∉ S) : b.cell? ⟨g, i, none⟩ = a.cell? ⟨g, i, none⟩ := World.cell?_of_block (w := a) (a := ⟨g, i, none⟩) (h.block g hg hS)
theorem Turn.frozen {S : List Nat} {a b : World} (h : Turn S a b) {g i : Nat} (hg : g < a.heap.size) (hS : g ∉ S) : b.frozen? ⟨g, i, none⟩ = a.frozen? ⟨g, i, none⟩ := World.frozen?_of_block (w := a) (a := ⟨g, i, none⟩) (h.block g hg hS)
theorem belowN (w : World) (n : Nat) : Below w.heap.size w (w.drewN n) := ⟨rfl, rfl, rfl, Nat.le_refl _, fun _ _ => rfl⟩
theorem vbox {w w2 : World} {x0 x1 : Value} {T : TypeId} (hb : Below (w.alloc (.cells #[x0, x1] T)).heap.size (w.alloc (.cells #[x0, x1] T)) w2) :
    w2.cell? ⟨w.heap.size, 0, none⟩ = some x0 ∧ w2.cell? ⟨w.heap.size, 1, none⟩ = some x1 := by
  refine ⟨?_, ?_⟩
  all_goals
    rw [hb.cell (by simp), World.cell?_alloc_at _ _ _ _ rfl]
    rfl

end Go.Proofs.YtjfebnplffpmoaaGreatDoor

set_option linter.unusedVariables false
namespace Go.Proofs.YtjfebnplffpmoaaGreatDoor
open Go.RowKit Go.Maps Go.Deep

def byV (c : UInt8) : Value := .int .u8 (c.toNat : Int)
/-- bytes lie one behind the other, from a place of a block on -/
def ByAt (w : World) (b off : Nat) (bs : List UInt8) : Prop := ∀ i (h : i < bs.length), w.cell? ⟨b, off + i, none⟩ = some (.int .u8 (bs[i].toNat : Int))
def ByIn (w : World) (a : Option Addr) (bs : List UInt8) : Prop := bs = [] ∨ ∃ b off, a = some ⟨b, off, none⟩ ∧ b < w.heap.size ∧ ByAt w b off bs
/-- a slice value that leads to these bytes, for reading -/
def ByRd (w : World) (v : Value) (bs : List UInt8) : Prop := ∃ a cap, v = .slice a bs.length cap ∧ ByIn w a bs ∧ bs.length ≤ cap
/-- a slice value of one's own with these bytes; S: its block, where it has one -/
def ByOwn (S : List Nat) (w : World) (v : Value) (bs : List UInt8) : Prop :=
  (S = [] ∧ bs = [] ∧ ∃ a cap, v = .slice a 0 cap) ∨ ∃ b off cap, S = [b] ∧ v = .slice (some ⟨b, off, none⟩) bs.length cap ∧ b < w.heap.size ∧ ByAt w b off bs ∧ (∀ i, i < bs.length → w.frozen? ⟨b, off + i, none⟩ = false) ∧ bs.length ≤ cap

theorem ByAt.below {w w' : World} {B b off : Nat} {bs : List UInt8} (h : ByAt w b off bs) (hb : Below B w w') (hB : b < B) : ByAt w' b off bs := fun i hi => (hb.cell (by exact hB)).trans (h i hi)
theorem ByAt.turn {w w' : World} {S : List Nat} {b off : Nat} {bs : List UInt8} (h : ByAt w b off bs) (ht : Turn S w w') (hb : b < w.heap.size) (hS : b ∉ S) : ByAt w' b off bs := fun i hi => (ht.cell hb hS).trans (h i hi)
theorem ByIn.below {w w' : World} {B : Nat} {a : Option Addr} {bs : List UInt8} (h : ByIn w a bs) (hb : Below B w w') (hB : ∀ x, a = some x → 1 ≤ bs.length → x.block < B) : ByIn w' a bs := by
  rcases h with h | ⟨b, off, e, hlt, hn⟩
  · exact .inl h
  · by_cases h0 : bs.length = 0
    · exact .inl (List.eq_nil_of_length_eq_zero h0)
    · exact .inr ⟨b, off, e, Nat.lt_of_lt_of_le hlt hb.size, hn.below hb (hB _ e (by omega))⟩
theorem ByIn.up {w w' : World} {a : Option Addr} {bs : List UInt8} (h : ByIn w a bs) (hb : Below w.heap.size w w') : ByIn w' a bs := by
  rcases h with h | ⟨b, off, e, hlt, hn⟩
  · exact .inl h
  · exact .inr ⟨b, off, e, Nat.lt_of_lt_of_le hlt hb.size, hn.below hb hlt⟩
theorem ByRd.up {w w' : World} {v : Value} {bs : List UInt8} (h : ByRd w v bs) (hb : Below w.heap.size w w') : ByRd w' v bs := by
  obtain ⟨a, cap, e, h, hc⟩ := h
  exact ⟨a, cap, e, h.up hb, hc⟩
theorem ByRd.nil (w : World) (a : Option Addr) (cap : Nat) : ByRd w (.slice a 0 cap) [] := ⟨a, cap, rfl, .inl rfl, Nat.zero_le _⟩
theorem ByOwn.nil (w : World) (a : Option Addr) (cap : Nat) : ByOwn [] w (.slice a 0 cap) [] := .inl ⟨rfl, rfl, a, cap, rfl⟩
theorem ByOwn.rd {S : List Nat} {w : World} {v : Value} {bs : List UInt8} (h : ByOwn S w v bs) : ByRd w v bs := by
  rcases h with ⟨_, rfl, a, cap, rfl⟩ | ⟨b, off, cap, _, rfl, hb, hc, _, hcap⟩
  · exact ByRd.nil _ _ _
  · exact ⟨_, cap, rfl, .inr ⟨b, off, rfl, hb, hc⟩, hcap⟩
theorem ByOwn.turn {S S' : List Nat} {w w' : World} {v : Value} {bs : List UInt8} (h : ByOwn S w v bs) (ht : Turn S' w w') (hS : ∀ k ∈ S, k ∉ S') : ByOwn S w' v bs := by
  rcases h with h | ⟨b, off, cap, rfl, rfl, hb, hc, hf, hcap⟩
  · exact .inl h
  · have hn := hS b (by simp)
    exact .inr ⟨b, off, cap, rfl, rfl, Nat.lt_of_lt_of_le hb ht.size, hc.turn ht hb hn, fun i hi => (ht.frozen hb hn).trans (hf i hi), hcap⟩
theorem ByOwn.up {S : List Nat} {w w' : World} {v : Value} {bs : List UInt8} (h : ByOwn S w v bs) (hb : Below w.heap.size w w') : ByOwn S w' v bs := h.turn (Turn.of_below (S := []) hb) (by simp)
theorem ByOwn.lt {S : List Nat} {w : World} {v : Value} {bs : List UInt8} (h : ByOwn S w v bs) : ∀ k ∈ S, k < w.heap.size := by
  rcases h with ⟨rfl, _⟩ | ⟨b, off, cap, rfl, rfl, hb, _⟩
  · simp
  · simpa using hb
theorem ByOwn.nodup {S : List Nat} {w : World} {v : Value} {bs : List UInt8} (h : ByOwn S w v bs) : S.Nodup := by
  rcases h with ⟨rfl, _⟩ | ⟨b, off, cap, rfl, _⟩ <;> simp
/-- a row that was made by appending is one's own -/
theorem ByOwn.of_row {w : World} {B : Nat} {v : Value} {bs : List UInt8} (h : w.ownsRow B 5 1 v bs.length (bs.map byV)) : ∃ S, ByOwn S w v bs ∧ ∀ k ∈ S, B ≤ k := by
  have hh := h
  rcases h with ⟨_, ⟨rfl, h0⟩ | ⟨g, cap, cur, rfl, hB, hg, hnc, _⟩⟩
  · have : bs = [] := List.eq_nil_of_length_eq_zero h0
    subst this
    exact ⟨[], ByOwn.nil _ _ _, by simp⟩
  · refine ⟨[g], .inr ⟨g, 0, cap, rfl, rfl, (Array.getElem?_eq_some_iff.1 hg).1, fun i hi => ?_, fun i hi => hh.frozenAt _, hnc⟩, by simpa using hB⟩
    rw [Nat.zero_add, hh.cellAt _ (by omega)]
    simp [byV, hi]
theorem ByRd.len {w : World} {v : Value} {bs : List UInt8} (h : ByRd w v bs) : ∃ a cap, v = .slice a bs.length cap := by
  obtain ⟨a, cap, e, _⟩ := h
  exact ⟨a, cap, e⟩

theorem infoByte : (Tryz.prog.info? 5).map (fun i => (i.zero, i.size, i.bytes)) = some (some (.int .u8 0), 1, 1) := by kernel_rfl
theorem info_parts1 {t : TypeId} {z : Value} {a b : Nat} (h : (Tryz.prog.info? t).map (fun i => (i.zero, i.size, i.bytes)) = some (some z, a, b)) : ∃ i, Tryz.prog.info? t = some i ∧ i.zero = some z ∧ i.size = a ∧ i.bytes = b := by
  cases hi : Tryz.prog.info? t with
  | none => rw [hi] at h; cases h
  | some i =>
    rw [hi] at h
    simp only [Option.map_some, Option.some.injEq, Prod.mk.injEq] at h
    exact ⟨i, rfl, h.1, h.2.1, h.2.2⟩


end Go.Proofs.YtjfebnplffpmoaaGreatDoor
