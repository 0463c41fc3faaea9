/-
  Lists of versions: for reading, and as rows of one's own.
-/
/-
  Names outside bodies: one to eight bytes, each a letter, a digit or '-'; both sides ask so.
-/
/-
  Texts in order, byte by byte.
-/
/-
  Words between nodes as values: which may be.
-/
/-
  The bytes of a word.
-/
/-
  Words in memory: for reading and of one's own; the laws' own helpers over one: how much it holds, how it is copied, compared, and how one that comes in is opened.
-/
import Derived.Test.YtlgmmibncoedgaaMerged16
import Derived.Test.YtlgmmibncoedgaaMerged1
import Derived.Lib.ConvBytes
import Derived.Laws.Cover1
import Derived.Test.YtlgmmibncoedgaaMerged6
import Derived.Test.YtlgmmibncoedgaaMerged5
import Derived.Test.YtlgmmibncoedgaaMerged3
import Derived.OpenShut
import Derived.Handy
set_option linter.unusedVariables false
namespace Go.Proofs.Ytlgmmibncoedgaa
open Go.RowKit Go.Maps Go.Deep

def VerRd (w : World) (v : Value) (ns : List VerV) : Prop := ∃ a c, v = .slice a ns.length c ∧ VerIn w a ns
def VerOwn (S : List Nat) (w : World) (v : Value) (ns : List VerV) : Prop :=
  (S = [] ∧ ns = [] ∧ ∃ a c, v = .slice a 0 c) ∨ ∃ b off cap, S = [b] ∧ v = .slice (some ⟨b, off, none⟩) ns.length cap ∧ b < w.heap.size ∧ VerAt w b off ns ∧ ∀ i, i < ns.length * 2 → w.frozen? ⟨b, off + i, none⟩ = false
theorem VerAt.turn {w w' : World} {S : List Nat} {b off : Nat} {ns : List VerV} (h : VerAt w b off ns) (ht : Turn S w w') (hb : b < w.heap.size) (hS : b ∉ S) : VerAt w' b off ns := by
  intro i hi
  obtain ⟨c0, c1⟩ := h i hi
  exact ⟨(ht.cell hb hS).trans c0, (ht.cell hb hS).trans c1⟩
theorem VerRd.up {w w' : World} {v : Value} {ns : List VerV} (h : VerRd w v ns) (hb : Below w.heap.size w w') : VerRd w' v ns := by
  obtain ⟨a, c, e, h⟩ := h
  exact ⟨a, c, e, h.below hb⟩
theorem VerRd.len {w : World} {v : Value} {ns : List VerV} (h : VerRd w v ns) : ∃ a c, v = .slice a ns.length c := by
  obtain ⟨a, c, e, _⟩ := h
  exact ⟨a, c, e⟩
theorem VerOwn.rd {S : List Nat} {w : World} {v : Value} {ns : List VerV} (h : VerOwn S w v ns) : VerRd w v ns := by
  rcases h with ⟨_, rfl, a, c, rfl⟩ | ⟨b, off, cap, _, rfl, hb, hc, _⟩
  · exact ⟨a, c, rfl, .inl rfl⟩
  · exact ⟨_, cap, rfl, .inr ⟨b, off, rfl, hb, hc⟩⟩
theorem VerOwn.turn {S S' : List Nat} {w w' : World} {v : Value} {ns : List VerV} (h : VerOwn S w v ns) (ht : Turn S' w w') (hS : ∀ k ∈ S, k ∉ S') : VerOwn S w' v ns := by
  rcases h with h | ⟨b, off, cap, rfl, rfl, hb, hc, hf⟩
  · exact .inl h
  · have hn := hS b (by simp)
    exact .inr ⟨b, off, cap, rfl, rfl, Nat.lt_of_lt_of_le hb ht.size, hc.turn ht hb hn, fun i hi => (ht.frozen hb hn).trans (hf i hi)⟩
theorem VerOwn.up {S : List Nat} {w w' : World} {v : Value} {ns : List VerV} (h : VerOwn S w v ns) (hb : Below w.heap.size w w') : VerOwn S w' v ns := h.turn (Turn.of_below (S := []) hb) (by simp)
theorem VerOwn.lt {S : List Nat} {w : World} {v : Value} {ns : List VerV} (h : VerOwn S w v ns) : ∀ k ∈ S, k < w.heap.size := by
  rcases h with ⟨rfl, _⟩ | ⟨b, off, cap, rfl, rfl, hb, _⟩
  · simp
  · simpa using hb
theorem eqVerS_rd (w : World) (v v' : Value) (ns : List VerV) (hl : ns.length ≤ 281474976710656) (h : VerRd w v ns) (h' : VerRd w v' ns) :
    Calls Try.prog 87 #[v, v'] w fun e w' => e = .returned (.bool true) ∧ Below w.heap.size w w' := by
  obtain ⟨a, c, rfl, h⟩ := h
  obtain ⟨a', c', rfl, h'⟩ := h'
  rcases h with rfl | ⟨b, off, rfl, hb, hc⟩
  · go_enter Try.func87, Try.ntmps87
    go_wp2
    refine wp_loop_rounds 1 ?_
    rw [rounds_succ]
    go_wp2
    go_ret
    exact ⟨rfl, Below.refl _ _⟩
  · rcases h' with rfl | ⟨b', off', rfl, hb', hc'⟩
    · go_enter Try.func87, Try.ntmps87
      go_wp2
      refine wp_loop_rounds 1 ?_
      rw [rounds_succ]
      go_wp2
      go_ret
      exact ⟨rfl, Below.refl _ _⟩
    · exact eqVerS_same w b off c b' off' c' ns hl hc hc' hb hb'
end Go.Proofs.Ytlgmmibncoedgaa

set_option linter.unusedVariables false
namespace Go.Proofs.Ytlgmmibncoedgaa
open Go.RowKit Go.Maps Go.Deep

def plainN (x : Nat) : Bool := (decide (97 ≤ x) && decide (x ≤ 122)) || (decide (48 ≤ x) && decide (x ≤ 57)) || decide (x = 45)
def plainB (s : ByteArray) : Bool := decide (1 ≤ s.size) && decide (s.size ≤ 8) && s.data.toList.all fun c => plainN c.toNat
/-- what the tests of a byte come to, by whether it may stand in a name -/
theorem plain_cases (n : Nat) : (plainN n = true ∧ ((97 ≤ (n : Int) ∧ (n : Int) ≤ 122) ∨ ((n : Int) < 97 ∧ 48 ≤ (n : Int) ∧ (n : Int) ≤ 57) ∨ ((n : Int) < 97 ∧ (n : Int) < 48 ∧ ((n : Int) != 45) = false))) ∨
    (plainN n = false ∧ ((n : Int) != 45) = true ∧ (((n : Int) < 97 ∧ (n : Int) < 48) ∨ ((n : Int) < 97 ∧ 48 ≤ (n : Int) ∧ 57 < (n : Int)) ∨ (97 ≤ (n : Int) ∧ 122 < (n : Int) ∧ 48 ≤ (n : Int) ∧ 57 < (n : Int)))) := by
  unfold plainN
  simp
  omega
def PlainTo (s : ByteArray) (k : Nat) : Prop := ∀ i (h : i < s.size), i < k → plainN s[i].toNat = true
theorem plain_short (s : ByteArray) (h : ¬ 1 ≤ s.size) : plainB s = false := by simp [plainB, h]
theorem plain_long (s : ByteArray) (h : ¬ s.size ≤ 8) : plainB s = false := by simp [plainB, h]
theorem plain_bad (s : ByteArray) (i : Nat) (h : i < s.size) (hf : plainN s[i].toNat = false) : plainB s = false := by
  have : (s.data.toList.all fun c => plainN c.toNat) = false := by
    rw [List.all_eq_false]
    exact ⟨s[i], by simp [ByteArray.getElem_eq_getElem_data], by simpa using hf⟩
  simp [plainB, this]
theorem plain_good (s : ByteArray) (h1 : 1 ≤ s.size) (h8 : s.size ≤ 8) (h : PlainTo s s.size) : plainB s = true := by
  have : (s.data.toList.all fun c => plainN c.toNat) = true := by
    rw [List.all_eq_true]
    intro c hc
    obtain ⟨i, hi, rfl⟩ := List.getElem_of_mem hc
    exact h i (by simpa using hi) (by simpa using hi)
  simp [plainB, this, h1, h8]
theorem PlainTo.step {s : ByteArray} {k : Nat} (h : PlainTo s k) (hk : k < s.size) (hp : plainN s[k].toNat = true) : PlainTo s (k + 1) := by
  intro i hi hik
  by_cases e : i = k
  · subst e; exact hp
  · exact h i hi (by omega)

set_option maxHeartbeats 1600000 in
theorem specPlain9_any (s : ByteArray) (w : World) (hs : s.size ≤ maxLen) : Calls Try.prog 65 #[.string s] w fun e w' => e = .returned (.bool (plainB s)) ∧ w' = w := by
  unfold maxLen at hs
  by_cases h1 : 1 ≤ s.size
  · by_cases h8 : s.size ≤ 8
    · have g1 : ¬ (s.size : Int) < 1 := by omega
      have g8 : ¬ (8 : Int) < (s.size : Int) := by omega
      go_enter Try.func65, Try.ntmps65
      go_wp2_with fail
      go_loop [3] (fun i => ∃ k : Nat, k ≤ s.size ∧ i = .int .i64 k ∧ Hid (PlainTo s k)) (fun i => s.size - (intOf i).toNat)
      case atStart => exact ⟨0, Nat.zero_le _, rfl, fun j _ hj => absurd hj (Nat.not_lt_zero _)⟩
      case round =>
        obtain ⟨k, hk, rfl, HP⟩ := hrel
        by_cases hlt : k < s.size
        · rcases plain_cases s[k].toNat with ⟨hp, hc⟩ | ⟨hp, hne, hc⟩
          · have HP2 := hide ((unhide HP).step hlt hp)
            clear hp
            rcases hc with ⟨c1, c2⟩ | ⟨c1, c2, c3⟩ | ⟨c1, c2, c3⟩
            all_goals
              go_wp2_with fail
              go_round
              case rel => exact ⟨k + 1, by omega, by go_num, HP2⟩
              case measure => simp [intOf]; omega
          · have HB := hide (plain_bad s k hlt hp)
            clear hp
            rcases hc with ⟨c1, c2⟩ | ⟨c1, c2, c3⟩ | ⟨c1, c2, c3, c4⟩
            all_goals
              go_wp2_with fail
              go_ret
              exact ⟨ret_bool (unhide HB).symm, rfl⟩
        · have HG := hide (plain_good s h1 h8 (fun i hi _ => unhide HP i hi (by omega)))
          go_wp2_with fail
          go_ret
          exact ⟨ret_bool (unhide HG).symm, rfl⟩
    · have HB := hide (plain_long s h8)
      go_enter Try.func65, Try.ntmps65
      go_wp2_with fail
      go_ret
      exact ⟨ret_bool (unhide HB).symm, rfl⟩
  · have HB := hide (plain_short s h1)
    go_enter Try.func65, Try.ntmps65
    go_wp2_with fail
    go_ret
    exact ⟨ret_bool (unhide HB).symm, rfl⟩
theorem conv_below (w : World) (e : TypeId) (s : ByteArray) : Below w.heap.size w (Lib.bytesWorld w e s) := by
  refine ⟨rfl, rfl, rfl, by rw [Lib.bytesWorld_size]; omega, fun k hk => Lib.bytesWorld_at_old w e s k hk⟩
theorem conv_cell (w : World) (e : TypeId) (s : ByteArray) (j : Nat) (hj : j < s.size) : (Lib.bytesWorld w e s).cell? ⟨w.heap.size, j, none⟩ = some (.int .u8 (s[j].toNat : Int)) := by
  rw [Lib.bytesWorld_cell w e s j hj]
  have : s.data.toList.getD j 0 = s[j] := by
    rw [List.getD_eq_getElem?_getD, List.getElem?_eq_getElem (by simpa using hj)]
    rfl
  rw [this]

set_option maxHeartbeats 1600000 in
theorem implPlain_any (s : ByteArray) (w : World) (hs : s.size ≤ maxLen) : Calls Try.prog 63 #[.string s] w fun e w' => e = .returned (.bool (plainB s)) ∧ Below w.heap.size w w' := by
  unfold maxLen at hs
  by_cases h1 : 1 ≤ s.size
  · by_cases h8 : s.size ≤ 8
    · have g1 : ¬ (s.size : Int) < 1 := by omega
      have g8 : ¬ (8 : Int) < (s.size : Int) := by omega
      have hcv := Lib.run_convert_string_bytes (P := Try.prog) w 9 22 5 s Try.underlying9 Try.underlying22 Try.underlying5
      have HB := hide (conv_below w 5 s)
      have HC := hide (conv_cell w 5 s)
      generalize Lib.bytesWorld w 5 s = w1 at *
      go_enter Try.func63, Try.ntmps63
      go_wp2_with fail
      clear hcv
      go_loop [16] (fun i => ∃ k : Nat, k ≤ s.size ∧ i = .int .i64 k ∧ Hid (PlainTo s k)) (fun i => s.size - (intOf i).toNat)
      case atStart => exact ⟨0, Nat.zero_le _, rfl, fun j _ hj => absurd hj (Nat.not_lt_zero _)⟩
      case round =>
        obtain ⟨k, hk, rfl, HP⟩ := hrel
        by_cases hlt : k < s.size
        · have c0 := unhide HC k hlt
          rcases plain_cases s[k].toNat with ⟨hp, hc⟩ | ⟨hp, hne, hc⟩
          · have HP2 := hide ((unhide HP).step hlt hp)
            clear hp
            rcases hc with ⟨c1, c2⟩ | ⟨c1, c2, c3⟩ | ⟨c1, c2, c3⟩
            all_goals
              go_wp2_with fail
              go_round
              case rel => exact ⟨k + 1, by omega, by go_num, HP2⟩
              case measure => simp [intOf]; omega
          · have HBD := hide (plain_bad s k hlt hp)
            clear hp
            rcases hc with ⟨c1, c2⟩ | ⟨c1, c2, c3⟩ | ⟨c1, c2, c3, c4⟩
            all_goals
              go_wp2_with fail
              go_ret
              exact ⟨ret_bool (unhide HBD).symm, unhide HB⟩
        · have HG := hide (plain_good s h1 h8 (fun i hi _ => unhide HP i hi (by omega)))
          go_wp2_with fail
          go_ret
          exact ⟨ret_bool (unhide HG).symm, unhide HB⟩
    · have HB := hide (plain_long s h8)
      go_enter Try.func63, Try.ntmps63
      go_wp2_with fail
      go_ret
      exact ⟨ret_bool (unhide HB).symm, Below.refl _ _⟩
  · have HB := hide (plain_short s h1)
    go_enter Try.func63, Try.ntmps63
    go_wp2_with fail
    go_ret
    exact ⟨ret_bool (unhide HB).symm, Below.refl _ _⟩
end Go.Proofs.Ytlgmmibncoedgaa

set_option linter.unusedVariables false
namespace Go.Proofs.Ytlgmmibncoedgaa
open Go.RowKit

def lessS (a b : ByteArray) : Bool := Op.bytesLess a.toList b.toList
theorem less_other (x y : List UInt8) : (Op.bytesLess x y || x == y) = !Op.bytesLess y x := by
  induction x generalizing y with
  | nil => cases y <;> simp [Op.bytesLess]
  | cons a x ih =>
    cases y with
    | nil => simp [Op.bytesLess]
    | cons b y =>
      simp only [Op.bytesLess, List.cons_beq_cons]
      have := ih y
      by_cases h1 : a < b
      · have h2 : ¬ b < a := by simp only [UInt8.lt_iff_toNat_lt] at *; omega
        have h3 : (b == a) = false := by rw [beq_eq_false_iff_ne]; intro e; subst e; exact h2 h1
        simp [h1, h2, h3]
      · by_cases h2 : b < a
        · have h3 : (a == b) = false := by rw [beq_eq_false_iff_ne]; intro e; subst e; exact h1 h2
          simp [h1, h2, h3]
        · have h3 : a = b := by
            rw [← UInt8.toNat_inj]
            simp only [UInt8.lt_iff_toNat_lt] at *
            omega
          subst h3
          simp [h1]
          exact this
theorem geq_leq (a b : ByteArray) : (Op.bytesLess a.toList b.toList || a.toList == b.toList) = !lessS b a := less_other _ _
theorem str_same (a b : ByteArray) : (a.toList == b.toList) = decide (a = b) := by
  rw [ByteArray.toList_eq, ByteArray.toList_eq, Bool.eq_iff_iff]
  simp
  constructor
  · intro h; cases a; cases b; simp_all
  · rintro rfl; rfl
end Go.Proofs.Ytlgmmibncoedgaa

set_option linter.unusedVariables false
namespace Go.Proofs.Ytlgmmibncoedgaa
open Go.RowKit Go.Maps Go.Deep

def verB (x : VerV) : Bool := plainB x.a0 && decide (1 ≤ x.a1) && decide (x.a1 ≤ 1099511627776)
/-- the first k are versions, and each stands behind the one ahead of it -/
def StampTo (ns : List VerV) (k : Nat) : Prop := ∀ i (h : i < ns.length), i < k → verB ns[i] = true ∧ (0 < i → lessS (ns[i - 1]'(by omega)).a0 ns[i].a0 = true)
instance (ns : List VerV) (k : Nat) : Decidable (StampTo ns k) := by unfold StampTo; infer_instance
def stampB (ns : List VerV) : Bool := decide (ns.length ≤ 12) && decide (StampTo ns ns.length)
theorem stamp_zero (ns : List VerV) : StampTo ns 0 := fun i h hi => absurd hi (Nat.not_lt_zero _)
theorem stamp_bad {ns : List VerV} {k : Nat} (hk : k < ns.length) (h : verB ns[k] = false) : stampB ns = false := by
  have : ¬ StampTo ns ns.length := fun g => by
    have := (g k hk hk).1
    rw [h] at this
    cases this
  simp [stampB, this]
theorem stamp_down {ns : List VerV} {k : Nat} (hk : k + 1 < ns.length) (h : lessS ns[k].a0 ns[k + 1].a0 = false) : stampB ns = false := by
  have : ¬ StampTo ns ns.length := fun g => by
    have := (g (k + 1) hk hk).2 (by omega)
    simp only [Nat.add_sub_cancel] at this
    rw [h] at this
    cases this
  simp [stampB, this]
theorem stamp_step0 {ns : List VerV} (hk : 0 < ns.length) (h : verB ns[0] = true) : StampTo ns 1 := by
  intro i hi hik
  obtain rfl : i = 0 := by omega
  exact ⟨h, fun h => absurd h (Nat.lt_irrefl _)⟩
theorem stamp_step {ns : List VerV} {k : Nat} (hk : k + 1 < ns.length) (hg : StampTo ns (k + 1)) (h : verB ns[k + 1] = true) (hl : lessS ns[k].a0 ns[k + 1].a0 = true) : StampTo ns (k + 2) := by
  intro i hi hik
  by_cases e : i = k + 1
  · subst e
    refine ⟨h, fun _ => ?_⟩
    simpa using hl
  · exact hg i hi (by omega)
theorem stamp_good {ns : List VerV} (h12 : ns.length ≤ 12) (h : StampTo ns ns.length) : stampB ns = true := by simp [stampB, h12, h]
theorem stamp_long {ns : List VerV} (h12 : ¬ ns.length ≤ 12) : stampB ns = false := by simp [stampB, h12]
/-- what a version's test comes to -/
theorem ver_cases (x : VerV) : (verB x = true ∧ plainB x.a0 = true ∧ ¬ x.a1 < 1 ∧ ¬ 1099511627776 < x.a1) ∨ (verB x = false ∧ (plainB x.a0 = false ∨ (plainB x.a0 = true ∧ x.a1 < 1) ∨ (plainB x.a0 = true ∧ ¬ x.a1 < 1 ∧ 1099511627776 < x.a1))) := by
  unfold verB
  cases plainB x.a0
  · right; simp
  · by_cases h1 : x.a1 < 1
    · right; simp; omega
    · by_cases h2 : 1099511627776 < x.a1
      · right; simp; omega
      · left; simp; omega
structure SayV where
  kind : Int
  src : Int
  dst : Int
  name : ByteArray
  val : Int
  stamp : List VerV
def nodeB (n : Int) : Bool := decide (0 ≤ n) && decide (n ≤ 9)
def tailB (s : SayV) : Bool := if s.kind = 2 then decide (1 ≤ s.stamp.length) && stampB s.stamp else if s.kind = 1 ∨ s.kind = 3 then decide (s.val = 0) && decide (s.stamp.length = 0) else false
def sayOkB (s : SayV) : Bool := decide (s.src ≠ s.dst) && nodeB s.src && nodeB s.dst && plainB s.name && tailB s
end Go.Proofs.Ytlgmmibncoedgaa

set_option linter.unusedVariables false
namespace Go.Proofs.Ytlgmmibncoedgaa
open Go.RowKit Go.Maps Go.Deep

def nameBytes (s : ByteArray) : List UInt8 := beB (s.size : Int) 0 :: s.data.toList
def verBytes (x : VerV) : List UInt8 := nameBytes x.a0 ++ beL x.a1 6
def stampBytes (ns : List VerV) : List UInt8 := ns.flatMap verBytes
def sayTail (s : SayV) : List UInt8 := if s.kind = 2 then beL s.val 8 ++ [beB (s.stamp.length : Int) 0] ++ stampBytes s.stamp else []
def sayBody (s : SayV) : List UInt8 := [beB s.kind 0, beB s.src 0, beB s.dst 0] ++ nameBytes s.name ++ sayTail s
def sayAll (s : SayV) : List UInt8 := sayBody s ++ beL (saySum (sayBody s)) 2
def sayBytesL (s : SayV) : List UInt8 := if sayOkB s then sayAll s else []
theorem stampBytes_take (ns : List VerV) (k : Nat) (h : k < ns.length) : stampBytes (ns.take (k + 1)) = stampBytes (ns.take k) ++ nameBytes ns[k].a0 ++ beL ns[k].a1 6 := by
  unfold stampBytes
  rw [List.take_succ_eq_append_getElem h, List.flatMap_append]
  simp [verBytes]
theorem nameBytes_len (s : ByteArray) : (nameBytes s).length = s.size + 1 := by simp [nameBytes]
theorem plain_size {s : ByteArray} (h : plainB s = true) : s.size ≤ 8 := by
  simp only [plainB, Bool.and_eq_true, decide_eq_true_eq] at h
  exact h.1.2
theorem stampBytes_len (ns : List VerV) (h : ∀ x ∈ ns, x.a0.size ≤ 8) : (stampBytes ns).length ≤ ns.length * 15 := by
  induction ns with
  | nil => simp [stampBytes]
  | cons x xs ih =>
    have h1 := ih (fun y hy => h y (by simp [hy]))
    have h2 := h x (by simp)
    have e : stampBytes (x :: xs) = verBytes x ++ stampBytes xs := by simp [stampBytes]
    rw [e, List.length_append]
    simp only [verBytes, List.length_append, nameBytes_len, beL_length, List.length_cons]
    omega
theorem stamp_names {ns : List VerV} (h : stampB ns = true) : ns.length ≤ 12 ∧ ∀ x ∈ ns, plainB x.a0 = true ∧ 1 ≤ x.a1 ∧ x.a1 ≤ 1099511627776 := by
  simp only [stampB, Bool.and_eq_true, decide_eq_true_eq] at h
  refine ⟨h.1, fun x hx => ?_⟩
  obtain ⟨i, hi, rfl⟩ := List.getElem_of_mem hx
  have := (h.2 i hi hi).1
  simp only [verB, Bool.and_eq_true, decide_eq_true_eq] at this
  exact ⟨this.1.1, this.1.2, this.2⟩
/-- what a word that may be has -/
structure SayGood (s : SayV) : Prop where
  kind : s.kind = 1 ∨ s.kind = 2 ∨ s.kind = 3
  src : 0 ≤ s.src ∧ s.src ≤ 9
  dst : 0 ≤ s.dst ∧ s.dst ≤ 9
  name : plainB s.name = true
  tell : s.kind = 2 → 1 ≤ s.stamp.length ∧ stampB s.stamp = true
  bare : s.kind ≠ 2 → s.val = 0 ∧ s.stamp = []
theorem say_good {s : SayV} (h : sayOkB s = true) : SayGood s := by
  simp only [sayOkB, Bool.and_eq_true, decide_eq_true_eq] at h
  obtain ⟨⟨⟨⟨_, h1⟩, h2⟩, h3⟩, h4⟩ := h
  simp only [nodeB, Bool.and_eq_true, decide_eq_true_eq] at h1 h2
  unfold tailB at h4
  by_cases k2 : s.kind = 2
  · rw [if_pos k2] at h4
    simp only [Bool.and_eq_true, decide_eq_true_eq] at h4
    exact ⟨.inr (.inl k2), h1, h2, h3, fun _ => h4, fun h => absurd k2 h⟩
  · rw [if_neg k2] at h4
    by_cases k1 : s.kind = 1 ∨ s.kind = 3
    · rw [if_pos k1] at h4
      simp only [Bool.and_eq_true, decide_eq_true_eq] at h4
      exact ⟨k1.elim .inl (fun e => .inr (.inr e)), h1, h2, h3, fun e => absurd e k2, fun _ => ⟨h4.1, List.eq_nil_of_length_eq_zero h4.2⟩⟩
    · rw [if_neg k1] at h4
      cases h4
theorem sayBody_len {s : SayV} (h : SayGood s) : (sayBody s).length ≤ 210 := by
  have hn := plain_size h.name
  unfold sayBody sayTail
  simp only [List.length_append, nameBytes_len]
  split
  · rename_i k2
    obtain ⟨h1, h2⟩ := stamp_names (h.tell k2).2
    have := stampBytes_len s.stamp (fun x hx => plain_size (h2 x hx).1)
    simp only [List.length_append, beL_length, List.length_cons, List.length_nil]
    omega
  · simp
    omega
theorem sayAll_len {s : SayV} (h : SayGood s) : (sayAll s).length ≤ 212 := by
  have := sayBody_len h
  unfold sayAll
  rw [List.length_append, beL_length]
  omega
theorem sayBytesL_len (s : SayV) : (sayBytesL s).length ≤ 212 := by
  unfold sayBytesL
  split
  · rename_i h
    exact sayAll_len (say_good h)
  · simp
def RetSay (s : SayV) (w : World) (e : Ending) (w' : World) : Prop := ∃ a n c, e = .returned (.tuple #[.slice a n c, .bool (sayOkB s)]) ∧ ByRow w.heap.size w' (.slice a n c) (sayBytesL s) ∧ Below w.heap.size w w'
end Go.Proofs.Ytlgmmibncoedgaa

set_option linter.unusedVariables false
namespace Go.Proofs.Ytlgmmibncoedgaa
open Go.RowKit Go.Maps Go.Deep Go.ChangeShapes Go.WideShapes Go.ChangeAt

def SayFit (s : SayV) : Prop := (s.name.size ≤ maxLen ∧ s.stamp.length ≤ maxLen ∧ VerOk s.stamp) ∧ (-9223372036854775808 ≤ s.kind ∧ s.kind ≤ 9223372036854775807) ∧ (-9223372036854775808 ≤ s.src ∧ s.src ≤ 9223372036854775807) ∧ (-9223372036854775808 ≤ s.dst ∧ s.dst ≤ 9223372036854775807) ∧ (-9223372036854775808 ≤ s.val ∧ s.val ≤ 9223372036854775807)
def SmallSay (s : SayV) : Prop := (s.name.size ≤ 1048576 ∧ VerSmall s.stamp) ∧ SayFit s
def SayRd (w : World) (v : Value) (s : SayV) : Prop := ∃ v5, v = .agg #[.int .i64 s.kind, .int .i64 s.src, .int .i64 s.dst, .string s.name, .int .i64 s.val, v5] ∧ VerRd w v5 s.stamp
def SayOwn (S : List Nat) (w : World) (v : Value) (s : SayV) : Prop := ∃ v5, v = .agg #[.int .i64 s.kind, .int .i64 s.src, .int .i64 s.dst, .string s.name, .int .i64 s.val, v5] ∧ VerOwn S w v5 s.stamp
theorem SayRd.up {w w' : World} {v : Value} {d : SayV} (h : SayRd w v d) (hb : Below w.heap.size w w') : SayRd w' v d := by
  obtain ⟨v0, e, h0⟩ := h
  exact ⟨v0, e, h0.up hb⟩
theorem SayOwn.rd {S : List Nat} {w : World} {v : Value} {d : SayV} (h : SayOwn S w v d) : SayRd w v d := by
  obtain ⟨v0, e, h0⟩ := h
  exact ⟨v0, e, h0.rd⟩
theorem SayOwn.turn {S S' : List Nat} {w w' : World} {v : Value} {d : SayV} (h : SayOwn S w v d) (ht : Turn S' w w') (hS : ∀ k ∈ S, k ∉ S') : SayOwn S w' v d := by
  obtain ⟨v0, e, h0⟩ := h
  exact ⟨v0, e, h0.turn ht hS⟩
theorem SayOwn.up {S : List Nat} {w w' : World} {v : Value} {d : SayV} (h : SayOwn S w v d) (hb : Below w.heap.size w w') : SayOwn S w' v d := h.turn (Turn.of_below (S := []) hb) (by simp)
theorem SayOwn.lt {S : List Nat} {w : World} {v : Value} {d : SayV} (h : SayOwn S w v d) : ∀ k ∈ S, k < w.heap.size := by
  obtain ⟨v0, e, h0⟩ := h
  exact h0.lt
theorem SayRd.form {w : World} {v : Value} {d : SayV} (h : SayRd w v d) : ∃ k f t nm vl a n c, v = .agg #[.int .i64 k, .int .i64 f, .int .i64 t, .string nm, .int .i64 vl, .slice a n c] := by
  obtain ⟨v0, rfl, h0⟩ := h
  obtain ⟨a0, c0, rfl⟩ := h0.len
  exact ⟨_, _, _, _, _, _, _, _, rfl⟩
def nSay (d : SayV) : Nat := 2 * d.stamp.length
theorem nSay_le {d : SayV} (h : SmallSay d) : nSay d ≤ 100000000 := by have := h.1.2.1; unfold nSay; omega
theorem bcell {W w1 : World} (hb : Below W.heap.size W w1) : (∀ b o, b < W.heap.size → w1.cell? ⟨b, o, none⟩ = W.cell? ⟨b, o, none⟩) ∧ (∀ b o, b < W.heap.size → w1.frozen? ⟨b, o, none⟩ = W.frozen? ⟨b, o, none⟩) :=
  ⟨fun b o h => hb.cell (p := ⟨b, o, none⟩) h, fun b o h => hb.frozen (p := ⟨b, o, none⟩) h⟩
set_option maxHeartbeats 3200000 in
theorem eqSay_kit (d : SayV) (v v' : Value) (w : World) (hs : SmallSay d) (h : SayRd w v d) (h' : SayRd w v' d) :
    Calls Try.prog 56 #[v, v'] w fun e w' => e = .returned (.bool true) ∧ Below w.heap.size w w' := by
  obtain ⟨v0, rfl, i0⟩ := h
  obtain ⟨v0', rfl, i0'⟩ := h'
  obtain ⟨kind, src, dst, name, val, stamp⟩ := d
  have hl := hs.1.2.1
  simp only at hl i0 i0' ⊢
  have HA := hide (fun W (b : Below w.heap.size w W) => eqVerS_rd W v0 v0' stamp (by omega) (i0.up b) (i0'.up b))
  obtain ⟨a0, c0, rfl⟩ := i0.len
  obtain ⟨a0', c0', rfl⟩ := i0'.len
  clear i0 i0' hs hl
  go_enter Try.func56, Try.ntmps56
  go_wp2_with fail
  refine (unhide HA _ (by go_grown)).mono ?_
  rintro e w1 ⟨rfl, b1⟩
  have B1 := hide (show Below w.heap.size w w1 from Below.trans (by go_grown) (b1.mono (by simp; omega)))
  clear b1
  go_wp2_with fail
  go_ret
  exact ⟨rfl, unhide B1⟩
end Go.Proofs.Ytlgmmibncoedgaa
