/-
  Small words that every text of ours uses: facts that are hidden from the walk, endings, blocks.
-/
/-
  The two sides of BodyKey: the set of keys that the program makes and asks, and the list of keys that the specification makes and searches, answer alike at every string.
-/
/-
  The two sides of BodyNameOk: the program goes through the runes of a text, the specification through its bytes; both answer 'nameB' at every string.
-/
import Derived.Test.YtldgffkippejiaaGreatDoorProg
import Derived.WalkKit
import Derived.Maps.OwnSet
import Derived.Laws.RangeString
import Derived.Laws.RangeAny
namespace Go.Proofs.YtldgffkippejiaaGreatDoor
open Go.RowKit

theorem hide {p : Prop} (h : p) : Hid p := h
theorem unhide {p : Prop} (h : Hid p) : p := h
theorem ret_bool {a b : Bool} (h : a = b) : Ending.returned (.bool a) = .returned (.bool b) := by rw [h]
theorem ret_int {k : IntKind} {a b : Int} (h : a = b) : Ending.returned (.int k a) = .returned (.int k b) := by rw [h]
theorem lt_of_cell0 {w : World} {b off : Nat} {v : Value} (h : w.cell? ⟨b, off, none⟩ = some v) : b < w.heap.size := by
  by_cases hb : b < w.heap.size
  · exact hb
  · exfalso
    have : w.heap[b]? = none := Array.getElem?_eq_none (by omega)
    simp [World.cell?, this] at h
end Go.Proofs.YtldgffkippejiaaGreatDoor

namespace Go.Proofs.YtldgffkippejiaaGreatDoor
open Go.RowKit Go.Maps

theorem lawStr : Keyed Tryz.prog 9 := string_keyed Tryz.underlying9
theorem zeroUnit (w : World) : (zeroValue 106).run Tryz.prog w = .ok (.agg #[]) w := by kernel_rfl

/-- a composite literal's entry, at the operation: as a store into a map of the call's own -/
theorem wpList_insert_own {H : Type} {P : Program} (w : World) {ops : Array Oper} {rest : List Oper} {o : Oper} {a : Act} {Q : Exit → Act → World → Prop}
    (hg : o.guard = none) (m x v : Operand) (t : TypeId) (hop : o.op = Op.insert t m x v)
    (k e : TypeId) (K : Keyed P k) (ht : P.underlying t = some (.map k e)) (R : Value → Option (DataW H × List MemPlace)) (b n : Nat) (D : DataW H)
    (hm : a.eval m = .map (some b)) (w0 : World) (B : Nat) (hown : w.ownsMap P k R b n D ∧ Below B w0 w ∧ B ≤ b) (hn : n < maxLen) (key val : Value) (kl : Lit) (hx : a.eval x = key) (hv : a.eval v = val) (hkey : keyOf P k key = some kl)
    (d : DataW H) (ps : List MemPlace) (hval : R val = some (d, ps))
    (hK : ∀ w', w'.ownsMap P k R b (n + 1) (D.put kl d) ∧ Below B w0 w' ∧ B ≤ b → wpList P ops Q rest (a.put o.dst undef) w') :
    wpList P ops Q (o :: rest) a w := by
  refine wpList_plain hg fun K' hK' => ?_
  obtain ⟨hown, hb, hB⟩ := hown
  obtain ⟨w', hrun, r1, r2⟩ := hown.update K ht hn hkey hval
  unfold Oper.wp
  simp [execOp, hop, hm, hx, hv, hrun, Result.andThen]
  exact hK' _ _ (hK w' ⟨r1, hb.grown r2 (Nat.le_trans hB (Nat.le_of_lt hown.lt)) (fun k hk => by cases hk; exact hB), hB⟩)

/-- the fifteen words of the language -/
def keyStrs : List ByteArray := [⟨#[97, 98, 115]⟩, ⟨#[97, 110, 100]⟩, ⟨#[97, 115]⟩, ⟨#[98, 121]⟩, ⟨#[101, 108, 115, 101]⟩, ⟨#[102, 114, 111, 109]⟩, ⟨#[105, 102]⟩, ⟨#[105, 110]⟩, ⟨#[108, 101, 116]⟩, ⟨#[109, 97, 120]⟩, ⟨#[109, 105, 110]⟩, ⟨#[110, 111, 116]⟩, ⟨#[111, 114]⟩, ⟨#[114, 101, 112]⟩, ⟨#[116, 104, 101, 110]⟩]
def keyLits : List Lit := keyStrs.map fun s => Lit.string s.data.toList
def isKeyB (s : ByteArray) : Bool := keyStrs.any fun k => decide (k = s)

theorem has_keys (s : ByteArray) : Maps.has (H := Unit) (setOf (.agg []) keyLits) (.string s.data.toList) = isKeyB s := by
  rw [has_setOf]
  · simp only [keyLits, List.any_map, isKeyB]
    congr 1
    funext k
    simp only [Function.comp, Lit.sameKey]
    rw [Bool.eq_iff_iff]
    simp
    constructor
    · intro h; cases k; cases s; simp_all
    · rintro rfl; rfl
  · intro x hx
    simp only [keyLits, List.mem_map] at hx
    obtain ⟨s, _, rfl⟩ := hx
    simp [WideAt.IsKeyLit]

set_option maxHeartbeats 1600000 in
set_option maxRecDepth 100000 in
theorem newKeySet_any (w : World) : Calls Tryz.prog 49 #[] w fun e w' => e = .returned (.map (some w.heap.size)) ∧ w'.ownsMap Tryz.prog 9 (unitElem (H := Unit)) w.heap.size 15 (setOf (.agg []) keyLits) ∧ Below w.heap.size w w' := by
  have hmm := @run_makeMap Tryz.prog
  have hmade := And.intro (World.ownsMap_made w Tryz.prog 9 (unitElem (H := Unit))) (And.intro ((Below.refl w.heap.size w).alloc (Nat.le_refl _) (.map #[] 0)) (Nat.le_refl w.heap.size))
  go_enter Tryz.func49, Tryz.ntmps49
  go_wp2_with (first
    | (refine wpList_insert_own _ rfl _ _ _ 84 rfl 9 106 lawStr Tryz.underlying84 (unitElem (H := Unit)) w.heap.size _ _ rfl w w.heap.size (by assumption) (by decide) _ _ _ rfl rfl (WideMaps.keyOf_string_mk Tryz.underlying9 (by decide)) _ [] unitElem_mk ?_; clear hmade; intro w1 hmade)
    | go_in)
  go_ret
  exact ⟨rfl, hmade.1, hmade.2.1⟩

set_option maxHeartbeats 800000 in
theorem has_any (w : World) (b n : Nat) (D : DataW Unit) (s : ByteArray) (hs : s.size ≤ maxLen) (hown : w.ownsMap Tryz.prog 9 (unitElem (H := Unit)) b n D) :
    Calls Tryz.prog 67 #[.map (some b), .string s] w fun e w' => e = .returned (.bool (Maps.has D (.string s.data.toList))) ∧ Below w.heap.size w w' := by
  go_enter Tryz.func67, Tryz.ntmps67
  go_wp2_with (first
    | (at_lookup; refine wpList_lookup_own_unit _ rfl _ _ 84 rfl 9 106 lawStr Tryz.underlying84 (zeroUnit _) b n D rfl hown _ _ rfl (WideMaps.keyOf_string_mk Tryz.underlying9 hs) ?_)
    | go_in)
  go_ret
  exact ⟨rfl, (Below.refl _ _).alloc (Nat.le_refl _) _⟩


theorem str_eq (a b : ByteArray) : (a.toList == b.toList) = decide (a = b) := by
  rw [ByteArray.toList_eq, ByteArray.toList_eq, Bool.eq_iff_iff]
  simp
  constructor
  · intro h; cases a; cases b; simp_all
  · rintro rfl; rfl

theorem any_hit (ss : List ByteArray) (s : ByteArray) (k : Nat) (h : k < ss.length) (he : (ss[k].toList == s.toList) = true) : (ss.any fun k => decide (k = s)) = true := by
  rw [str_eq] at he
  exact List.any_eq_true.2 ⟨_, List.getElem_mem h, he⟩

theorem any_miss (ss : List ByteArray) (s : ByteArray) (h : ∀ j, j < ss.length → ss.getD j ByteArray.empty ≠ s) : (ss.any fun k => decide (k = s)) = false := by
  rw [List.any_eq_false]
  intro x hx
  obtain ⟨j, hj, rfl⟩ := List.getElem_of_mem hx
  have := h j hj
  simpa [List.getD_eq_getElem?_getD, hj] using this


set_option maxHeartbeats 800000 in
theorem l1In_any (w : World) (b off cap : Nat) (ss : List ByteArray) (s : ByteArray) (hl : ss.length ≤ 1000)
    (hc : ∀ j, j < ss.length → w.cell? ⟨b, off + j, none⟩ = some (.string (ss.getD j ByteArray.empty))) :
    Calls Tryz.prog 41 #[.slice (some ⟨b, off, none⟩) ss.length cap, .string s] w fun e w' => e = .returned (.bool (ss.any fun k => decide (k = s))) ∧ w' = w := by
  go_enter Tryz.func41, Tryz.ntmps41
  go_wp2
  go_loop [5] (fun i => ∃ k : Nat, k ≤ ss.length ∧ i = .int .i64 k ∧ ∀ j, j < k → ss.getD j ByteArray.empty ≠ s) (fun i => ss.length - (intOf i).toNat)
  case atStart => exact ⟨0, Nat.zero_le _, rfl, fun j hj => absurd hj (Nat.not_lt_zero _)⟩
  case round =>
    obtain ⟨k, hk, rfl, hno⟩ := hrel
    by_cases hlt : k < ss.length
    · have hck := hc k hlt
      go_wp2
      · rename_i h _
        go_ret
        exact ⟨ret_bool (any_hit ss s k hlt h).symm, rfl⟩
      · rename_i h
        go_round
        case rel =>
          refine ⟨k + 1, by omega, by go_num, fun j hj => ?_⟩
          by_cases hjk : j = k
          · subst hjk
            rw [str_eq] at h
            simpa [List.getD_eq_getElem?_getD, hlt] using h
          · exact hno j (by omega)
        case measure => simp [intOf]; omega
    · go_wp2
      go_ret
      exact ⟨ret_bool (any_miss ss s (fun j hj => hno j (by omega))).symm, rfl⟩

theorem l1Keys_any (w : World) : Calls Tryz.prog 48 #[] w fun e w' => e = .returned (.slice (some ⟨w.heap.size, 0, none⟩) keyStrs.length 15) ∧ w' = w.alloc (.cells (keyStrs.map Value.string).toArray 9) := by
  go_enter Tryz.func48, Tryz.ntmps48
  go_wp2
  go_ret
  exact ⟨rfl, rfl⟩

theorem specKey_any (w : World) (s : ByteArray) :
    Calls Tryz.prog 31 #[.string s] w fun e w' => e = .returned (.bool (isKeyB s)) ∧ Below w.heap.size w w' := by
  have hcell : ∀ j, j < keyStrs.length → (w.alloc (.cells (keyStrs.map Value.string).toArray 9)).cell? ⟨w.heap.size, 0 + j, none⟩ = some (.string (keyStrs.getD j ByteArray.empty)) := by
    intro j hj
    rw [World.cell?_alloc_at _ _ _ _ rfl]
    simp [List.getD_eq_getElem?_getD, hj]
  go_enter Tryz.func31, Tryz.ntmps31
  go_wp2_with (first
    | (go_at_call 48; refine (l1Keys_any _).mono ?_; rintro e w1 ⟨rfl, rfl⟩)
    | (go_at_call 41; refine (l1In_any _ _ _ _ keyStrs s (by decide) hcell).mono ?_; rintro e w2 ⟨rfl, rfl⟩)
    | go_in)
  go_ret
  exact ⟨rfl, (Below.refl _ _).alloc (Nat.le_refl _) _⟩

end Go.Proofs.YtldgffkippejiaaGreatDoor

namespace Go.Proofs.YtldgffkippejiaaGreatDoor
open Go.RowKit Go.Maps

def letB (r : Int) : Bool := decide (97 ≤ r) && decide (r ≤ 122)
def digB (r : Int) : Bool := decide (48 ≤ r) && decide (r ≤ 57)
def byteAt (s : ByteArray) (i : Nat) : Int := (s.data.getD i 0).toNat
/-- every byte ahead of a place is a letter, or a digit that is not the first -/
def goodTo (s : ByteArray) (n : Nat) : Prop := ∀ i, i < n → letB (byteAt s i) = true ∨ (i ≠ 0 ∧ digB (byteAt s i) = true)
def restB (s : ByteArray) : Bool := (List.range s.size).all fun i => letB (byteAt s i) || (decide (i ≠ 0) && digB (byteAt s i))
def nameB (s : ByteArray) : Bool := decide (1 ≤ s.size) && decide (s.size ≤ 8) && restB s && !isKeyB s

theorem rest_iff (s : ByteArray) : restB s = true ↔ goodTo s s.size := by
  unfold restB goodTo
  simp [List.all_eq_true]

theorem byteAt_eq (s : ByteArray) (i : Nat) (h : i < s.size) : byteAt s i = ((s[i]'h).toNat : Int) := by
  unfold byteAt
  have : s.data.getD i 0 = s[i]'h := by
    have h' : i < s.data.size := h
    rw [Array.getD, dif_pos h']
    rfl
  rw [this]

set_option maxHeartbeats 400000 in
theorem isLetter_any (r : Int) (w : World) : Calls Tryz.prog 68 #[.int .i32 r] w fun e w' => e = .returned (.bool (letB r)) ∧ w' = w := by
  unfold letB
  by_cases h1 : 97 ≤ r <;> by_cases h2 : r ≤ 122
  all_goals
    go_enter Tryz.func68, Tryz.ntmps68
    go_wp2
    go_ret
    exact ⟨by simp [h1, h2], rfl⟩
set_option maxHeartbeats 400000 in
theorem isDigit_any (r : Int) (w : World) : Calls Tryz.prog 69 #[.int .i32 r] w fun e w' => e = .returned (.bool (digB r)) ∧ w' = w := by
  unfold digB
  by_cases h1 : 48 ≤ r <;> by_cases h2 : r ≤ 57
  all_goals
    go_enter Tryz.func69, Tryz.ntmps69
    go_wp2
    go_ret
    exact ⟨by simp [h1, h2], rfl⟩
set_option maxHeartbeats 400000 in
theorem l1Letter_any (r : Int) (w : World) : Calls Tryz.prog 29 #[.int .u8 r] w fun e w' => e = .returned (.bool (letB r)) ∧ w' = w := by
  unfold letB
  by_cases h1 : 97 ≤ r <;> by_cases h2 : r ≤ 122
  all_goals
    go_enter Tryz.func29, Tryz.ntmps29
    go_wp2
    go_ret
    exact ⟨by simp [h1, h2], rfl⟩
set_option maxHeartbeats 400000 in
theorem l1Digit_any (r : Int) (w : World) : Calls Tryz.prog 30 #[.int .u8 r] w fun e w' => e = .returned (.bool (digB r)) ∧ w' = w := by
  unfold digB
  by_cases h1 : 48 ≤ r <;> by_cases h2 : r ≤ 57
  all_goals
    go_enter Tryz.func30, Tryz.ntmps30
    go_wp2
    go_ret
    exact ⟨by simp [h1, h2], rfl⟩

theorem name_short (s : ByteArray) (h : ¬ (1 : Int) ≤ (s.size : Int)) : nameB s = false := by
  have : ¬ 1 ≤ s.size := by omega
  simp [nameB, this]
theorem name_long (s : ByteArray) (h : ¬ (s.size : Int) ≤ 8) : nameB s = false := by
  have : ¬ s.size ≤ 8 := by omega
  simp [nameB, this]
theorem name_bad (s : ByteArray) (i : Nat) (h : i < s.size) (hl : letB (byteAt s i) = false) (hd : i = 0 ∨ digB (byteAt s i) = false) : nameB s = false := by
  have : restB s = false := by
    cases hr : restB s
    · rfl
    · rw [rest_iff] at hr
      rcases hr i h with e | ⟨e, e2⟩
      · rw [hl] at e; cases e
      · rcases hd with hd | hd
        · exact absurd hd e
        · rw [hd] at e2; cases e2
  simp [nameB, this]
theorem name_good (s : ByteArray) (h1 : (1 : Int) ≤ (s.size : Int)) (h8 : (s.size : Int) ≤ 8) (hg : goodTo s s.size) : nameB s = !isKeyB s := by
  have a1 : 1 ≤ s.size := by omega
  have a8 : s.size ≤ 8 := by omega
  simp [nameB, a1, a8, (rest_iff s).2 hg]
theorem name_key (s : ByteArray) (hk : isKeyB s = true) : nameB s = false := by simp [nameB, hk]
theorem goodTo_succ (s : ByteArray) (k : Nat) (hg : goodTo s k) (h : letB (byteAt s k) = true ∨ (k ≠ 0 ∧ digB (byteAt s k) = true)) : goodTo s (k + 1) := by
  intro i hi
  by_cases e : i = k
  · subst e; exact h
  · exact hg i (by omega)

set_option maxHeartbeats 1600000 in
set_option maxRecDepth 100000 in
theorem specName_any (w : World) (s : ByteArray) (hs : s.size ≤ maxLen) :
    Calls Tryz.prog 19 #[.string s] w fun e w' => e = .returned (.bool (nameB s)) ∧ Below w.heap.size w w' := by
  unfold maxLen at hs
  by_cases h1 : (1 : Int) ≤ (s.size : Int)
  · by_cases h8 : (s.size : Int) ≤ 8
    · have hb0 := hide (byteAt_eq s 0 (by omega))
      cases hl : letB (s[0]'(by omega)).toNat
      · have hf := hide (name_bad s 0 (by omega) (by rw [unhide hb0]; exact hl) (.inl rfl))
        go_enter Tryz.func19, Tryz.ntmps19
        go_wp2_with (first
          | (go_at_call 29; refine (l1Letter_any _ _).mono ?_; rintro e w1 ⟨rfl, rfl⟩)
          | go_in)
        go_ret
        exact ⟨ret_bool (unhide hf).symm, Below.refl _ _⟩
      · have hl0 := hide hl
        go_enter Tryz.func19, Tryz.ntmps19
        go_wp2_with (first
          | (go_at_call 29; refine (l1Letter_any _ _).mono ?_; rintro e w1 ⟨rfl, rfl⟩)
          | go_in)
        clear hl
        go_loop [3] (fun i => ∃ k : Nat, k ≤ s.size ∧ i = .int .i64 k ∧ goodTo s k) (fun i => s.size - (intOf i).toNat)
        case atStart => exact ⟨0, Nat.zero_le _, rfl, fun j hj => absurd hj (Nat.not_lt_zero _)⟩
        case round =>
          obtain ⟨k, hk, rfl, hno⟩ := hrel
          have hgood := hide hno
          clear hno
          by_cases hlt : k < s.size
          · have hbk := hide (byteAt_eq s k hlt)
            cases hl : letB (s[k]'hlt).toNat
            · cases hd : digB (s[k]'hlt).toNat
              · have hf := hide (name_bad s k hlt (by rw [unhide hbk]; exact hl) (.inr (by rw [unhide hbk]; exact hd)))
                go_wp2_with (first
                  | (go_at_call 29; refine (l1Letter_any _ _).mono ?_; rintro e w1 ⟨rfl, rfl⟩)
                  | (go_at_call 30; refine (l1Digit_any _ _).mono ?_; rintro e w1 ⟨rfl, rfl⟩)
                  | go_in)
                go_ret
                exact ⟨ret_bool (unhide hf).symm, Below.refl _ _⟩
              · have hk0 : k ≠ 0 := by
                  rintro rfl
                  have := unhide hl0
                  rw [hl] at this
                  cases this
                have hg1 := hide (goodTo_succ s k (unhide hgood) (.inr ⟨hk0, by rw [unhide hbk]; exact hd⟩))
                clear hk0
                go_wp2_with (first
                  | (go_at_call 29; refine (l1Letter_any _ _).mono ?_; rintro e w1 ⟨rfl, rfl⟩)
                  | (go_at_call 30; refine (l1Digit_any _ _).mono ?_; rintro e w1 ⟨rfl, rfl⟩)
                  | go_in)
                go_round
                case rel => exact ⟨k + 1, by omega, by go_num, unhide hg1⟩
                case measure => simp [intOf]; omega
            · have hg1 := hide (goodTo_succ s k (unhide hgood) (.inl (by rw [unhide hbk]; exact hl)))
              go_wp2_with (first
                | (go_at_call 29; refine (l1Letter_any _ _).mono ?_; rintro e w1 ⟨rfl, rfl⟩)
                | (go_at_call 30; refine (l1Digit_any _ _).mono ?_; rintro e w1 ⟨rfl, rfl⟩)
                | go_in)
              go_round
              case rel => exact ⟨k + 1, by omega, by go_num, unhide hg1⟩
              case measure => simp [intOf]; omega
          · have hf := hide (name_good s h1 h8 (by have e : k = s.size := by omega
                                                   rw [← e]; exact unhide hgood))
            go_wp2_with (first
              | (go_at_call 31; refine (specKey_any _ _).mono ?_; rintro e w2 ⟨rfl, hb⟩)
              | go_in)
            go_ret
            exact ⟨ret_bool (unhide hf).symm, hb⟩
    · have hf := hide (name_long s h8)
      go_enter Tryz.func19, Tryz.ntmps19
      go_wp2
      go_ret
      exact ⟨ret_bool (unhide hf).symm, Below.refl _ _⟩
  · have hf := hide (name_short s h1)
    go_enter Tryz.func19, Tryz.ntmps19
    go_wp2
    go_ret
    exact ⟨ret_bool (unhide hf).symm, Below.refl _ _⟩

theorem high_not (s : ByteArray) (k : Nat) (h : k < s.size) (hh : ¬ (s[k]'h).toNat < 128) : letB (byteAt s k) = false ∧ digB (byteAt s k) = false ∧ letB ((Utf8.decode s k).1 : Nat) = false ∧ digB ((Utf8.decode s k).1 : Nat) = false := by
  have hd := (decode_high s k h (by omega)).1
  rw [byteAt_eq s k h]
  unfold letB digB
  have e1 : ¬ (((s[k]'h).toNat : Int) ≤ 122) := by omega
  have e2 : ¬ (((s[k]'h).toNat : Int) ≤ 57) := by omega
  have e3 : ¬ (((Utf8.decode s k).1 : Nat) : Int) ≤ 122 := by omega
  have e4 : ¬ (((Utf8.decode s k).1 : Nat) : Int) ≤ 57 := by omega
  simp [e1, e2, e3, e4]

/-- the rune at a place answers both questions as the byte there does; where one of them is yes it is one byte wide -/
theorem rune_byte (s : ByteArray) (k : Nat) (h : k < s.size) : letB ((Utf8.decode s k).1 : Nat) = letB (byteAt s k) ∧ digB ((Utf8.decode s k).1 : Nat) = digB (byteAt s k) ∧ ((letB (byteAt s k) = true ∨ digB (byteAt s k) = true) → (Utf8.decode s k).2 = 1) := by
  by_cases hh : (s[k]'h).toNat < 128
  · rw [decode_ascii s k h hh, byteAt_eq s k h]
    exact ⟨rfl, rfl, fun _ => rfl⟩
  · obtain ⟨a, b, c, d⟩ := high_not s k h hh
    rw [a, b, c, d]
    exact ⟨rfl, rfl, fun e => by rcases e with e | e <;> cases e⟩

set_option maxHeartbeats 1600000 in
set_option maxRecDepth 100000 in
theorem isName_any (w : World) (b n : Nat) (s : ByteArray) (hs : s.size ≤ maxLen) (hown : w.ownsMap Tryz.prog 9 (unitElem (H := Unit)) b n (setOf (.agg []) keyLits)) :
    Calls Tryz.prog 50 #[.map (some b), .string s] w fun e w' => e = .returned (.bool (nameB s)) ∧ Below w.heap.size w w' := by
  have hs' := hide hs
  unfold maxLen at hs
  by_cases h1 : (1 : Int) ≤ (s.size : Int)
  · by_cases h8 : (s.size : Int) ≤ 8
    · cases hkey : isKeyB s
      · have hk2 := hide hkey
        go_enter Tryz.func50, Tryz.ntmps50
        go_wp2_with (first
          | (go_at_call 67; refine (has_any _ _ _ _ s (unhide hs') hown).mono ?_; rw [has_keys]; rintro e w1 ⟨rfl, hb1⟩)
          | go_in)
        go_loopw [5] (fun _ wr => ∃ pos : Nat, pos ≤ s.size ∧ wr = w1.iter s pos ∧ goodTo s pos) (fun _ wr => s.size - wr.iterPos w1.heap.size)
        case atStart => exact ⟨0, Nat.zero_le _, rfl, fun j hj => absurd hj (Nat.not_lt_zero _)⟩
        case round =>
          obtain ⟨pos, hk, rfl, hno⟩ := hrel
          have hgood := hide hno
          clear hno
          by_cases hp : pos < s.size
          · have hnx : ∀ ty, (Instr.next (.pointer (some ⟨w1.heap.size, 0, none⟩)) true ty).run Tryz.prog (w1.iter s pos) = _ := fun ty => run_next_any w1 s pos ty hp
            obtain ⟨e1, e2, e3⟩ := rune_byte s pos hp
            have E1 := hide e1
            have E2 := hide e2
            have E3 := hide e3
            clear e1 e2 e3
            cases hl : letB ((Utf8.decode s pos).1 : Nat)
            · have hl' := hide ((unhide E1).symm.trans hl)
              by_cases hz : pos = 0
              · have hz1 : ((pos : Int) == 0) = true := by simp [hz]
                have hf := hide (name_bad s pos hp (unhide hl') (.inl hz))
                clear hz
                go_wp2_with (first
                | (go_at_call 68; refine (isLetter_any _ _).mono ?_; rintro e w2 ⟨rfl, rfl⟩)
                | (go_at_call 69; refine (isDigit_any _ _).mono ?_; rintro e w2 ⟨rfl, rfl⟩)
                | go_in)
                go_ret
                exact ⟨ret_bool (unhide hf).symm, hb1.trans (((Below.refl _ _).alloc (Nat.le_refl _) _).mono hb1.size)⟩
              · have hz1 : ((pos : Int) == 0) = false := by simp [hz]
                have hz2 := hide hz
                clear hz
                cases hd : digB ((Utf8.decode s pos).1 : Nat)
                · have hf := hide (name_bad s pos hp (unhide hl') (.inr ((unhide E2).symm.trans hd)))
                  go_wp2_with (first
                | (go_at_call 68; refine (isLetter_any _ _).mono ?_; rintro e w2 ⟨rfl, rfl⟩)
                | (go_at_call 69; refine (isDigit_any _ _).mono ?_; rintro e w2 ⟨rfl, rfl⟩)
                | go_in)
                  go_ret
                  exact ⟨ret_bool (unhide hf).symm, hb1.trans (((Below.refl _ _).alloc (Nat.le_refl _) _).mono hb1.size)⟩
                · have hd' := (unhide E2).symm.trans hd
                  have hg1 := hide (goodTo_succ s pos (unhide hgood) (.inr ⟨unhide hz2, hd'⟩))
                  have hw1 := hide (unhide E3 (.inr hd'))
                  clear hd'
                  go_wp2_with (first
                | (go_at_call 68; refine (isLetter_any _ _).mono ?_; rintro e w2 ⟨rfl, rfl⟩)
                | (go_at_call 69; refine (isDigit_any _ _).mono ?_; rintro e w2 ⟨rfl, rfl⟩)
                | go_in)
                  go_roundw
                  case rel => exact ⟨pos + 1, by omega, by rw [unhide hw1], unhide hg1⟩
                  case measure => have := unhide hw1; simp; omega
            · have hl' := (unhide E1).symm.trans hl
              have hg1 := hide (goodTo_succ s pos (unhide hgood) (.inl hl'))
              have hw1 := hide (unhide E3 (.inl hl'))
              clear hl'
              go_wp2_with (first
                | (go_at_call 68; refine (isLetter_any _ _).mono ?_; rintro e w2 ⟨rfl, rfl⟩)
                | (go_at_call 69; refine (isDigit_any _ _).mono ?_; rintro e w2 ⟨rfl, rfl⟩)
                | go_in)
              go_roundw
              case rel => exact ⟨pos + 1, by omega, by rw [unhide hw1], unhide hg1⟩
              case measure => have := unhide hw1; simp; omega
          · have hnx : ∀ ty, (Instr.next (.pointer (some ⟨w1.heap.size, 0, none⟩)) true ty).run Tryz.prog (w1.iter s pos) = _ := fun ty => run_next_end w1 s pos ty hp
            have hf := hide ((name_good s h1 h8 (by have e : pos = s.size := by omega
                                                    rw [← e]; exact unhide hgood)).trans (by rw [unhide hk2]; rfl : (!isKeyB s) = true))
            go_wp2
            go_ret
            exact ⟨ret_bool (unhide hf).symm, hb1.trans (((Below.refl _ _).alloc (Nat.le_refl _) _).mono hb1.size)⟩
      · have hf := hide (name_key s hkey)
        go_enter Tryz.func50, Tryz.ntmps50
        go_wp2_with (first
          | (go_at_call 67; refine (has_any _ _ _ _ s (unhide hs') hown).mono ?_; rw [has_keys]; rintro e w1 ⟨rfl, hb1⟩)
          | go_in)
        go_ret
        exact ⟨ret_bool (unhide hf).symm, hb1⟩
    · have hf := hide (name_long s h8)
      go_enter Tryz.func50, Tryz.ntmps50
      go_wp2
      go_ret
      exact ⟨ret_bool (unhide hf).symm, Below.refl _ _⟩
  · have hf := hide (name_short s h1)
    go_enter Tryz.func50, Tryz.ntmps50
    go_wp2
    go_ret
    exact ⟨ret_bool (unhide hf).symm, Below.refl _ _⟩

theorem implName_any (w : World) (s : ByteArray) (hs : s.size ≤ maxLen) :
    Calls Tryz.prog 32 #[.string s] w fun e w' => e = .returned (.bool (nameB s)) ∧ Below w.heap.size w w' := by
  go_enter Tryz.func32, Tryz.ntmps32
  go_wp2_with (first
    | (go_at_call 49; refine (newKeySet_any _).mono ?_; rintro e w1 ⟨rfl, hown, hb⟩)
    | (go_at_call 50; refine (isName_any _ _ _ s hs hown).mono ?_; rintro e w2 ⟨rfl, hb2⟩)
    | go_in)
  go_ret
  exact ⟨rfl, hb.trans (hb2.mono hb.size)⟩

end Go.Proofs.YtldgffkippejiaaGreatDoor
