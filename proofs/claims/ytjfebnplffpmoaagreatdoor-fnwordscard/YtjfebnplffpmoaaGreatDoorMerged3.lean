/-
  Small words that every text of ours uses: facts that are hidden from the walk, endings, blocks.
-/
/-
  The two sides of BodyKey: the set of keys that the program makes and asks, and the list of keys that the specification makes and searches, answer alike at every string.
-/
import Derived.Test.YtjfebnplffpmoaaGreatDoorProg
import Derived.WalkKit
import Derived.Maps.OwnSet
namespace Go.Proofs.YtjfebnplffpmoaaGreatDoor
open Go.RowKit

theorem hide {p : Prop} (h : p) : Hid p := h
theorem unhide {p : Prop} (h : Hid p) : p := h
theorem ret_bool {a b : Bool} (h : a = b) : Ending.returned (.bool a) = .returned (.bool b) := by rw [h]
theorem ret_int {k : IntKind} {a b : Int} (h : a = b) : Ending.returned (.int k a) = .returned (.int k b) := by rw [h]
theorem lt_of_cell0 {w : World} {b off : Nat} {v : Value} (h : w.cell? ⟨b, off, none⟩ = some v) : b < w.heap.size := by
  by_cases hb : b < w.heap.size
  · exact hb
  · exfalso
    have : w.heap[b]? = none := Array.getElem?_eq_none (by omega)
    simp [World.cell?, this] at h
end Go.Proofs.YtjfebnplffpmoaaGreatDoor

namespace Go.Proofs.YtjfebnplffpmoaaGreatDoor
open Go.RowKit Go.Maps

theorem lawStr : Keyed Tryz.prog 9 := string_keyed Tryz.underlying9
theorem zeroUnit (w : World) : (zeroValue 85).run Tryz.prog w = .ok (.agg #[]) w := by kernel_rfl

/-- a composite literal's entry, at the operation: as a store into a map of the call's own -/
theorem wpList_insert_own {H : Type} {P : Program} (w : World) {ops : Array Oper} {rest : List Oper} {o : Oper} {a : Act} {Q : Exit → Act → World → Prop}
    (hg : o.guard = none) (m x v : Operand) (t : TypeId) (hop : o.op = Op.insert t m x v)
    (k e : TypeId) (K : Keyed P k) (ht : P.underlying t = some (.map k e)) (R : Value → Option (DataW H × List MemPlace)) (b n : Nat) (D : DataW H)
    (hm : a.eval m = .map (some b)) (w0 : World) (B : Nat) (hown : w.ownsMap P k R b n D ∧ Below B w0 w ∧ B ≤ b) (hn : n < maxLen) (key val : Value) (kl : Lit) (hx : a.eval x = key) (hv : a.eval v = val) (hkey : keyOf P k key = some kl)
    (d : DataW H) (ps : List MemPlace) (hval : R val = some (d, ps))
    (hK : ∀ w', w'.ownsMap P k R b (n + 1) (D.put kl d) ∧ Below B w0 w' ∧ B ≤ b → wpList P ops Q rest (a.put o.dst undef) w') :
    wpList P ops Q (o :: rest) a w := by
  refine wpList_plain hg fun K' hK' => ?_
  obtain ⟨hown, hb, hB⟩ := hown
  obtain ⟨w', hrun, r1, r2⟩ := hown.update K ht hn hkey hval
  unfold Oper.wp
  simp [execOp, hop, hm, hx, hv, hrun, Result.andThen]
  exact hK' _ _ (hK w' ⟨r1, hb.grown r2 (Nat.le_trans hB (Nat.le_of_lt hown.lt)) (fun k hk => by cases hk; exact hB), hB⟩)

/-- the fifteen words of the language -/
def keyStrs : List ByteArray := [⟨#[97, 98, 115]⟩, ⟨#[97, 110, 100]⟩, ⟨#[97, 115]⟩, ⟨#[98, 121]⟩, ⟨#[101, 108, 115, 101]⟩, ⟨#[102, 114, 111, 109]⟩, ⟨#[105, 102]⟩, ⟨#[105, 110]⟩, ⟨#[108, 101, 116]⟩, ⟨#[109, 97, 120]⟩, ⟨#[109, 105, 110]⟩, ⟨#[110, 111, 116]⟩, ⟨#[111, 114]⟩, ⟨#[114, 101, 112]⟩, ⟨#[116, 104, 101, 110]⟩]
def keyLits : List Lit := keyStrs.map fun s => Lit.string s.data.toList
def isKeyB (s : ByteArray) : Bool := keyStrs.any fun k => decide (k = s)

theorem has_keys (s : ByteArray) : Maps.has (H := Unit) (setOf (.agg []) keyLits) (.string s.data.toList) = isKeyB s := by
  rw [has_setOf]
  · simp only [keyLits, List.any_map, isKeyB]
    congr 1
    funext k
    simp only [Function.comp, Lit.sameKey]
    rw [Bool.eq_iff_iff]
    simp
    constructor
    · intro h; cases k; cases s; simp_all
    · rintro rfl; rfl
  · intro x hx
    simp only [keyLits, List.mem_map] at hx
    obtain ⟨s, _, rfl⟩ := hx
    simp [WideAt.IsKeyLit]

set_option maxHeartbeats 1600000 in
set_option maxRecDepth 100000 in
theorem newKeySet_any (w : World) : Calls Tryz.prog 20 #[] w fun e w' => e = .returned (.map (some w.heap.size)) ∧ w'.ownsMap Tryz.prog 9 (unitElem (H := Unit)) w.heap.size 15 (setOf (.agg []) keyLits) ∧ Below w.heap.size w w' := by
  have hmm := @run_makeMap Tryz.prog
  have hmade := And.intro (World.ownsMap_made w Tryz.prog 9 (unitElem (H := Unit))) (And.intro ((Below.refl w.heap.size w).alloc (Nat.le_refl _) (.map #[] 0)) (Nat.le_refl w.heap.size))
  go_enter Tryz.func20, Tryz.ntmps20
  go_wp2_with (first
    | (refine wpList_insert_own _ rfl _ _ _ 59 rfl 9 85 lawStr Tryz.underlying59 (unitElem (H := Unit)) w.heap.size _ _ rfl w w.heap.size (by assumption) (by decide) _ _ _ rfl rfl (WideMaps.keyOf_string_mk Tryz.underlying9 (by decide)) _ [] unitElem_mk ?_; clear hmade; intro w1 hmade)
    | go_in)
  go_ret
  exact ⟨rfl, hmade.1, hmade.2.1⟩

set_option maxHeartbeats 800000 in
theorem has_any (w : World) (b n : Nat) (D : DataW Unit) (s : ByteArray) (hs : s.size ≤ maxLen) (hown : w.ownsMap Tryz.prog 9 (unitElem (H := Unit)) b n D) :
    Calls Tryz.prog 42 #[.map (some b), .string s] w fun e w' => e = .returned (.bool (Maps.has D (.string s.data.toList))) ∧ Below w.heap.size w w' := by
  go_enter Tryz.func42, Tryz.ntmps42
  go_wp2_with (first
    | (at_lookup; refine wpList_lookup_own_unit _ rfl _ _ 59 rfl 9 85 lawStr Tryz.underlying59 (zeroUnit _) b n D rfl hown _ _ rfl (WideMaps.keyOf_string_mk Tryz.underlying9 hs) ?_)
    | go_in)
  go_ret
  exact ⟨rfl, (Below.refl _ _).alloc (Nat.le_refl _) _⟩


theorem str_eq (a b : ByteArray) : (a.toList == b.toList) = decide (a = b) := by
  rw [ByteArray.toList_eq, ByteArray.toList_eq, Bool.eq_iff_iff]
  simp
  constructor
  · intro h; cases a; cases b; simp_all
  · rintro rfl; rfl

theorem any_hit (ss : List ByteArray) (s : ByteArray) (k : Nat) (h : k < ss.length) (he : (ss[k].toList == s.toList) = true) : (ss.any fun k => decide (k = s)) = true := by
  rw [str_eq] at he
  exact List.any_eq_true.2 ⟨_, List.getElem_mem h, he⟩

theorem any_miss (ss : List ByteArray) (s : ByteArray) (h : ∀ j, j < ss.length → ss.getD j ByteArray.empty ≠ s) : (ss.any fun k => decide (k = s)) = false := by
  rw [List.any_eq_false]
  intro x hx
  obtain ⟨j, hj, rfl⟩ := List.getElem_of_mem hx
  have := h j hj
  simpa [List.getD_eq_getElem?_getD, hj] using this


set_option maxHeartbeats 800000 in
theorem l1In_any (w : World) (b off cap : Nat) (ss : List ByteArray) (s : ByteArray) (hl : ss.length ≤ 1000)
    (hc : ∀ j, j < ss.length → w.cell? ⟨b, off + j, none⟩ = some (.string (ss.getD j ByteArray.empty))) :
    Calls Tryz.prog 47 #[.slice (some ⟨b, off, none⟩) ss.length cap, .string s] w fun e w' => e = .returned (.bool (ss.any fun k => decide (k = s))) ∧ w' = w := by
  go_enter Tryz.func47, Tryz.ntmps47
  go_wp2
  go_loop [5] (fun i => ∃ k : Nat, k ≤ ss.length ∧ i = .int .i64 k ∧ ∀ j, j < k → ss.getD j ByteArray.empty ≠ s) (fun i => ss.length - (intOf i).toNat)
  case atStart => exact ⟨0, Nat.zero_le _, rfl, fun j hj => absurd hj (Nat.not_lt_zero _)⟩
  case round =>
    obtain ⟨k, hk, rfl, hno⟩ := hrel
    by_cases hlt : k < ss.length
    · have hck := hc k hlt
      go_wp2
      · rename_i h _
        go_ret
        exact ⟨ret_bool (any_hit ss s k hlt h).symm, rfl⟩
      · rename_i h
        go_round
        case rel =>
          refine ⟨k + 1, by omega, by go_num, fun j hj => ?_⟩
          by_cases hjk : j = k
          · subst hjk
            rw [str_eq] at h
            simpa [List.getD_eq_getElem?_getD, hlt] using h
          · exact hno j (by omega)
        case measure => simp [intOf]; omega
    · go_wp2
      go_ret
      exact ⟨ret_bool (any_miss ss s (fun j hj => hno j (by omega))).symm, rfl⟩

theorem l1Keys_any (w : World) : Calls Tryz.prog 48 #[] w fun e w' => e = .returned (.slice (some ⟨w.heap.size, 0, none⟩) keyStrs.length 15) ∧ w' = w.alloc (.cells (keyStrs.map Value.string).toArray 9) := by
  go_enter Tryz.func48, Tryz.ntmps48
  go_wp2
  go_ret
  exact ⟨rfl, rfl⟩

theorem specKey_any (w : World) (s : ByteArray) :
    Calls Tryz.prog 28 #[.string s] w fun e w' => e = .returned (.bool (isKeyB s)) ∧ Below w.heap.size w w' := by
  have hcell : ∀ j, j < keyStrs.length → (w.alloc (.cells (keyStrs.map Value.string).toArray 9)).cell? ⟨w.heap.size, 0 + j, none⟩ = some (.string (keyStrs.getD j ByteArray.empty)) := by
    intro j hj
    rw [World.cell?_alloc_at _ _ _ _ rfl]
    simp [List.getD_eq_getElem?_getD, hj]
  go_enter Tryz.func28, Tryz.ntmps28
  go_wp2_with (first
    | (go_at_call 48; refine (l1Keys_any _).mono ?_; rintro e w1 ⟨rfl, rfl⟩)
    | (go_at_call 47; refine (l1In_any _ _ _ _ keyStrs s (by decide) hcell).mono ?_; rintro e w2 ⟨rfl, rfl⟩)
    | go_in)
  go_ret
  exact ⟨rfl, (Below.refl _ _).alloc (Nat.le_refl _) _⟩

end Go.Proofs.YtjfebnplffpmoaaGreatDoor
