/-
  Lists of windows copied and compared.
-/
import Derived.Test.YtcjomdbklgjojaaWins
import Derived.Test.YtcjomdbklgjojaaItemFull
set_option linter.unusedVariables false
namespace Go.Proofs.Ytcjomdbklgjojaa
open Go.RowKit Go.Maps Go.Deep

theorem infoItemS : (Try.prog.info? 46).map (fun i => (i.zero, i.size, i.bytes)) = some (some (.slice none 0 0), 1, 24) := by kernel_rfl
/-- the first k of a row's cells are these; each may be read, and hangs on no cell of the row's block, or of a block ahead of it -/
def WinsTo (B : Nat) (w : World) (xs : List Value) (ns : List (List ItemV)) (k : Nat) : Prop :=
  ∀ i (h : i < ns.length), i < k → ∃ v, xs[i]? = some v ∧ ∀ W S, (∀ j ∈ S, j ≤ B) → Turn S w W → ItemSRd W v ns[i]
theorem WinsTo.turn {B : Nat} {w w' : World} {xs : List Value} {ns : List (List ItemV)} {k : Nat} (h : WinsTo B w xs ns k) (ht : Turn [B] w w') : WinsTo B w' xs ns k := by
  intro i hi hk
  obtain ⟨v, c, hv⟩ := h i hi hk
  refine ⟨v, c, fun W S hS hW => hv W (B :: S) (by simpa using hS) ?_⟩
  exact (ht.mono (fun k hk => .inl (by simp at hk; simp [hk]))).trans (hW.mono (fun k hk => .inl (by simp [hk])))
theorem winsTo_step {B : Nat} {w : World} {xs : List Value} {ns : List (List ItemV)} {k : Nat} {v : Value} (hk : k < ns.length) (hx : xs.length = ns.length) (h : WinsTo B w xs ns k) (hv : ∀ W S, (∀ j ∈ S, j ≤ B) → Turn S w W → ItemSRd W v ns[k]) :
    WinsTo B w (xs.set k v) ns (k + 1) := by
  intro i hi hik
  by_cases e : i = k
  · subst e
    exact ⟨v, List.getElem?_set_self (by omega), hv⟩
  · obtain ⟨v', c, hv'⟩ := h i hi (by omega)
    exact ⟨v', by rw [List.getElem?_set_ne (by omega)]; exact c, hv'⟩
theorem winsOfRow {w : World} {base : Nat} {e : TypeId} {g n cap B : Nat} {xs : List Value} {ns : List (List ItemV)} (h : w.ownsRow base e 1 (.slice (some ⟨g, 0, none⟩) n cap) n xs) (hn : ns.length = n) (ht : WinsTo B w xs ns n) (hg : g < w.heap.size) (hB : g = B) : ∀ W S, (∀ j ∈ S, j < B) → Turn S w W → WinsAt W g 0 ns := by
  intro W S hS hW i hi
  obtain ⟨v, c, hv⟩ := ht i hi (by omega)
  refine ⟨v, ?_, hv W S (fun j hj => Nat.le_of_lt (hS j hj)) hW⟩
  rw [Nat.zero_add, hW.cell hg (fun hm => by have := hS _ hm; omega), h.cellAt _ (by omega)]
  exact c
theorem winsRow_cell {w : World} {B g n : Nat} {T : TypeId} {xs : List Value} (h : w.ownsRow B T 1 (.slice (some ⟨g, 0, none⟩) n n) n xs) (k : Nat) (hk : k < n) : ∃ v0, w.cell? ⟨g, k, none⟩ = some v0 ∧ w.frozen? ⟨g, k, none⟩ = false := by
  have hx := h.1
  refine ⟨xs[k]'(by omega), ?_, h.frozenAt _⟩
  rw [h.cellAt _ (by omega)]
  exact List.getElem?_eq_getElem _
/-- for laws that mark nothing: what was copied may be read -/
def ItemSSOwn (S : List Nat) (w : World) (v : Value) (ns : List (List ItemV)) : Prop := S = [] ∧ ItemSSRd w v ns
theorem ItemSSOwn.rd {S : List Nat} {w : World} {v : Value} {ns : List (List ItemV)} (h : ItemSSOwn S w v ns) : ItemSSRd w v ns := h.2
theorem ItemSSOwn.up {S : List Nat} {w w' : World} {v : Value} {ns : List (List ItemV)} (h : ItemSSOwn S w v ns) (hb : Below w.heap.size w w') : ItemSSOwn S w' v ns := ⟨h.1, h.2.up hb⟩
theorem ItemSSOwn.lt {S : List Nat} {w : World} {v : Value} {ns : List (List ItemV)} (h : ItemSSOwn S w v ns) : ∀ k ∈ S, k < w.heap.size := by rw [h.1]; simp
def nItemSS (ns : List (List ItemV)) : Nat := ns.length
theorem nItemSS_le {ns : List (List ItemV)} (h : SmallItemSS ns) : nItemSS ns ≤ 100000000 := by have := h.1; unfold nItemSS; omega
set_option maxHeartbeats 3200000 in
theorem eqItemSS_row (w : World) (b off cap b' off' cap' : Nat) (ns : List (List ItemV)) (hs : SmallItemSS ns) (hc : WinsAt w b off ns) (hc' : WinsAt w b' off' ns) (hb : b < w.heap.size) (hb' : b' < w.heap.size) :
    Calls Try.prog 16 #[.slice (some ⟨b, off, none⟩) ns.length cap, .slice (some ⟨b', off', none⟩) ns.length cap'] w fun e w' => e = .returned (.bool true) ∧ Below w.heap.size w w' := by
  have HS := hide hs.2
  have hl := hs.1
  have HC := hide hc
  have HC' := hide hc'
  clear hs hc hc'
  go_enter Try.func16, Try.ntmps16
  go_wp2_with fail
  go_loopw [5] (fun i wr => ∃ (k : Nat), k ≤ ns.length ∧ i = .int .i64 k ∧ Hid (Below w.heap.size w wr)) (fun i _ => ns.length - (intOf i).toNat)
  case atStart => exact ⟨0, Nat.zero_le _, rfl, Below.refl _ _⟩
  case round =>
    obtain ⟨k, hk, rfl, HB⟩ := hrel
    by_cases hlt : k < ns.length
    · obtain ⟨v, c0, hv⟩ := (unhide HC).up hb (unhide HB) k hlt
      obtain ⟨v', d0, hv'⟩ := (unhide HC').up hb' (unhide HB) k hlt
      have HV := hide (fun W (bW : Below wr.heap.size wr W) => eqItemS_kit ns[k] v v' W (unhide HS _ (List.getElem_mem hlt)) (hv.up bW) (hv'.up bW))
      obtain ⟨va, vn, vc, rfl⟩ := hv.form
      obtain ⟨va', vn', vc', rfl⟩ := hv'.form
      clear hv hv'
      generalize ns[k] = ms at *
      go_wp2_with fail
      go_region_with (go_at_call 30; refine (unhide HV _ ((Below.refl _ _).drew)).mono ?_; rintro e w2 ⟨rfl, hb2⟩)
      all_goals
        have hb3 := hide ((unhide HB).trans (Below.mono (((Below.refl wr.heap.size wr).drew).trans hb2) (unhide HB).size))
        clear c0 d0
        go_wp2_with fail
        go_roundw
        case rel => exact ⟨k + 1, by omega, by go_num, hb3⟩
        case measure => simp [intOf]; omega
    · go_wp2_with fail
      go_ret
      exact ⟨rfl, unhide HB⟩
theorem eqItemSS_kit (ns : List (List ItemV)) (v v' : Value) (w : World) (hs : SmallItemSS ns) (h : ItemSSRd w v ns) (h' : ItemSSRd w v' ns) :
    Calls Try.prog 16 #[v, v'] w fun e w' => e = .returned (.bool true) ∧ Below w.heap.size w w' := by
  have none : ∀ a a' c c', Calls Try.prog 16 #[.slice a 0 c, .slice a' 0 c'] w fun e w' => e = .returned (.bool true) ∧ Below w.heap.size w w' := by
    intro a a' c c'
    go_enter Try.func16, Try.ntmps16
    go_wp2
    refine wp_loop_rounds 1 ?_
    rw [rounds_succ]
    go_wp2
    go_ret
    exact ⟨rfl, Below.refl _ _⟩
  obtain ⟨a, c, rfl, h⟩ := h
  obtain ⟨a', c', rfl, h'⟩ := h'
  rcases h with rfl | ⟨b, off, rfl, hb, hc⟩
  · exact none _ _ _ _
  · rcases h' with rfl | ⟨b', off', rfl, hb', hc'⟩
    · exact none _ _ _ _
    · exact eqItemSS_row w b off c b' off' c' ns hs hc hc' hb hb'
end Go.Proofs.Ytcjomdbklgjojaa
