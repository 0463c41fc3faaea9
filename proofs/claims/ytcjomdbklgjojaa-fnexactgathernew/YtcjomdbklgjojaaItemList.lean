/-
  Lists of items copied and compared.
-/
import Derived.Test.YtcjomdbklgjojaaItemTo
set_option linter.unusedVariables false
namespace Go.Proofs.Ytcjomdbklgjojaa
open Go.RowKit Go.Maps Go.Deep

theorem infoItem : (Try.prog.info? 55).map (fun i => (i.zero, i.size, i.bytes)) = some (some (.agg #[.int .i64 0, .slice none 0 0]), 2, 32) := by kernel_rfl
/-- the first k of a row's cells are these; each one's marks lie in a block of their own, which is not the row's -/
def ItemTo (B : Nat) (w : World) (xs : List Value) (ns : List ItemV) (k : Nat) : Prop :=
  ∀ i (h : i < ns.length), i < k → xs[i * 2]? = some (.int .i64 ns[i].a0) ∧ ∃ g v, xs[i * 2 + 1]? = some v ∧ B < g ∧ MarkSOwn [g] w v ns[i].a1
theorem ItemTo.turn {B : Nat} {w w' : World} {xs : List Value} {ns : List ItemV} {k : Nat} (h : ItemTo B w xs ns k) (ht : Turn [B] w w') : ItemTo B w' xs ns k := by
  intro i hi hk
  obtain ⟨c0, g, v, c1, hg, hv⟩ := h i hi hk
  exact ⟨c0, g, v, c1, hg, hv.turn ht (fun j hj hm => by simp at hj hm; omega)⟩
theorem itemTo_step {B : Nat} {w : World} {xs : List Value} {ns : List ItemV} {k g : Nat} {v : Value} (hk : k < ns.length) (hx : xs.length = ns.length * 2) (h : ItemTo B w xs ns k) (hg : B < g) (hv : MarkSOwn [g] w v ns[k].a1) :
    ItemTo B w ((xs.set (k * 2) (.int .i64 ns[k].a0)).set (k * 2 + 1) v) ns (k + 1) := by
  intro i hi hik
  by_cases e : i = k
  · subst e
    refine ⟨?_, g, v, ?_, hg, hv⟩
    · simp [List.getElem?_set, hx]; omega
    · simp [List.getElem?_set, hx]; omega
  · obtain ⟨c0, g', v', c1, hg', hv'⟩ := h i hi (by omega)
    refine ⟨?_, g', v', ?_, hg', hv'⟩ <;> (repeat rw [List.getElem?_set_ne (by omega)]) <;> assumption
theorem itemOfRow {w : World} {base : Nat} {e : TypeId} {g n cap B : Nat} {xs : List Value} {ns : List ItemV} (h : w.ownsRow base e 2 (.slice (some ⟨g, 0, none⟩) n cap) n xs) (hn : ns.length = n) (ht : ItemTo B w xs ns n) : ItemAt w g 0 ns := by
  intro i hi
  obtain ⟨c0, g', v, c1, _, hv⟩ := ht i hi (by omega)
  refine ⟨?_, v, ?_, hv.rd⟩
  all_goals
    rw [Nat.zero_add, h.cellAt _ (by omega)]
    assumption
/-- for laws that mark nothing: what was copied may be read -/
def ItemSOwn (S : List Nat) (w : World) (v : Value) (ns : List ItemV) : Prop := S = [] ∧ ItemSRd w v ns
theorem ItemSOwn.rd {S : List Nat} {w : World} {v : Value} {ns : List ItemV} (h : ItemSOwn S w v ns) : ItemSRd w v ns := h.2
theorem ItemSOwn.up {S : List Nat} {w w' : World} {v : Value} {ns : List ItemV} (h : ItemSOwn S w v ns) (hb : Below w.heap.size w w') : ItemSOwn S w' v ns := ⟨h.1, h.2.up hb⟩
theorem ItemSOwn.lt {S : List Nat} {w : World} {v : Value} {ns : List ItemV} (h : ItemSOwn S w v ns) : ∀ k ∈ S, k < w.heap.size := by rw [h.1]; simp
def nItemS (ns : List ItemV) : Nat := ns.length
theorem nItemS_le {ns : List ItemV} (h : SmallItemS ns) : nItemS ns ≤ 100000000 := by have := h.1; unfold nItemS; omega
set_option maxHeartbeats 3200000 in
theorem eqItemS_row (w : World) (b off cap b' off' cap' : Nat) (ns : List ItemV) (hs : SmallItemS ns) (hc : ItemAt w b off ns) (hc' : ItemAt w b' off' ns) (hb : b < w.heap.size) (hb' : b' < w.heap.size) :
    Calls Try.prog 30 #[.slice (some ⟨b, off, none⟩) ns.length cap, .slice (some ⟨b', off', none⟩) ns.length cap'] w fun e w' => e = .returned (.bool true) ∧ Below w.heap.size w w' := by
  have HS := hide hs.2
  have hl := hs.1
  have HC := hide hc
  have HC' := hide hc'
  clear hs hc hc'
  go_enter Try.func30, Try.ntmps30
  go_wp2_with fail
  go_loopw [5] (fun i wr => ∃ (k : Nat), k ≤ ns.length ∧ i = .int .i64 k ∧ Hid (Below w.heap.size w wr)) (fun i _ => ns.length - (intOf i).toNat)
  case atStart => exact ⟨0, Nat.zero_le _, rfl, Below.refl _ _⟩
  case round =>
    obtain ⟨k, hk, rfl, HB⟩ := hrel
    by_cases hlt : k < ns.length
    · obtain ⟨c0, v, c1, hv⟩ := (unhide HC).up hb (unhide HB) k hlt
      obtain ⟨d0, v', d1, hv'⟩ := (unhide HC').up hb' (unhide HB) k hlt
      have HV := hide (fun W (bW : Below wr.heap.size wr W) => eqItem_any ns[k].a0 v v' ns[k].a1 W (unhide HS _ (List.getElem_mem hlt)).2 (hv.up bW) (hv'.up bW))
      obtain ⟨va, vn, vc, rfl⟩ := hv.form
      obtain ⟨va', vn', vc', rfl⟩ := hv'.form
      clear hv hv'
      generalize ns[k].a0 = z0 at *
      generalize ns[k].a1 = ms at *
      go_wp2_with fail
      go_region_with (go_at_call 38; refine (unhide HV _ ((Below.refl _ _).drew)).mono ?_; rintro e w2 ⟨rfl, hb2⟩)
      all_goals
        have hb3 := hide ((unhide HB).trans (Below.mono (((Below.refl wr.heap.size wr).drew).trans hb2) (unhide HB).size))
        clear c0 c1 d0 d1
        go_wp2_with fail
        go_roundw
        case rel => exact ⟨k + 1, by omega, by go_num, hb3⟩
        case measure => simp [intOf]; omega
    · go_wp2_with fail
      go_ret
      exact ⟨rfl, unhide HB⟩
theorem eqItemS_kit (ns : List ItemV) (v v' : Value) (w : World) (hs : SmallItemS ns) (h : ItemSRd w v ns) (h' : ItemSRd w v' ns) :
    Calls Try.prog 30 #[v, v'] w fun e w' => e = .returned (.bool true) ∧ Below w.heap.size w w' := by
  have none : ∀ a a' c c', Calls Try.prog 30 #[.slice a 0 c, .slice a' 0 c'] w fun e w' => e = .returned (.bool true) ∧ Below w.heap.size w w' := by
    intro a a' c c'
    go_enter Try.func30, Try.ntmps30
    go_wp2
    refine wp_loop_rounds 1 ?_
    rw [rounds_succ]
    go_wp2
    go_ret
    exact ⟨rfl, Below.refl _ _⟩
  obtain ⟨a, c, rfl, h⟩ := h
  obtain ⟨a', c', rfl, h'⟩ := h'
  rcases h with rfl | ⟨b, off, rfl, hb, hc⟩
  · exact none _ _ _ _
  · rcases h' with rfl | ⟨b', off', rfl, hb', hc'⟩
    · exact none _ _ _ _
    · exact eqItemS_row w b off c b' off' c' ns hs hc hc' hb hb'
end Go.Proofs.Ytcjomdbklgjojaa
