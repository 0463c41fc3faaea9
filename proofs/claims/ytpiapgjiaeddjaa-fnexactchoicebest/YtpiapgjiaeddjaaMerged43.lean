/-
  When no source is late the places are the greatest choice: mathematics.
-/
/-
  The contracts of the keys of a map, sorted, at this program.
-/
/-
  The sources of a chooser's map, sorted.
-/
import Derived.Test.YtpiapgjiaeddjaaNewChI
import Derived.Test.YtpiapgjiaeddjaaMaxI
import Derived.Test.YtpiapgjiaeddjaaMerged40
import Derived.Shelf.SlIter.Nil
import Derived.Shelf.SortM.Plain
import Derived.Shelf.SortM.SortNone
import Derived.Test.YtpiapgjiaeddjaaHdMap
import Derived.Sort.KeysCollected
set_option linter.unusedVariables false
namespace Go.Proofs.Ytpiapgjiaeddjaa
open Go.RowKit Go.Maps Go.Deep

/-- the windows that share a source, as natural numbers -/
theorem shC_nats (ws : List (List ItemV)) (s : ByteArray) : ∃ ns : List Nat, shC ws s = ns.map Int.ofNat ∧ ns.length ≤ ws.length ∧ (∀ a ∈ ns, a < ws.length ∧ namB (frst ws a) s = true) ∧ (ns ≠ [] → ∀ a, a < ws.length → namB (frst ws a) s = true → a ∈ ns) := by
  have he : shr ws ws.length 0 s = ((List.range ws.length).filter (fun a => namB (frst ws a) s)).map Int.ofNat := by
    unfold shr
    rw [List.take_zero, namB_nil]
    simp
  unfold shC
  split
  · exact ⟨[], rfl, Nat.zero_le _, fun a h => by simp at h, fun h => absurd rfl h⟩
  · refine ⟨_, he, ?_, fun a ha => ?_, fun _ a ha hn => List.mem_filter.2 ⟨List.mem_range.2 ha, hn⟩⟩
    · have := List.length_filter_le (fun a => namB (frst ws a) s) (List.range ws.length)
      rwa [List.length_range] at this
    · obtain ⟨h1, h2⟩ := List.mem_filter.1 ha
      exact ⟨List.mem_range.1 h1, h2⟩
/-- all windows that have a source have one version of it -/
def EvenS (ws : List (List ItemV)) (q : List Int) (s : ByteArray) : Prop := ∀ a b, a < ws.length → b < ws.length → 0 < verC ws q a s → 0 < verC ws q b s → ¬ verC ws q b s < verC ws q a s
theorem even_of {ws : List (List ItemV)} {q : List Int} {s : ByteArray} {ns : List Nat} {V : Nat → Int} (hw : winsB ws = true) (hq : InR ws q) (hV : ∀ i, V i = verC ws q i s) (h0 : 0 < ns.length) (hall : ns ≠ [] → ∀ a, a < ws.length → namB (frst ws a) s = true → a ∈ ns)
    (hn : ¬ V (minFP V ns (ns.length - 1)) < V (maxFP V ns (ns.length - 1))) : EvenS ws q s := by
  intro a b ha hb h1 h2 hlt
  have hne : ns ≠ [] := List.length_pos_iff.1 h0
  have ma := hall hne a ha ((nam_ver hw hq ha s).2 h1)
  have mb := hall hne b hb ((nam_ver hw hq hb s).2 h2)
  have x1 := (maxFP_of V h0).2 a ma
  have x2 := (minFP_of V h0).2 b mb
  rw [hV a] at x1
  rw [hV b] at x2
  omega
theorem late_of {ws : List (List ItemV)} {q : List Int} {s : ByteArray} {ns : List Nat} {V : Nat → Int} (hw : winsB ws = true) (hq : InR ws q) (hu : UB ws q) (hV : ∀ i, V i = verC ws q i s) (h0 : 0 < ns.length) (hin : ∀ a ∈ ns, a < ws.length ∧ namB (frst ws a) s = true) {mx : Nat} (hmx : mx = maxFP V ns (ns.length - 1))
    (hl : V (minFP V ns (ns.length - 1)) < V mx) : mx < ws.length ∧ (q.getD mx 0 = 0 → ∀ p, ¬ IsCh ws p) ∧ (q.getD mx 0 ≠ 0 → InR ws (q.set mx (q.getD mx 0 - 1)) ∧ UB ws (q.set mx (q.getD mx 0 - 1))) := by
  subst hmx
  have hx := hin _ (maxFP_of V h0).1
  have hy := hin _ (minFP_of V h0).1
  rw [hV, hV] at hl
  exact ⟨hx.1, late_step hw hq hu hx.1 hy.1 ((nam_ver hw hq hy.1 s).1 hy.2) hl⟩
theorem all_even {ws : List (List ItemV)} {q : List Int} (hw : winsB ws = true) (hq : InR ws q) (h : ∀ s, shC ws s ≠ [] → EvenS ws q s) : IsCh ws q := by
  refine even_agrees hw hq fun s a b ha hb h1 h2 hlt => ?_
  have na := (nam_ver hw hq ha s).2 h1
  have nb := (nam_ver hw hq hb s).2 h2
  have ma : (a : Int) ∈ shr ws ws.length 0 s := shr_mem.2 ⟨a, rfl, ha, na⟩
  have mb : (b : Int) ∈ shr ws ws.length 0 s := shr_mem.2 ⟨b, rfl, hb, nb⟩
  by_cases hone : (shr ws ws.length 0 s).length = 1
  · obtain ⟨x, hx⟩ := List.length_eq_one_iff.1 hone
    rw [hx] at ma mb
    have e1 := List.mem_singleton.1 ma
    have e2 := List.mem_singleton.1 mb
    have : a = b := by omega
    subst this
    omega
  · refine h s ?_ a b ha hb h1 h2 hlt
    unfold shC
    rw [if_neg hone]
    exact List.ne_nil_of_mem ma
theorem has_list {B : Nat} {w : World} {G : ByteArray → Hd} {sh : ByteArray → List Int} {pr : Option Nat} (h : ShRows B w G sh pr) (s : ByteArray) : G s ≠ none ↔ sh s ≠ [] := by
  refine ⟨h.non s, fun hs hn => hs ?_⟩
  have hr := h.row s
  rw [hn] at hr
  obtain ⟨a, c, e⟩ := hr.form
  simp only [hdV, Value.slice.injEq] at e
  exact List.eq_nil_of_length_eq_zero e.2.1.symm
end Go.Proofs.Ytpiapgjiaeddjaa

namespace Go.Proofs
open Go.RowKit Go.Maps Go.Sort Go.Shelf


theorem Try.sorts32 (m : Nat) : AnyZ.SortsIn Try.prog Try.sorted32_ren Fence.wide m :=
  ⟨fun blk off cap ss W hH hblk hsz => callsIn_wide.2 (AnyM.slices_Sort_string Try.sort44 blk off cap ss W hH hblk hsz),
   fun p cap W => callsIn_wide.2 (AnyM.slices_Sort_string_none Try.sort44 p cap W)⟩

theorem Try.maps_Keys_33 (mb : Option Nat) (W : World) : CallsIn Fence.wide 5 Try.prog 33 #[.map mb] W fun e w' => e = .returned (.func (.func 45) #[] #[.pointer (some ⟨W.heap.size, 0, none⟩)]) ∧ w' = W.alloc (.cells #[.map mb] 58) :=
  AnyZ.keys_in Try.keys33 Fence.wide 5 trivial rfl mb W

set_option maxHeartbeats 1000000 in
theorem Try.slices_Sorted_keys_32_33 {H : Type} (b nn : Nat) (D0 : DataW H) (R : Value → Option (DataW H × List MemPlace)) (w : World) (hown : w.ownsMap Try.prog 9 R b nn D0) (hmax : Maps.size D0 ≤ maxLen) (hbytes : Maps.size D0 * 16 ≤ 140737488355328) :
    CallsIn Fence.wide 5 Try.prog 32 #[.func (.func 45) #[] #[.pointer (some ⟨w.heap.size, 0, none⟩)]] (w.alloc (.cells #[.map (some b)] 58)) fun e w' => ∃ (v : Value) (ss : List (List UInt8)), e = .returned v ∧ ss.Perm (strKeys D0) ∧
      w'.ownsRow (w.alloc (.cells #[.map (some b)] 58)).heap.size 9 1 v ss.length ((ss.mergeSort (fun x y => decide (x ≤ y))).map encStr) ∧ (v = .slice none 0 0 ↔ ss = []) ∧ Below (w.alloc (.cells #[.map (some b)] 58)).heap.size (w.alloc (.cells #[.map (some b)] 58)) w' := by
  have hbl := hown.lt
  have hseq : SeqGives Fence.wide 2 Try.prog 45 #[.pointer (some ⟨w.heap.size, 0, none⟩)] encStr (fun ss => ss.Perm (strKeys D0)) (Maps.size D0) (w.alloc (.cells #[.map (some b)] 58)) :=
    AnyZ.keys_gives (ρ := Try.keys33_ren) { Try.keys33 with } Fence.wide _ trivial rfl (by omega) w.heap.size b nn D0 _ (by simp) (by simp) (by
      obtain ⟨es, clock, hb, Ft, hs, hD⟩ := hown
      exact ⟨es, clock, (Below.heap_alloc _ _ b hbl).trans hb, Ft, hs, hD⟩)
  exact AnyZ.sorted_in Try.sorted32 Fence.wide 5 trivial trivial trivial trivial rfl (by omega) (Try.sorts32 _) (enters_of Try.func44 (by kernel_rfl) rfl) 45 #[.pointer (some ⟨w.heap.size, 0, none⟩)] trivial (enters_of Try.func45 (by kernel_rfl) rfl) _ _ hmax hbytes _ hseq

set_option maxHeartbeats 1000000 in
theorem Try.slices_Sorted_keys_nil_32_33 (w : World) :
    CallsIn Fence.wide 5 Try.prog 32 #[.func (.func 45) #[] #[.pointer (some ⟨w.heap.size, 0, none⟩)]] (w.alloc (.cells #[.map none] 58)) fun e w' => ∃ (v : Value) (ss : List (List UInt8)), e = .returned v ∧ ss = [] ∧
      w'.ownsRow (w.alloc (.cells #[.map none] 58)).heap.size 9 1 v ss.length ((ss.mergeSort (fun x y => decide (x ≤ y))).map encStr) ∧ (v = .slice none 0 0 ↔ ss = []) ∧ Below (w.alloc (.cells #[.map none] 58)).heap.size (w.alloc (.cells #[.map none] 58)) w' := by
  have hseq : SeqGives Fence.wide 2 Try.prog 45 #[.pointer (some ⟨w.heap.size, 0, none⟩)] encStr (fun ss : List (List UInt8) => ss = []) 0 (w.alloc (.cells #[.map none] 58)) :=
    AnyZ.keys_gives_nil (ρ := Try.keys33_ren) { Try.keys33 with } Fence.wide _ trivial rfl w.heap.size _ (by simp) (by simp)
  exact AnyZ.sorted_in Try.sorted32 Fence.wide 5 trivial trivial trivial trivial rfl (by omega) (Try.sorts32 _) (enters_of Try.func44 (by kernel_rfl) rfl) 45 #[.pointer (some ⟨w.heap.size, 0, none⟩)] trivial (enters_of Try.func45 (by kernel_rfl) rfl) _ 0 (Nat.zero_le _) (by omega) _ hseq



end Go.Proofs

set_option linter.unusedVariables false
namespace Go.Proofs.Ytpiapgjiaeddjaa
open Go.RowKit Go.Maps Go.Deep

theorem keys_of {w : World} {b n : Nat} {D : DataW Unit} {G : ByteArray → Hd} (h : HdMap w b n D G) (t : List UInt8) : t ∈ strKeys D ↔ ∃ s : ByteArray, s.data.toList = t ∧ G s ≠ none := by
  obtain ⟨es, e, hko⟩ := h.own.keysOf
  have hth := h.there
  subst e
  have hks : ∀ p ∈ es, ∃ x, p.1 = Lit.string x := fun p hp => by
    obtain ⟨v, hv⟩ := hko p hp
    obtain ⟨x, _, hx, _⟩ := Maps.keyOf_str Try.underlying9 hv
    exact ⟨x, hx⟩
  unfold strKeys
  constructor
  · intro ht
    obtain ⟨p, hp, e⟩ := List.mem_map.1 ht
    obtain ⟨x, hx⟩ := hks p hp
    rw [hx] at e
    simp only [strOf] at e
    subst e
    refine ⟨⟨x.toArray⟩, by simp, fun hn => ?_⟩
    have := hth ⟨x.toArray⟩
    rw [hn] at this
    rw [has_eq, Option.isSome_none, List.any_eq_false] at this
    have hp2 := this p hp
    rw [hx] at hp2
    simp [keyL, Lit.sameKey] at hp2
  · rintro ⟨s, rfl, hs⟩
    have := hth s
    rw [has_eq, Option.isSome_iff_ne_none.2 hs, List.any_eq_true] at this
    obtain ⟨p, hp, e⟩ := this
    have e1 := WideAt.sameKey_eq e
    exact List.mem_map.2 ⟨p, hp, by rw [e1]; rfl⟩
/-- a list of texts that may be read, in a block from B on -/
def SrcRd (B : Nat) (w : World) (v : Value) (ts : List ByteArray) : Prop := ∃ a c, v = .slice a ts.length c ∧ (ts = [] ∨ ∃ g, a = some ⟨g, 0, none⟩ ∧ B ≤ g ∧ g < w.heap.size ∧ ∀ i (h : i < ts.length), w.cell? ⟨g, i, none⟩ = some (.string ts[i]))
theorem SrcRd.turn {B : Nat} {S : List Nat} {w w' : World} {v : Value} {ts : List ByteArray} (h : SrcRd B w v ts) (t : Turn S w w') (hS : ∀ k ∈ S, k < B) : SrcRd B w' v ts := by
  obtain ⟨a, c, e, h⟩ := h
  refine ⟨a, c, e, h.imp id ?_⟩
  rintro ⟨g, e1, e2, e3, e4⟩
  exact ⟨g, e1, e2, Nat.lt_of_lt_of_le e3 t.size, fun i hi => (t.cell e3 (fun hm => by have := hS g hm; omega)).trans (e4 i hi)⟩
theorem keysFn_any (b : Nat) (w : World) : Calls Try.prog 33 #[.map (some b)] w fun e w' => e = .returned (.func (.func 45) #[] #[.pointer (some ⟨w.heap.size, 0, none⟩)]) ∧ w' = w.alloc (.cells #[.map (some b)] 58) :=
  callsIn_wide.1 (Try.maps_Keys_33 (some b) w)
theorem sorted_any {w : World} {b n : Nat} {D : DataW Unit} {G : ByteArray → Hd} (h : HdMap w b n D G) (hn : n ≤ 10000000) :
    Calls Try.prog 32 #[.func (.func 45) #[] #[.pointer (some ⟨w.heap.size, 0, none⟩)]] (w.alloc (.cells #[.map (some b)] 58)) fun e w' => ∃ (v : Value) (ts : List ByteArray), e = .returned v ∧ Hid (SrcRd w.heap.size w' v ts) ∧ Hid (∀ s, s ∈ ts ↔ G s ≠ none) ∧ Hid (ts.length ≤ 10000000 ∧ ∀ s ∈ ts, s.size ≤ maxLen) ∧ Below w.heap.size w w' := by
  have hsz := h.own.size_le
  refine (callsIn_wide.1 (Try.slices_Sorted_keys_32_33 b n D hdR w h.own (by unfold maxLen; omega) (by omega))).mono ?_
  rintro e w' ⟨v, ss, rfl, hp, hr, hnil, hb⟩
  have hperm : (ss.mergeSort (fun x y => decide (x ≤ y))).Perm ss := List.mergeSort_perm _ _
  have hlen : (ss.mergeSort (fun x y => decide (x ≤ y))).length = ss.length := hperm.length_eq
  have hss : ss.length ≤ 10000000 := by
    have e1 := hp.length_eq
    have e2 : (strKeys D).length = Maps.size D := by
      obtain ⟨es, e⟩ := h.own.isMap
      subst e
      simp [strKeys, Maps.size]
    omega
  have hbl : Below w.heap.size w w' := ((Below.refl _ _).alloc (Nat.le_refl _) (.cells #[.map (some b)] 58)).trans (hb.mono (by simp))
  refine ⟨v, (ss.mergeSort (fun x y => decide (x ≤ y))).map (fun l => (⟨l.toArray⟩ : ByteArray)), rfl, ?_, ?_, ?_, hbl⟩
  · rw [← hlen] at hr
    generalize ss.mergeSort (fun x y => decide (x ≤ y)) = us at *
    have hr' := hr
    rcases hr.2 with ⟨rfl, h0⟩ | ⟨g, cap, cur, rfl, hB, hg, _⟩
    · exact hide ⟨none, 0, by rw [List.length_map, h0], .inl (by rw [List.eq_nil_of_length_eq_zero h0]; rfl)⟩
    · refine hide ⟨some ⟨g, 0, none⟩, cap, by rw [List.length_map], .inr ⟨g, rfl, by simp at hB; omega, (Array.getElem?_eq_some_iff.1 hg).1, fun i hi => ?_⟩⟩
      rw [List.length_map] at hi
      rw [hr'.cellAt i (by omega), List.getElem?_map, List.getElem?_eq_getElem hi]
      simp
  · refine hide fun s => ?_
    have hk := keys_of h s.data.toList
    constructor
    · intro hm
      obtain ⟨l, hl, rfl⟩ := List.mem_map.1 hm
      obtain ⟨s', e1, e2⟩ := (keys_of h l).1 (hp.mem_iff.1 (hperm.mem_iff.1 hl))
      have : (⟨l.toArray⟩ : ByteArray) = s' := ByteArray.ext (by rw [← e1])
      rw [this]
      exact e2
    · intro hg
      exact List.mem_map.2 ⟨s.data.toList, hperm.mem_iff.2 (hp.mem_iff.2 (hk.2 ⟨s, rfl, hg⟩)), ByteArray.ext (by simp)⟩
  · refine hide ⟨by rw [List.length_map, hlen]; exact hss, fun s hm => ?_⟩
    obtain ⟨l, hl, rfl⟩ := List.mem_map.1 hm
    have := strKeys_le h.own Try.underlying9 l (hp.mem_iff.1 (hperm.mem_iff.1 hl))
    exact this
end Go.Proofs.Ytpiapgjiaeddjaa
