/-
  The program's latest: one of the windows that share a source, whose item has the latest version of it.
-/
/-
  When no source is late the places are the greatest choice: mathematics.
-/
/-
  The contracts of the keys of a map, sorted, at this program.
-/
/-
  The sources of a chooser's map, sorted.
-/
import Derived.Test.YtknkdbfgfcgkiaaGreatDoorMerged35
import Derived.Test.YtknkdbfgfcgkiaaGreatDoorMerged40
import Derived.Test.YtknkdbfgfcgkiaaGreatDoorMerged37
import Derived.Shelf.SlIter.Nil
import Derived.Shelf.SortM.Plain
import Derived.Shelf.SortM.SortNone
import Derived.Test.YtknkdbfgfcgkiaaGreatDoorMerged36
import Derived.Sort.KeysCollected
set_option linter.unusedVariables false
namespace Go.Proofs.YtknkdbfgfcgkiaaGreatDoor
open Go.RowKit Go.Maps Go.Deep

theorem cmp_neg (x y : Int) : decide (cmpI x y < 0) = decide (x < y) := by
  unfold cmpI
  by_cases h1 : x < y
  · simp [h1]
  · rw [if_neg h1]
    split <;> simp [h1]
set_option maxRecDepth 20000 in
set_option maxHeartbeats 800000 in
theorem latest_any {w : World} {bc bm nn g c : Nat} {D : DataW Unit} {G : ByteArray → Hd} {ws : List (List ItemV)} {q : List Int} {ns : List Nat} {s : ByteArray} (h : Sees w bc ws q) (hs : SmallItemSS ws) (h6 : ws.length ≤ 6) (hq : InR ws q) (hm : HdMap w bm nn D G) (b2 : w.cell? ⟨bc, 2, none⟩ = some (.map (some bm)))
    (hsz : s.size ≤ maxLen) (hG : G s = some (g, ns.length, c)) (hc : ∀ i (h : i < ns.length), w.cell? ⟨g, i, none⟩ = some (.int .i64 ((ns[i] : Nat) : Int))) (h0 : 0 < ns.length) (hl : ns.length ≤ 1000000) (hn : ∀ a ∈ ns, a < ws.length) (V : Nat → Int) (hV : ∀ i, V i = verC ws q i s) (mx mn : Nat) (hmx : mx = maxFP V ns (ns.length - 1)) (hmn : mn = minFP V ns (ns.length - 1)) :
    Calls Tryz.prog 128 #[.pointer (some ⟨bc, 0, none⟩), .string s] w fun e w' => e = .returned (.tuple #[.int .i64 (mx : Int), .bool (decide (V mn < V mx))]) ∧ Below w.heap.size w w' := by
  have FACTS : ∀ (X : World) (p2 p3 : Nat), Below w.heap.size w X → X.cell? ⟨p2, 0, none⟩ = some (.pointer (some ⟨bc, 0, none⟩)) → X.cell? ⟨p3, 0, none⟩ = some (.string s) →
      (Instr.lookup 192 (.map (some bm)) (.string s) false).run Tryz.prog X = .ok (.slice (some ⟨g, 0, none⟩) ns.length c) X ∧ X.cell? ⟨bc, 2, none⟩ = some (.map (some bm)) ∧
      (Calls Tryz.prog 138 #[.slice (some ⟨g, 0, none⟩) ns.length c, .func (.func 135) #[] #[.pointer (some ⟨p2, 0, none⟩), .pointer (some ⟨p3, 0, none⟩)]] X fun e w' => e = .returned (.int .i64 (mx : Int)) ∧ Below X.heap.size X w') ∧
      (Calls Tryz.prog 139 #[.slice (some ⟨g, 0, none⟩) ns.length c, .func (.func 135) #[] #[.pointer (some ⟨p2, 0, none⟩), .pointer (some ⟨p3, 0, none⟩)]] X fun e w' => e = .returned (.int .i64 (mn : Int)) ∧ Below X.heap.size X w') ∧
      (Calls Tryz.prog 135 #[.int .i64 (mn : Int), .int .i64 (mx : Int), .pointer (some ⟨p2, 0, none⟩), .pointer (some ⟨p3, 0, none⟩)] X fun e w' => e = .returned (.int .i64 (cmpI (V mn) (V mx))) ∧ Below X.heap.size X w') := by
    intro X p2 p3 bX c2 c3
    have by0 : ∀ Y, Below X.heap.size X Y → ∀ a b : Nat, a < ws.length → b < ws.length → Calls Tryz.prog 135 #[.int .i64 (a : Int), .int .i64 (b : Int), .pointer (some ⟨p2, 0, none⟩), .pointer (some ⟨p3, 0, none⟩)] Y fun e w' => e = .returned (.int .i64 (cmpI (V a) (V b))) ∧ Below Y.heap.size Y w' := by
      intro Y bY a b ha hb
      rw [hV, hV]
      exact byVer_any ((h.up bX).up bY) hs h6 hq s ((bY.cell (lt_of_cell0 c2)).trans c2) ((bY.cell (lt_of_cell0 c3)).trans c3) a ha b hb
    have hcX : ∀ i (h : i < ns.length), X.cell? ⟨g, i, none⟩ = some (.int .i64 ((ns[i] : Nat) : Int)) := fun i hi => (bX.cell (lt_of_cell0 (hc i hi))).trans (hc i hi)
    have hx := maxFP_of V h0
    have hy := minFP_of V h0
    refine ⟨?_, (bX.cell (lt_of_cell0 b2)).trans b2, ?_, ?_, by0 X (Below.refl _ _) mn mx (by rw [hmn]; exact hn _ hy.1) (by rw [hmx]; exact hn _ hx.1)⟩
    · have := (hm.up bX).look hsz Tryz.underlying192
      rw [hG] at this
      exact this
    · rw [hmx]
      exact maxF_any by0 hcX h0 hl hn
    · rw [hmn]
      exact minF_any by0 hcX h0 hl hn
  have HF := hide FACTS
  have HLT := hide (cmp_neg (V mn) (V mx))
  clear FACTS h hs hq hm b2 hG hc hn hV hmx hmn
  generalize cmpI (V mn) (V mx) = cc at *
  generalize decide (V mn < V mx) = dd at *
  go_enter Tryz.func128, Tryz.ntmps128
  go_wp2_with fail
  obtain ⟨W, hW⟩ : ∃ W, W = (w.alloc (.cells #[.pointer (some ⟨bc, 0, none⟩)] 180)).alloc (.cells #[.string s] 9) := ⟨_, rfl⟩
  have bW : Below w.heap.size w W := by rw [hW]; exact ((Below.refl _ _).alloc (Nat.le_refl _) _).alloc (by simp) _
  have b1 : Below (w.alloc (.cells #[.pointer (some ⟨bc, 0, none⟩)] 180)).heap.size (w.alloc (.cells #[.pointer (some ⟨bc, 0, none⟩)] 180)) W := by rw [hW]; exact (Below.refl _ _).alloc (Nat.le_refl _) _
  have c2 : W.cell? ⟨w.heap.size, 0, none⟩ = some (.pointer (some ⟨bc, 0, none⟩)) := (b1.cell (by simp)).trans (World.cell?_alloc_at _ _ _ _ rfl)
  have c3 : W.cell? ⟨w.heap.size + 1, 0, none⟩ = some (.string s) := by
    have := (World.cell?_alloc_at _ _ _ _ rfl : ((w.alloc (.cells #[.pointer (some ⟨bc, 0, none⟩)] 180)).alloc (.cells #[.string s] 9)).cell? ⟨(w.alloc (.cells #[.pointer (some ⟨bc, 0, none⟩)] 180)).heap.size, 0, none⟩ = some (.string s))
    rw [show (w.alloc (.cells #[.pointer (some ⟨bc, 0, none⟩)] 180)).heap.size = w.heap.size + 1 by simp] at this
    rw [hW]
    exact this
  rw [← hW]
  generalize hp2 : w.heap.size + 1 = p3 at *
  have BW := hide bW
  clear hW b1 bW hp2
  have HX := hide (fun (x : LaterW W) => (unhide HF) x.to w.heap.size p3 ((unhide BW).trans (x.bel.mono (unhide BW).size)) (x.cell c2) (x.cell c3))
  have r0 : ∀ x : LaterW W, x.to.cell? ⟨w.heap.size, 0, none⟩ = some (.pointer (some ⟨bc, 0, none⟩)) := fun x => x.cell c2
  have r1 : ∀ x : LaterW W, x.to.cell? ⟨p3, 0, none⟩ = some (.string s) := fun x => x.cell c3
  have r2 : ∀ x : LaterW W, x.to.cell? ⟨bc, 2, none⟩ = some (.map (some bm)) := fun x => (unhide HX x).2.1
  have r3 : ∀ x : LaterW W, (Instr.lookup 192 (.map (some bm)) (.string s) false).run Tryz.prog x.to = .ok (.slice (some ⟨g, 0, none⟩) ns.length c) x.to := fun x => (unhide HX x).1
  refine wp_region_later (by kernel_rfl) (by kernel_rfl) ?_
  repeat (go_big_quiet_step ((go_at_call 138; exact quiet_ret (unhide HX _).2.2.1)))
  refine wpQuiet_nil ?_
  rintro _ ⟨x, rfl⟩
  have B1 := hide ((unhide BW).trans (x.bel.mono (unhide BW).size))
  have d2 := x.cell c2
  have d3 := x.cell c3
  clear r0 r1 r2 r3 HX c2 c3
  generalize x.to = U at *
  clear x
  have HY := hide (fun (x : LaterW U) => (unhide HF) x.to w.heap.size p3 ((unhide B1).trans (x.bel.mono (unhide B1).size)) (x.cell d2) (x.cell d3))
  have r0 : ∀ x : LaterW U, x.to.cell? ⟨w.heap.size, 0, none⟩ = some (.pointer (some ⟨bc, 0, none⟩)) := fun x => x.cell d2
  have r1 : ∀ x : LaterW U, x.to.cell? ⟨p3, 0, none⟩ = some (.string s) := fun x => x.cell d3
  have r2 : ∀ x : LaterW U, x.to.cell? ⟨bc, 2, none⟩ = some (.map (some bm)) := fun x => (unhide HY x).2.1
  have r3 : ∀ x : LaterW U, (Instr.lookup 192 (.map (some bm)) (.string s) false).run Tryz.prog x.to = .ok (.slice (some ⟨g, 0, none⟩) ns.length c) x.to := fun x => (unhide HY x).1
  go_wp2_with fail
  refine wp_region_later (by kernel_rfl) (by kernel_rfl) ?_
  repeat (go_big_quiet_step (first | (go_at_call 139; exact quiet_ret (unhide HY _).2.2.2.1) | (go_at_call 135; exact quiet_ret (unhide HY _).2.2.2.2)))
  refine wpQuiet_nil ?_
  rintro _ ⟨x, rfl⟩
  have B2 := hide ((unhide B1).trans (x.bel.mono (unhide B1).size))
  clear r0 r1 r2 r3 HY
  go_wp2_with fail
  refine bodyPost_ret (v := .tuple #[.int .i64 (mx : Int), .bool dd]) ?_ rfl ?_
  · rw [← unhide HLT]
    simp [results, Tryz.results128, go_sem]
  exact ⟨rfl, unhide B2⟩
end Go.Proofs.YtknkdbfgfcgkiaaGreatDoor

set_option linter.unusedVariables false
namespace Go.Proofs.YtknkdbfgfcgkiaaGreatDoor
open Go.RowKit Go.Maps Go.Deep

/-- the windows that share a source, as natural numbers -/
theorem shC_nats (ws : List (List ItemV)) (s : ByteArray) : ∃ ns : List Nat, shC ws s = ns.map Int.ofNat ∧ ns.length ≤ ws.length ∧ (∀ a ∈ ns, a < ws.length ∧ namB (frst ws a) s = true) ∧ (ns ≠ [] → ∀ a, a < ws.length → namB (frst ws a) s = true → a ∈ ns) := by
  have he : shr ws ws.length 0 s = ((List.range ws.length).filter (fun a => namB (frst ws a) s)).map Int.ofNat := by
    unfold shr
    rw [List.take_zero, namB_nil]
    simp
  unfold shC
  split
  · exact ⟨[], rfl, Nat.zero_le _, fun a h => by simp at h, fun h => absurd rfl h⟩
  · refine ⟨_, he, ?_, fun a ha => ?_, fun _ a ha hn => List.mem_filter.2 ⟨List.mem_range.2 ha, hn⟩⟩
    · have := List.length_filter_le (fun a => namB (frst ws a) s) (List.range ws.length)
      rwa [List.length_range] at this
    · obtain ⟨h1, h2⟩ := List.mem_filter.1 ha
      exact ⟨List.mem_range.1 h1, h2⟩
/-- all windows that have a source have one version of it -/
def EvenS (ws : List (List ItemV)) (q : List Int) (s : ByteArray) : Prop := ∀ a b, a < ws.length → b < ws.length → 0 < verC ws q a s → 0 < verC ws q b s → ¬ verC ws q b s < verC ws q a s
theorem even_of {ws : List (List ItemV)} {q : List Int} {s : ByteArray} {ns : List Nat} {V : Nat → Int} (hw : winsB ws = true) (hq : InR ws q) (hV : ∀ i, V i = verC ws q i s) (h0 : 0 < ns.length) (hall : ns ≠ [] → ∀ a, a < ws.length → namB (frst ws a) s = true → a ∈ ns)
    (hn : ¬ V (minFP V ns (ns.length - 1)) < V (maxFP V ns (ns.length - 1))) : EvenS ws q s := by
  intro a b ha hb h1 h2 hlt
  have hne : ns ≠ [] := List.length_pos_iff.1 h0
  have ma := hall hne a ha ((nam_ver hw hq ha s).2 h1)
  have mb := hall hne b hb ((nam_ver hw hq hb s).2 h2)
  have x1 := (maxFP_of V h0).2 a ma
  have x2 := (minFP_of V h0).2 b mb
  rw [hV a] at x1
  rw [hV b] at x2
  omega
theorem late_of {ws : List (List ItemV)} {q : List Int} {s : ByteArray} {ns : List Nat} {V : Nat → Int} (hw : winsB ws = true) (hq : InR ws q) (hu : UB ws q) (hV : ∀ i, V i = verC ws q i s) (h0 : 0 < ns.length) (hin : ∀ a ∈ ns, a < ws.length ∧ namB (frst ws a) s = true) {mx : Nat} (hmx : mx = maxFP V ns (ns.length - 1))
    (hl : V (minFP V ns (ns.length - 1)) < V mx) : mx < ws.length ∧ (q.getD mx 0 = 0 → ∀ p, ¬ IsCh ws p) ∧ (q.getD mx 0 ≠ 0 → InR ws (q.set mx (q.getD mx 0 - 1)) ∧ UB ws (q.set mx (q.getD mx 0 - 1))) := by
  subst hmx
  have hx := hin _ (maxFP_of V h0).1
  have hy := hin _ (minFP_of V h0).1
  rw [hV, hV] at hl
  exact ⟨hx.1, late_step hw hq hu hx.1 hy.1 ((nam_ver hw hq hy.1 s).1 hy.2) hl⟩
theorem all_even {ws : List (List ItemV)} {q : List Int} (hw : winsB ws = true) (hq : InR ws q) (h : ∀ s, shC ws s ≠ [] → EvenS ws q s) : IsCh ws q := by
  refine even_agrees hw hq fun s a b ha hb h1 h2 hlt => ?_
  have na := (nam_ver hw hq ha s).2 h1
  have nb := (nam_ver hw hq hb s).2 h2
  have ma : (a : Int) ∈ shr ws ws.length 0 s := shr_mem.2 ⟨a, rfl, ha, na⟩
  have mb : (b : Int) ∈ shr ws ws.length 0 s := shr_mem.2 ⟨b, rfl, hb, nb⟩
  by_cases hone : (shr ws ws.length 0 s).length = 1
  · obtain ⟨x, hx⟩ := List.length_eq_one_iff.1 hone
    rw [hx] at ma mb
    have e1 := List.mem_singleton.1 ma
    have e2 := List.mem_singleton.1 mb
    have : a = b := by omega
    subst this
    omega
  · refine h s ?_ a b ha hb h1 h2 hlt
    unfold shC
    rw [if_neg hone]
    exact List.ne_nil_of_mem ma
theorem has_list {B : Nat} {w : World} {G : ByteArray → Hd} {sh : ByteArray → List Int} {pr : Option Nat} (h : ShRows B w G sh pr) (s : ByteArray) : G s ≠ none ↔ sh s ≠ [] := by
  refine ⟨h.non s, fun hs hn => hs ?_⟩
  have hr := h.row s
  rw [hn] at hr
  obtain ⟨a, c, e⟩ := hr.form
  simp only [hdV, Value.slice.injEq] at e
  exact List.eq_nil_of_length_eq_zero e.2.1.symm
end Go.Proofs.YtknkdbfgfcgkiaaGreatDoor

namespace Go.Proofs
open Go.RowKit Go.Maps Go.Sort Go.Shelf


theorem Tryz.sorts126 (m : Nat) : AnyZ.SortsIn Tryz.prog Tryz.sorted126_ren Fence.wide m :=
  ⟨fun blk off cap ss W hH hblk hsz => callsIn_wide.2 (AnyM.slices_Sort_string Tryz.sort133 blk off cap ss W hH hblk hsz),
   fun p cap W => callsIn_wide.2 (AnyM.slices_Sort_string_none Tryz.sort133 p cap W)⟩

theorem Tryz.maps_Keys_127 (mb : Option Nat) (W : World) : CallsIn Fence.wide 5 Tryz.prog 127 #[.map mb] W fun e w' => e = .returned (.func (.func 134) #[] #[.pointer (some ⟨W.heap.size, 0, none⟩)]) ∧ w' = W.alloc (.cells #[.map mb] 192) :=
  AnyZ.keys_in Tryz.keys127 Fence.wide 5 trivial rfl mb W

set_option maxHeartbeats 1000000 in
theorem Tryz.slices_Sorted_keys_126_127 {H : Type} (b nn : Nat) (D0 : DataW H) (R : Value → Option (DataW H × List MemPlace)) (w : World) (hown : w.ownsMap Tryz.prog 9 R b nn D0) (hmax : Maps.size D0 ≤ maxLen) (hbytes : Maps.size D0 * 16 ≤ 140737488355328) :
    CallsIn Fence.wide 5 Tryz.prog 126 #[.func (.func 134) #[] #[.pointer (some ⟨w.heap.size, 0, none⟩)]] (w.alloc (.cells #[.map (some b)] 192)) fun e w' => ∃ (v : Value) (ss : List (List UInt8)), e = .returned v ∧ ss.Perm (strKeys D0) ∧
      w'.ownsRow (w.alloc (.cells #[.map (some b)] 192)).heap.size 9 1 v ss.length ((ss.mergeSort (fun x y => decide (x ≤ y))).map encStr) ∧ (v = .slice none 0 0 ↔ ss = []) ∧ Below (w.alloc (.cells #[.map (some b)] 192)).heap.size (w.alloc (.cells #[.map (some b)] 192)) w' := by
  have hbl := hown.lt
  have hseq : SeqGives Fence.wide 2 Tryz.prog 134 #[.pointer (some ⟨w.heap.size, 0, none⟩)] encStr (fun ss => ss.Perm (strKeys D0)) (Maps.size D0) (w.alloc (.cells #[.map (some b)] 192)) :=
    AnyZ.keys_gives (ρ := Tryz.keys127_ren) { Tryz.keys127 with } Fence.wide _ trivial rfl (by omega) w.heap.size b nn D0 _ (by simp) (by simp) (by
      obtain ⟨es, clock, hb, Ft, hs, hD⟩ := hown
      exact ⟨es, clock, (Below.heap_alloc _ _ b hbl).trans hb, Ft, hs, hD⟩)
  exact AnyZ.sorted_in Tryz.sorted126 Fence.wide 5 trivial trivial trivial trivial rfl (by omega) (Tryz.sorts126 _) (enters_of Tryz.func133 (by kernel_rfl) rfl) 134 #[.pointer (some ⟨w.heap.size, 0, none⟩)] trivial (enters_of Tryz.func134 (by kernel_rfl) rfl) _ _ hmax hbytes _ hseq

end Go.Proofs

set_option linter.unusedVariables false
namespace Go.Proofs.YtknkdbfgfcgkiaaGreatDoor
open Go.RowKit Go.Maps Go.Deep

theorem keys_of {w : World} {b n : Nat} {D : DataW Unit} {G : ByteArray → Hd} (h : HdMap w b n D G) (t : List UInt8) : t ∈ strKeys D ↔ ∃ s : ByteArray, s.data.toList = t ∧ G s ≠ none := by
  obtain ⟨es, e, hko⟩ := h.own.keysOf
  have hth := h.there
  subst e
  have hks : ∀ p ∈ es, ∃ x, p.1 = Lit.string x := fun p hp => by
    obtain ⟨v, hv⟩ := hko p hp
    obtain ⟨x, _, hx, _⟩ := Maps.keyOf_str Tryz.underlying9 hv
    exact ⟨x, hx⟩
  unfold strKeys
  constructor
  · intro ht
    obtain ⟨p, hp, e⟩ := List.mem_map.1 ht
    obtain ⟨x, hx⟩ := hks p hp
    rw [hx] at e
    simp only [strOf] at e
    subst e
    refine ⟨⟨x.toArray⟩, by simp, fun hn => ?_⟩
    have := hth ⟨x.toArray⟩
    rw [hn] at this
    rw [has_eq, Option.isSome_none, List.any_eq_false] at this
    have hp2 := this p hp
    rw [hx] at hp2
    simp [keyL, Lit.sameKey] at hp2
  · rintro ⟨s, rfl, hs⟩
    have := hth s
    rw [has_eq, Option.isSome_iff_ne_none.2 hs, List.any_eq_true] at this
    obtain ⟨p, hp, e⟩ := this
    have e1 := WideAt.sameKey_eq e
    exact List.mem_map.2 ⟨p, hp, by rw [e1]; rfl⟩
/-- a list of texts that may be read, in a block from B on -/
def SrcRd (B : Nat) (w : World) (v : Value) (ts : List ByteArray) : Prop := ∃ a c, v = .slice a ts.length c ∧ (ts = [] ∨ ∃ g, a = some ⟨g, 0, none⟩ ∧ B ≤ g ∧ g < w.heap.size ∧ ∀ i (h : i < ts.length), w.cell? ⟨g, i, none⟩ = some (.string ts[i]))
theorem SrcRd.turn {B : Nat} {S : List Nat} {w w' : World} {v : Value} {ts : List ByteArray} (h : SrcRd B w v ts) (t : Turn S w w') (hS : ∀ k ∈ S, k < B) : SrcRd B w' v ts := by
  obtain ⟨a, c, e, h⟩ := h
  refine ⟨a, c, e, h.imp id ?_⟩
  rintro ⟨g, e1, e2, e3, e4⟩
  exact ⟨g, e1, e2, Nat.lt_of_lt_of_le e3 t.size, fun i hi => (t.cell e3 (fun hm => by have := hS g hm; omega)).trans (e4 i hi)⟩
theorem keysFn_any (b : Nat) (w : World) : Calls Tryz.prog 127 #[.map (some b)] w fun e w' => e = .returned (.func (.func 134) #[] #[.pointer (some ⟨w.heap.size, 0, none⟩)]) ∧ w' = w.alloc (.cells #[.map (some b)] 192) :=
  callsIn_wide.1 (Tryz.maps_Keys_127 (some b) w)
theorem sorted_any {w : World} {b n : Nat} {D : DataW Unit} {G : ByteArray → Hd} (h : HdMap w b n D G) (hn : n ≤ 10000000) :
    Calls Tryz.prog 126 #[.func (.func 134) #[] #[.pointer (some ⟨w.heap.size, 0, none⟩)]] (w.alloc (.cells #[.map (some b)] 192)) fun e w' => ∃ (v : Value) (ts : List ByteArray), e = .returned v ∧ Hid (SrcRd w.heap.size w' v ts) ∧ Hid (∀ s, s ∈ ts ↔ G s ≠ none) ∧ Hid (ts.length ≤ 10000000 ∧ ∀ s ∈ ts, s.size ≤ maxLen) ∧ Below w.heap.size w w' := by
  have hsz := h.own.size_le
  refine (callsIn_wide.1 (Tryz.slices_Sorted_keys_126_127 b n D hdR w h.own (by unfold maxLen; omega) (by omega))).mono ?_
  rintro e w' ⟨v, ss, rfl, hp, hr, hnil, hb⟩
  have hperm : (ss.mergeSort (fun x y => decide (x ≤ y))).Perm ss := List.mergeSort_perm _ _
  have hlen : (ss.mergeSort (fun x y => decide (x ≤ y))).length = ss.length := hperm.length_eq
  have hss : ss.length ≤ 10000000 := by
    have e1 := hp.length_eq
    have e2 : (strKeys D).length = Maps.size D := by
      obtain ⟨es, e⟩ := h.own.isMap
      subst e
      simp [strKeys, Maps.size]
    omega
  have hbl : Below w.heap.size w w' := ((Below.refl _ _).alloc (Nat.le_refl _) (.cells #[.map (some b)] 192)).trans (hb.mono (by simp))
  refine ⟨v, (ss.mergeSort (fun x y => decide (x ≤ y))).map (fun l => (⟨l.toArray⟩ : ByteArray)), rfl, ?_, ?_, ?_, hbl⟩
  · rw [← hlen] at hr
    generalize ss.mergeSort (fun x y => decide (x ≤ y)) = us at *
    have hr' := hr
    rcases hr.2 with ⟨rfl, h0⟩ | ⟨g, cap, cur, rfl, hB, hg, _⟩
    · exact hide ⟨none, 0, by rw [List.length_map, h0], .inl (by rw [List.eq_nil_of_length_eq_zero h0]; rfl)⟩
    · refine hide ⟨some ⟨g, 0, none⟩, cap, by rw [List.length_map], .inr ⟨g, rfl, by simp at hB; omega, (Array.getElem?_eq_some_iff.1 hg).1, fun i hi => ?_⟩⟩
      rw [List.length_map] at hi
      rw [hr'.cellAt i (by omega), List.getElem?_map, List.getElem?_eq_getElem hi]
      simp
  · refine hide fun s => ?_
    have hk := keys_of h s.data.toList
    constructor
    · intro hm
      obtain ⟨l, hl, rfl⟩ := List.mem_map.1 hm
      obtain ⟨s', e1, e2⟩ := (keys_of h l).1 (hp.mem_iff.1 (hperm.mem_iff.1 hl))
      have : (⟨l.toArray⟩ : ByteArray) = s' := ByteArray.ext (by rw [← e1])
      rw [this]
      exact e2
    · intro hg
      exact List.mem_map.2 ⟨s.data.toList, hperm.mem_iff.2 (hp.mem_iff.2 (hk.2 ⟨s, rfl, hg⟩)), ByteArray.ext (by simp)⟩
  · refine hide ⟨by rw [List.length_map, hlen]; exact hss, fun s hm => ?_⟩
    obtain ⟨l, hl, rfl⟩ := List.mem_map.1 hm
    have := strKeys_le h.own Tryz.underlying9 l (hp.mem_iff.1 (hperm.mem_iff.1 hl))
    exact this
end Go.Proofs.YtknkdbfgfcgkiaaGreatDoor
