/-
  WindowFind of the program.
-/
import Derived.Test.YtcfnmhcdggnkaaaMerged37
set_option linter.unusedVariables false
namespace Go.Proofs.Ytcfnmhcdggnkaaa
open Go.RowKit Go.Maps Go.Deep Go.Shelf

attribute [local go_sem] Oper.semAt_some

theorem keepsOthers_below {W W' : World} (hb : Below W.heap.size W W') : KeepsOthers W W' := KeepsOthers.of_grownBy (row := none) ⟨hb.os, hb.tape, hb.output, hb.size, fun k hk _ => hb.block k hk⟩ (fun j o e => by cases e)
def hitAt (ns : List ItemV) (s : ByteArray) (ver : Int) (i : Nat) : Bool := (ns[i]?.map (hitB · s ver)).getD false
theorem hitAt_eq {ns : List ItemV} {i : Nat} (h : i < ns.length) (s : ByteArray) (ver : Int) : hitAt ns s ver i = hitB ns[i] s ver := by simp [hitAt, h]
theorem find_none {ns : List ItemV} {s : ByteArray} {ver : Int} : ∀ (n : Nat), n ≤ ns.length → (∀ i, i < n → hitAt ns s ver i = false) → findN ns s ver n = -1
  | 0, _, _ => rfl
  | n + 1, hn, h => by
    have := h n (by omega)
    rw [hitAt_eq (by omega)] at this
    rw [find_miss (by omega) this]
    exact find_none n (by omega) (fun i hi => h i (by omega))
theorem find_last {ns : List ItemV} {s : ByteArray} {ver : Int} {q : Nat} : ∀ (n : Nat), n ≤ ns.length → q < n → hitAt ns s ver q = true → (∀ i, q < i → i < n → hitAt ns s ver i = false) → findN ns s ver n = (q : Int)
  | 0, _, h, _, _ => absurd h (Nat.not_lt_zero _)
  | n + 1, hn, hq, hh, h => by
    by_cases e : q = n
    · subst e
      rw [hitAt_eq (by omega)] at hh
      exact find_hit (by omega) hh
    · have := h n (by omega) (by omega)
      rw [hitAt_eq (by omega)] at this
      rw [find_miss (by omega) this]
      exact find_last n (by omega) (by omega) hh (fun i h1 h2 => h i h1 (by omega))
theorem lastL_has {xs : List RawI} {k i : Nat} (hk : k ≤ xs.length) (h1 : xs.length - k ≤ i) (h2 : i < xs.length) : ∃ y ∈ lastL xs k, y.1 = i := by
  refine ⟨_, List.mem_map.2 ⟨xs.length - 1 - i, List.mem_range.2 (by omega), rfl⟩, ?_⟩
  show xs.length - 1 - (xs.length - 1 - i) = i
  omega
/-- none of them has it -/
def NoHit (ns : List ItemV) (s : ByteArray) (ver : Int) (xs : List RawI) (pre : List (RIt xs)) : Prop := ∀ y ∈ pre, hitAt ns s ver y.1.1 = false
theorem noHit_all {ns : List ItemV} {s : ByteArray} {ver : Int} {xs : List RawI} {ys : List (RIt xs)} (hl : xs.length = ns.length) (hy : ys.map (fun x : RIt xs => x.1) = lastL xs xs.length) (h : NoHit ns s ver xs ys) : findN ns s ver ns.length = -1 := by
  refine find_none _ (Nat.le_refl _) fun i hi => ?_
  obtain ⟨y, hm, e⟩ := lastL_has (xs := xs) (k := xs.length) (i := i) (Nat.le_refl _) (by omega) (by omega)
  rw [← hy] at hm
  obtain ⟨z, hz, ez⟩ := List.mem_map.1 hm
  have := h z hz
  rw [ez, e] at this
  exact this
theorem hit_found {ns : List ItemV} {s : ByteArray} {ver : Int} {xs : List RawI} {ini : List (RIt xs)} {last : RIt xs} {k : Nat} (hk : k ≤ xs.length) (hl : xs.length = ns.length) (hy : (ini ++ [last]).map (fun x : RIt xs => x.1) = lastL xs k) (h : NoHit ns s ver xs ini) (hh : hitAt ns s ver last.1.1 = true) : findN ns s ver ns.length = (last.1.1 : Int) := by
  obtain ⟨j, rfl⟩ : ∃ j, k = j + 1 := by
    cases k with
    | zero => simp [lastL] at hy
    | succ j => exact ⟨j, rfl⟩
  rw [lastL_succ, List.map_append] at hy
  obtain ⟨h1, h2⟩ := List.append_inj' hy rfl
  have hla : last.1.1 = xs.length - 1 - j := by
    simp only [List.map_cons, List.map_nil, List.cons.injEq, and_true] at h2
    rw [h2]
  refine find_last _ (Nat.le_refl _) (by omega) hh fun i hi1 hi2 => ?_
  obtain ⟨y, hm, e⟩ := lastL_has (xs := xs) (k := j) (i := i) (by omega) (by omega) (by omega)
  rw [← h1] at hm
  obtain ⟨z, hz, ez⟩ := List.mem_map.1 hm
  have := h z hz
  rw [ez, e] at this
  exact this
set_option maxRecDepth 100000 in
set_option maxHeartbeats 4000000 in
theorem find_yes (ns : List ItemV) (a : Option Addr) (n c : Nat) (s : ByteArray) (ver : Int) (w : World) (hw : windowB orderOut ns = true) (hs : SmallItemS ns) (h : ItemSRd w (.slice a n c) ns) :
    CallsIn Fence.wide 3 Try.prog 13 #[.slice a n c, .string s, .int .i64 ver] w fun e w' => e = .returned (.int .i64 (findN ns s ver ns.length)) ∧ Below w.heap.size w w' := by
  have HS := hide hs.2
  have bl := (((Below.refl w.heap.size w).alloc (Nat.le_refl _) (.cells #[.string s] 9)).alloc (by simp) (.cells #[.int .i64 ver] 3)).alloc (by simp; omega) (.cells #[.int .i64 0] 3)
  have HWO := hide (windowOf_any ns (.slice a n c) (((w.alloc (.cells #[.string s] 9)).alloc (.cells #[.int .i64 ver] 3)).alloc (.cells #[.int .i64 0] 3)) hs (h.up bl))
  have bS := ((Boxed.new w 9 (.string s)).alloc (.cells #[.int .i64 ver] 3)).alloc (.cells #[.int .i64 0] 3)
  have bV := (Boxed.new (w.alloc (.cells #[.string s] 9)) 3 (.int .i64 ver)).alloc (.cells #[.int .i64 0] 3)
  have bR := Boxed.new ((w.alloc (.cells #[.string s] 9)).alloc (.cells #[.int .i64 ver] 3)) 3 (.int .i64 0)
  simp only [World.size_alloc] at bV bR
  have hz1 : (((w.alloc (.cells #[.string s] 9)).alloc (.cells #[.int .i64 ver] 3)).alloc (.cells #[.int .i64 0] 3)).heap.size = w.heap.size + 3 := by simp
  clear h hs
  refine callsIn_of_wp_marks Try.func13 rfl trivial ?_ rfl
  simp only [Try.ntmps13, List.size_toArray, List.length_cons, List.length_nil, Nat.reduceAdd, Nat.reduceSub, Array.replicate_succ, Array.replicate_zero, List.push_toArray, List.append_toArray, List.nil_append, List.cons_append]
  gi_wp2_with fail
  refine ⟨trivial, ?_⟩
  generalize ((w.alloc (.cells #[.string s] 9)).alloc (.cells #[.int .i64 ver] 3)).alloc (.cells #[.int .i64 0] 3) = W1 at *
  refine (callsIn_wide.2 (unhide HWO)).mono ?_
  rintro e w2 ⟨HR, b2⟩
  rcases unhide HR with ⟨h1, _⟩ | ⟨_, g, xs, rfl, hg, hRG, hXS⟩
  · rw [hw] at h1; cases h1
  have bS2 := (b2.block _ bS.lt).trans bS
  have bV2 := (b2.block _ bV.lt).trans bV
  have bR2 := (b2.block _ bR.lt).trans bR
  change Boxed w2 _ _ _ at bS2 bV2 bR2
  have bl2 := bl.trans (b2.mono (by omega))
  have hz2 : w.heap.size + 3 ≤ w2.heap.size := by rw [← hz1]; exact b2.size
  have hgl := hRG.1.lt
  have HM := hide (fun (W : World) (bb : Below w2.heap.size w2 W) (i : Nat) (h1 : i < xs.length) (h2 : i < ns.length) => (hXS.2 i h1 h2).2.up (b2.trans (bb.mono b2.size)))
  have hxl := hXS.1
  clear HR b2 bS bV bR bl HWO hw hXS
  gi_wp2_with fail
  refine ⟨trivial, ?_⟩
  refine (ringSeq_in 2 g w2).mono ?_
  rintro e W0 ⟨rfl, hW0⟩
  have bA := (Boxed.new w2 83 (.pointer (some ⟨g, 0, none⟩))).cell
  rw [← hW0] at bA
  have hs0 : W0.heap.size = w2.heap.size + 1 := by rw [hW0]; simp
  have b0 : Below w2.heap.size w2 W0 := by rw [hW0]; exact (Below.refl _ _).alloc (Nat.le_refl _) _
  have bS0 := boxed_up bS2 b0
  have bV0 := boxed_up bV2 b0
  have bR0 := boxed_up bR2 b0
  have bl0 := bl2.trans (b0.mono (by omega))
  have HM0 := hide (fun (W : World) (bb : Below W0.heap.size W0 W) => unhide HM W (b0.trans (bb.mono b0.size)))
  clear hW0 bS2 bV2 bR2 bl2
  gi_wp2_with fail
  refine wpIn_rangeFunc_ownH rfl (by omega) (gf := 46) (lb := #[.pointer (some ⟨w2.heap.size, 0, none⟩)]) rfl trivial (enters_of Try.func46 (by kernel_rfl) rfl)
    (last_stops 2 (by omega) w2.heap.size (w2.heap.size + 1) g 0 xs [] (by omega) (by omega) (by simp) (by simp) W0 (by omega) bA (hRG.1.up b0)) keepK_t (keepK_b (by omega)) (Below.refl _ _) (fun _ => rfl)
    (fun pre W => (((NoHit ns s ver xs pre ∧ Boxed W w.heap.size 9 (.string s)) ∧ Boxed W (w.heap.size + 1) 3 (.int .i64 ver)) ∧ Boxed W (w.heap.size + 2) 3 (.int .i64 0)) ∧ Below (w2.heap.size + 1) W0 W)
    (fun c pre W => (c = .ret ∧ ∃ ini last, pre = ini ++ [last] ∧ NoHit ns s ver xs ini ∧ hitAt ns s ver last.1.1 = true ∧ W.cell? ⟨w.heap.size + 2, 0, none⟩ = some (.int .i64 (last.1.1 : Int))) ∧ Below w.heap.size w W)
    (OwnFrom.and (OwnFrom.and (OwnFrom.and (OwnFrom.and (ownFrom_pure _ _) (Own.from (boxed_own _ _ _) _)) (Own.from (boxed_own _ _ _) _)) (Own.from (boxed_own _ _ _) _)) (ownFrom_below (by omega) (by omega)))
    (fun c => OwnFrom.and (Own.from (fun s A B row hs hg hr => by obtain ⟨hc, ini, last, e1, e2, e3, e4⟩ := hs; exact ⟨hc, ini, last, e1, e2, e3, cell_kept e4 hg hr⟩) _) (ownFrom_below (Nat.le_refl _) (by omega)))
    ⟨⟨⟨⟨by simp [NoHit], bS0⟩, bV0⟩, bR0⟩, Below.refl _ _⟩
    (fun x a' W => ∃ Bx, w.heap.size + 2 < Bx ∧ BoxI W Bx x.1.2 ∧ a' = { tmps := #[.slice a n c, .string s, .int .i64 ver, undef, .pointer (some ⟨w.heap.size, 0, none⟩), .pointer (some ⟨w.heap.size + 1, 0, none⟩), .pointer (some ⟨w.heap.size + 2, 0, none⟩), .pointer (some ⟨g, 0, none⟩), .bool true, .int .i64 (x.1.1 : Int), .pointer (some ⟨Bx, 0, none⟩), undef, .tuple #[.pointer (some ⟨g, 0, none⟩), .bool true], .slice a n c, .tuple #[.pointer (some ⟨g, 0, none⟩), .bool true], .pointer (some ⟨g, 0, none⟩), .bool true, .bool true, .bool false, .pointer (some ⟨g, 0, none⟩), .pointer (some ⟨g, 0, none⟩), .pointer (some ⟨g, 0, none⟩), .func (.func 46) #[] #[.pointer (some ⟨w2.heap.size, 0, none⟩)], .int .i64 (x.1.1 : Int), .agg #[.int .i64 x.1.2.z, .slice x.1.2.a x.1.2.n x.1.2.c], undef, undef, undef, undef, undef, undef, undef, undef, undef, undef, undef, undef], defers := [] })
    (fun x a' _ X Y row hs hg hr => by obtain ⟨Bx, e1, e2, e3⟩ := hs; exact ⟨Bx, e1, boxI_own Bx x.1.2 () X Y row e2 hg (fun r e => (hr r e).2), e3⟩)
    ?assign ?body ?done ?stop
  case assign =>
    rintro l pre x W K ⟨⟨⟨⟨hp, bS1⟩, bV1⟩, bR1⟩, hB1⟩ hK
    have hs1 := hB1.size
    simp only [encI, RawI.v]
    gi_wp2
    exact hK _ _ ((KeepsOthers.alloc _ _).from _) ((Keep.refl _ _ W).alloc (by omega) _) ⟨⟨⟨⟨hp, bS1.alloc _⟩, bV1.alloc _⟩, bR1.alloc _⟩, hB1.alloc (by omega) _⟩ ⟨W.heap.size, by omega, boxI_new W _, rfl⟩
  case body =>
    rintro l pre x a' W hl ⟨r, hr⟩ ⟨⟨⟨⟨hp, bS1⟩, bV1⟩, bR1⟩, hB1⟩ ⟨Bx, hBx, bX, rfl⟩ hlt
    have cS := bS1.cell
    have cV := bV1.cell
    have cR := bR1.cell
    have fR := bR1.frozen
    have hs1 := hB1.size
    obtain ⟨x0, x1⟩ := boxI_cells bX
    obtain ⟨hi1, hi2⟩ := x.at
    have hi3 : x.1.1 < ns.length := by omega
    have HVI := hide (verIn_any ns[x.1.1].a1 x.1.2.v s W (unhide HS _ (List.getElem_mem hi3)).2 (by rw [← hi2]; exact unhide HM0 W (hB1.mono (by omega)) x.1.1 hi1 hi3))
    unfold RawI.v at HVI
    have HH := hide (hitAt_eq hi3 s ver)
    have HP := hide hp
    unfold hitB at HH
    clear hp hi1 hi2
    generalize getV ns[x.1.1].a1 s = vl at *
    gi_wp2_with fail
    refine ⟨trivial, ?_⟩
    refine (CallsIn.inRound l (callsIn_wide.2 (unhide HVI))).mono ?_
    rintro e w5 ⟨rfl, b5⟩
    have KO := keepsOthers_below b5
    have bS5 := boxed_up bS1 b5
    have bV5 := boxed_up bV1 b5
    have bR5 := boxed_up bR1 b5
    have hB5 := hB1.trans (b5.mono (by omega))
    have hk5 : Keep (w2.heap.size + 1) [] W w5 := Keep.of_below (b5.mono (by omega))
    have cV5 := bV5.cell
    have cR5 := bR5.cell
    have fR5 := bR5.frozen
    clear b5 cS cV cR fR x0 x1 bS1 bV1 bR1 HVI bX
    have HNO := hide (show hitAt ns s ver x.1.1 = false → NoHit ns s ver xs (pre ++ [x]) from fun h y hy => (List.mem_append.1 hy).elim (unhide HP y) (fun e => by simp at e; subst e; exact h))
    by_cases h1 : 0 < vl
    · by_cases h2 : vl ≤ ver
      · have HY := hide (show hitAt ns s ver x.1.1 = true by rw [unhide HH]; simp [h1, h2])
        clear HH
        gi_wp2
        exact ⟨(KO.trans (KeepsOthers.setCell _ _ _)).from _, ⟨rfl, pre, x, rfl, unhide HP, unhide HY, World.cell?_setCell_same' _ _ _ (by rw [cR5]; rfl)⟩, (bl0.trans (hB5.mono (by omega))).setCell (p := ⟨w.heap.size + 2, 0, none⟩) (by simp) _⟩
      · have HY := hide (unhide HNO (show hitAt ns s ver x.1.1 = false by rw [unhide HH]; simp [h2]))
        clear HH
        gi_wp2
        exact ⟨KO.from _, hk5, ⟨⟨⟨unhide HY, bS5⟩, bV5⟩, bR5⟩, hB5⟩
    · have HY := hide (unhide HNO (show hitAt ns s ver x.1.1 = false by rw [unhide HH]; simp [h1]))
      clear HH
      gi_wp2
      exact ⟨KO.from _, hk5, ⟨⟨⟨unhide HY, bS5⟩, bV5⟩, bR5⟩, hB5⟩
  case done =>
    rintro D ys W hD hys ⟨⟨⟨⟨hne, bS1⟩, bV1⟩, bR1⟩, hB1⟩ hK
    have HE := hide (noHit_all hxl hys hne)
    have cR := bR1.cell
    have fR := bR1.frozen
    clear hne hys
    gi_wp2
    have hK' := (KeepsOthers.setCell W ⟨w.heap.size + 2, 0, none⟩ (.int .i64 (-1))).same D _ hK rfl
    refine ⟨by simp, .inl ⟨_, _, rfl, run_takeDeferred hK', ?_⟩⟩
    have hc5 := cell_kept (bR1.set (.int .i64 (-1))).cell (grownBy_putObj' _ D (.deferred none)) (fun r e => by cases e; exact ⟨_, hK', rfl⟩)
    refine ⟨.int .i64 (-1), ?_, by rw [unhide HE], ((bl0.trans (hB1.mono (by omega))).setCell (p := ⟨w.heap.size + 2, 0, none⟩) (by simp) _).trans (belowK_b (w := w) (Nat.le_refl _) _ D _ _ (by omega) hK' rfl rfl)⟩
    simp [results, Try.f13, go_sem, hc5]
  case stop =>
    rintro D c pre W hD ⟨k, hk, hpre⟩ ⟨⟨rfl, ini, last, rfl, e2, e3, hcr⟩, hB⟩ hK
    have HE := hide (hit_found hk hxl hpre e2 e3)
    gi_wp2
    refine ⟨by simp, .inl ⟨_, _, rfl, run_takeDeferred hK, ?_⟩⟩
    have hc5 := cell_kept hcr (grownBy_putObj' _ D (.deferred none)) (fun r e => by cases e; exact ⟨_, hK, rfl⟩)
    refine ⟨.int .i64 (last.1.1 : Int), ?_, by rw [unhide HE], hB.trans (belowK_b (w := w) (Nat.le_refl _) W D _ _ (by omega) hK rfl rfl)⟩
    simp [results, Try.f13, go_sem, hc5]
set_option maxHeartbeats 1600000 in
set_option maxRecDepth 20000 in
theorem implFind_any (ns : List ItemV) (v : Value) (s : ByteArray) (ver : Int) (w : World) (hs : SmallItemS ns) (_ : s.size ≤ 1048576) (_ : IntFit ver) (h : ItemSRd w v ns) :
    Calls Try.prog 13 #[v, .string s, .int .i64 ver] w fun e w' => e = .returned (.int .i64 (findOut orderOut ns s ver)) ∧ Below w.heap.size w w' := by
  obtain ⟨a, n, c, rfl⟩ := h.form
  unfold findOut
  cases hw : windowB orderOut ns
  · have bl := (((Below.refl w.heap.size w).alloc (Nat.le_refl _) (.cells #[.string s] 9)).alloc (by simp) (.cells #[.int .i64 ver] 3)).alloc (by simp; omega) (.cells #[.int .i64 0] 3)
    have HWO := hide (windowOf_any ns (.slice a n c) (((w.alloc (.cells #[.string s] 9)).alloc (.cells #[.int .i64 ver] 3)).alloc (.cells #[.int .i64 0] 3)) hs (h.up bl))
    have bR := Boxed.new ((w.alloc (.cells #[.string s] 9)).alloc (.cells #[.int .i64 ver] 3)) 3 (.int .i64 0)
    simp only [World.size_alloc] at bR
    have hz1 : (((w.alloc (.cells #[.string s] 9)).alloc (.cells #[.int .i64 ver] 3)).alloc (.cells #[.int .i64 0] 3)).heap.size = w.heap.size + 3 := by simp
    clear h hs
    refine (callsIn_wide (n := 3)).1 ?_
    refine callsIn_of_wp_marks Try.func13 rfl trivial ?_ rfl
    simp only [Try.ntmps13, List.size_toArray, List.length_cons, List.length_nil, Nat.reduceAdd, Nat.reduceSub, Array.replicate_succ, Array.replicate_zero, List.push_toArray, List.append_toArray, List.nil_append, List.cons_append]
    gi_wp2_with fail
    refine ⟨trivial, ?_⟩
    generalize ((w.alloc (.cells #[.string s] 9)).alloc (.cells #[.int .i64 ver] 3)).alloc (.cells #[.int .i64 0] 3) = W1 at *
    refine (callsIn_wide.2 (unhide HWO)).mono ?_
    rintro e w2 ⟨HR, b2⟩
    rcases unhide HR with ⟨_, rfl⟩ | ⟨h1, _⟩
    · have bR2 : Boxed w2 (w.heap.size + 2) 3 (.int .i64 0) := (b2.block _ bR.lt).trans bR
      have bl2 := bl.trans (b2.mono (by omega))
      have cR := bR2.cell
      have fR := bR2.frozen
      clear HR b2 bR bl HWO hw
      gi_wp2
      have hc5 := (bR2.set (.int .i64 (-1))).cell
      refine ⟨.int .i64 (-1), ?_, by simp, bl2.setCell (p := ⟨w.heap.size + 2, 0, none⟩) (by simp) _⟩
      simp [results, Try.f13, go_sem, hc5]
    · rw [hw] at h1; cases h1
  · refine (callsIn_wide (n := 3)).1 ((find_yes ns a n c s ver w hw hs h).mono ?_)
    rintro e w' ⟨rfl, hb⟩
    exact ⟨by simp, hb⟩
theorem specFind_ok (ns : List ItemV) (v : Value) (s : ByteArray) (ver : Int) (w : World) (hs : SmallItemS ns) (_ : s.size ≤ 1048576) (_ : IntFit ver) (h : ItemSRd w v ns) : Calls Try.prog 14 #[v, .string s, .int .i64 ver] w fun e w' => e = .returned (.int .i64 (findOut orderOut ns s ver)) ∧ Below w.heap.size w w' := specFind_any orderOut ordSaid ns v s ver w hs h
end Go.Proofs.Ytcfnmhcdggnkaaa
