/-
  The lexicon: made for a call; its way back, made once.
-/
import Derived.Test.YtiebfcefmdiajaaGreatDoorMerged40
set_option linter.unusedVariables false
namespace Go.Proofs.YtiebfcefmdiajaaGreatDoor
open Go.RowKit Go.Maps Go.Deep

theorem BoxF.five {w : World} {g : Nat} {a b c d e : Value} (h : BoxF w g [a, b, c, d, e]) : (w.cell? ⟨g, 0, none⟩ = some a ∧ w.cell? ⟨g, 1, none⟩ = some b ∧ w.cell? ⟨g, 2, none⟩ = some c ∧ w.cell? ⟨g, 3, none⟩ = some d ∧ w.cell? ⟨g, 4, none⟩ = some e) ∧ (w.frozen? ⟨g, 0, none⟩ = false ∧ w.frozen? ⟨g, 1, none⟩ = false ∧ w.frozen? ⟨g, 2, none⟩ = false ∧ w.frozen? ⟨g, 3, none⟩ = false ∧ w.frozen? ⟨g, 4, none⟩ = false) :=
  ⟨⟨h.1.at 0 _ rfl, h.1.at 1 _ rfl, h.1.at 2 _ rfl, h.1.at 3 _ rfl, h.1.at 4 _ rfl⟩, h.2 0 (by simp), h.2 1 (by simp), h.2 2 (by simp), h.2 3 (by simp), h.2 4 (by simp)⟩
def lexC (kb : Nat) (d s : Int) (back : Option Nat) : List Value := [.map (some kb), .int .u32 d, .int .i32 s, .int .u32 0, .map back]
def KindsAt (w : World) (kb : Nat) : Prop := w.ownsMap Tryz.prog 9 (plainElem (H := Unit) Tryz.prog 3) kb 3 kindsD
def BackAt (w : World) (bb : Nat) : Prop := ∃ n D, w.ownsMap Tryz.prog 3 spR bb n D ∧ ∀ k : Int, (k = 1 ∨ k = 2 ∨ k = 3) → ∀ z, D.atKey (.int .i64 k) z = .lit (litT (kindT k))
theorem KindsAt.turn {w w' : World} {kb : Nat} {S : List Nat} (h : KindsAt w kb) (ht : Turn S w w') (hS : kb ∉ S) : KindsAt w' kb := by
  obtain ⟨es, clock, h1, h2⟩ := h
  exact ⟨es, clock, (ht.block kb (Array.getElem?_eq_some_iff.1 h1).1 hS).trans h1, h2⟩
theorem KindsAt.lt {w : World} {kb : Nat} (h : KindsAt w kb) : kb < w.heap.size := World.ownsMap.lt h
theorem BackAt.turn {w w' : World} {bb : Nat} {S : List Nat} (h : BackAt w bb) (ht : Turn S w w') (hS : bb ∉ S) : BackAt w' bb := by
  obtain ⟨n, D, ⟨es, clock, h1, h2⟩, hD⟩ := h
  exact ⟨n, D, ⟨es, clock, (ht.block bb (Array.getElem?_eq_some_iff.1 h1).1 hS).trans h1, h2⟩, hD⟩
structure LexNew (w : World) (lb kb : Nat) : Prop where
  box : BoxF w lb (lexC kb 0 0 none)
  kinds : KindsAt w kb
  ne : kb ≠ lb
set_option maxHeartbeats 1600000 in
set_option maxRecDepth 100000 in
theorem newLex_any (w : World) : Calls Tryz.prog 24 #[] w fun e w' => ∃ lb kb, e = .returned (.pointer (some ⟨lb, 0, none⟩)) ∧ Hid (LexNew w' lb kb) ∧ w.heap.size ≤ lb ∧ w.heap.size ≤ kb ∧ Below w.heap.size w w' := by
  have hmm := @run_makeMap Tryz.prog
  have hmade := And.intro (World.ownsMap_made w Tryz.prog 9 (plainElem (H := Unit) Tryz.prog 3)) (And.intro ((Below.refl w.heap.size w).alloc (Nat.le_refl _) (.map #[] 0)) (Nat.le_refl w.heap.size))
  go_enter Tryz.func24, Tryz.ntmps24
  go_wp2_with (first
    | (refine wpList_insertLex _ rfl _ _ _ 72 rfl 9 3 keyedStr Tryz.underlying72 (plainElem (H := Unit) Tryz.prog 3) w.heap.size _ _ rfl w w.heap.size (by assumption) (by decide) _ _ _ rfl rfl (WideMaps.keyOf_string_mk Tryz.underlying9 (by decide)) _ [] (plainElem_int Tryz.underlying3 (by decide)) ?_; clear hmade; intro w1 hmade)
    | go_in)
  obtain ⟨h1, h2, h3⟩ := hmade
  go_ret
  have hb := h1.lt
  have bx := boxF_new w1 (lexC w.heap.size 0 0 none) 87
  have bb := (Below.refl w1.heap.size w1).alloc (Nat.le_refl _) (.cells (lexC w.heap.size 0 0 none).toArray 87)
  exact ⟨w1.heap.size, rfl, w.heap.size, hide ⟨bx, KindsAt.turn h1 (Turn.of_below (S := []) bb) (by simp), by omega⟩, h2.size, Nat.le_refl _, h2.trans (bb.mono h2.size)⟩
theorem BoxF.kept {w w' : World} {g : Nat} {xs : List Value} {row : Option Nat} (h : BoxF w g xs) (hg : w.grownBy w' row) (hne : row ≠ some g) : BoxF w' g xs :=
  h.turn (S := row.toList) (Turn.of_grown hg (fun k hk => by left; simp [hk])) (by
    intro hm
    cases row with
    | none => simp at hm
    | some r => simp at hm; exact hne (by rw [hm]))
theorem Turn.more {S : List Nat} {a b c : World} {row : Option Nat} (h : Turn S a b) (hg : b.grownBy c row) (hr : ∀ k, row = some k → a.heap.size ≤ k) : Turn S a c :=
  ((h.mono (S' := S ++ row.toList) (fun k hk => .inl (List.mem_append.2 (.inl hk)))).trans (Turn.of_grown hg (fun k hk => .inl (by simp [hk])))).mono (fun k hk => by
    rcases List.mem_append.1 hk with hk | hk
    · exact .inl hk
    · exact .inr (hr k (by simpa using hk)))
/-- between the rounds of the way back -/
structure BkMid (lb kb bb r pb : Nat) (w wr : World) (left : Lit → Bool) (cnt n : Nat) (D : DataW Unit) : Prop where
  rng : wr.ranges Tryz.prog 9 (plainElem (H := Unit) Tryz.prog 3) kb r 3 kindsD left cnt
  own : wr.ownsMap Tryz.prog 3 spR bb n D
  to : BackTo left D
  room : n + cnt ≤ 3
  box : BoxF wr lb (lexC kb 0 1 (some bb))
  cell : wr.cell? ⟨pb, 0, none⟩ = some (.pointer (some ⟨lb, 0, none⟩))
  turn : Turn [lb] w wr
theorem wpList_next_si {w : World} {ops : Array Oper} {rest : List Oper} {o : Oper} {a : Act} {Q : Exit → Act → World → Prop}
    (hg : o.guard = none) (it : Operand) (hop : o.op = Op.next it false) (b r n : Nat) (D : DataW Unit) (left : Lit → Bool) (cnt : Nat) (hit : a.eval it = .pointer (some ⟨r, 0, none⟩)) (h : w.ranges Tryz.prog 9 (plainElem Tryz.prog 3) b r n D left cnt)
    (hDone : cnt = 0 → (∀ kl, left kl = false) → wpList Tryz.prog ops Q rest (a.put o.dst (.tuple #[.bool false])) w)
    (hMore : ∀ (x : ByteArray) (c : Int) (w' : World) (cnt' : Nat), left (litT x) = true → (∀ zd, D.atKey (litT x) zd = inD c) → w'.ranges Tryz.prog 9 (plainElem Tryz.prog 3) b r n D (fun z => left z && !z.sameKey (litT x)) cnt' → cnt' < cnt →
      w.grownBy w' (some r) → w'.heap.size = w.heap.size → (Instr.entry (.pointer (some ⟨r, 0, none⟩))).run Tryz.prog w' = .ok (.tuple #[.string x, .int .i64 c]) w' → wpList Tryz.prog ops Q rest (a.put o.dst (.tuple #[.bool true, .string x, .int .i64 c])) w') :
    wpList Tryz.prog ops Q (o :: rest) a w :=
  wpList_next_ranges w hg it hop 9 keyedStr (plainElem Tryz.prog 3) Value.string (Value.int .i64) (fun key kl hkey => by obtain ⟨s, rfl, _⟩ := WideMaps.string_of_keyOf Tryz.underlying9 hkey; exact ⟨s, rfl⟩) (fun v y hv => by obtain ⟨c, rfl, _⟩ := plainElem_int_inv Tryz.underlying3 hv; exact ⟨c, rfl⟩)
    b r n D left cnt hit h hDone (fun x c kl y w' cnt' hkey hlk hv hat hrg hlt hgr hsz hen => by
      obtain ⟨s, es, rfl, -⟩ := WideMaps.string_of_keyOf Tryz.underlying9 hkey
      cases es
      obtain ⟨c', ec, rfl, hwc⟩ := plainElem_int_inv Tryz.underlying3 hv
      cases ec
      exact hMore x c w' cnt' hlk hat hrg hlt hgr hsz hen)
set_option maxHeartbeats 3200000 in
set_option maxRecDepth 100000 in
theorem back_any (lb kb pb : Nat) (w : World) (hb : BoxF w lb (lexC kb 0 1 none)) (hk : KindsAt w kb) (hne : kb ≠ lb) (hp : w.cell? ⟨pb, 0, none⟩ = some (.pointer (some ⟨lb, 0, none⟩))) (hpb : pb ≠ lb) :
    Calls Tryz.prog 72 #[.pointer (some ⟨pb, 0, none⟩)] w fun e w' => e = .returned (.tuple #[]) ∧ ∃ bb, Hid (BoxF w' lb (lexC kb 0 1 (some bb))) ∧ Hid (BackAt w' bb) ∧ Hid (Turn [lb] w w') ∧ w.heap.size ≤ bb := by
  have hmm := @run_makeMap Tryz.prog
  have hlb := hb.1.1
  have hkb := hk.lt
  have hpl := lt_of_cell0 hp
  have T0 : Turn [lb] w ((w.setCell ⟨lb, 4, none⟩ (.map (some w.heap.size))).alloc (.map #[] 0)) := ((Turn.refl _ _).setCell (by simp) _ _).alloc _
  have X0 : BoxF (w.setCell ⟨lb, 4, none⟩ (.map (some w.heap.size))) lb (lexC kb 0 1 (some w.heap.size)) := hb.set 4 (.map (some w.heap.size)) (by simp [lexC])
  have X1 : BoxF ((w.setCell ⟨lb, 4, none⟩ (.map (some w.heap.size))).alloc (.map #[] 0)) lb (lexC kb 0 1 (some w.heap.size)) := X0.up ((Below.refl _ _).alloc (Nat.le_refl _) _)
  have K1 : KindsAt ((w.setCell ⟨lb, 4, none⟩ (.map (some w.heap.size))).alloc (.map #[] 0)) kb := hk.turn T0 (by simpa using hne)
  have O1 : ((w.setCell ⟨lb, 4, none⟩ (.map (some w.heap.size))).alloc (.map #[] 0)).ownsMap Tryz.prog 3 spR w.heap.size 0 (.map []) := by
    have := World.ownsMap_made (w.setCell ⟨lb, 4, none⟩ (.map (some w.heap.size))) Tryz.prog 3 spR
    simpa using this
  have P1 : ((w.setCell ⟨lb, 4, none⟩ (.map (some w.heap.size))).alloc (.map #[] 0)).cell? ⟨pb, 0, none⟩ = some (.pointer (some ⟨lb, 0, none⟩)) := (T0.cell hpl (by simpa using hpb)).trans hp
  have Z1 : ((w.setCell ⟨lb, 4, none⟩ (.map (some w.heap.size))).alloc (.map #[] 0)).heap.size = w.heap.size + 1 := by simp
  have B0 := (hb.up ((Below.refl _ w).alloc (Nat.le_refl _) (.map #[] 0)))
  obtain ⟨⟨c0, c1, c2, c3, c4⟩, f0, f1, f2, f3, f4⟩ := B0.five
  obtain ⟨⟨d0, d1, d2, d3, d4⟩, -⟩ := X1.five
  have HT0 := hide T0
  have HX1 := hide X1
  have HO1 := hide O1
  clear T0 X1 O1 X0 B0 hb
  go_enter Tryz.func72, Tryz.ntmps72
  go_wp2_with (first
    | (at_range; refine wpList_range_own _ rfl _ 72 rfl 9 3 keyedStr Tryz.underlying72 _ kb 3 _ rfl K1 ?_; intro w0 hrg0 hg0 hs0)
    | fail)
  rw [Z1] at hrg0
  have M0 := hide (show BkMid lb kb w.heap.size (w.heap.size + 1) pb w w0 (Maps.has kindsD) (Maps.size kindsD) 0 (.map []) from
    ⟨hrg0, (unhide HO1).kept hg0 (by simp), BackTo.start, by rw [kinds_size]; omega, (unhide HX1).kept hg0 (by simp), (World.cell?_of_block (hg0.block pb (by rw [Z1]; omega) (by simp))).trans P1,
      (unhide HT0).trans (Turn.of_grown hg0 (fun k hk => by cases hk))⟩)
  clear hrg0 hg0 hs0 HO1 HX1 HT0 c0 c1 c2 c3 c4 f0 f1 f2 f3 f4 d0 d1 d2 d3 d4 K1 P1
  have hlb2 : lb ≠ w.heap.size := by omega
  have hpb2 : pb ≠ w.heap.size := by omega
  go_frame
  simp only [Z1]
  go_loopw [1, 2] (fun _ _ wr => ∃ left cnt n D, Hid (BkMid lb kb w.heap.size (w.heap.size + 1) pb w wr left cnt n D)) (fun _ _ wr => wr.rangeLeft kb (w.heap.size + 1))
  case atStart => exact ⟨_, _, _, _, M0⟩
  case round =>
    obtain ⟨left, cnt, n, D, HM⟩ := hrel
    have hrg := (unhide HM).rng
    have hn3 := (unhide HM).room
    obtain ⟨⟨d0, d1, d2, d3, d4⟩, -⟩ := (unhide HM).box.five
    have p0 := (unhide HM).cell
    go_wp2_with (first
      | (at_next; refine wpList_next_si rfl _ rfl kb (w.heap.size + 1) 3 _ _ _ rfl hrg ?_ ?_)
      | fail)
    · intro hc0 hl0
      go_wp2
      first
      | go_end0
      | refine bodyPost_ret (results_none rfl _ _ _) rfl ?_
      exact ⟨rfl, w.heap.size, hide (unhide HM).box, hide ⟨n, D, (unhide HM).own, fun k hk z => (unhide HM).to k hk (hl0 _) z⟩, hide (unhide HM).turn, Nat.le_refl _⟩
    · intro x c w1 cnt1 hlx hat hrg1 hlt hg1 hs1 hen
      obtain ⟨hc, rfl⟩ := kinds_inv hat
      have hs0 : w.heap.size + 1 < wr.heap.size := hrg.lt
      have hown1 := (unhide HM).own.kept hg1 (by simp)
      have hbx1 := (unhide HM).box.kept hg1 (by simp; omega)
      obtain ⟨⟨e0, e1, e2, e3, e4⟩, -⟩ := hbx1.five
      have q0 : w1.cell? ⟨pb, 0, none⟩ = some (.pointer (some ⟨lb, 0, none⟩)) := (World.cell?_of_block (hg1.block pb (by omega) (by simp; omega))).trans p0
      have hcw : (Lit.int .i64 c).wf = true := WalkArith.wf_i64 (by omega)
      have T1 := hide ((unhide HM).turn.more hg1 (fun k hk => by cases hk; omega))
      clear d0 d1 d2 d3 d4 p0
      go_wp2_with (first
        | (at_mapUpdate; refine wpList_mapUpdate_own _ rfl _ _ _ 85 rfl 3 124 keyedInt Tryz.underlying85 _ w.heap.size n _ rfl hown1 (by unfold maxLen; omega) _ _ _ rfl rfl (keyOf_int_mk Tryz.underlying3 hcw) _ [] (spR_mk (kindT c)) ?_; intro w2 hown2 hgr2)
        | fail)
      have M2 := hide (show BkMid lb kb w.heap.size (w.heap.size + 1) pb w w2 _ cnt1 (n + 1) _ from
        ⟨hrg1.kept hgr2 (by simp; omega) (by simp), hown2, (unhide HM).to.put hown1.isMap hc, by omega, hbx1.kept hgr2 (by simp; omega), (World.cell?_of_block (hgr2.block pb (by omega) (by simp; omega))).trans q0,
          (unhide T1).more hgr2 (fun k hk => by cases hk; omega)⟩)
      have HL := hide (show w2.rangeLeft kb (w.heap.size + 1) < wr.rangeLeft kb (w.heap.size + 1) from by rw [(unhide M2).rng.left_eq, hrg.left_eq]; exact hlt)
      clear hrg1 hown1 hbx1 hown2 hgr2 hg1 hen e0 e1 e2 e3 e4 q0 T1
      go_frame
      go_roundw
      case rel => exact ⟨_, _, _, _, M2⟩
      case measure => exact unhide HL
set_option maxRecDepth 100000 in
set_option maxHeartbeats 3200000 in
theorem slow_any (lb kb pb : Nat) (w : World) (h : LexNew w lb kb) (hp : w.cell? ⟨pb, 0, none⟩ = some (.pointer (some ⟨lb, 0, none⟩))) (hpb : pb ≠ lb) :
    Calls Tryz.prog 85 #[.pointer (some ⟨lb, 1, none⟩), .func (.func 72) #[] #[.pointer (some ⟨pb, 0, none⟩)]] w fun e w' => e = .returned (.tuple #[]) ∧ ∃ bb, Hid (BoxF w' lb (lexC kb 1 0 (some bb))) ∧ Hid (BackAt w' bb) ∧ Hid (Turn [lb] w w') ∧ w.heap.size ≤ bb := by
  obtain ⟨hb, hk, hne⟩ := h
  have hpl := lt_of_cell0 hp
  have hlb := hb.1.1
  obtain ⟨⟨b0, b1, b2, b3, b4⟩, g0, g1, g2, g3, g4⟩ := hb.five
  have T1 : Turn [lb] w (w.setCell ⟨lb, 2, none⟩ (.int .i32 1)) := (Turn.refl _ _).setCell (by simp) _ _
  have X1 : BoxF (w.setCell ⟨lb, 2, none⟩ (.int .i32 1)) lb (lexC kb 0 1 none) := hb.set 2 (.int .i32 1) (by simp [lexC])
  have HC := hide (back_any lb kb pb _ X1 (hk.turn T1 (by simpa using hne)) hne ((T1.cell hpl (by simpa using hpb)).trans hp) hpb)
  have HLD := hide (load_false ⟨lb, 1, none⟩ (w.setCell ⟨lb, 2, none⟩ (.int .i32 1)) (X1.1.at 1 _ rfl))
  have hnot : ∀ (x : Bool) (w : World), (Op.unary .not (.bool x)).run Tryz.prog w = .ok (.bool (!x)) w := fun _ _ => rfl
  have HT1 := hide T1
  have hz1 : (w.setCell ⟨lb, 2, none⟩ (.int .i32 1)).heap.size = w.heap.size := by simp
  have HLK := hide (lock_free ⟨lb, 2, none⟩ w b2 g2)
  clear hb hk hne X1 T1 b0 b1 b2 b3 b4 g0 g1 g2 g3 g4
  generalize w.setCell ⟨lb, 2, none⟩ (.int .i32 1) = W1 at *
  go_enter_defers Tryz.func85, Tryz.ntmps85
  go_wp2_with (first
    | (go_at_call 99; refine (unhide HLK).mono ?_; rintro e w' ⟨rfl, rfl⟩)
    | (go_at_call 84; refine (unhide HLD).mono ?_; rintro e w' ⟨rfl, rfl⟩)
    | (go_at_call 72; refine (unhide HC).mono ?_; rintro e w2 ⟨rfl, bb, HX2, HB2, HT2, hbb⟩)
    | fail)
  go_wp2
  have X2 := unhide HX2
  obtain ⟨⟨b0, b1, b2, b3, b4⟩, g0, g1, g2, g3, g4⟩ := X2.five
  refine leaves_cons (f := 101) (args := #[.pointer (some ⟨lb, 1, none⟩), .bool true]) (by simp) (by simp [go_sem]) ?_
  refine (store_deferred ⟨lb, 1, none⟩ (.int .u32 0) .returning _ b1 g1).mono ?_
  rintro e u' w'' ⟨rfl, rfl, rfl⟩
  have X3 : BoxF (w2.drew.setCell ⟨lb, 1, none⟩ (.int .u32 1)) lb (lexC kb 1 1 (some bb)) := (show BoxF w2.drew lb (lexC kb 0 1 (some bb)) from X2).set 1 (.int .u32 1) (by simp [lexC])
  obtain ⟨⟨c0, c1, c2, c3, c4⟩, f0, f1, f2, f3, f4⟩ := X3.five
  refine leaves_cons (f := 100) (args := #[.pointer (some ⟨lb, 2, none⟩)]) (by simp [settle]) (by simp [go_sem]) ?_
  refine (unlock_deferred ⟨lb, 2, none⟩ _ _ c2 f2).mono ?_
  rintro e u' w'' ⟨rfl, rfl, rfl⟩
  have X4 : BoxF ((w2.drew.setCell ⟨lb, 1, none⟩ (.int .u32 1)).setCell ⟨lb, 2, none⟩ (.int .i32 0)) lb (lexC kb 1 0 (some bb)) := X3.set 2 (.int .i32 0) (by simp [lexC])
  have T3 : Turn [lb] w2 ((w2.drew.setCell ⟨lb, 1, none⟩ (.int .u32 1)).setCell ⟨lb, 2, none⟩ (.int .i32 0)) := (((Turn.refl [lb] w2).dn 1).setCell (by simp) _ _).setCell (by simp) _ _
  have hbl : bb ∉ [lb] := by simp; omega
  have END := hide (show ∃ bb, Hid (BoxF ((w2.drew.setCell ⟨lb, 1, none⟩ (.int .u32 1)).setCell ⟨lb, 2, none⟩ (.int .i32 0)) lb (lexC kb 1 0 (some bb))) ∧ Hid (BackAt ((w2.drew.setCell ⟨lb, 1, none⟩ (.int .u32 1)).setCell ⟨lb, 2, none⟩ (.int .i32 0)) bb) ∧ Hid (Turn [lb] w ((w2.drew.setCell ⟨lb, 1, none⟩ (.int .u32 1)).setCell ⟨lb, 2, none⟩ (.int .i32 0))) ∧ w.heap.size ≤ bb from
    ⟨bb, hide X4, hide ((unhide HB2).turn T3 hbl), hide ((unhide HT1).trans ((unhide HT2).trans T3)), by omega⟩)
  clear X2 X3 X4 T3
  generalize (w2.drew.setCell ⟨lb, 1, none⟩ (.int .u32 1)).setCell ⟨lb, 2, none⟩ (.int .i32 0) = W9 at *
  simp [Leaves, settle, results, Tryz.results85]
  exact unhide END
set_option maxRecDepth 100000 in
set_option maxHeartbeats 3200000 in
theorem once_any (lb kb pb : Nat) (w : World) (h : LexNew w lb kb) (hp : w.cell? ⟨pb, 0, none⟩ = some (.pointer (some ⟨lb, 0, none⟩))) (hpb : pb ≠ lb) :
    Calls Tryz.prog 71 #[.pointer (some ⟨lb, 1, none⟩), .func (.func 72) #[] #[.pointer (some ⟨pb, 0, none⟩)]] w fun e w' => e = .returned (.tuple #[]) ∧ ∃ bb, Hid (BoxF w' lb (lexC kb 1 0 (some bb))) ∧ Hid (BackAt w' bb) ∧ Hid (Turn [lb] w w') ∧ w.heap.size ≤ bb := by
  have HS := hide (slow_any lb kb pb w h hp hpb)
  have HLD := hide (load_false ⟨lb, 1, none⟩ w (h.box.1.at 1 _ rfl))
  clear h hp
  have hnot : ∀ (x : Bool) (w : World), (Op.unary .not (.bool x)).run Tryz.prog w = .ok (.bool (!x)) w := fun _ _ => rfl
  go_enter Tryz.func71, Tryz.ntmps71
  go_wp2_with (first
    | (go_at_call 84; refine (unhide HLD).mono ?_; rintro e w' ⟨rfl, rfl⟩)
    | (go_at_call 85; refine (unhide HS).mono ?_; rintro e w2 ⟨rfl, h2⟩)
    | fail)
  first
  | go_end0
  | refine bodyPost_ret (results_none rfl _ _ _) rfl ?_
  exact ⟨rfl, h2⟩
set_option maxRecDepth 100000 in
set_option maxHeartbeats 3200000 in
/-- the word of a kind, asked for the first time -/
theorem word_any (lb kb : Nat) (k : Int) (hk : k = 1 ∨ k = 2 ∨ k = 3) (w : World) (h : LexNew w lb kb) :
    Calls Tryz.prog 53 #[.pointer (some ⟨lb, 0, none⟩), .int .i64 k] w fun e w' => e = .returned (.string (kindT k)) ∧ Turn [lb] w w' := by
  have hlb := h.box.1.1
  have bb := (Below.refl w.heap.size w).alloc (Nat.le_refl _) (.cells #[.pointer (some ⟨lb, 0, none⟩)] 47)
  have bx := boxF_new w [.pointer (some ⟨lb, 0, none⟩)] 47
  simp only [List.toArray] at bx
  have p0 := bx.1.at 0 _ rfl
  have f0 := bx.2 0 (by simp)
  have HN := hide (show LexNew (w.alloc (.cells #[.pointer (some ⟨lb, 0, none⟩)] 47)) lb kb from ⟨h.box.up bb, h.kinds.turn (Turn.of_below (S := []) bb) (by simp), h.ne⟩)
  have hmf : ∀ (fn : Fn) (first cap : Array Value) (w : World), (Instr.makeFunc fn first cap).run Tryz.prog w = .ok (.func fn first cap) w := fun _ _ _ _ => rfl
  have HD := hide (once_any lb kb w.heap.size _ (unhide HN) p0 (by omega))
  obtain ⟨⟨b0, b1, b2, b3, b4⟩, -⟩ := (unhide HN).box.five
  have T0 := hide (Turn.of_below (S := [lb]) bb)
  have hz : w.heap.size < (w.alloc (.cells #[.pointer (some ⟨lb, 0, none⟩)] 47)).heap.size := by simp
  clear h bb bx
  go_enter Tryz.func53, Tryz.ntmps53
  go_wp2_with fail
  generalize w.alloc (.cells #[.pointer (some ⟨lb, 0, none⟩)] 47) = W at *
  go_wp2_with fail
  refine (unhide HD).mono ?_
  rintro e w2 ⟨rfl, bk, HX, HB, HT, hbk⟩
  have p2 := ((unhide HT).cell hz (by simp; omega)).trans p0
  obtain ⟨⟨c0, c1, c2, c3, c4⟩, -⟩ := (unhide HX).five
  obtain ⟨n, D, hown, hD⟩ := unhide HB
  have hlk := back_look hown hD k hk
  have hfd : ∀ (s : ByteArray) (w : World), (Instr.field 124 (.agg #[.string s]) 0).run Tryz.prog w = .ok (.string s) w := fun _ _ => rfl
  have TE := hide ((unhide T0).trans (unhide HT))
  clear HD HN HX HB HT hown hD b0 b1 b2 b3 b4 p0 f0 T0
  go_wp2_with fail
  go_ret
  exact ⟨rfl, unhide TE⟩
end Go.Proofs.YtiebfcefmdiajaaGreatDoor
