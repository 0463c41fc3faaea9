/-
  BodyWords of the program.
-/
import Derived.Test.YtjfebnplffpmoaaGreatDoorMerged34
set_option linter.unusedVariables false
namespace Go.Proofs.YtjfebnplffpmoaaGreatDoor
open Go.RowKit Go.Maps Go.Deep Go.Lib

/-- between the rounds -/
structure MidW (t : ByteArray) (w : World) (kb cb it : Nat) (ra : Option Addr) (rn rc : Nat) (ws : List WordV) (opn : Int) (st k : Nat) (wr : World) : Prop where
  lex : lexR t 0 = (contR t opn st k).pre ws
  op : OpenAt t opn st k
  len : ws.length ≤ (if opn = 0 then k else st)
  box : BoxF wr cb (cutC t kb (.slice ra rn rc) opn st)
  row : WdRow (it + 1) wr (.slice ra rn rc) ws
  keys : KeysAt1 wr kb
  iter : wr.heap[it]? = some (.stringIter t k)
  bel : Below w.heap.size w wr
  size : it + 1 ≤ wr.heap.size
def RetCw (t : ByteArray) (w : World) (e : Ending) (w' : World) : Prop :=
  (∃ c a : Int, c ≠ 0 ∧ bwWords t = [] ∧ bwCode t = c ∧ bwAt t = a ∧ e = .returned (.tuple #[.slice none 0 0, errV c a]) ∧ Below w.heap.size w w') ∨
  (bwCode t = 0 ∧ bwAt t = 0 ∧ ∃ ra rn rc, e = .returned (.tuple #[.slice ra rn rc, .nilIface]) ∧ Hid (WdRow w.heap.size w' (.slice ra rn rc) (bwWords t)) ∧ Below w.heap.size w w')
theorem WdRow.lowerW {B B' : Nat} {w : World} {v : Value} {ns : List WordV} (h : WdRow B w v ns) (hB : B' ≤ B) : WdRow B' w v ns := h.mono hB
set_option maxRecDepth 20000 in
set_option maxHeartbeats 12800000 in
theorem cutWords_any (t : ByteArray) (w : World) (hs : t.size ≤ 1048576) :
    Calls Tryz.prog 11 #[.string t] w fun e w' => RetCw t w e w' := by
  by_cases hbig : 1500 < t.size
  · have hb2 : (1500 : Int) < (t.size : Int) := by omega
    have HL := hide (bw_long hbig)
    clear hbig
    go_enter Tryz.func11, Tryz.ntmps11
    go_wp2_with (first
      | (go_at_call 19; refine (wrongAt_any _ _ _).mono ?_; rintro e w2 ⟨rfl, rfl⟩)
      | fail)
    refine bodyPost_ret (v := .tuple #[.slice none 0 0, errV 1 0]) (by simp [results, Tryz.results11, go_sem, errV]) rfl ?_
    exact .inl ⟨1, 0, by decide, (unhide HL).1, (unhide HL).2.1, (unhide HL).2.2, rfl, Below.refl _ _⟩
  have hb2 : ¬ (1500 : Int) < (t.size : Int) := by omega
  have hs15 : t.size ≤ 1500 := by omega
  have HBIG := hide hbig
  clear hbig
  go_enter Tryz.func11, Tryz.ntmps11
  go_wp2_with fail
  refine (newKeySet_any _).mono ?_
  rintro e w1 ⟨rfl, hk1, b1⟩
  have K1 := hide (show KeysAt1 w1 w.heap.size from hk1)
  have hkw : w.heap.size < w1.heap.size := (unhide K1).lt
  have X2 := hide (boxF_new w1 [.string t, .map (some w.heap.size), .slice none 0 0, .int .i64 0, .int .i64 0] 62)
  have bA := (Below.refl _ w1).alloc (Nat.le_refl _) (.cells #[.string t, .map (some w.heap.size), .slice none 0 0, .int .i64 0, .int .i64 0] 62)
  have B2 := hide (b1.trans (bA.mono b1.size))
  have K2 := hide ((unhide K1).turn (Turn.of_below (S := []) bA) (by simp))
  simp only [List.toArray] at X2
  have hcw : w1.heap.size < (w1.alloc (.cells #[.string t, .map (some w.heap.size), .slice none 0 0, .int .i64 0, .int .i64 0] 62)).heap.size := (unhide X2).1.1
  clear b1 hk1 K1 bA
  go_wp2_with fail
  have hWs : (w1.alloc (.cells #[.string t, .map (some w.heap.size), .slice none 0 0, .int .i64 0, .int .i64 0] 62)).heap.size = w1.heap.size + 1 := by simp
  generalize hW : w1.alloc (.cells #[.string t, .map (some w.heap.size), .slice none 0 0, .int .i64 0, .int .i64 0] 62) = W at *
  clear hW
  generalize w1.heap.size = cb at *
  have bI := (Below.refl _ W).alloc (Nat.le_refl _) (.stringIter t 0)
  have M0 := hide (show MidW t w w.heap.size cb W.heap.size none 0 0 [] 0 0 0 (W.iter t 0) from
    ⟨by unfold contR; rw [if_pos rfl, LRes.pre_nil], .none _ _, by simp, (unhide X2).up bI, WdRow.nil _ _, (unhide K2).turn (Turn.of_below (S := []) bI) (by simp), World.iter_heap _ _ _, (unhide B2).trans (bI.mono (unhide B2).size), by
      show W.heap.size + 1 ≤ (W.heap.push _).size
      simp⟩)
  clear bI X2 B2 K2
  have hkb : w.heap.size < cb := hkw
  rw [hWs] at M0
  have hcbI : cb < cb + 1 := Nat.lt_succ_self _
  clear hWs hcw
  generalize cb + 1 = it at *
  go_loopw [5] (fun _ wr => ∃ (k st : Nat) (opn : Int) (ra : Option Addr) (rn rc : Nat) (ws : List WordV), k ≤ t.size ∧ Hid (MidW t w w.heap.size cb it ra rn rc ws opn st k wr)) (fun _ wr => t.size - wr.iterPos it)
  case atStart => exact ⟨0, 0, 0, none, 0, 0, [], Nat.zero_le _, M0⟩
  case round =>
    clear M0
    obtain ⟨k, st, opn, ra, rn, rc, ws, hk, HM⟩ := hrel
    have hit := (unhide HM).iter
    have HPOS := hide (show wr.iterPos it = k from by simp [World.iterPos, hit])
    by_cases hp : k < t.size
    · have hnx : ∀ ty, (Instr.next (.pointer (some ⟨it, 0, none⟩)) true ty).run Tryz.prog wr = _ := fun ty => run_next_any_at wr it t k ty hit hp
      have HRS := hide (rune_same t k hp)
      have I1 := hide (iterAt_heap wr it t k (k + (Utf8.decode t k).2) hit)
      have T1 := hide (turn_iterAt wr it t (k + (Utf8.decode t k).2))
      generalize (((Utf8.decode t k).1 : Nat) : Int) = r at *
      generalize (Utf8.decode t k).2 = wd at *
      obtain ⟨e1, e2, e3, e4, e5, e6, e7⟩ := unhide HRS
      have HGR := hide (goR_same (opn := opn) (st := st) e1 e2 e3)
      have HBK := hide (beginK_same e1 e2 e4)
      have HWD := hide (And.intro e5 (And.intro e6 e7))
      have hkw2 : k + wd ≤ t.size := e6
      have X1 := hide ((unhide HM).box.turn (unhide T1) (by simp; omega))
      have K1 := hide ((unhide HM).keys.turn (unhide T1) (by simp; omega))
      have R1 := hide ((unhide HM).row.keep (w' := wr.iterAt it t (k + wd)) (fun g hg => (unhide T1).block g ((unhide HM).row.lt g hg) (by have := (unhide HM).row.ge g hg; simp; omega)))
      have B1 := hide ((unhide HM).bel.trans ((unhide T1).below (B := w.heap.size) (unhide HM).bel.size (by simp; omega)))
      have Z1 := hide (Nat.le_trans (unhide HM).size (unhide T1).size)
      have HOP := hide (And.intro (unhide HM).lex (And.intro (unhide HM).op (unhide HM).len))
      clear e1 e2 e3 e4 e5 e6 e7 HRS T1 HM hit
      have HGO := hide (fun (W : World) (hX : BoxF W cb (cutC t w.heap.size (.slice ra rn rc) opn st)) => goesOn_any t w.heap.size cb (.slice ra rn rc) opn st k r W hs15 (open_four (unhide HOP).2.1) (fun h => by
        have h0 : opn ≠ 0 := by omega
        have := (unhide HOP).2.1
        refine ⟨?_, hk⟩
        cases this <;> omega) hX)
      rw [unhide HGR] at HGO
      have HCB := hide (unhide X1)
      go_wp2_with fail
      generalize wr.iterAt it t (k + wd) = W1 at *
      refine (unhide HGO _ (unhide X1)).mono ?_
      rintro e w2 ⟨rfl, b2⟩
      have X2 := hide ((unhide X1).up b2)
      have K2 := hide ((unhide K1).turn (Turn.of_below (S := []) b2) (by simp))
      have R2 := hide ((unhide R1).up b2)
      have B2 := hide ((unhide B1).trans (b2.mono (unhide B1).size))
      have I2 := hide ((b2.block it (Nat.lt_of_lt_of_le (Nat.lt_succ_self it) (unhide Z1))).trans (unhide I1))
      have Z2 := hide (Nat.le_trans (unhide Z1) b2.size)
      clear b2 X1 K1 R1 B1 I1 Z1 HGO HCB HGR
      cases hgo : goB t opn st k
      rotate_left
      · have HG := hide (open_go (unhide HOP).2.1 hp hgo)
        have hw1 : wd = 1 := (unhide HWD).2.2 (unhide HG).2.1
        have M2 := hide (show MidW t w w.heap.size cb it ra rn rc ws opn st (k + wd) w2 from by
          rw [hw1]
          refine ⟨?_, (unhide HG).1, ?_, unhide X2, unhide R2, unhide K2, by have := unhide I2; rw [hw1] at this; exact this, unhide B2, unhide Z2⟩
          · have := (unhide HOP).1
            unfold contR at this ⊢
            rw [if_neg (unhide HG).2.2] at this ⊢
            exact this
          · have := (unhide HOP).2.2
            rw [if_neg (unhide HG).2.2] at this ⊢
            exact this)
        have HP2 := hide (show w2.iterPos it = k + wd from by simp [World.iterPos, unhide I2])
        clear hgo HOP X2 R2 K2 I2 B2 Z2 HG
        go_wp2_with fail
        go_roundw
        case rel => exact ⟨k + wd, st, opn, ra, rn, rc, ws, hkw2, M2⟩
        case measure => rw [unhide HPOS, unhide HP2]; omega
      · have HEA := hide (end_all t w.heap.size cb (it + 1) ra rn rc ws opn st k w2 hs15 (unhide HOP).2.1 hk (.inr hgo) (unhide X2) (unhide R2) (unhide HOP).2.2 (by omega) (unhide Z2) (unhide K2))
        rw [← (unhide HOP).1] at HEA
        clear hgo
        go_wp2_with fail
        refine (unhide HEA).mono ?_
        rintro e w3 (⟨c, ⟨hl, hc⟩, rfl, b3⟩ | ⟨ws', ra', rn', rc', ⟨hl, hn⟩, rfl, X3, R3, T3⟩)
        · have HC0 := hide (show c ≠ 0 by have := (lex_bad t _ 0 _ _ rfl hl).1; omega)
          have HBW := hide (bw_bad (unhide HBIG) hl)
          have B3 := hide ((unhide B2).trans (b3.mono (unhide B2).size))
          clear HEA HOP hl hc b3 X2 R2 K2 I2 B2 Z2
          unfold errV
          go_wp2_with fail
          refine bodyPost_ret (v := .tuple #[.slice none 0 0, errV c (st : Int)]) (by simp [results, Tryz.results11, go_sem, errV]) rfl ?_
          exact .inl ⟨c, st, unhide HC0, (unhide HBW).1, (unhide HBW).2.1, (unhide HBW).2.2, rfl, unhide B3⟩
        · have NI := hide (show ∀ g ∈ (cb :: (Value.slice ra rn rc).ownBlock.toList), g = cb ∨ it + 1 ≤ g from fun g hg => by
            rcases List.mem_cons.1 hg with rfl | hg
            · exact .inl rfl
            · exact .inr ((unhide R2).ge g (by simpa using hg)))
          have K3 := hide ((unhide K2).turn (unhide T3) (fun hm => by rcases unhide NI _ hm with h | h <;> omega))
          have I3 := hide (((unhide T3).block it (by have := unhide Z2; omega) (fun hm => by rcases unhide NI _ hm with h | h <;> omega)).trans (unhide I2))
          have B3 := hide ((unhide B2).trans ((unhide T3).below (B := w.heap.size) (unhide B2).size (fun g hg => by rcases unhide NI g hg with h | h <;> omega)))
          have Z3 := hide (Nat.le_trans (unhide Z2) (unhide T3).size)
          have HL3 := hide (And.intro hl hn)
          clear HEA HOP hl hn T3 NI X2 R2 K2 I2 B2 Z2
          have HBG := hide (begin_any t w.heap.size cb (.slice ra' rn' rc') opn st k r w3 (unhide X3))
          rw [unhide HBK] at HBG
          have HOB := hide (open_begin t k wd hp (unhide HWD).1 (unhide HWD).2.2)
          go_wp2_with fail
          refine (unhide HBG).mono ?_
          rintro e w4 ⟨rfl, X4, T4⟩
          have M4 := hide (show MidW t w w.heap.size cb it ra' rn' rc' ws' (beginK (byteAt t k)) k (k + wd) w4 from by
            refine ⟨?_, (unhide HOB).1, ?_, unhide X4, (unhide R3).keep (fun g hg => (unhide T4).block g ((unhide R3).lt g hg) (by have := (unhide R3).ge g hg; simp; omega)), (unhide K3).turn (unhide T4) (by simp; omega), ((unhide T4).block it (by have := unhide Z3; omega) (by simp; omega)).trans (unhide I3), (unhide B3).trans ((unhide T4).below (B := w.heap.size) (unhide B3).size (by simp; omega)), Nat.le_trans (unhide Z3) (unhide T4).size⟩
            · rw [(unhide HL3).1, (unhide HOB).2]
            · have := (unhide HL3).2
              split <;> omega)
          have HP4 := hide (show w4.iterPos it = k + wd from by simp [World.iterPos, (unhide M4).iter])
          have hwd1 := (unhide HWD).1
          clear HBG HOB X3 R3 K3 I3 B3 Z3 HL3 X4 T4
          go_wp2_with fail
          go_roundw
          case rel => exact ⟨k + wd, k, _, ra', rn', rc', ws', hkw2, M4⟩
          case measure => rw [unhide HPOS, unhide HP4]; omega
    · obtain rfl : k = t.size := by omega
      have hnx : ∀ ty, (Instr.next (.pointer (some ⟨it, 0, none⟩)) true ty).run Tryz.prog wr = _ := fun ty => run_next_end_at wr it t t.size ty hit hp
      have HEA := hide (end_all t w.heap.size cb (it + 1) ra rn rc ws opn st t.size wr hs15 (unhide HM).op (Nat.le_refl _) (.inl rfl) (unhide HM).box (unhide HM).row (unhide HM).len (by omega) (unhide HM).size (unhide HM).keys)
      rw [← (unhide HM).lex] at HEA
      have B2 := hide (unhide HM).bel
      have RG := hide (unhide HM).row.ge
      clear HM hit
      go_wp2_with fail
      refine (unhide HEA).mono ?_
      rintro e w3 (⟨c, ⟨hl, hc⟩, rfl, b3⟩ | ⟨ws', ra', rn', rc', ⟨hl, hn⟩, rfl, X3, R3, T3⟩)
      · have HC0 := hide (show c ≠ 0 by have := (lex_bad t _ 0 _ _ rfl hl).1; omega)
        have HBW := hide (bw_bad (unhide HBIG) hl)
        have B3 := hide ((unhide B2).trans (b3.mono (unhide B2).size))
        clear HEA hl hc b3 B2
        unfold errV
        go_wp2_with fail
        refine bodyPost_ret (v := .tuple #[.slice none 0 0, errV c (st : Int)]) (by simp [results, Tryz.results11, go_sem, errV]) rfl ?_
        exact .inl ⟨c, st, unhide HC0, (unhide HBW).1, (unhide HBW).2.1, (unhide HBW).2.2, rfl, unhide B3⟩
      · have HBW := hide (bw_ok (unhide HBIG) (show lexR t 0 = .ok ws' from hl.trans (by rw [lex_end t t.size (by omega)]; simp [LRes.pre])))
        have B3 := hide ((unhide B2).trans ((unhide T3).below (B := w.heap.size) (unhide B2).size (fun g hg => by
          rcases List.mem_cons.1 hg with rfl | hg
          · omega
          · have := unhide RG g (by simpa using hg); omega)))
        have hx := unhide X3
        unfold cutC at hx
        obtain ⟨⟨c0, c1, c2, c3, c4⟩, -⟩ := hx.fiveW
        clear hx HEA hl hn T3 B2
        go_wp2_with fail
        refine bodyPost_ret (v := .tuple #[.slice ra' rn' rc', .nilIface]) (by simp [results, Tryz.results11, go_sem]) rfl ?_
        exact .inr ⟨(unhide HBW).2.1, (unhide HBW).2.2, ra', rn', rc', rfl, hide (by rw [(unhide HBW).1]; exact (unhide R3).mono (by omega)), unhide B3⟩
set_option maxHeartbeats 3200000 in
theorem implWords_any (t : ByteArray) (w : World) (hs : t.size ≤ 1048576) (hg : ErrG w) :
    Calls Tryz.prog 5 #[.string t] w fun e w' => RetBw t w e w' := by
  have X0 := hide (boxF_new w [.int .i64 0, .int .i64 0] 26)
  have A0 := hide ((Below.refl _ w).alloc (Nat.le_refl _) (.cells #[.int .i64 0, .int .i64 0] 26))
  simp only [List.toArray] at X0
  have HG := hide hg
  have HC := hide (fun (W : World) => cutWords_any t W hs)
  have hw0 : w.heap.size < (w.alloc (.cells #[.int .i64 0, .int .i64 0] 26)).heap.size := (unhide X0).1.1
  clear hg
  go_enter Tryz.func5, Tryz.ntmps5
  go_wp2_with fail
  generalize w.alloc (.cells #[.int .i64 0, .int .i64 0] 26) = W at *
  refine (unhide HC _).mono ?_
  rintro e w2 (⟨c, a, -, h1, h2, h3, rfl, b2⟩ | ⟨h2, h3, ra, rn, rc, rfl, R2, b2⟩)
  · have B2 := hide ((unhide A0).trans (b2.mono (unhide A0).size))
    have X2 := hide ((unhide X0).up b2)
    have HG2 := hide ((unhide HG).below (unhide B2) (Nat.le_refl _))
    have HBW := hide (And.intro h1 (And.intro h2 h3))
    have HF := hide (faultOf_any c a w2 (unhide HG2))
    clear b2 h1 h2 h3 HC HG A0 X0
    unfold errV at HF ⊢
    go_wp2_with fail
    refine (unhide HF).mono ?_
    rintro e w3 ⟨rfl, b3⟩
    have B3 := hide ((unhide B2).trans (b3.mono (unhide B2).size))
    have X3 := hide ((unhide X2).up b3)
    clear b3 HF X2 B2 HG2
    obtain ⟨⟨x0, x1⟩, f0, f1⟩ := (unhide X3).duoI
    go_wp2_with fail
    refine bodyPost_ret (v := .tuple #[.slice none 0 0, .agg #[.int .i64 c, .int .i64 a]]) (by simp [results, Tryz.results5, go_sem, x0, x1]) rfl ?_
    refine ⟨none, 0, 0, by rw [(unhide HBW).2.1, (unhide HBW).2.2], hide (by rw [(unhide HBW).1]; exact WdRow.nil _ _), ?_⟩
    (iterate 2 (refine Below.setCell ?_ (by exact Nat.le_refl _) _))
    exact unhide B3
  · have B2 := hide ((unhide A0).trans (b2.mono (unhide A0).size))
    have X2 := hide ((unhide X0).up b2)
    have HBW := hide (And.intro h2 h3)
    clear b2 h2 h3 HC HG A0 X0
    obtain ⟨⟨x0, x1⟩, f0, f1⟩ := (unhide X2).duoI
    have END := hide (fun (V : World) (tV : Turn [w.heap.size] w2 V) => show RetBw t w (.returned (.tuple #[.slice ra rn rc, .agg #[.int .i64 0, .int .i64 0]])) V from ⟨ra, rn, rc, by rw [(unhide HBW).1, (unhide HBW).2], hide (((unhide R2).keep (fun g hg => tV.block g ((unhide R2).lt g hg) (by have := (unhide R2).ge g hg; simp; omega))).mono (by omega)), (unhide B2).trans (tV.below (unhide B2).size (by simp))⟩)
    clear HBW R2 B2 X2
    go_wp2_with fail
    refine bodyPost_ret (v := .tuple #[.slice ra rn rc, .agg #[.int .i64 0, .int .i64 0]]) (by simp [results, Tryz.results5, go_sem, x0, x1]) rfl ?_
    refine unhide END _ ?_
    (iterate 2 (refine Turn.setCell ?_ (by simp) _ _))
    exact Turn.refl _ _
end Go.Proofs.YtjfebnplffpmoaaGreatDoor
