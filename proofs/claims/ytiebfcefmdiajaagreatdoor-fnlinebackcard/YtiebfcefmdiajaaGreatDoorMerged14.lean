/-
  Rows of versions that one may append to.
-/
/-
  The specification's draws of names, of bytes and of stamps of words.
-/
import Derived.Test.YtiebfcefmdiajaaGreatDoorMerged6
import Derived.Laws.OwnMore
import Derived.Deep.AppendLies
import Derived.Handy
import Derived.Test.YtiebfcefmdiajaaGreatDoorMerged4
import Derived.Test.YtiebfcefmdiajaaGreatDoorMerged5
import Derived.Test.YtiebfcefmdiajaaGreatDoorSayBytesS
import Derived.Test.YtiebfcefmdiajaaGreatDoorBoxes
import Derived.Deep.DeepCutAuto
import Derived.Deep.CutBlock
set_option linter.unusedVariables false
namespace Go.Proofs.YtiebfcefmdiajaaGreatDoor
open Go.RowKit Go.Maps Go.Deep

def vrCells (ns : List VerV) : List Value := ns.flatMap fun x => [.string x.a0, .int .i64 x.a1]
theorem vrCells_len (ns : List VerV) : (vrCells ns).length = ns.length * 2 := by
  induction ns with
  | nil => rfl
  | cons x xs ih => simp [vrCells] at ih ⊢; omega
theorem vrCells_snoc (ns : List VerV) (x : VerV) : vrCells (ns ++ [x]) = vrCells ns ++ [.string x.a0, .int .i64 x.a1] := by simp [vrCells]
theorem vrCells_get (ns : List VerV) (i : Nat) (h : i < ns.length) : (vrCells ns)[i * 2]? = some (.string ns[i].a0) ∧ (vrCells ns)[i * 2 + 1]? = some (.int .i64 ns[i].a1) := by
  induction ns generalizing i with
  | nil => simp at h
  | cons x xs ih =>
    cases i with
    | zero => simp [vrCells]
    | succ i =>
      have := ih i (by simpa using h)
      have e : vrCells (x :: xs) = [.string x.a0, .int .i64 x.a1] ++ vrCells xs := by simp [vrCells]
      rw [e, show (i + 1) * 2 = i * 2 + 1 + 1 by omega]
      simpa using this
/-- a row of versions, at or above a block, that one may append to -/
def VrRow (B : Nat) (w : World) (v : Value) (ns : List VerV) : Prop := w.ownsRow B 57 2 v ns.length (vrCells ns)
theorem VrRow.nil (B : Nat) (w : World) : VrRow B w (.slice none 0 0) [] := ⟨rfl, .inl ⟨rfl, rfl⟩⟩
theorem VrRow.slice {B : Nat} {w : World} {v : Value} {ns : List VerV} (h : VrRow B w v ns) : ∃ a c, v = .slice a ns.length c := by
  rcases h.2 with ⟨rfl, h0⟩ | ⟨g, cap, cur, rfl, _⟩
  · rw [h0]; exact ⟨_, _, rfl⟩
  · exact ⟨_, _, rfl⟩
theorem VrRow.own {B : Nat} {w : World} {v : Value} {ns : List VerV} (h : VrRow B w v ns) : ∃ S, VerOwn S w v ns ∧ (∀ k ∈ S, B ≤ k) ∧ (∀ k ∈ S, v.ownBlock = some k) := by
  have hh : w.ownsRow B 57 2 v ns.length (vrCells ns) := h
  rcases h with ⟨_, ⟨rfl, h0⟩ | ⟨g, cap, cur, rfl, hB, hg, hnc, _⟩⟩
  · have : ns = [] := List.eq_nil_of_length_eq_zero h0
    subst this
    exact ⟨[], .inl ⟨rfl, rfl, none, 0, rfl⟩, by simp, by simp⟩
  · refine ⟨[g], .inr ⟨g, 0, cap, rfl, rfl, (Array.getElem?_eq_some_iff.1 hg).1, fun i hi => ?_, fun i hi => hh.frozenAt _⟩, by simpa using hB, by simp [Value.ownBlock]⟩
    obtain ⟨e0, e1⟩ := vrCells_get ns i hi
    refine ⟨?_, ?_⟩
    · rw [Nat.zero_add, hh.cellAt _ (by omega)]; exact e0
    · rw [Nat.zero_add, hh.cellAt _ (by omega)]; exact e1
theorem VrRow.rd {B : Nat} {w : World} {v : Value} {ns : List VerV} (h : VrRow B w v ns) : VerRd w v ns := by
  obtain ⟨S, h, _⟩ := h.own
  exact h.rd
theorem VrRow.ge {B : Nat} {w : World} {v : Value} {ns : List VerV} (h : VrRow B w v ns) : ∀ g, v.ownBlock = some g → B ≤ g := by
  intro g hg
  rcases h.2 with ⟨rfl, _⟩ | ⟨g', cap, cur, rfl, hB, _⟩
  · simp [Value.ownBlock] at hg
  · simp [Value.ownBlock] at hg; omega
theorem VrRow.lt {B : Nat} {w : World} {v : Value} {ns : List VerV} (h : VrRow B w v ns) : ∀ g, v.ownBlock = some g → g < w.heap.size := by
  intro g hg
  rcases h.2 with ⟨rfl, _⟩ | ⟨g', cap, cur, rfl, hB, hh, _⟩
  · simp [Value.ownBlock] at hg
  · simp [Value.ownBlock] at hg; rw [← hg]; exact (Array.getElem?_eq_some_iff.1 hh).1
theorem VrRow.keep {B : Nat} {w w' : World} {v : Value} {ns : List VerV} (h : VrRow B w v ns) (hk : ∀ g, v.ownBlock = some g → w'.heap[g]? = w.heap[g]?) : VrRow B w' v ns := by
  refine ⟨h.1, ?_⟩
  rcases h.2 with h0 | ⟨g, cap, cur, e, hB, hg, r⟩
  · exact .inl h0
  · exact .inr ⟨g, cap, cur, e, hB, (hk g (by rw [e]; rfl)).trans hg, r⟩
theorem VrRow.up {B : Nat} {w w' : World} {v : Value} {ns : List VerV} (h : VrRow B w v ns) (hb : Below w.heap.size w w') : VrRow B w' v ns := h.keep (fun g hg => hb.block g (h.lt g hg))
theorem VrRow.mono {B B' : Nat} {w : World} {v : Value} {ns : List VerV} (h : VrRow B w v ns) (hB : B' ≤ B) : VrRow B' w v ns := by
  refine ⟨h.1, ?_⟩
  rcases h.2 with h0 | ⟨g, cap, cur, e, hb, r⟩
  · exact .inl h0
  · exact .inr ⟨g, cap, cur, e, Nat.le_trans hB hb, r⟩
theorem infoVr : (Tryz.prog.info? 57).map (fun i => (i.zero, i.size, i.bytes)) = some (some (.agg #[.string ByteArray.empty, .int .i64 0]), 2, 24) := by kernel_rfl
theorem news_ver {w : World} {g : Nat} {x : VerV} (c0 : w.cell? ⟨g, 0, none⟩ = some (.string x.a0)) (c1 : w.cell? ⟨g, 1, none⟩ = some (.int .i64 x.a1)) : ∀ j u, ([.string x.a0, .int .i64 x.a1] : List Value)[j]? = some u → w.cell? ((⟨g, 0, none⟩ : Addr).add j) = some u := by
  intro j u hj
  match j, hj with
  | 0, hj => simp at hj; subst hj; simpa [Addr.add] using c0
  | 1, hj => simp at hj; subst hj; simpa [Addr.add] using c1
/-- one more version, which lies in a block of its own -/
theorem wpList_vrAppend {w : World} {ops : Array Oper} {rest : List Oper} {o : Oper} {a : Act} {Q : Exit → Act → World → Prop} (hgd : o.guard = none) (s x : Operand)
    (ho : o.op = .call { callee := .builtin .append, args := #[s, x], argTypes := #[22, 22] }) (B : Nat) (v : Value) (ns : List VerV) (y : VerV) (g : Nat) (hs : a.eval s = v) (hx : a.eval x = .slice (some ⟨g, 0, none⟩) 1 1)
    (hv : VrRow B w v ns) (c0 : w.cell? ⟨g, 0, none⟩ = some (.string y.a0)) (c1 : w.cell? ⟨g, 1, none⟩ = some (.int .i64 y.a1)) (hl : ns.length ≤ 1000000) (hB : B ≤ w.heap.size)
    (h : ∀ g' n c w', VrRow B w' (.slice (some ⟨g', 0, none⟩) n c) (ns ++ [y]) → w.grownBy w' v.ownBlock → (v.ownBlock = some g' ∨ g' = w.heap.size) → wpList Tryz.prog ops Q rest (a.put o.dst (.slice (some ⟨g', 0, none⟩) n c)) w') : wpList Tryz.prog ops Q (o :: rest) a w := by
  obtain ⟨i0, hi, hz0, hz1, hz2⟩ := info_parts1 infoVr
  refine wpList_append_lies w hgd s x 22 ho B 57 i0 _ 2 24 Tryz.underlying22 hi hz0 hz1 hz2 rfl (by decide) v ns.length (vrCells ns) hs hv ⟨g, 0, none⟩ 1 1 [.string y.a0, .int .i64 y.a1] hx rfl (news_ver c0 c1) (by intro u hu; simp at hu; rcases hu with rfl | rfl <;> rfl) (by decide) (by unfold maxLen; omega) (by omega) hB w.heap.size rfl ?_
  intro g' cap w' h2 h3 h4 h5
  refine h g' _ cap w' ?_ h3 h4
  unfold VrRow
  rw [vrCells_snoc, List.length_append]
  exact h2
/-- one more version, at a step of a region that draws its order -/
theorem step_vrAppend {w : World} {ops : Array Oper} {o : Oper} {a : Act} {K : Act → World → Prop} {Q : Exit → Act → World → Prop} {E : Prop} (hgd : o.guard = none) (s x : Operand)
    (ho : o.op = .call { callee := .builtin .append, args := #[s, x], argTypes := #[22, 22] }) (B : Nat) (v : Value) (ns : List VerV) (y : VerV) (g : Nat) (hs : a.eval s = v) (hx : a.eval x = .slice (some ⟨g, 0, none⟩) 1 1)
    (hv : VrRow B w v ns) (c0 : w.cell? ⟨g, 0, none⟩ = some (.string y.a0)) (c1 : w.cell? ⟨g, 1, none⟩ = some (.int .i64 y.a1)) (hl : ns.length ≤ 1000000) (hB : B ≤ w.heap.size)
    (h : ∀ g' n c w', VrRow B w' (.slice (some ⟨g', 0, none⟩) n c) (ns ++ [y]) → w.grownBy w' v.ownBlock → K (a.put o.dst (.slice (some ⟨g', 0, none⟩) n c)) w') :
    if Region.wanted o (yielded ops a.tmps) = true then Oper.wp Tryz.prog o a w K Q else E := by
  obtain ⟨i0, hi, hz0, hz1, hz2⟩ := info_parts1 infoVr
  refine step_append_lies w hgd s x 22 ho B 57 i0 _ 2 24 Tryz.underlying22 hi hz0 hz1 hz2 rfl (by decide) v ns.length (vrCells ns) hs hv ⟨g, 0, none⟩ 1 1 [.string y.a0, .int .i64 y.a1] hx rfl (news_ver c0 c1) (by intro u hu; simp at hu; rcases hu with rfl | rfl <;> rfl) (by decide) (by unfold maxLen; omega) (by omega) hB w.heap.size rfl ?_
  intro g' cap w' h2 h3 h4 h5
  refine h g' _ cap w' ?_ h3
  unfold VrRow
  rw [vrCells_snoc, List.length_append]
  exact h2
end Go.Proofs.YtiebfcefmdiajaaGreatDoor

set_option linter.unusedVariables false
namespace Go.Proofs.YtiebfcefmdiajaaGreatDoor
open Go.RowKit Go.Maps Go.Deep

theorem ByRow.turn33 {B : Nat} {g : Nat} {w w' : World} {v : Value} {bs : List UInt8} (h : ByRow B w v bs) (ht : Turn [g] w w') (hg : g < B) : ByRow B w' v bs := h.turn ht (fun k hk hm => by have := h.ge k hk; simp at hm; omega)
theorem VrRow.turn33 {B : Nat} {g : Nat} {w w' : World} {v : Value} {rs : List VerV} (h : VrRow B w v rs) (ht : Turn [g] w w') (hg : g < B) : VrRow B w' v rs := h.keep (fun k hk => ht.block k (h.lt k hk) (fun hm => by have := h.ge k hk; simp at hm; omega))
def nmF33 (j : Nat) : ByteArray := [(⟨#[120]⟩ : ByteArray), ⟨#[121]⟩, ⟨#[115, 45, 49]⟩, ⟨#[97, 98, 99, 100, 101, 102, 103, 104]⟩, ⟨#[122, 57]⟩, ⟨#[113]⟩].getD j ⟨#[]⟩
theorem nmF33_size (j : Nat) : (nmF33 j).size ≤ 100 := by
  match j with
  | 0 | 1 | 2 | 3 | 4 | 5 => decide
  | n + 6 => simp [nmF33, ByteArray.size]
def RetNm33 (base g N : Nat) (w0 w : World) (e : Ending) (w' : World) : Prop := ∃ s : ByteArray, e = .returned (.string s) ∧ Hid (s.size ≤ 100) ∧ Hid (Rdy base g (N + 1) w0 w') ∧ Hid (Turn [g] w w')
set_option maxHeartbeats 1600000 in
theorem l33Name_any (base g N : Nat) (w0 w : World) (hN : N ≤ 1000000) (h : Rdy base g N w0 w) :
    Calls Tryz.prog 57 #[.pointer (some ⟨g, 0, none⟩)] w fun e w' => RetNm33 base g N w0 w e w' := by
  have hgl := Nat.lt_of_lt_of_le h.lt h.turn.size
  have hc : ∀ j, j < 6 → (w.alloc (.cells #[.string ⟨#[120]⟩, .string ⟨#[121]⟩, .string ⟨#[115, 45, 49]⟩, .string ⟨#[97, 98, 99, 100, 101, 102, 103, 104]⟩, .string ⟨#[122, 57]⟩, .string ⟨#[113]⟩] 9)).cell? ⟨w.heap.size, j, none⟩ = some (.string (nmF33 j)) := fun j hj => by
    rw [World.cell?_alloc_at _ _ _ _ rfl]
    match j, hj with
    | 0, _ | 1, _ | 2, _ | 3, _ | 4, _ | 5, _ => rfl
  have bb := (Below.refl w.heap.size w).alloc (Nat.le_refl _) (.cells #[.string ⟨#[120]⟩, .string ⟨#[121]⟩, .string ⟨#[115, 45, 49]⟩, .string ⟨#[97, 98, 99, 100, 101, 102, 103, 104]⟩, .string ⟨#[122, 57]⟩, .string ⟨#[113]⟩] 9)
  have hz : w.heap.size < (w.alloc (.cells #[.string ⟨#[120]⟩, .string ⟨#[121]⟩, .string ⟨#[115, 45, 49]⟩, .string ⟨#[97, 98, 99, 100, 101, 102, 103, 104]⟩, .string ⟨#[122, 57]⟩, .string ⟨#[113]⟩] 9)).heap.size := by simp
  have HC := hide hc
  have R1 := hide (h.up bb)
  have T1 := hide (show Turn [g] w _ from Turn.of_below bb)
  clear h bb hc
  go_enter Tryz.func57, Tryz.ntmps57
  go_wp2_with fail
  generalize w.alloc (.cells #[.string ⟨#[120]⟩, .string ⟨#[121]⟩, .string ⟨#[115, 45, 49]⟩, .string ⟨#[97, 98, 99, 100, 101, 102, 103, 104]⟩, .string ⟨#[122, 57]⟩, .string ⟨#[113]⟩] 9) = W at *
  refine (pick_rdy base g N 6 w0 W (by omega) (by omega) (by omega) (unhide R1)).mono ?_
  rintro e w2 ⟨v, rfl, v1, R2, T2⟩
  have vt : v < 6 := by omega
  have c0 := ((unhide T2).cell hz (by simp; omega)).trans (unhide HC v vt)
  have T3 := hide ((unhide T1).trans (unhide T2))
  have hs := hide (nmF33_size v)
  clear T2 R1 T1 HC
  generalize nmF33 v = s at *
  go_wp2_with fail
  go_ret
  exact ⟨_, rfl, hs, R2, T3⟩
def RetRaw33 (base g N n : Nat) (w0 w : World) (e : Ending) (w' : World) : Prop := ∃ a c bs, e = .returned (.slice a n c) ∧ Hid (ByRow w.heap.size w' (.slice a n c) bs) ∧ bs.length = n ∧ Hid (Rdy base g N w0 w') ∧ Hid (w.heap.size ≤ w'.heap.size)
set_option maxHeartbeats 6400000 in
theorem l33Raw_any (base g N n : Nat) (w0 w : World) (hn : n ≤ 1000) (hN : N ≤ 1000000) (h : Rdy base g N w0 w) :
    Calls Tryz.prog 76 #[.pointer (some ⟨g, 0, none⟩), .int .i64 (n : Int)] w fun e w' => RetRaw33 base g (N + 2 * n) n w0 w e w' := by
  have HZ := hide (Nat.lt_of_lt_of_le h.lt h.turn.size)
  have HR := hide h
  clear h
  go_enter Tryz.func76, Tryz.ntmps76
  go_wp2_with fail
  go_loopw [5, 6, 7] (fun o i q wr => ∃ (k : Nat) (a : Option Addr) (c : Nat) (bs : List UInt8), k ≤ n ∧ i = .int .i64 k ∧ o = .slice a k c ∧ Hid (ByRow w.heap.size wr (.slice a k c) bs) ∧ Hid (bs.length = k) ∧ Hid (Rdy base g (N + 2 * k) w0 wr) ∧ Hid (w.heap.size ≤ wr.heap.size)) (fun _ i _ _ => n - (intOf i).toNat)
  case atStart => exact ⟨0, none, 0, [], Nat.zero_le _, rfl, rfl, hide (ByRow.nil _ _), hide rfl, HR, hide (Nat.le_refl _)⟩
  case round =>
    obtain ⟨k, a, c, bs, hk, rfl, rfl, HB, HL, HD, HS⟩ := hrel
    by_cases hlt : k < n
    · go_wp2_with fail
      refine (pick_rdy base g (N + 2 * k) 256 w0 wr (by omega) (by omega) (by omega) (unhide HD)).mono ?_
      rintro e w1 ⟨v, rfl, hv, D1, T1⟩
      have R1 := hide ((unhide HB).turn33 (unhide T1) (unhide HZ))
      have S1 := hide (Nat.le_trans (unhide HS) (unhide T1).size)
      clear HB HD T1 HS
      go_wp2_with fail
      refine (pick_rdy base g (N + 2 * k + 1) 6 w0 w1 (by omega) (by omega) (by omega) (unhide D1)).mono ?_
      rintro e w2 ⟨u, rfl, hu, D2, T2⟩
      have R2 := hide ((unhide R1).turn33 (unhide T2) (unhide HZ))
      have S2 := hide (Nat.le_trans (unhide S1) (unhide T2).size)
      clear R1 D1 T2 S1
      by_cases hu0 : u = 0
      · subst hu0
        skip
        have hx0 : (0 : Int) ≤ (245 : Int) := by omega
        have hx1 : (245 : Int) < (256 : Int) := by omega
        have R3 := hide ((unhide R2).up' (.cells #[.int .u8 (245 : Int)] 5))
        have U3 := hide (byLit1 w2 (245 : Int) hx0 hx1)
        have D3 := hide ((unhide D2).alloc (.cells #[.int .u8 (245 : Int)] 5))
        have S3 := hide (Nat.le_trans (unhide S2) (show w2.heap.size ≤ (w2.alloc (.cells #[.int .u8 (245 : Int)] 5)).heap.size by simp))
        have hl := hide (show bs.length + [beB (245 : Int) 0].length ≤ 140737488355328 by have := unhide HL; simp; omega)
        clear R2 D2 S2
        go_wp2_with (first
          | (at_builtin; refine wpList_byAppend rfl _ _ rfl w.heap.size _ _ bs [beB (245 : Int) 0] rfl rfl (unhide R3) (unhide U3) (unhide hl) (unhide S3) ?_; intro a2 c2 w3 r2 g2 _; have HN2 := hide (show bs.length + [beB (245 : Int) 0].length = k + 1 by have := unhide HL; simp; omega); generalize bs.length + [beB (245 : Int) 0].length = n2 at *; have R4 := hide r2; have D4 := hide ((unhide D3).grown g2 (fun y hy => Nat.le_trans (unhide HR).size ((unhide R3).ge y hy))); have S4 := hide (Nat.le_trans (unhide S3) g2.size); clear r2 g2 R3 U3)
          | fail)
        obtain rfl : n2 = k + 1 := unhide HN2
        go_roundw
        case rel => exact ⟨k + 1, a2, c2, bs ++ [beB (245 : Int) 0], by omega, by go_num, rfl, R4, hide (by have := unhide HL; simp; omega), hide ((unhide D4).more (by omega)), S4⟩
        case measure => simp [intOf]; omega
      · have hub : ((u : Int) == 0) = false := by simp; omega
        clear hu0
        have hx0 : (0 : Int) ≤ (v : Int) := by omega
        have hx1 : (v : Int) < (256 : Int) := by omega
        have R3 := hide ((unhide R2).up' (.cells #[.int .u8 (v : Int)] 5))
        have U3 := hide (byLit1 w2 (v : Int) hx0 hx1)
        have D3 := hide ((unhide D2).alloc (.cells #[.int .u8 (v : Int)] 5))
        have S3 := hide (Nat.le_trans (unhide S2) (show w2.heap.size ≤ (w2.alloc (.cells #[.int .u8 (v : Int)] 5)).heap.size by simp))
        have hl := hide (show bs.length + [beB (v : Int) 0].length ≤ 140737488355328 by have := unhide HL; simp; omega)
        clear R2 D2 S2
        go_wp2_with (first
          | (at_builtin; refine wpList_byAppend rfl _ _ rfl w.heap.size _ _ bs [beB (v : Int) 0] rfl rfl (unhide R3) (unhide U3) (unhide hl) (unhide S3) ?_; intro a2 c2 w3 r2 g2 _; have HN2 := hide (show bs.length + [beB (v : Int) 0].length = k + 1 by have := unhide HL; simp; omega); generalize bs.length + [beB (v : Int) 0].length = n2 at *; have R4 := hide r2; have D4 := hide ((unhide D3).grown g2 (fun y hy => Nat.le_trans (unhide HR).size ((unhide R3).ge y hy))); have S4 := hide (Nat.le_trans (unhide S3) g2.size); clear r2 g2 R3 U3)
          | fail)
        obtain rfl : n2 = k + 1 := unhide HN2
        go_roundw
        case rel => exact ⟨k + 1, a2, c2, bs ++ [beB (v : Int) 0], by omega, by go_num, rfl, R4, hide (by have := unhide HL; simp; omega), hide ((unhide D4).more (by omega)), S4⟩
        case measure => simp [intOf]; omega
    · obtain rfl : k = n := by omega
      go_wp2_with fail
      go_ret
      exact ⟨a, c, bs, rfl, HB, unhide HL, HD, HS⟩
end Go.Proofs.YtiebfcefmdiajaaGreatDoor
