/-
  The program's reader: numbers.
-/
/-
  Rows of forms that one may append to; the two arguments of a call.
-/
import Derived.Test.YtjfebnplffpmoaaGreatDoorMerged41
import Derived.Test.YtjfebnplffpmoaaGreatDoorMerged43
import Derived.Deep.RegionHeld3
import Derived.Deep.AppendLies
import Derived.Handy
set_option linter.unusedVariables false
namespace Go.Proofs.YtjfebnplffpmoaaGreatDoor
open Go.RowKit Go.Maps Go.Deep

theorem decFrom_dig : ∀ (l : List UInt8) (acc : Nat), (∀ b ∈ l, 48 ≤ b.toNat ∧ b.toNat ≤ 57) → Lib.decFrom acc l = some (l.foldl (fun n b => 10 * n + (b.toNat - 48)) acc)
  | [], acc, _ => rfl
  | b :: r, acc, h => by
    have hb := h b (by simp)
    have e : Lib.digitVal b = some (b.toNat - 48) := by unfold Lib.digitVal; rw [if_pos hb]
    rw [Lib.decFrom, e]
    simp only
    rw [decFrom_dig r _ (fun c hc => h c (by simp [hc])), List.foldl_cons, Nat.mul_comm]
theorem atoi_dig {s : ByteArray} (h1 : 1 ≤ s.size) (hd : ∀ b ∈ s.data.toList, 48 ≤ b.toNat ∧ b.toNat ≤ 57) : Lib.atoi s.data.toList = some (numTextV s) := by
  unfold numTextV numTextV.decVal
  have hl : s.data.toList.length = s.size := by rw [Array.length_toList]; rfl
  generalize s.data.toList = l at *
  cases l with
  | nil => simp at hl; omega
  | cons b r =>
    have hb := hd b (by simp)
    have n1 : (b == 45) = false := by rw [beq_eq_false_iff_ne]; rintro rfl; exact absurd hb.1 (by decide)
    have n2 : (b == 43) = false := by rw [beq_eq_false_iff_ne]; rintro rfl; exact absurd hb.1 (by decide)
    rw [Lib.atoi, n1, n2]
    simp only [Bool.false_eq_true, if_false]
    rw [Lib.decNat]
    simp only [List.isEmpty_cons, Bool.false_eq_true, if_false]
    rw [decFrom_dig _ _ hd]
    rfl
theorem conv_belowR (w : World) (e : TypeId) (s : ByteArray) : Below w.heap.size w (Lib.bytesWorld w e s) := by
  refine ⟨rfl, rfl, rfl, by rw [Lib.bytesWorld_size]; omega, fun k hk => Lib.bytesWorld_at_old w e s k hk⟩
/-- a number that stands there -/
theorem number_any (ws : List WordV) (hw : ∀ x ∈ ws, WordIs x) (sz : Nat) (w : World) (rb : Nat) (a : Option Addr) (c n : Nat) (hn : n < ws.length) (hk : ws[n].a0 = 1) (h : PrK ws sz w rb a c n) :
    Calls Tryz.prog 81 #[.pointer (some ⟨rb, 0, none⟩)] w fun e w' => RetI ws sz rb a c (.ok (node0 1 (numTextV ws[n].a1) ⟨#[]⟩) (n + 1)) w e w' := by
  have MB := hide (mustBe_any ws sz w rb a c n 1 h.pr)
  have P0 := hide h
  have AT := hide (fun (W : World) => (show Calls Tryz.prog 82 #[.string ws[n].a1] W fun e w' => e = .returned (.tuple #[.int .i64 (numTextV ws[n].a1), .nilIface]) ∧ Below W.heap.size W w' from by
    have hx := hw ws[n] (List.getElem_mem hn)
    cases hx with
    | num _ h1 hd =>
      refine (Tryz.strconv_Atoi ws[n].a1 (numTextV ws[n].a1) h1.2 (atoi_dig h1.1 hd) W).mono ?_
      rintro e w' ⟨rfl, t, rfl⟩
      exact ⟨rfl, conv_belowR _ _ _⟩
    | name h0 _ _ _ => rw [hk] at h0; exact absurd h0 (by decide)
    | key h0 _ => rw [hk] at h0; exact absurd h0 (by decide)
    | sign h0 _ => rw [hk] at h0; exact absurd h0 (by decide)))
  have HT := hide (show isT ws n 1 = true from by unfold isT; rw [List.getElem?_eq_getElem hn]; simpa using hk)
  have HE := hide (fun (e : Ending) (w1 : World) (hr : RetMb ws sz rb a c n 1 w e w1) => show e = .returned (.string ws[n].a1) ∧ Hid (PrI ws sz w1 rb a c (n + 1)) ∧ Hid (Turn [rb] w w1) from by
    rcases hr with ⟨_, _, h2, h3, h4⟩ | ⟨h1, _⟩
    · exact ⟨h2, h3, h4⟩
    · rw [unhide HT] at h1; cases h1)
  clear h hk HT
  generalize ws[n].a1 = tx at *
  generalize numTextV tx = z at *
  go_enter Tryz.func81, Tryz.ntmps81
  go_wp2_with (first
    | (go_at_call 75; refine (unhide MB).mono ?_; intro e w1 hr; obtain ⟨rfl, P1, T1⟩ := unhide HE _ _ hr; clear hr MB)
    | (go_at_call 82; refine (unhide AT _).mono ?_; rintro e w2 ⟨rfl, b2⟩; have PK := hide ((unhide P0).next (unhide T1) (unhide P1)); have P2 := hide ((unhide PK).up b2); have T2 := hide ((unhide T1).trans (Turn.of_below b2)); clear b2 P1 T1 PK)
    | fail)
  go_ret
  exact .inr ⟨_, _, _, _, rfl, rfl, P2, T2, hide (forms_node (show FormsAre w.heap.size _ .nil [] from rfl) (.inl ⟨rfl, rfl, rfl⟩))⟩
end Go.Proofs.YtjfebnplffpmoaaGreatDoor

set_option linter.unusedVariables false
namespace Go.Proofs.YtjfebnplffpmoaaGreatDoor
open Go.RowKit Go.Maps Go.Deep

def FmRow (B : Nat) (w : World) (v : Value) (vs : List Value) : Prop := w.ownsRow B 105 1 v vs.length vs
theorem FmRow.ge {B : Nat} {w : World} {v : Value} {ts : List Value} (h : FmRow B w v ts) : ∀ g, v.ownBlock = some g → B ≤ g := by
  intro g hg
  rcases h.2 with ⟨rfl, _⟩ | ⟨g', cap, cur, rfl, hB, _⟩
  · simp [Value.ownBlock] at hg
  · simp [Value.ownBlock] at hg; omega
theorem FmRow.lt {B : Nat} {w : World} {v : Value} {ts : List Value} (h : FmRow B w v ts) : ∀ g, v.ownBlock = some g → g < w.heap.size := by
  intro g hg
  rcases h.2 with ⟨rfl, _⟩ | ⟨g', cap, cur, rfl, hB, hh, _⟩
  · simp [Value.ownBlock] at hg
  · simp [Value.ownBlock] at hg
    subst hg
    exact (Array.getElem?_eq_some_iff.1 hh).1
theorem FmRow.keep {B : Nat} {w w' : World} {v : Value} {ts : List Value} (h : FmRow B w v ts) (hk : ∀ g, v.ownBlock = some g → w'.heap[g]? = w.heap[g]?) : FmRow B w' v ts := by
  rcases h with ⟨hl, h | ⟨g, cap, cur, rfl, hB, hg, hr⟩⟩
  · exact ⟨hl, .inl h⟩
  · exact ⟨hl, .inr ⟨g, cap, cur, rfl, hB, (hk g rfl).trans hg, hr⟩⟩
theorem FmRow.up {B : Nat} {w w' : World} {v : Value} {ts : List Value} (h : FmRow B w v ts) (hb : Below w.heap.size w w') : FmRow B w' v ts := h.keep (fun g hg => hb.block g (h.lt g hg))
theorem FmRow.turn {B g : Nat} {w w' : World} {v : Value} {ts : List Value} (h : FmRow B w v ts) (t : Turn [g] w w') (hg : g < B) : FmRow B w' v ts :=
  h.keep (fun y hy => t.block y (h.lt y hy) (by have := h.ge y hy; simp; omega))
theorem FmRow.mono {B B' : Nat} {w : World} {v : Value} {ts : List Value} (h : FmRow B w v ts) (hB : B' ≤ B) : FmRow B' w v ts := by
  refine ⟨h.1, ?_⟩
  rcases h.2 with h0 | ⟨g, cap, cur, e, hb, r⟩
  · exact .inl h0
  · exact .inr ⟨g, cap, cur, e, Nat.le_trans hB hb, r⟩
theorem FmRow.at {B : Nat} {w : World} {v : Value} {ts : List Value} (h : FmRow B w v ts) (hne : ts ≠ []) : ∃ g cap, v = .slice (some ⟨g, 0, none⟩) ts.length cap ∧ B ≤ g ∧ g < w.heap.size ∧ RowAt w g ts := by
  have hh : w.ownsRow B 105 1 v ts.length ts := h
  rcases h with ⟨_, ⟨rfl, h0⟩ | ⟨g, cap, cur, rfl, hB, hg, hnc, _⟩⟩
  · exact absurd (List.eq_nil_of_length_eq_zero h0) hne
  · refine ⟨g, cap, rfl, hB, (Array.getElem?_eq_some_iff.1 hg).1, fun i hi => ?_⟩
    rw [hh.cellAt _ (by omega)]
    exact List.getElem?_eq_getElem hi
theorem infoFm : (Tryz.prog.info? 105).map (fun i => (i.zero, i.size, i.bytes)) = some (some .nilIface, 1, 16) := by kernel_rfl
theorem news_fm {w : World} {g : Nat} {x : Value} (c0 : w.cell? ⟨g, 0, none⟩ = some x) : ∀ j u, ([x] : List Value)[j]? = some u → w.cell? ((⟨g, 0, none⟩ : Addr).add j) = some u := by
  intro j u hj
  match j, hj with
  | 0, hj => simp at hj; subst hj; simpa [Addr.add] using c0
/-- one more form -/
theorem wpList_fmAppend {w : World} {ops : Array Oper} {rest : List Oper} {o : Oper} {a : Act} {Q : Exit → Act → World → Prop} (hgd : o.guard = none) (s x : Operand)
    (ho : o.op = .call { callee := .builtin .append, args := #[s, x], argTypes := #[131, 131] }) (B : Nat) (v : Value) (ts : List Value) (ty : TypeId) (y : Value) (g : Nat) (hs : a.eval s = v) (hx : a.eval x = .slice (some ⟨g, 0, none⟩) 1 1)
    (hv : FmRow B w v ts) (c0 : w.cell? ⟨g, 0, none⟩ = some (.iface ty y)) (hl : ts.length ≤ 1000000) (hB : B ≤ w.heap.size)
    (h : ∀ g' n c w', FmRow B w' (.slice (some ⟨g', 0, none⟩) n c) (ts ++ [.iface ty y]) → w.grownBy w' v.ownBlock → wpList Tryz.prog ops Q rest (a.put o.dst (.slice (some ⟨g', 0, none⟩) n c)) w') : wpList Tryz.prog ops Q (o :: rest) a w := by
  obtain ⟨i0, hi, hz0, hz1, hz2⟩ := info_parts1 infoFm
  refine wpList_append_lies w hgd s x 131 ho B 105 i0 _ 1 16 Tryz.underlying131 hi hz0 hz1 hz2 rfl (by decide) v ts.length ts hs hv ⟨g, 0, none⟩ 1 1 [.iface ty y] hx rfl (news_fm c0) (by intro u hu; simp at hu; rw [hu]; rfl) (by decide) (by unfold maxLen; omega) (by omega) hB w.heap.size rfl ?_
  intro g' cap w' h2 h3 h4 h5
  refine h g' _ cap w' ?_ h3
  unfold FmRow
  rw [List.length_append]
  exact h2
theorem fmOne (w : World) (B : Nat) (hB : B ≤ w.heap.size) (x : Value) (h1 : x.oneCell' = true) : FmRow B (w.alloc (.cells #[x] 105)) (.slice (some ⟨w.heap.size, 0, none⟩) 1 1) [x] := by
  have := World.ownsRow_lit (size := 1) (base := B) (e := 105) w #[x] 1 hB (by unfold maxLen; omega) rfl
  unfold FmRow
  exact this
theorem fm_len {B : Nat} {w : World} {a : Option Addr} {n c : Nat} {ts : List Value} (h : FmRow B w (.slice a n c) ts) : n = ts.length := by
  rcases h.2 with ⟨e, h0⟩ | ⟨g', cap, cur, e, _⟩
  · injection e with _ e2 _; omega
  · injection e
/-- a row that grows, from a world of before on: what lay there lies there still -/
theorem Turn.grownR {S : List Nat} {a b c : World} {row : Option Nat} (h : Turn S a b) (hg : b.grownBy c row) (hr : ∀ k, row = some k → k ∈ S ∨ a.heap.size ≤ k) : Turn S a c := by
  refine ⟨hg.os.trans h.os, hg.tape.trans h.tape, hg.output.trans h.output, Nat.le_trans h.size hg.size, fun k hk hn => ?_⟩
  refine (hg.block k (Nat.lt_of_lt_of_le hk h.size) (fun e => ?_)).trans (h.block k hk hn)
  rcases hr k e.symm with h1 | h1
  · exact hn h1
  · omega
end Go.Proofs.YtjfebnplffpmoaaGreatDoor
