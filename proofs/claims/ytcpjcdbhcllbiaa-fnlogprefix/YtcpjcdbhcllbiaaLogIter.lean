/-
  The program's records, told one behind the other by an iterator that cuts its bytes.
-/
import Derived.Test.YtcpjcdbhcllbiaaLogReadS
import Derived.Test.YtcpjcdbhcllbiaaRangeWr
import Derived.Test.YtcpjcdbhcllbiaaRecRead
import Derived.Test.YtcpjcdbhcllbiaaKeeps
import Derived.WalkKit
set_option linter.unusedVariables false
namespace Go.Proofs.Ytcpjcdbhcllbiaa
open Go.RowKit Go.Maps Go.Deep Go.Shelf

attribute [local go_sem] Oper.semAt_some

def RdP : Type := { x : RecV × Nat // x.2 ≤ 1048576 }
def offs (ys : List (RecV × Nat)) : Nat := (ys.map (·.2)).sum
/-- they are read one behind the other -/
def RdTo (bs : List UInt8) (ys : List (RecV × Nat)) : Prop := ∀ i (h : i < ys.length), readI (bs.drop (offs (ys.take i))) = some ys[i]
theorem offs_snoc (ys : List (RecV × Nat)) (x : RecV × Nat) : offs (ys ++ [x]) = offs ys + x.2 := by simp [offs]
theorem RdTo.nil (bs : List UInt8) : RdTo bs [] := fun i h => by simp at h
theorem RdTo.snoc {bs : List UInt8} {ys : List (RecV × Nat)} {x : RecV × Nat} (h : RdTo bs ys) (hx : readI (bs.drop (offs ys)) = some x) : RdTo bs (ys ++ [x]) := by
  intro i hi
  by_cases e : i < ys.length
  · rw [List.take_append_of_le_length (by omega), List.getElem_append_left e]
    exact h i e
  · have : i = ys.length := by simp at hi; omega
    subst this
    rw [List.take_append_of_le_length (by omega), List.take_length, List.getElem_append_right (by omega)]
    simpa using hx
theorem RdTo.init {bs : List UInt8} {ys : List (RecV × Nat)} {x : RecV × Nat} (h : RdTo bs (ys ++ [x])) : RdTo bs ys ∧ readI (bs.drop (offs ys)) = some x := by
  refine ⟨fun i hi => ?_, ?_⟩
  · have := h i (by simp; omega)
    rw [List.take_append_of_le_length (by omega), List.getElem_append_left hi] at this
    exact this
  · have := h ys.length (by simp)
    rw [List.take_append_of_le_length (by omega), List.take_length, List.getElem_append_right (by omega)] at this
    simpa using this
theorem RdTo.offs {bs : List UInt8} : ∀ (m : Nat) (ys : List (RecV × Nat)), ys.length = m → RdTo bs ys → offs ys ≤ bs.length ∧ ys.length ≤ offs ys := by
  intro m
  induction m with
  | zero => intro ys h _; rw [List.eq_nil_of_length_eq_zero h]; simp [Go.Proofs.Ytcpjcdbhcllbiaa.offs]
  | succ m ih =>
    intro ys h hr
    obtain ⟨zs, x, rfl⟩ : ∃ zs x, ys = zs ++ [x] := by
      have hne : ys ≠ [] := by rintro rfl; simp at h
      exact ⟨ys.dropLast, ys.getLast hne, (List.dropLast_concat_getLast hne).symm⟩
    obtain ⟨h1, h2⟩ := hr.init
    obtain ⟨o1, o2⟩ := ih zs (by simpa using h) h1
    obtain ⟨_, _, f3, f4⟩ := read_facts (r := x.1) (n := x.2) h2
    rw [offs_snoc]
    rw [List.length_drop] at f3
    refine ⟨by omega, by simp; omega⟩
theorem RdTo.lg {bs : List UInt8} : ∀ (m : Nat) (ys : List (RecV × Nat)), ys.length = m → m ≤ 200 → RdTo bs ys → LgTo bs m (ys.map (·.1)) (Go.Proofs.Ytcpjcdbhcllbiaa.offs ys) := by
  intro m
  induction m with
  | zero => intro ys h _ _; rw [List.eq_nil_of_length_eq_zero h]; exact lg_zero bs
  | succ m ih =>
    intro ys h hm hr
    obtain ⟨zs, x, rfl⟩ : ∃ zs x, ys = zs ++ [x] := by
      have hne : ys ≠ [] := by rintro rfl; simp at h
      exact ⟨ys.dropLast, ys.getLast hne, (List.dropLast_concat_getLast hne).symm⟩
    obtain ⟨h1, h2⟩ := hr.init
    have := lg_step (r := x.1) (n := x.2) (ih zs (by simpa using h) (by omega) h1) (by omega) h2
    rw [offs_snoc, List.map_append]
    exact this
theorem implRead_all (v : Value) (bs : List UInt8) (w : World) (hl : bs.length ≤ 1048576) (h : ByRd w v bs) : Calls Try.prog 28 #[v] w fun e w' => e = .returned (readVal (readI bs)) ∧ Below w.heap.size w w' := by
  refine (implRead_any v bs w hl h).mono ?_
  rintro e w' ⟨o, rfl, ho, hb⟩
  rw [isRead_same (unhide ho) (readI_is bs)]
  exact ⟨rfl, hb⟩
def encR (x : RecV × Nat) : Array Value := #[.agg #[.int .i64 x.1.kind, .string x.1.name, .int .i64 x.1.num, .string x.1.text], .int .i64 (x.2 : Int)]
/-- bytes in a block that is kept -/
def ByK (W : World) (n₀ : Nat) (T : List Nat) (a : Option Addr) (xs : List UInt8) : Prop := xs = [] ∨ ∃ b off, a = some ⟨b, off, none⟩ ∧ b < n₀ ∧ b ∉ T ∧ ByAt W b off xs
theorem ByK.in' {W X : World} {n₀ : Nat} {T : List Nat} {a : Option Addr} {xs : List UInt8} (h : ByK W n₀ T a xs) (hn : n₀ ≤ W.heap.size) (hk : Keep n₀ T W X) : ByIn X a xs := by
  rcases h with h | ⟨b, off, rfl, hb, hT, h⟩
  · exact .inl h
  · exact .inr ⟨b, off, rfl, Nat.lt_of_lt_of_le hb (Nat.le_trans hn hk.size), fun i hi => (hk.cell hb hT).trans (h i hi)⟩
theorem ByK.drop {W : World} {n₀ : Nat} {T : List Nat} {a : Option Addr} {xs : List UInt8} (h : ByK W n₀ T a xs) (k : Nat) (hk : k ≤ xs.length) : ByK W n₀ T (a.map (fun x => x.add k)) (xs.drop k) := by
  rcases h with rfl | ⟨b, off, rfl, hb, hT, h⟩
  · exact .inl (by simp)
  · refine .inr ⟨b, off + k, by simp [addr_add], hb, hT, fun i hi => ?_⟩
    rw [List.getElem_drop, Nat.add_assoc]
    exact h (k + i) (by simp at hi; omega)
def lenAt (W : World) (Br : Nat) : Nat := match W.cell? ⟨Br, 0, none⟩ with
  | some (.slice _ n _) => n
  | _ => 0
theorem lenAt_box {W : World} {Br : Nat} {T : TypeId} {a : Option Addr} {n c : Nat} (h : Boxed W Br T (.slice a n c)) : lenAt W Br = n := by
  unfold lenAt
  rw [h.cell]
theorem Keep.more {n₀ : Nat} {S : List Nat} {a b : World} (h : Keep n₀ S a b) (k : Nat) : Keep n₀ (k :: S) a b := ⟨h.size, fun i hi hS => h.block i hi (fun hm => hS (List.mem_cons_of_mem _ hm))⟩

theorem keep_below {n₀ : Nat} {S : List Nat} {X Y : World} (hn : n₀ ≤ X.heap.size) (h : Below X.heap.size X Y) : Keep n₀ S X Y := Keep.of_below (h.mono hn)
theorem boxed_on {W W' : World} {B : Nat} {t : TypeId} {v : Value} (h : Boxed W B t v) (hb : Below W.heap.size W W') : Boxed W' B t v := (hb.block _ h.lt).trans h
set_option maxRecDepth 100000 in
set_option maxHeartbeats 4000000 in
theorem recs1_in (n : Nat) (hn : 1 ≤ n) (l Br n₀ : Nat) (a : Option Addr) (c : Nat) (bs : List UInt8) (hbs : bs.length ≤ 1048576) (hc : bs.length ≤ c) (S : List Nat) (hBn : Br < n₀) (hSb : Br ∉ S) (J Jx : List (RecV × Nat) → World → Prop) (hJ : ∀ pre X Y, J pre X → Below X.heap.size X Y → J pre Y) (hJw : ∀ pre X v, J pre X → J pre (X.setCell ⟨Br, 0, none⟩ v))
    (hY : ∀ pre (x : RecV × Nat) W, x.2 ≤ 1048576 → J pre W → pre.length < bs.length + 1 → YieldAt Fence.wide (n - 1) Try.prog l (encR x) W fun e W' =>
      (e = .returned (.bool true) ∧ J (pre ++ [x]) W' ∧ Keep n₀ S W W') ∨ (e = .returned (.bool false) ∧ Jx (pre ++ [x]) W'))
    (W : World) (hnW : n₀ ≤ W.heap.size) (hin : ByK W n₀ (Br :: S) a bs) (hBr : Boxed W Br 22 (.slice a bs.length c)) (h0 : J [] W) :
    CallsIn Fence.wide n Try.prog 27 #[.func (.yield l) #[] #[], .pointer (some ⟨Br, 0, none⟩)] W fun e W' => (∃ v, e = .returned v) ∧
      ((∃ ys, (RdTo bs ys ∧ readI (bs.drop (offs ys)) = none) ∧ J ys W') ∨ (∃ pre, RdTo bs pre ∧ Jx pre W')) := by
  have HJ := hide hJ
  have HJW := hide hJw
  have HY := hide hY
  have HJ0 := hide h0
  have HI0 := hide hin
  have HBX0 := hide hBr
  clear hJ hY h0 hJw hin hBr
  refine callsIn_of_wp Try.func27 rfl trivial ?_ rfl
  simp only [Try.ntmps27, List.size_toArray, List.length_cons, List.length_nil, Nat.reduceAdd, Nat.reduceSub, Array.replicate_succ, Array.replicate_zero, List.push_toArray, List.append_toArray, List.nil_append, List.cons_append]
  gi_wp2
  gi_loopw [4] (fun _ wr => ∃ (pre : List (RecV × Nat)) (p : Nat) (a' : Option Addr) (c' : Nat), p ≤ bs.length ∧ bs.length - p ≤ c' ∧ Hid (offs pre = p) ∧ Hid (RdTo bs pre) ∧ Hid (ByK W n₀ (Br :: S) a' (bs.drop p)) ∧ Hid (Boxed wr Br 22 (.slice a' (bs.length - p) c')) ∧ Hid (J pre wr) ∧ Hid (Keep n₀ (Br :: S) W wr))
    (fun _ wr => lenAt wr Br)
  case atStart => exact ⟨[], 0, a, c, by omega, by omega, hide rfl, hide (RdTo.nil bs), HI0, HBX0, HJ0, hide (Keep.refl _ _ _)⟩
  case round =>
    obtain ⟨pre, p, a', c', hp, hc', HO, HRT, HBK, HBX, HJs, HK⟩ := hrel
    have HRD := hide (fun (X : World) (hk : Keep n₀ (Br :: S) W X) => implRead_all (.slice a' (bs.length - p) c') (bs.drop p) X (by rw [List.length_drop]; omega) ⟨a', c', by rw [List.length_drop], (unhide HBK).in' hnW hk, by rw [List.length_drop]; exact hc'⟩)
    have HLN := hide (lenAt_box (unhide HBX))
    have cB := (unhide HBX).cell
    have hsz : n₀ ≤ wr.heap.size := Nat.le_trans hnW (unhide HK).size
    cases hr : readI (bs.drop p) with
    | none =>
      have HE := hide (show readI (bs.drop (offs pre)) = none by rw [unhide HO]; exact hr)
      rw [hr] at HRD
      simp only [readVal] at HRD
      clear hr
      gi_wp2_with fail
      refine ⟨trivial, ?_⟩
      refine (callsIn_wide.2 (unhide HRD _ (unhide HK))).mono ?_
      rintro e w1 ⟨rfl, b1⟩
      have J1 := hide (unhide HJ _ _ (w1.alloc (.cells #[.int .i64 0, .string ⟨#[]⟩, .int .i64 0, .string ⟨#[]⟩] 32)) (unhide HJs) (b1.alloc b1.size _))
      clear b1 cB
      gi_wp2
      refine And.intro (fun f h => by simp at h) ?_
      gi_wp2
      refine bodyPost_ret (results_none rfl _ _ _) rfl ?_
      exact ⟨⟨_, rfl⟩, .inl ⟨pre, ⟨unhide HRT, unhide HE⟩, unhide J1⟩⟩
    | some q =>
      obtain ⟨r, m⟩ := q
      obtain ⟨_, _, hm1, hm2⟩ := read_facts hr
      rw [List.length_drop] at hm1
      have HRT2 := hide (RdTo.snoc (unhide HRT) (x := (r, m)) (by rw [unhide HO]; exact hr))
      have HLE := hide ((unhide HRT).offs _ _ rfl)
      rw [hr] at HRD
      simp only [readVal] at HRD
      clear hr
      gi_wp2_with fail
      refine ⟨trivial, ?_⟩
      refine (callsIn_wide.2 (unhide HRD _ (unhide HK))).mono ?_
      rintro e w1 ⟨rfl, b1⟩
      have bA := b1.alloc b1.size (.cells #[.int .i64 r.kind, .string r.name, .int .i64 r.num, .string r.text] 32)
      have J1 := hide (unhide HJ _ _ (w1.alloc (.cells #[.int .i64 r.kind, .string r.name, .int .i64 r.num, .string r.text] 32)) (unhide HJs) bA)
      have BX1 := hide (boxed_on (unhide HBX) bA)
      have K1 := hide ((unhide HK).trans (keep_below (S := Br :: S) hsz bA))
      have hsz1 : n₀ ≤ (w1.alloc (.cells #[.int .i64 r.kind, .string r.name, .int .i64 r.num, .string r.text] 32)).heap.size := Nat.le_trans hsz bA.size
      obtain ⟨d0, d1, d2, d3⟩ := (boxF_new w1 [.int .i64 r.kind, .string r.name, .int .i64 r.num, .string r.text] 32).1.four
      obtain ⟨fn, tmps, assign, body, hy, hR⟩ := unhide HY pre (r, m) _ (by show m ≤ 1048576; omega) (unhide J1) (by have := unhide HLE; omega)
      have HR := hide hR
      dsimp only [encR] at hy
      clear b1 cB bA hR
      gi_wp2_with fail
      refine (unhide HR).mono ?_
      rintro e W3 (⟨rfl, hJ3, hk3⟩ | ⟨rfl, hJx3⟩)
      · have BX3 : Boxed W3 Br 22 (.slice a' (bs.length - p) c') := (hk3.block Br hBn hSb).trans (unhide BX1)
        have J3 := hide (fun v => unhide HJW _ _ v hJ3)
        have K3 := hide (fun v => ((unhide K1).trans (hk3.more Br)).setCell (.inl (by simp) : Br ∈ Br :: S ∨ n₀ ≤ Br) 0 v)
        have N3 := hide (fun v => BX3.set v)
        have cB := BX3.cell
        have fB := BX3.frozen
        have HO2 := hide (show offs (pre ++ [(r, m)]) = p + m by rw [offs_snoc, unhide HO])
        have HBK2 := hide (show ByK W n₀ (Br :: S) (a'.map (fun x => x.add m)) (bs.drop (p + m)) by have h := (unhide HBK).drop m (by rw [List.length_drop]; omega); rwa [List.drop_drop] at h)
        have HBK0 := hide (show c' = m → ByK W n₀ (Br :: S) a' (bs.drop (p + m)) from fun e => .inl (List.drop_of_length_le (by omega)))
        have hmi : (m : Int) ≤ ((bs.length - p : Nat) : Int) := by omega
        have hsub : bs.length - p - m = bs.length - (p + m) := by omega
        clear hJ3 hk3 BX3 hy d0 d1 d2 d3 HR
        gi_wp2_with fail
        have HB2 := hide (show ByK W n₀ (Br :: S) (if c' = m then a' else a'.map (fun x => x.add m)) (bs.drop (p + m)) by
          split
          · exact unhide HBK0 (by assumption)
          · exact unhide HBK2)
        refine ⟨⟨pre ++ [(r, m)], p + m, _, _, by omega, by omega, HO2, HRT2, HB2, hide (unhide N3 _), hide (unhide J3 _), hide (unhide K3 _)⟩, ?_⟩
        rw [unhide HLN, lenAt_box (unhide N3 _)]
        omega
      · gi_wp2_with fail
        refine bodyPost_ret (results_none rfl _ _ _) rfl ?_
        exact ⟨⟨_, rfl⟩, .inr ⟨_, unhide HRT2, hJx3⟩⟩
theorem abidesR {α : Type} {B : Nat} {J : List α → World → Prop} (h : AbidesFrom B J) : ∀ pre X Y, J pre X → Below X.heap.size X Y → J pre Y :=
  fun pre X Y hx hb => h pre X Y none hx ⟨hb.os, hb.tape, hb.output, hb.size, fun k hk _ => hb.block k hk⟩ (fun r e => by cases e)
theorem recs_stops (n : Nat) (hn : 1 ≤ n) (Br n₀ : Nat) (a : Option Addr) (c : Nat) (bs : List UInt8) (hbs : bs.length ≤ 1048576) (hc : bs.length ≤ c) (S : List Nat) (hBn : Br < n₀) (hSb : Br ∉ S) (w : World) (hn₀ : n₀ ≤ w.heap.size)
    (hin : ByK w n₀ (Br :: S) a bs) (hBr : Boxed w Br 22 (.slice a bs.length c)) :
    SeqWr Fence.wide n Try.prog 27 #[.pointer (some ⟨Br, 0, none⟩)] (fun x : RdP => encR x.1) (Keep n₀ S) (fun ys => RdTo bs (ys.map fun x : RdP => x.1) ∧ readI (bs.drop (offs (ys.map fun x : RdP => x.1))) = none)
      (fun pre => RdTo bs (pre.map fun x : RdP => x.1)) (bs.length + 1) Br w := fun l J Jx W hW hJ _ hJw hY h0 => by
  have hin' : ByK W n₀ (Br :: S) a bs := by
    rcases hin with h | ⟨b, off, e, hb, hT, h⟩
    · exact .inl h
    · exact .inr ⟨b, off, e, hb, hT, fun i hi => (hW.cell (p := ⟨b, off + i, none⟩) (by show b < w.heap.size; omega)).trans (h i hi)⟩
  refine (recs1_in n hn l Br n₀ a c bs hbs hc S hBn hSb (fun pre W => ∃ ps : List RdP, ps.map (fun x : RdP => x.1) = pre ∧ J ps W) (fun pre W => ∃ ps : List RdP, ps.map (fun x : RdP => x.1) = pre ∧ Jx ps W) ?_ ?_ ?_ W (Nat.le_trans hn₀ hW.size) hin' ((hW.block _ (by omega)).trans hBr) ⟨[], rfl, h0⟩).mono ?_
  · rintro pre X Y ⟨ps, h1, h2⟩ hb
    exact ⟨ps, h1, abidesR hJ ps X Y h2 hb⟩
  · rintro pre X v ⟨ps, h1, h2⟩
    exact ⟨ps, h1, hJw ps X v h2⟩
  · rintro pre x W1 hx ⟨ps, rfl, h2⟩ hlen
    obtain ⟨fn, tmps, assign, body, hy, hR⟩ := hY ps ⟨x, hx⟩ W1 h2 (by simpa using hlen)
    refine ⟨fn, tmps, assign, body, hy, hR.mono ?_⟩
    rintro e W2 (⟨h3, h4, h5⟩ | ⟨h3, h4⟩)
    · exact .inl ⟨h3, ⟨ps ++ [⟨x, hx⟩], by rw [List.map_append]; rfl, h4⟩, h5⟩
    · exact .inr ⟨h3, ps ++ [⟨x, hx⟩], by rw [List.map_append]; rfl, h4⟩
  · rintro e W2 ⟨h1, (⟨ys, h2, ps, rfl, h4⟩ | ⟨pre, h2, ps, rfl, h4⟩)⟩
    · exact ⟨h1, .inl ⟨ps, h2, h4⟩⟩
    · exact ⟨h1, .inr ⟨ps, h2, h4⟩⟩
end Go.Proofs.Ytcpjcdbhcllbiaa
