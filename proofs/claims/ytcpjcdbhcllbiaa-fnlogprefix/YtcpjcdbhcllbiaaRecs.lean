/-
  Records as values: which may be; both sides of RecOk; the law's own helpers over one record.
-/
import Derived.Test.YtcpjcdbhcllbiaaPlain
import Derived.Handy
set_option linter.unusedVariables false
namespace Go.Proofs.Ytcpjcdbhcllbiaa
open Go.RowKit Go.Maps Go.Deep

structure RecV where
  kind : Int
  name : ByteArray
  num : Int
  text : ByteArray
def recVal (r : RecV) : Value := .agg #[.int .i64 r.kind, .string r.name, .int .i64 r.num, .string r.text]
def RecFit (r : RecV) : Prop := r.name.size ≤ maxLen ∧ r.text.size ≤ maxLen ∧ (-9223372036854775808 ≤ r.kind ∧ r.kind ≤ 9223372036854775807) ∧ (-9223372036854775808 ≤ r.num ∧ r.num ≤ 9223372036854775807)
def emptyB (t : ByteArray) : Bool := decide (t.size = 0)
theorem emptyB_nil : emptyB ⟨#[]⟩ = true := rfl
def fitsB (kind num : Int) (text : ByteArray) : Bool :=
  if kind = 1 then decide (num = 0) && decide ((text.size : Int) ≤ 200) else if kind = 2 then decide (num = 0) && emptyB text else if kind = 3 then emptyB text else if kind = 4 then emptyB text && decide (1 ≤ num) && decide (num ≤ 1125899906842624) else false
def recOkB (r : RecV) : Bool := plainB r.name && fitsB r.kind r.num r.text

theorem text_eq (t : ByteArray) : t = ⟨#[]⟩ ∨ (emptyB t = false ∧ (t.toList == ([] : List UInt8)) = false) := by
  by_cases h : t.size = 0
  · left
    obtain ⟨a⟩ := t
    have : a = #[] := Array.eq_empty_of_size_eq_zero h
    rw [this]
  · right
    refine ⟨by simp [emptyB, h], ?_⟩
    rw [ByteArray.toList_eq]
    simp
    intro e
    exact h (by obtain ⟨a⟩ := t; simp_all [ByteArray.size])

theorem bcell {W w1 : World} (hb : Below W.heap.size W w1) : (∀ b o, b < W.heap.size → w1.cell? ⟨b, o, none⟩ = W.cell? ⟨b, o, none⟩) ∧ (∀ b o, b < W.heap.size → w1.frozen? ⟨b, o, none⟩ = W.frozen? ⟨b, o, none⟩) :=
  ⟨fun b o h => hb.cell (p := ⟨b, o, none⟩) h, fun b o h => hb.frozen (p := ⟨b, o, none⟩) h⟩
theorem box4 {w w2 : World} {x0 x1 x2 x3 : Value} {T : TypeId} (hb : Below (w.alloc (.cells #[x0, x1, x2, x3] T)).heap.size (w.alloc (.cells #[x0, x1, x2, x3] T)) w2) :
    w2.cell? ⟨w.heap.size, 0, none⟩ = some x0 ∧ w2.cell? ⟨w.heap.size, 1, none⟩ = some x1 ∧ w2.cell? ⟨w.heap.size, 2, none⟩ = some x2 ∧ w2.cell? ⟨w.heap.size, 3, none⟩ = some x3 := by
  refine ⟨?_, ?_, ?_, ?_⟩
  all_goals
    rw [hb.cell (by simp), World.cell?_alloc_at _ _ _ _ rfl]
    rfl
theorem keep4 {w w2 : World} {g : Nat} {x0 x1 x2 x3 : Value} (hb : Below w.heap.size w w2) (hg : g < w.heap.size) (h0 : w.cell? ⟨g, 0, none⟩ = some x0) (h1 : w.cell? ⟨g, 1, none⟩ = some x1) (h2 : w.cell? ⟨g, 2, none⟩ = some x2) (h3 : w.cell? ⟨g, 3, none⟩ = some x3) :
    w2.cell? ⟨g, 0, none⟩ = some x0 ∧ w2.cell? ⟨g, 1, none⟩ = some x1 ∧ w2.cell? ⟨g, 2, none⟩ = some x2 ∧ w2.cell? ⟨g, 3, none⟩ = some x3 :=
  ⟨(hb.cell (by exact hg)).trans h0, (hb.cell (by exact hg)).trans h1, (hb.cell (by exact hg)).trans h2, (hb.cell (by exact hg)).trans h3⟩
set_option maxHeartbeats 3200000 in
theorem specRecOk_yes (kind num : Int) (name text : ByteArray) (w : World) (hn : name.size ≤ maxLen) (ht : text.size ≤ maxLen) (hp : plainB name = true) :
    Calls Try.prog 20 #[.agg #[.int .i64 kind, .string name, .int .i64 num, .string text]] w fun e w' => e = .returned (.bool (fitsB kind num text)) ∧ Below w.heap.size w w' := by
  unfold maxLen at ht
  have HP := hide (fun W => specPlain_any name W hn)
  clear hn
  by_cases k1 : kind = 1
  · subst k1
    by_cases g1 : num = 0
    · subst g1
      have HR := hide (show decide ((text.size : Int) ≤ 200) = fitsB 1 0 text by simp [fitsB])
      go_enter Try.func20, Try.ntmps20
      go_wp2_with (first | (go_at_call 29; refine (unhide HP _).mono ?_; rw [hp]; rintro e w1 ⟨rfl, rfl⟩) | fail)
      go_ret
      exact ⟨ret_bool (unhide HR), (Below.refl _ _).alloc (Nat.le_refl _) _⟩
    · have g2 : (num == 0) = false := by simpa using g1
      have HR := hide (show false = fitsB 1 num text by simp [fitsB, g1])
      go_enter Try.func20, Try.ntmps20
      go_wp2_with (first | (go_at_call 29; refine (unhide HP _).mono ?_; rw [hp]; rintro e w1 ⟨rfl, rfl⟩) | fail)
      go_ret
      exact ⟨ret_bool (unhide HR), (Below.refl _ _).alloc (Nat.le_refl _) _⟩
  · by_cases k2 : kind = 2
    · subst k2
      by_cases g1 : num = 0
      · subst g1
        rcases text_eq text with rfl | ⟨t1, t2⟩
        · have HR := hide (show true = fitsB 2 0 ⟨#[]⟩ by simp [fitsB, emptyB_nil])
          go_enter Try.func20, Try.ntmps20
          go_wp2_with (first | (go_at_call 29; refine (unhide HP _).mono ?_; rw [hp]; rintro e w1 ⟨rfl, rfl⟩) | fail)
          go_ret
          exact ⟨ret_bool (unhide HR), (Below.refl _ _).alloc (Nat.le_refl _) _⟩
        · have HR := hide (show false = fitsB 2 0 text by simp [fitsB, t1])
          go_enter Try.func20, Try.ntmps20
          go_wp2_with (first | (go_at_call 29; refine (unhide HP _).mono ?_; rw [hp]; rintro e w1 ⟨rfl, rfl⟩) | fail)
          go_ret
          exact ⟨ret_bool (unhide HR), (Below.refl _ _).alloc (Nat.le_refl _) _⟩
      · have g2 : (num == 0) = false := by simpa using g1
        have HR := hide (show false = fitsB 2 num text by simp [fitsB, g1])
        go_enter Try.func20, Try.ntmps20
        go_wp2_with (first | (go_at_call 29; refine (unhide HP _).mono ?_; rw [hp]; rintro e w1 ⟨rfl, rfl⟩) | fail)
        go_ret
        exact ⟨ret_bool (unhide HR), (Below.refl _ _).alloc (Nat.le_refl _) _⟩
    · by_cases k3 : kind = 3
      · subst k3
        rcases text_eq text with rfl | ⟨t1, t2⟩
        · have HR := hide (show true = fitsB 3 num ⟨#[]⟩ by simp [fitsB, emptyB_nil])
          go_enter Try.func20, Try.ntmps20
          go_wp2_with (first | (go_at_call 29; refine (unhide HP _).mono ?_; rw [hp]; rintro e w1 ⟨rfl, rfl⟩) | fail)
          go_ret
          exact ⟨ret_bool (unhide HR), (Below.refl _ _).alloc (Nat.le_refl _) _⟩
        · have HR := hide (show false = fitsB 3 num text by simp [fitsB, t1])
          go_enter Try.func20, Try.ntmps20
          go_wp2_with (first | (go_at_call 29; refine (unhide HP _).mono ?_; rw [hp]; rintro e w1 ⟨rfl, rfl⟩) | fail)
          go_ret
          exact ⟨ret_bool (unhide HR), (Below.refl _ _).alloc (Nat.le_refl _) _⟩
      · by_cases k4 : kind = 4
        · subst k4
          rcases text_eq text with rfl | ⟨t1, t2⟩
          · by_cases g1 : 1 ≤ num
            · have HR := hide (show decide (num ≤ 1125899906842624) = fitsB 4 num ⟨#[]⟩ by simp [fitsB, emptyB_nil, g1])
              go_enter Try.func20, Try.ntmps20
              go_wp2_with (first | (go_at_call 29; refine (unhide HP _).mono ?_; rw [hp]; rintro e w1 ⟨rfl, rfl⟩) | fail)
              go_ret
              exact ⟨ret_bool (unhide HR), (Below.refl _ _).alloc (Nat.le_refl _) _⟩
            · have HR := hide (show false = fitsB 4 num ⟨#[]⟩ by simp [fitsB, emptyB_nil, g1])
              go_enter Try.func20, Try.ntmps20
              go_wp2_with (first | (go_at_call 29; refine (unhide HP _).mono ?_; rw [hp]; rintro e w1 ⟨rfl, rfl⟩) | fail)
              go_ret
              exact ⟨ret_bool (unhide HR), (Below.refl _ _).alloc (Nat.le_refl _) _⟩
          · have HR := hide (show false = fitsB 4 num text by simp [fitsB, t1])
            go_enter Try.func20, Try.ntmps20
            go_wp2_with (first | (go_at_call 29; refine (unhide HP _).mono ?_; rw [hp]; rintro e w1 ⟨rfl, rfl⟩) | fail)
            go_ret
            exact ⟨ret_bool (unhide HR), (Below.refl _ _).alloc (Nat.le_refl _) _⟩
        · have e1 : (kind == 1) = false := by simpa using k1
          have e2 : (kind == 2) = false := by simpa using k2
          have e3 : (kind == 3) = false := by simpa using k3
          have e4 : (kind == 4) = false := by simpa using k4
          have HR := hide (show false = fitsB kind num text by simp [fitsB, k1, k2, k3, k4])
          go_enter Try.func20, Try.ntmps20
          go_wp2_with (first | (go_at_call 29; refine (unhide HP _).mono ?_; rw [hp]; rintro e w1 ⟨rfl, rfl⟩) | fail)
          go_ret
          exact ⟨ret_bool (unhide HR), (Below.refl _ _).alloc (Nat.le_refl _) _⟩
set_option maxHeartbeats 800000 in
theorem specRecOk_no (kind num : Int) (name text : ByteArray) (w : World) (hn : name.size ≤ maxLen) (hp : plainB name = false) :
    Calls Try.prog 20 #[.agg #[.int .i64 kind, .string name, .int .i64 num, .string text]] w fun e w' => e = .returned (.bool false) ∧ Below w.heap.size w w' := by
  have HP := hide (fun W => specPlain_any name W hn)
  clear hn
  go_enter Try.func20, Try.ntmps20
  go_wp2_with (first | (go_at_call 29; refine (unhide HP _).mono ?_; rw [hp]; rintro e w1 ⟨rfl, rfl⟩) | fail)
  go_ret
  exact ⟨rfl, (Below.refl _ _).alloc (Nat.le_refl _) _⟩
theorem specRecOk_any (r : RecV) (w : World) (hf : RecFit r) : Calls Try.prog 20 #[recVal r] w fun e w' => e = .returned (.bool (recOkB r)) ∧ Below w.heap.size w w' := by
  unfold recOkB
  cases hp : plainB r.name
  · exact specRecOk_no r.kind r.num r.name r.text w hf.1 hp
  · exact specRecOk_yes r.kind r.num r.name r.text w hf.1 hf.2.1 hp

set_option maxHeartbeats 1600000 in
theorem fits1_any (kind num : Int) (name text : ByteArray) (w : World) (ht : text.size ≤ maxLen) :
    Calls Try.prog 50 #[.agg #[], .agg #[.int .i64 kind, .string name, .int .i64 num, .string text]] w fun e w' => e = .returned (.bool (fitsB 1 num text)) ∧ Below w.heap.size w w' := by
  unfold maxLen at ht
  by_cases g1 : num = 0
  · subst g1
    have HR := hide (show decide ((text.size : Int) ≤ 200) = fitsB 1 0 text by simp [fitsB])
    go_enter Try.func50, Try.ntmps50
    go_wp2
    go_ret
    exact ⟨ret_bool (unhide HR), ((Below.refl _ _).alloc (Nat.le_refl _) _).alloc (by simp) _⟩
  · have g2 : (num == 0) = false := by simpa using g1
    have HR := hide (show false = fitsB 1 num text by simp [fitsB, g1])
    go_enter Try.func50, Try.ntmps50
    go_wp2
    go_ret
    exact ⟨ret_bool (unhide HR), ((Below.refl _ _).alloc (Nat.le_refl _) _).alloc (by simp) _⟩
set_option maxHeartbeats 1600000 in
theorem fits2_any (kind num : Int) (name text : ByteArray) (w : World) (ht : text.size ≤ maxLen) :
    Calls Try.prog 53 #[.agg #[], .agg #[.int .i64 kind, .string name, .int .i64 num, .string text]] w fun e w' => e = .returned (.bool (fitsB 2 num text)) ∧ Below w.heap.size w w' := by
  unfold maxLen at ht
  by_cases g1 : num = 0
  · subst g1
    rcases text_eq text with rfl | ⟨t1, t2⟩
    · have HR := hide (show true = fitsB 2 0 ⟨#[]⟩ by simp [fitsB, emptyB_nil])
      go_enter Try.func53, Try.ntmps53
      go_wp2
      go_ret
      exact ⟨ret_bool (unhide HR), ((Below.refl _ _).alloc (Nat.le_refl _) _).alloc (by simp) _⟩
    · have HR := hide (show false = fitsB 2 0 text by simp [fitsB, t1])
      go_enter Try.func53, Try.ntmps53
      go_wp2
      go_ret
      exact ⟨ret_bool (unhide HR), ((Below.refl _ _).alloc (Nat.le_refl _) _).alloc (by simp) _⟩
  · have g2 : (num == 0) = false := by simpa using g1
    have HR := hide (show false = fitsB 2 num text by simp [fitsB, g1])
    go_enter Try.func53, Try.ntmps53
    go_wp2
    go_ret
    exact ⟨ret_bool (unhide HR), ((Below.refl _ _).alloc (Nat.le_refl _) _).alloc (by simp) _⟩
set_option maxHeartbeats 1600000 in
theorem fits3_any (kind num : Int) (name text : ByteArray) (w : World) (ht : text.size ≤ maxLen) :
    Calls Try.prog 56 #[.agg #[], .agg #[.int .i64 kind, .string name, .int .i64 num, .string text]] w fun e w' => e = .returned (.bool (fitsB 3 num text)) ∧ Below w.heap.size w w' := by
  unfold maxLen at ht
  rcases text_eq text with rfl | ⟨t1, t2⟩
  · have HR := hide (show true = fitsB 3 num ⟨#[]⟩ by simp [fitsB, emptyB_nil])
    go_enter Try.func56, Try.ntmps56
    go_wp2
    go_ret
    exact ⟨ret_bool (unhide HR), ((Below.refl _ _).alloc (Nat.le_refl _) _).alloc (by simp) _⟩
  · have HR := hide (show false = fitsB 3 num text by simp [fitsB, t1])
    go_enter Try.func56, Try.ntmps56
    go_wp2
    go_ret
    exact ⟨ret_bool (unhide HR), ((Below.refl _ _).alloc (Nat.le_refl _) _).alloc (by simp) _⟩
set_option maxHeartbeats 1600000 in
theorem fits4_any (kind num : Int) (name text : ByteArray) (w : World) (ht : text.size ≤ maxLen) :
    Calls Try.prog 59 #[.agg #[], .agg #[.int .i64 kind, .string name, .int .i64 num, .string text]] w fun e w' => e = .returned (.bool (fitsB 4 num text)) ∧ Below w.heap.size w w' := by
  unfold maxLen at ht
  rcases text_eq text with rfl | ⟨t1, t2⟩
  · by_cases g1 : 1 ≤ num
    · have HR := hide (show decide (num ≤ 1125899906842624) = fitsB 4 num ⟨#[]⟩ by simp [fitsB, emptyB_nil, g1])
      go_enter Try.func59, Try.ntmps59
      go_wp2
      go_ret
      exact ⟨ret_bool (unhide HR), ((Below.refl _ _).alloc (Nat.le_refl _) _).alloc (by simp) _⟩
    · have HR := hide (show false = fitsB 4 num ⟨#[]⟩ by simp [fitsB, emptyB_nil, g1])
      go_enter Try.func59, Try.ntmps59
      go_wp2
      go_ret
      exact ⟨ret_bool (unhide HR), ((Below.refl _ _).alloc (Nat.le_refl _) _).alloc (by simp) _⟩
  · have HR := hide (show false = fitsB 4 num text by simp [fitsB, t1])
    go_enter Try.func59, Try.ntmps59
    go_wp2
    go_ret
    exact ⟨ret_bool (unhide HR), ((Below.refl _ _).alloc (Nat.le_refl _) _).alloc (by simp) _⟩
/-- the value that stands for a kind -/
def kindVal (k : Int) : Value := if k = 1 then .iface 62 (.agg #[]) else if k = 2 then .iface 63 (.agg #[]) else if k = 3 then .iface 64 (.agg #[]) else if k = 4 then .iface 66 (.agg #[]) else .nilIface
set_option maxHeartbeats 1600000 in
theorem recKindOf_any (k : Int) (w : World) : Calls Try.prog 23 #[.int .i64 k] w fun e w' => e = .returned (kindVal k) ∧ w' = w := by
  unfold kindVal
  by_cases k1 : k = 1
  · subst k1
    go_enter Try.func23, Try.ntmps23
    go_wp2
    go_ret
    exact ⟨rfl, rfl⟩
  · by_cases k2 : k = 2
    · subst k2
      go_enter Try.func23, Try.ntmps23
      go_wp2
      go_ret
      exact ⟨rfl, rfl⟩
    · by_cases k3 : k = 3
      · subst k3
        go_enter Try.func23, Try.ntmps23
        go_wp2
        go_ret
        exact ⟨rfl, rfl⟩
      · by_cases k4 : k = 4
        · subst k4
          go_enter Try.func23, Try.ntmps23
          go_wp2
          go_ret
          exact ⟨rfl, rfl⟩
        · rw [if_neg k1, if_neg k2, if_neg k3, if_neg k4]
          have e1 : (k == 1) = false := by simpa using k1
          have e2 : (k == 2) = false := by simpa using k2
          have e3 : (k == 3) = false := by simpa using k3
          have e4 : (k == 4) = false := by simpa using k4
          go_enter Try.func23, Try.ntmps23
          go_wp2
          go_ret
          exact ⟨rfl, rfl⟩
set_option maxHeartbeats 1600000 in
set_option maxRecDepth 20000 in
theorem implRecOk_1 (num : Int) (name text : ByteArray) (w : World) (hn : name.size ≤ maxLen) (ht : text.size ≤ maxLen) :
    Calls Try.prog 21 #[.agg #[.int .i64 1, .string name, .int .i64 num, .string text]] w fun e w' => e = .returned (.bool (plainB name && fitsB 1 num text)) ∧ Below w.heap.size w w' := by
  have HP := hide (fun W => implPlain_any name W hn)
  have HF := hide (fun W => fits1_any 1 num name text W ht)
  have HK := hide (fun W => recKindOf_any 1 W)
  clear hn ht
  cases hp : plainB name
  · go_enter Try.func21, Try.ntmps21
    go_wp2_with (first
      | (go_at_call 23; refine (unhide HK _).mono ?_; rintro e w1 ⟨rfl, rfl⟩; rw [show kindVal 1 = .iface 62 (.agg #[]) from rfl])
      | (go_at_call 30; refine (unhide HP _).mono ?_; rw [hp]; rintro e w2 ⟨rfl, hb2⟩)
      | fail)
    go_ret
    exact ⟨rfl, (Below.refl _ _).alloc (Nat.le_refl _) _ |>.trans (hb2.mono (by simp))⟩
  · go_enter Try.func21, Try.ntmps21
    go_wp2_with (first
      | (go_at_call 23; refine (unhide HK _).mono ?_; rintro e w1 ⟨rfl, rfl⟩; rw [show kindVal 1 = .iface 62 (.agg #[]) from rfl])
      | (go_at_call 30; refine (unhide HP _).mono ?_; rw [hp]; rintro e w2 ⟨rfl, hb2⟩; obtain ⟨x0, x1, x2, x3⟩ := box4 hb2; have hz2 : w.heap.size < w2.heap.size := by have := hb2.size; simp at this; omega)
      | (go_at_call 50; refine (unhide HF _).mono ?_; rintro e w3 ⟨rfl, hb3⟩)
      | fail)
    go_ret
    exact ⟨rfl, ((Below.refl _ _).alloc (Nat.le_refl _) _ |>.trans (hb2.mono (by simp))).trans (hb3.mono (by omega))⟩
set_option maxHeartbeats 1600000 in
set_option maxRecDepth 20000 in
theorem implRecOk_2 (num : Int) (name text : ByteArray) (w : World) (hn : name.size ≤ maxLen) (ht : text.size ≤ maxLen) :
    Calls Try.prog 21 #[.agg #[.int .i64 2, .string name, .int .i64 num, .string text]] w fun e w' => e = .returned (.bool (plainB name && fitsB 2 num text)) ∧ Below w.heap.size w w' := by
  have HP := hide (fun W => implPlain_any name W hn)
  have HF := hide (fun W => fits2_any 2 num name text W ht)
  have HK := hide (fun W => recKindOf_any 2 W)
  clear hn ht
  cases hp : plainB name
  · go_enter Try.func21, Try.ntmps21
    go_wp2_with (first
      | (go_at_call 23; refine (unhide HK _).mono ?_; rintro e w1 ⟨rfl, rfl⟩; rw [show kindVal 2 = .iface 63 (.agg #[]) from rfl])
      | (go_at_call 30; refine (unhide HP _).mono ?_; rw [hp]; rintro e w2 ⟨rfl, hb2⟩)
      | fail)
    go_ret
    exact ⟨rfl, (Below.refl _ _).alloc (Nat.le_refl _) _ |>.trans (hb2.mono (by simp))⟩
  · go_enter Try.func21, Try.ntmps21
    go_wp2_with (first
      | (go_at_call 23; refine (unhide HK _).mono ?_; rintro e w1 ⟨rfl, rfl⟩; rw [show kindVal 2 = .iface 63 (.agg #[]) from rfl])
      | (go_at_call 30; refine (unhide HP _).mono ?_; rw [hp]; rintro e w2 ⟨rfl, hb2⟩; obtain ⟨x0, x1, x2, x3⟩ := box4 hb2; have hz2 : w.heap.size < w2.heap.size := by have := hb2.size; simp at this; omega)
      | (go_at_call 53; refine (unhide HF _).mono ?_; rintro e w3 ⟨rfl, hb3⟩)
      | fail)
    go_ret
    exact ⟨rfl, ((Below.refl _ _).alloc (Nat.le_refl _) _ |>.trans (hb2.mono (by simp))).trans (hb3.mono (by omega))⟩
set_option maxHeartbeats 1600000 in
set_option maxRecDepth 20000 in
theorem implRecOk_3 (num : Int) (name text : ByteArray) (w : World) (hn : name.size ≤ maxLen) (ht : text.size ≤ maxLen) :
    Calls Try.prog 21 #[.agg #[.int .i64 3, .string name, .int .i64 num, .string text]] w fun e w' => e = .returned (.bool (plainB name && fitsB 3 num text)) ∧ Below w.heap.size w w' := by
  have HP := hide (fun W => implPlain_any name W hn)
  have HF := hide (fun W => fits3_any 3 num name text W ht)
  have HK := hide (fun W => recKindOf_any 3 W)
  clear hn ht
  cases hp : plainB name
  · go_enter Try.func21, Try.ntmps21
    go_wp2_with (first
      | (go_at_call 23; refine (unhide HK _).mono ?_; rintro e w1 ⟨rfl, rfl⟩; rw [show kindVal 3 = .iface 64 (.agg #[]) from rfl])
      | (go_at_call 30; refine (unhide HP _).mono ?_; rw [hp]; rintro e w2 ⟨rfl, hb2⟩)
      | fail)
    go_ret
    exact ⟨rfl, (Below.refl _ _).alloc (Nat.le_refl _) _ |>.trans (hb2.mono (by simp))⟩
  · go_enter Try.func21, Try.ntmps21
    go_wp2_with (first
      | (go_at_call 23; refine (unhide HK _).mono ?_; rintro e w1 ⟨rfl, rfl⟩; rw [show kindVal 3 = .iface 64 (.agg #[]) from rfl])
      | (go_at_call 30; refine (unhide HP _).mono ?_; rw [hp]; rintro e w2 ⟨rfl, hb2⟩; obtain ⟨x0, x1, x2, x3⟩ := box4 hb2; have hz2 : w.heap.size < w2.heap.size := by have := hb2.size; simp at this; omega)
      | (go_at_call 56; refine (unhide HF _).mono ?_; rintro e w3 ⟨rfl, hb3⟩)
      | fail)
    go_ret
    exact ⟨rfl, ((Below.refl _ _).alloc (Nat.le_refl _) _ |>.trans (hb2.mono (by simp))).trans (hb3.mono (by omega))⟩
set_option maxHeartbeats 1600000 in
set_option maxRecDepth 20000 in
theorem implRecOk_4 (num : Int) (name text : ByteArray) (w : World) (hn : name.size ≤ maxLen) (ht : text.size ≤ maxLen) :
    Calls Try.prog 21 #[.agg #[.int .i64 4, .string name, .int .i64 num, .string text]] w fun e w' => e = .returned (.bool (plainB name && fitsB 4 num text)) ∧ Below w.heap.size w w' := by
  have HP := hide (fun W => implPlain_any name W hn)
  have HF := hide (fun W => fits4_any 4 num name text W ht)
  have HK := hide (fun W => recKindOf_any 4 W)
  clear hn ht
  cases hp : plainB name
  · go_enter Try.func21, Try.ntmps21
    go_wp2_with (first
      | (go_at_call 23; refine (unhide HK _).mono ?_; rintro e w1 ⟨rfl, rfl⟩; rw [show kindVal 4 = .iface 66 (.agg #[]) from rfl])
      | (go_at_call 30; refine (unhide HP _).mono ?_; rw [hp]; rintro e w2 ⟨rfl, hb2⟩)
      | fail)
    go_ret
    exact ⟨rfl, (Below.refl _ _).alloc (Nat.le_refl _) _ |>.trans (hb2.mono (by simp))⟩
  · go_enter Try.func21, Try.ntmps21
    go_wp2_with (first
      | (go_at_call 23; refine (unhide HK _).mono ?_; rintro e w1 ⟨rfl, rfl⟩; rw [show kindVal 4 = .iface 66 (.agg #[]) from rfl])
      | (go_at_call 30; refine (unhide HP _).mono ?_; rw [hp]; rintro e w2 ⟨rfl, hb2⟩; obtain ⟨x0, x1, x2, x3⟩ := box4 hb2; have hz2 : w.heap.size < w2.heap.size := by have := hb2.size; simp at this; omega)
      | (go_at_call 59; refine (unhide HF _).mono ?_; rintro e w3 ⟨rfl, hb3⟩)
      | fail)
    go_ret
    exact ⟨rfl, ((Below.refl _ _).alloc (Nat.le_refl _) _ |>.trans (hb2.mono (by simp))).trans (hb3.mono (by omega))⟩
set_option maxHeartbeats 1600000 in
theorem implRecOk_0 (k num : Int) (name text : ByteArray) (w : World) (hk : kindVal k = .nilIface) :
    Calls Try.prog 21 #[.agg #[.int .i64 k, .string name, .int .i64 num, .string text]] w fun e w' => e = .returned (.bool false) ∧ Below w.heap.size w w' := by
  have HK := hide (fun W => recKindOf_any k W)
  have HKV := hide hk
  clear hk
  go_enter Try.func21, Try.ntmps21
  go_wp2_with (first
    | (go_at_call 23; refine (unhide HK _).mono ?_; rintro e w1 ⟨rfl, rfl⟩; rw [unhide HKV])
    | fail)
  go_ret
  exact ⟨rfl, (Below.refl _ _).alloc (Nat.le_refl _) _⟩
theorem implRecOk_any (r : RecV) (w : World) (hf : RecFit r) : Calls Try.prog 21 #[recVal r] w fun e w' => e = .returned (.bool (recOkB r)) ∧ Below w.heap.size w w' := by
  obtain ⟨kind, name, num, text⟩ := r
  by_cases k1 : kind = 1
  · subst k1; exact implRecOk_1 num name text w hf.1 hf.2.1
  · by_cases k2 : kind = 2
    · subst k2; exact implRecOk_2 num name text w hf.1 hf.2.1
    · by_cases k3 : kind = 3
      · subst k3; exact implRecOk_3 num name text w hf.1 hf.2.1
      · by_cases k4 : kind = 4
        · subst k4; exact implRecOk_4 num name text w hf.1 hf.2.1
        · refine (implRecOk_0 kind num name text w (by simp [kindVal, k1, k2, k3, k4])).mono ?_
          rintro e w' ⟨rfl, hb⟩
          exact ⟨ret_bool (by simp [recOkB, fitsB, k1, k2, k3, k4]), hb⟩

end Go.Proofs.Ytcpjcdbhcllbiaa
