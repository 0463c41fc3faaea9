/-
  SigIns of both sides.
-/
import Derived.Test.YtldgffkippejiaaGreatDoorMerged50
set_option linter.unusedVariables false
namespace Go.Proofs.YtldgffkippejiaaGreatDoor
open Go.RowKit Go.Maps Go.Deep

def RetSp (t : ByteArray) (w : World) (e : Ending) (w' : World) : Prop := ∃ v, e = .returned (.tuple #[v, .bool (sigB t)]) ∧ Hid (StrAt w' v (sigOut t)) ∧ Below w.heap.size w w'
set_option maxHeartbeats 3200000 in
theorem specSig_any (t : ByteArray) (w : World) (hs : t.size ≤ 1048576) :
    Calls Tryz.prog 5 #[.string t] w fun e w' => RetSp t w e w' := by
  by_cases h0 : t.size = 0
  · have q : (t.toList == []) = true := by rw [str_litR, decide_eq_true_iff]; cases t with | mk d => have : d = #[] := Array.eq_empty_of_size_eq_zero h0; rw [this]
    have F := hide (show RetSp t w (.returned (.tuple #[.slice none 0 0, .bool true])) w from ⟨_, by rw [(sig_none h0).1], hide (by rw [(sig_none h0).2]; exact StrAt.nil _), Below.refl _ _⟩)
    clear h0
    go_enter Tryz.func5, Tryz.ntmps5
    go_wp2_with fail
    go_ret2
    exact unhide F
  have q : (t.toList == []) = false := by rw [str_litR, decide_eq_false_iff_not]; rintro rfl; exact h0 rfl
  by_cases h200 : 200 < t.size
  · have q2 : (200 : Int) < (t.size : Int) := by omega
    have F := hide (show RetSp t w (.returned (.tuple #[.slice none 0 0, .bool false])) w from ⟨_, by rw [(sig_no h0 (.inl h200)).1], hide (by rw [(sig_no h0 (.inl h200)).2]; exact StrAt.nil _), Below.refl _ _⟩)
    clear h200 h0
    go_enter Tryz.func5, Tryz.ntmps5
    go_wp2_with fail
    go_ret2
    exact unhide F
  have q2 : ¬ (200 : Int) < (t.size : Int) := by omega
  have HT := hide (fun W => specTree_any t W hs)
  by_cases hc : (trRes t).code = 0
  rotate_left
  · have F := hide (fun (V : World) (b : Below w.heap.size w V) => show RetSp t w (.returned (.tuple #[.slice none 0 0, .bool false])) V from ⟨_, by rw [(sig_no h0 (.inr (.inl hc))).1], hide (by rw [(sig_no h0 (.inr (.inl hc))).2]; exact StrAt.nil _), b⟩)
    have qc : ((trRes t).code != 0) = true := by rw [bne_iff_ne]; exact hc
    clear h0 h200 hc
    go_enter Tryz.func5, Tryz.ntmps5
    go_wp2_with fail
    refine (unhide HT _).mono ?_
    rintro e w1 ⟨a, n, c, rfl, R1, b1⟩
    have B1 := hide b1
    clear b1 HT R1
    generalize (trRes t).code = fc at *
    generalize (trRes t).at' = fa at *
    have B2 := hide ((unhide B1).alloc (unhide B1).size (.cells #[.int .i64 fc, .int .i64 fa] 37))
    go_wp2_with fail
    go_ret2
    exact unhide F _ (unhide B2)
  have qc : ((trRes t).code != 0) = false := by rw [hc]; rfl
  have HF := hide (fun (W : World) (g o cp : Nat) (hn : NodesAt W g o (trRes t).nodes) (hg : g < W.heap.size) => specFree_is W g o cp (trRes t).nodes (by have := (tr_fit t).1; omega) hn hg (tr_names t))
  have HNE := hide ((tr_fit t).2.2 hc)
  have F1 := hide (fun (V : World) (b : Below w.heap.size w V) (h : (freeOf (trRes t).nodes).length < 1 ∨ 4 < (freeOf (trRes t).nodes).length) => show RetSp t w (.returned (.tuple #[.slice none 0 0, .bool false])) V from ⟨_, by rw [(sig_no h0 (.inr (.inr h))).1], hide (by rw [(sig_no h0 (.inr (.inr h))).2]; exact StrAt.nil _), b⟩)
  have F2 := hide (fun (V : World) (v : Value) (b : Below w.heap.size w V) (r : StrAt V v (freeOf (trRes t).nodes)) (h1 : 1 ≤ (freeOf (trRes t).nodes).length) (h2 : (freeOf (trRes t).nodes).length ≤ 4) => show RetSp t w (.returned (.tuple #[v, .bool true])) V from ⟨_, by rw [(sig_yes h0 (by omega) hc h1 h2).1], hide (by rw [(sig_yes h0 (by omega) hc h1 h2).2]; exact r), b⟩)
  clear h0 h200 hc
  go_enter Tryz.func5, Tryz.ntmps5
  go_wp2_with fail
  refine (unhide HT _).mono ?_
  rintro e w1 ⟨a, n, c, rfl, R1, b1⟩
  obtain rfl := nd_len (unhide R1)
  obtain ⟨g, o, rfl, hna⟩ := nd_at (unhide R1) (unhide HNE)
  have hgl := (unhide R1).lt g rfl
  have B1 := hide b1
  generalize (trRes t).code = fc at *
  generalize (trRes t).at' = fa at *
  have b2 := (Below.refl w1.heap.size w1).alloc (Nat.le_refl _) (.cells #[.int .i64 fc, .int .i64 fa] 37)
  have B2 := hide ((unhide B1).trans (b2.mono (unhide B1).size))
  have FR := hide (unhide HF _ g o c (hna.below b2 hgl) (Nat.lt_of_lt_of_le hgl b2.size))
  clear b1 b2 HT R1 B1 HF HNE hna hgl
  go_wp2_with fail
  refine (unhide FR).mono ?_
  rintro e w3 ⟨v, ts, rfl, h1, h2, b3⟩
  obtain rfl := free_of (unhide h1)
  have B3 := hide ((unhide B2).trans (b3.mono (unhide B2).size))
  obtain ⟨av, cv, rfl, -⟩ := id (unhide h2)
  clear b3 B2 FR h1
  by_cases hl1 : (freeOf (trRes t).nodes).length < 1
  · have i1 : ((freeOf (trRes t).nodes).length : Int) < 1 := by omega
    have FF := hide (unhide F1 _ (unhide B3) (.inl hl1))
    clear F1 F2 hl1 h2
    generalize (freeOf (trRes t).nodes).length = m at *
    go_wp2_with fail
    go_ret2
    exact unhide FF
  have i1 : ¬ ((freeOf (trRes t).nodes).length : Int) < 1 := by omega
  by_cases hl4 : 4 < (freeOf (trRes t).nodes).length
  · have i2 : (4 : Int) < ((freeOf (trRes t).nodes).length : Int) := by omega
    have FF := hide (unhide F1 _ (unhide B3) (.inr hl4))
    clear F1 F2 hl1 hl4 h2
    generalize (freeOf (trRes t).nodes).length = m at *
    go_wp2_with fail
    go_ret2
    exact unhide FF
  have i2 : ¬ (4 : Int) < ((freeOf (trRes t).nodes).length : Int) := by omega
  have FF := hide (unhide F2 _ _ (unhide B3) (unhide h2) (by omega) (by omega))
  clear F1 F2 hl1 hl4 h2
  generalize (freeOf (trRes t).nodes).length = m at *
  go_wp2_with fail
  go_ret2
  exact unhide FF
/-- the program's readBody: the tree aside -/
def RetRb (t : ByteArray) (w : World) (e : Ending) (w' : World) : Prop := ∃ u v, e = .returned (.tuple #[u, v, .bool (sigB t)]) ∧ Hid (StringSRd w' v (sigOut t)) ∧ Below w.heap.size w w'
theorem str_nil (w : World) : StringSRd w (.slice none 0 0) [] := ⟨none, 0, rfl, .inl rfl⟩
set_option maxHeartbeats 3200000 in
theorem readBody_any (t : ByteArray) (w : World) (hs : t.size ≤ 1048576) (hsh : ShapesIn w) (hg : ErrG w) :
    Calls Tryz.prog 16 #[.string t] w fun e w' => RetRb t w e w' := by
  by_cases h0 : t.size = 0
  · have q : (t.toList == []) = true := by rw [str_litR, decide_eq_true_iff]; cases t with | mk d => have : d = #[] := Array.eq_empty_of_size_eq_zero h0; rw [this]
    have F := hide (show RetRb t w (.returned (.tuple #[.slice none 0 0, .slice none 0 0, .bool true])) w from ⟨_, _, by rw [(sig_none h0).1], hide (by rw [(sig_none h0).2]; exact str_nil _), Below.refl _ _⟩)
    clear h0
    go_enter Tryz.func16, Tryz.ntmps16
    go_wp2_with fail
    refine bodyPost_ret (v := .tuple #[.slice none 0 0, .slice none 0 0, .bool true]) (by simp [results, Tryz.results16, go_sem]) rfl ?_
    exact unhide F
  have q : (t.toList == []) = false := by rw [str_litR, decide_eq_false_iff_not]; rintro rfl; exact h0 rfl
  by_cases h200 : 200 < t.size
  · have q2 : (200 : Int) < (t.size : Int) := by omega
    have F := hide (show RetRb t w (.returned (.tuple #[.slice none 0 0, .slice none 0 0, .bool false])) w from ⟨_, _, by rw [(sig_no h0 (.inl h200)).1], hide (by rw [(sig_no h0 (.inl h200)).2]; exact str_nil _), Below.refl _ _⟩)
    clear h200 h0
    go_enter Tryz.func16, Tryz.ntmps16
    go_wp2_with fail
    refine bodyPost_ret (v := .tuple #[.slice none 0 0, .slice none 0 0, .bool false]) (by simp [results, Tryz.results16, go_sem]) rfl ?_
    exact unhide F
  have q2 : ¬ (200 : Int) < (t.size : Int) := by omega
  have HT := hide (fun (W : World) (b : Below w.heap.size w W) => implTree_any t W hs (hsh.below b (Nat.le_refl _)) (hg.below b (Nat.le_refl _)))
  have HSH := hide hsh
  clear hsh hg
  have FN := hide (fun (V : World) (b : Below w.heap.size w V) (h : (trRes t).code ≠ 0 ∨ (freeOf (trRes t).nodes).length < 1 ∨ 4 < (freeOf (trRes t).nodes).length) => show RetRb t w (.returned (.tuple #[.slice none 0 0, .slice none 0 0, .bool false])) V from ⟨_, _, by rw [(sig_no h0 (.inr h)).1], hide (by rw [(sig_no h0 (.inr h)).2]; exact str_nil _), b⟩)
  by_cases hc : (trRes t).code = 0
  rotate_left
  · have qc : ((trRes t).code != 0) = true := by rw [bne_iff_ne]; exact hc
    have FF := hide (fun V b => unhide FN V b (.inl hc))
    have HNN := hide (show (trRes t).nodes = [] from by cases hq : trRes t with | bad c a => rfl | ok x => rw [hq] at hc; exact absurd rfl hc)
    clear h0 h200 hc FN
    go_enter Tryz.func16, Tryz.ntmps16
    go_wp2_with fail
    refine (unhide HT _ (Below.refl _ _)).mono ?_
    rintro e w1 ⟨a, n, c, rfl, R1, b1⟩
    have en := nd_len (unhide R1)
    rw [unhide HNN] at en
    have en0 : n = 0 := en
    subst en0
    have B1 := hide b1
    clear b1 HT R1 en
    generalize (trRes t).code = fc at *
    generalize (trRes t).at' = fa at *
    have X2 := hide (boxF_new w1 [.int .i64 fc, .int .i64 fa] 37)
    have B2 := hide ((unhide B1).alloc (unhide B1).size (.cells #[.int .i64 fc, .int .i64 fa] 37))
    simp only [List.toArray] at X2
    go_wp2_with fail
    generalize w1.alloc (.cells #[.int .i64 fc, .int .i64 fa] 37) = W2 at *
    refine (free_nil a c _).mono ?_
    rintro e w3 ⟨rfl, b3⟩
    have B3 := hide ((unhide B2).trans (b3.mono (unhide B2).size))
    have X3 := hide ((unhide X2).up b3)
    obtain ⟨⟨x0, x1⟩, -⟩ := (unhide X3).duoI
    clear b3 B2 X2 B1
    go_wp2_with fail
    refine bodyPost_ret (v := .tuple #[.slice none 0 0, .slice none 0 0, .bool false]) (by simp [results, Tryz.results16, go_sem]) rfl ?_
    exact unhide FF _ (unhide B3)
  have qc : ((trRes t).code != 0) = false := by rw [hc]; rfl
  have HF := hide (fun (W : World) (g o cp : Nat) (hn : NodesAt W g o (trRes t).nodes) (hg : g < W.heap.size) (hsh : ShapesIn W) => implFree_is W g o cp (trRes t).nodes (by have := (tr_fit t).1; omega) hn hg (tr_names t) hsh)
  have HNE := hide ((tr_fit t).2.2 hc)
  have F2 := hide (fun (V : World) (u v : Value) (b : Below w.heap.size w V) (r : StringSRd V v (freeOf (trRes t).nodes)) (h1 : 1 ≤ (freeOf (trRes t).nodes).length) (h2 : (freeOf (trRes t).nodes).length ≤ 4) => show RetRb t w (.returned (.tuple #[u, v, .bool true])) V from ⟨_, _, by rw [(sig_yes h0 (by omega) hc h1 h2).1], hide (by rw [(sig_yes h0 (by omega) hc h1 h2).2]; exact r), b⟩)
  have F1 := hide (fun V b h => unhide FN V b (.inr h))
  clear h0 h200 hc FN
  go_enter Tryz.func16, Tryz.ntmps16
  go_wp2_with fail
  refine (unhide HT _ (Below.refl _ _)).mono ?_
  rintro e w1 ⟨a, n, c, rfl, R1, b1⟩
  obtain rfl := nd_len (unhide R1)
  obtain ⟨g, o, rfl, hna⟩ := nd_at (unhide R1) (unhide HNE)
  have hgl := (unhide R1).lt g rfl
  have B1 := hide b1
  generalize (trRes t).code = fc at *
  generalize (trRes t).at' = fa at *
  have b2 := (Below.refl w1.heap.size w1).alloc (Nat.le_refl _) (.cells #[.int .i64 fc, .int .i64 fa] 37)
  have X2 := hide (boxF_new w1 [.int .i64 fc, .int .i64 fa] 37)
  have B2 := hide ((unhide B1).trans (b2.mono (unhide B1).size))
  have FR := hide (unhide HF _ g o c (hna.below b2 hgl) (Nat.lt_of_lt_of_le hgl b2.size) ((unhide HSH).below (unhide B2) (Nat.le_refl _)))
  simp only [List.toArray] at X2
  clear b1 b2 HT R1 B1 HF HNE hna hgl
  go_wp2_with fail
  generalize w1.alloc (.cells #[.int .i64 fc, .int .i64 fa] 37) = W2 at *
  refine (unhide FR).mono ?_
  rintro e w3 ⟨v, ts, rfl, h1, h2, b3⟩
  obtain rfl := free_of (unhide h1)
  have B3 := hide ((unhide B2).trans (b3.mono (unhide B2).size))
  have X3 := hide ((unhide X2).up b3)
  obtain ⟨⟨x0, x1⟩, -⟩ := (unhide X3).duoI
  have H2 := hide (str_rd (unhide h2).at)
  obtain ⟨av, cv, rfl, -⟩ := id (unhide H2)
  clear b3 B2 FR h1 X2 h2
  by_cases hl1 : (freeOf (trRes t).nodes).length < 1
  · have i1 : ((freeOf (trRes t).nodes).length : Int) < 1 := by omega
    have FF := hide (unhide F1 _ (unhide B3) (.inl hl1))
    clear F1 F2 hl1 H2
    generalize (freeOf (trRes t).nodes).length = m at *
    go_wp2_with fail
    refine bodyPost_ret (v := .tuple #[.slice none 0 0, .slice none 0 0, .bool false]) (by simp [results, Tryz.results16, go_sem]) rfl ?_
    exact unhide FF
  have i1 : ¬ ((freeOf (trRes t).nodes).length : Int) < 1 := by omega
  by_cases hl4 : 4 < (freeOf (trRes t).nodes).length
  · have i2 : (4 : Int) < ((freeOf (trRes t).nodes).length : Int) := by omega
    have FF := hide (unhide F1 _ (unhide B3) (.inr hl4))
    clear F1 F2 hl1 hl4 H2
    generalize (freeOf (trRes t).nodes).length = m at *
    go_wp2_with fail
    refine bodyPost_ret (v := .tuple #[.slice none 0 0, .slice none 0 0, .bool false]) (by simp [results, Tryz.results16, go_sem]) rfl ?_
    exact unhide FF
  have i2 : ¬ (4 : Int) < ((freeOf (trRes t).nodes).length : Int) := by omega
  have FF := hide (unhide F2 _ (.slice (some ⟨g, o, none⟩) (trRes t).nodes.length c) _ (unhide B3) (unhide H2) (by omega) (by omega))
  clear F1 F2 hl1 hl4 H2
  generalize (freeOf (trRes t).nodes).length = m at *
  generalize (trRes t).nodes.length = m0 at *
  go_wp2_with fail
  refine bodyPost_ret (v := .tuple #[.slice (some ⟨g, o, none⟩) m0 c, .slice av m cv, .bool true]) (by simp [results, Tryz.results16, go_sem]) rfl ?_
  exact unhide FF
theorem freeF_mem (f : BT NodeV) : ∀ bf i s, s ∈ freeF f bf i → ∃ y ∈ fl f, s = y.name := by
  induction f with
  | nil => intro bf i s h; cases h
  | node b o x l r ihl ihr =>
    intro bf i s h
    rw [freeF_node, List.mem_append] at h
    rcases h with h | h
    · unfold freeT at h
      split at h
      · split at h
        · cases h
        · exact ⟨x, by simp [fl], by simpa using h⟩
      · obtain ⟨y, hy, e⟩ := ihl _ _ _ h
        exact ⟨y, by simp [fl, hy], e⟩
    · obtain ⟨y, hy, e⟩ := ihr _ _ _ h
      exact ⟨y, by simp [fl, hy], e⟩
theorem free_sizes {ns : List NodeV} {ts : List ByteArray} (h : FreeIs ns ts) (hn : ∀ x ∈ ns, x.name.size ≤ 8) : ∀ s ∈ ts, s.size ≤ 8 := by
  rcases h with ⟨x, l, hok, rfl⟩ | ⟨_, rfl⟩
  · intro s hs
    rw [fold_mem] at hs
    have hs : s ∈ freeT x l [] := by simpa using hs
    have hm : s ∈ freeF (.node 0 0 x l .nil) (fun _ => []) 0 := by rw [freeF_node]; simp [hs]
    obtain ⟨y, hy, e⟩ := freeF_mem _ _ _ _ hm
    rw [e]
    refine hn y ?_
    rw [hok.eq]
    simpa [fl] using hy
  · intro s hs; cases hs
theorem sig_small (t : ByteArray) : SmallStringS (sigOut t) ∧ (sigOut t).length ≤ 4 := by
  have key : sigOut t = [] ∨ (sigOut t = freeOf (trRes t).nodes ∧ (freeOf (trRes t).nodes).length ≤ 4) := by
    by_cases h : t.size ≠ 0 ∧ sigB t = true
    · right
      refine ⟨by unfold sigOut; rw [if_pos h], ?_⟩
      have h2 := h.2
      unfold sigB at h2
      rw [decide_eq_false h.1] at h2
      simp only [Bool.false_or, Bool.and_eq_true, decide_eq_true_eq] at h2
      exact h2.2
    · left
      unfold sigOut; rw [if_neg h]
  rcases key with h | ⟨h, hl⟩
  · rw [h]; exact ⟨⟨by simp, fun x hx => by cases hx⟩, by simp⟩
  · rw [h]
    refine ⟨⟨by omega, fun s hs => ?_⟩, hl⟩
    by_cases he : ∃ ts, FreeIs (trRes t).nodes ts
    · obtain ⟨ts, ht⟩ := he
      rw [← free_of ht] at hs
      have := free_sizes ht (fun x hx => ((tr_fit t).2.1 x hx).2.2.1) s hs
      omega
    · unfold freeOf at hs
      rw [dif_neg he] at hs
      cases hs
def RetSi (t : ByteArray) (w : World) (e : Ending) (w' : World) : Prop := ∃ v, e = .returned (.tuple #[v, .bool (sigB t)]) ∧ Hid (TxRow w.heap.size w' v (sigOut t)) ∧ Below w.heap.size w w'
theorem implSig_any (t : ByteArray) (w : World) (hs : t.size ≤ 1048576) (hsh : ShapesIn w) (hg : ErrG w) :
    Calls Tryz.prog 6 #[.string t] w fun e w' => RetSi t w e w' := by
  have HB := hide (readBody_any t w hs hsh hg)
  have HO := hide (fun (v : Value) (W : World) (h : StringSRd W v (sigOut t)) => ownTexts_any (sigOut t) v W (sig_small t).1 (by have := (sig_small t).2; omega) h)
  have FF := hide (fun (V : World) (v : Value) (B : Nat) (hB : w.heap.size ≤ B) (b : Below w.heap.size w V) (r : TxRow B V v (sigOut t)) => show RetSi t w (.returned (.tuple #[v, .bool (sigB t)])) V from ⟨_, rfl, hide (by
    refine ⟨r.1, ?_⟩
    rcases r.2 with h0 | ⟨g, cap, cur, e, hb, r⟩
    · exact .inl h0
    · exact .inr ⟨g, cap, cur, e, Nat.le_trans hB hb, r⟩), b⟩)
  clear hsh hg hs
  go_enter Tryz.func6, Tryz.ntmps6
  go_wp2_with fail
  refine (unhide HB).mono ?_
  rintro e w1 ⟨u, v, rfl, r1, b1⟩
  obtain ⟨av, cv, rfl, -⟩ := id (unhide r1)
  have B1 := hide b1
  have HR := r1
  clear b1 r1 HB
  go_wp2_with fail
  refine (unhide HO _ _ (unhide HR)).mono ?_
  rintro e w2 ⟨v2, rfl, r2, b2⟩
  obtain ⟨a2, c2, e2⟩ := (unhide r2).slice
  subst e2
  have FX := hide (unhide FF w2 _ _ (unhide B1).size ((unhide B1).trans (b2.mono (unhide B1).size)) (unhide r2))
  clear r2 b2 B1 HO FF HR
  generalize (sigOut t).length = m at *
  go_wp2_with fail
  go_ret2
  exact unhide FX
end Go.Proofs.YtldgffkippejiaaGreatDoor
