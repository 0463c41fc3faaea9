/-
  Cutting a text into words: the program closes the open word.
-/
import Derived.Test.YtjfebnplffpmoaaGreatDoorMerged31
import Derived.Test.YtjfebnplffpmoaaGreatDoorMerged21
import Derived.Deep.DeepCutAuto
import Derived.Deep.CutBlock
set_option linter.unusedVariables false
namespace Go.Proofs.YtjfebnplffpmoaaGreatDoor
open Go.RowKit Go.Maps Go.Deep

def KeysAt1 (w : World) (kb : Nat) : Prop := w.ownsMap Tryz.prog 9 (unitElem (H := Unit)) kb 15 (setOf (.agg []) keyLits)
theorem KeysAt1.turn {w w' : World} {kb : Nat} {S : List Nat} (h : KeysAt1 w kb) (ht : Turn S w w') (hS : kb ∉ S) : KeysAt1 w' kb := by
  obtain ⟨es, clock, h1, h2⟩ := h
  exact ⟨es, clock, (ht.block kb (Array.getElem?_eq_some_iff.1 h1).1 hS).trans h1, h2⟩
theorem KeysAt1.lt {w : World} {kb : Nat} (h : KeysAt1 w kb) : kb < w.heap.size := World.ownsMap.lt h
def RetEnd (s : ByteArray) (kb cb B : Nat) (ra : Option Addr) (rn rc : Nat) (ws : List WordV) (opn : Int) (st k : Nat) (w : World) (e : Ending) (w' : World) : Prop :=
  match closeW s opn st k with
  | .bad c => e = .returned (errV c st) ∧ Below w.heap.size w w'
  | .word x _ => e = .returned .nilIface ∧ ∃ ra' rn' rc', Hid (BoxF w' cb (cutC s kb (.slice ra' rn' rc') opn st)) ∧ Hid (WdRow B w' (.slice ra' rn' rc') (ws ++ [x])) ∧ Hid (Turn (cb :: (Value.slice ra rn rc).ownBlock.toList) w w')
theorem held_belW {P : Prop} {w X : World} (h : P ∧ Hid (Below w.heap.size w X)) : Below w.heap.size w X := unhide h.2
theorem end_zero (s : ByteArray) (kb cb : Nat) (row : Value) (st k : Nat) (w : World) (hb : BoxF w cb (cutC s kb row 0 st)) :
    Calls Tryz.prog 22 #[.pointer (some ⟨cb, 0, none⟩), .int .i64 (k : Int)] w fun e w' => e = .returned .nilIface ∧ w' = w := by
  unfold cutC at hb
  obtain ⟨⟨c0, c1, c2, c3, c4⟩, -⟩ := hb.fiveW
  clear hb
  go_enter Tryz.func22, Tryz.ntmps22
  go_wp2_with fail
  go_ret
  exact ⟨rfl, rfl⟩
set_option maxRecDepth 20000 in
set_option maxHeartbeats 12800000 in
theorem end_any (s : ByteArray) (kb cb B : Nat) (ra : Option Addr) (rn rc : Nat) (ws : List WordV) (opn : Int) (st k : Nat) (w : World) (hs : s.size ≤ 1500) (ho : opn = 1 ∨ opn = 2 ∨ opn = 4) (hk : st < k ∧ k ≤ s.size) (hb : BoxF w cb (cutC s kb (.slice ra rn rc) opn st)) (hr : WdRow B w (.slice ra rn rc) ws) (hl : ws.length ≤ 10000) (hcb : cb < B) (hB : B ≤ w.heap.size) (hkey : KeysAt1 w kb) :
    Calls Tryz.prog 22 #[.pointer (some ⟨cb, 0, none⟩), .int .i64 (k : Int)] w fun e w' => RetEnd s kb cb B ra rn rc ws opn st k w e w' := by
  have BX := hide hb
  have HR := hide hr
  have HKY := hide hkey
  unfold cutC at hb
  obtain ⟨⟨c0, c1, c2, c3, c4⟩, f0, f1, f2, f3, f4⟩ := hb.fiveW
  have p1 : (st : Int) ≤ (k : Int) := by omega
  have p2 : (k : Int) ≤ (s.size : Int) := by omega
  have hzt : (s.extract st k).size = k - st := ext_sz s st k (by omega) hk.2
  have HCL := hide (show closeW s opn st k = _ from by unfold closeW; rfl)
  have hcw : cb < w.heap.size := hb.1.1
  clear hb hr hkey
  unfold RetEnd
  generalize hcl : closeW s opn st k = cl at *
  clear hcl
  generalize hex : s.extract st k = tx at *
  have htz : 1 ≤ tx.size ∧ tx.size ≤ 1500 := by omega
  clear hzt
  have HOP := hide (show ¬ opn = 0 from by omega)
  have op0 : (opn == 0) = false := by rw [beq_eq_false_iff_ne]; omega
  go_enter Tryz.func22, Tryz.ntmps22
  go_upto_region 3 with fail
  go_cut [5] (fun v wx => ∃ q, v = .pointer (some ⟨q, 0, none⟩) ∧ Hid (w.heap.size ≤ q) ∧ Hid (BoxF wx q [.int .i64 opn, .string tx, .int .i64 (st : Int)]) ∧ Hid (Below w.heap.size w wx))
  case first =>
    go_region
    all_goals
      go_wp2_with fail
      go_meet
      refine ⟨_, rfl, hide ?_, hide ?_, hide ?_⟩
      · first
        | exact Nat.le_refl _
        | (simp; done)
      · first
        | (with_reducible exact boxF_new _ [.int .i64 opn, .string tx, .int .i64 (st : Int)] 30)
        | (exact boxF_new w [.int .i64 opn, .string tx, .int .i64 (st : Int)] 30)
      · first
        | exact ((Below.refl _ w).drew).alloc (Nat.le_refl _) _
        | exact ((Below.refl _ w).alloc (Nat.le_refl _) _).drew
  case rest =>
  obtain ⟨q, rfl, HQ, XQ, BQ⟩ := hcut
  generalize wc = W at *
  have BXW := hide ((unhide BX).up (unhide BQ))
  have HRW := hide ((unhide HR).up (unhide BQ))
  have KYW := hide ((unhide HKY).turn (Turn.of_below (S := []) (unhide BQ)) (by simp))
  have hqW : q < W.heap.size := (unhide XQ).1.1
  have hcq : cb < q := Nat.lt_of_lt_of_le hcw (unhide HQ)
  clear HKY c0 c1 c2 c3 c4 f0 f1 f2 f3 f4 hex p1 p2 hk op0 HOP
  have hcbx := unhide BXW
  unfold cutC at hcbx
  obtain ⟨⟨c0, c1, c2, c3, c4⟩, f0, f1, f2, f3, f4⟩ := hcbx.fiveW
  obtain ⟨⟨x0, x1, x2⟩, g0, g1, g2⟩ := (unhide XQ).triW
  clear hcbx
  have hkt : tx.size ≤ maxLen := by unfold maxLen; omega
  have HKEY := hide (fun (X : World) (bX : Below W.heap.size W X) => has_any X kb 15 _ tx hkt ((unhide KYW).turn (Turn.of_below (S := []) bX) (by simp)))
  rw [has_keys] at HKEY
  have HNO := hide (fun (X : World) => numberOk_any tx X htz.1)
  have HSG := hide (fun (X : World) => isSign_any tx X)
  have BD := hide ((Below.refl W.heap.size W).drew)

  have WAY : (∃ c, cl = .bad c ∧ ((opn = 1 ∧ c = 3 ∧ numOkB tx = false) ∨ (opn = 2 ∧ c = 4 ∧ 8 < tx.size) ∨ (opn = 4 ∧ c = 2 ∧ isSgnL tx.data.toList = false))) ∨
      (∃ kd : Int, cl = .word ⟨kd, tx, st⟩ k ∧ ((opn = 1 ∧ kd = 1 ∧ numOkB tx = true) ∨ (opn = 2 ∧ kd = 2 ∧ ¬ 8 < tx.size ∧ isKeyB tx = false) ∨ (opn = 2 ∧ kd = 3 ∧ ¬ 8 < tx.size ∧ isKeyB tx = true) ∨ (opn = 4 ∧ kd = 4 ∧ isSgnL tx.data.toList = true))) := by
    rw [unhide HCL]
    rcases ho with rfl | rfl | rfl
    · cases hq : numOkB tx
      · exact .inl ⟨3, by simp, .inl ⟨rfl, rfl, rfl⟩⟩
      · exact .inr ⟨1, by simp, .inl ⟨rfl, rfl, rfl⟩⟩
    · by_cases h8 : 8 < tx.size
      · exact .inl ⟨4, by simp [h8], .inr (.inl ⟨rfl, rfl, h8⟩)⟩
      · cases hq : isKeyB tx
        · exact .inr ⟨2, by simp [h8], .inr (.inl ⟨rfl, rfl, h8, rfl⟩)⟩
        · exact .inr ⟨3, by simp [h8], .inr (.inr (.inl ⟨rfl, rfl, h8, rfl⟩))⟩
    · cases hq : isSgnL tx.data.toList
      · exact .inl ⟨2, by simp, .inr (.inr ⟨rfl, rfl, rfl⟩)⟩
      · exact .inr ⟨4, by simp, .inr (.inr (.inr ⟨rfl, rfl, rfl⟩))⟩
  clear HCL ho
  rcases WAY with ⟨c, rfl, hw⟩ | ⟨kd, rfl, hw⟩
  · clear HKEY BD KYW HRW BXW XQ
    rcases hw with ⟨rfl, rfl, hq⟩ | ⟨rfl, rfl, h8⟩ | ⟨rfl, rfl, hq⟩
    · rw [hq] at HNO
      go_wp2_with (first
        | (go_at_call 41; refine (unhide HNO _).mono ?_; rintro e w2 ⟨rfl, rfl⟩)
        | (go_at_call 40; refine (unhide HSG _).mono ?_; rintro e w2 ⟨rfl, rfl⟩)
        | (go_at_call 19; refine (wrongAt_any _ _ _).mono ?_; rintro e w2 ⟨rfl, rfl⟩)
        | fail)
      go_ret
      exact ⟨rfl, unhide BQ⟩
    · have h8' : (8 : Int) < (tx.size : Int) := by omega
      go_wp2_with (first
        | (go_at_call 41; refine (unhide HNO _).mono ?_; rintro e w2 ⟨rfl, rfl⟩)
        | (go_at_call 40; refine (unhide HSG _).mono ?_; rintro e w2 ⟨rfl, rfl⟩)
        | (go_at_call 19; refine (wrongAt_any _ _ _).mono ?_; rintro e w2 ⟨rfl, rfl⟩)
        | fail)
      go_ret
      exact ⟨rfl, unhide BQ⟩
    · rw [hq] at HSG
      go_wp2_with (first
        | (go_at_call 41; refine (unhide HNO _).mono ?_; rintro e w2 ⟨rfl, rfl⟩)
        | (go_at_call 40; refine (unhide HSG _).mono ?_; rintro e w2 ⟨rfl, rfl⟩)
        | (go_at_call 19; refine (wrongAt_any _ _ _).mono ?_; rintro e w2 ⟨rfl, rfl⟩)
        | fail)
      go_ret
      exact ⟨rfl, unhide BQ⟩
  · have HLEN := hide (show ws.length ≤ 1000000 from by omega)
    rcases hw with ⟨rfl, hkd, hq⟩ | ⟨rfl, hkd, h8, hq⟩ | ⟨rfl, hkd, h8, hq⟩ | ⟨rfl, hkd, hq⟩
    · rw [hq] at HNO
      go_upto_region 10 with (first
        | (go_at_call 41; refine (unhide HNO _).mono ?_; rintro e w2 ⟨rfl, rfl⟩)
        | fail)
      go_region
      go_upto_region 12 with fail
      have XF := hide (show BoxF w2.drew q [.int .i64 kd, .string tx, .int .i64 (st : Int)] from by rw [hkd]; exact (unhide XQ).up (Below.refl _ _).drew)
      have BF := hide (unhide BQ).drew
      clear XQ BQ BXW HRW KYW HKEY HNO HSG BD c0 c1 c2 c3 c4 f0 f1 f2 f3 f4 x0 x1 x2 g0 g1 g2 hkd hq
      generalize w2.drew = WF at *
      refine wp_region_any (by kernel_rfl) ?_
      change wpAny _ _ _ _ _ _ _ (World.drew _)
      have BW4 := hide (unhide BF).drew
      have XW4 := hide ((unhide XF).up (Below.refl WF.heap.size WF).drew)
      generalize WF.drew = W4 at *
      have CX4 := hide ((unhide BX).up (unhide BW4))
      have RX4 := hide ((unhide HR).up (unhide BW4))
      clear XF BF
      have hcx := unhide CX4
      unfold cutC at hcx
      obtain ⟨⟨c0, c1, c2, c3, c4⟩, f0, f1, f2, f3, f4⟩ := hcx.fiveW
      obtain ⟨⟨x0, x1, x2⟩, g0, g1, g2⟩ := (unhide XW4).triW
      clear hcx
      refine wpAny_take (i := 0) (v := .pointer (some ⟨cb, 0, none⟩)) rfl (by kernel_rfl) (by kernel_rfl) (by kernel_rfl) (fun _ _ _ h => h) (Or.inl ⟨by rfl, ?_⟩) ?_
      · intro w'
        go_simp
        try with_reducible rfl
      try simp [Act.put]
      refine wpAny_take (i := 1) (v := .pointer (some ⟨cb, 0, none⟩)) rfl (by kernel_rfl) (by kernel_rfl) (by kernel_rfl) (fun _ _ _ h => h) (Or.inl ⟨by rfl, ?_⟩) ?_
      · intro w'
        go_simp
        try with_reducible rfl
      try simp [Act.put]
      refine wpAny_take (i := 2) (v := .pointer (some ⟨cb, 0, none⟩)) rfl (by kernel_rfl) (by kernel_rfl) (by kernel_rfl) (fun _ _ _ h => h) (Or.inl ⟨by rfl, ?_⟩) ?_
      · intro w'
        go_simp
        try with_reducible rfl
      try simp [Act.put]
      refine wpAny_take (i := 3) (v := .pointer (some ⟨cb, 2, none⟩)) rfl (by kernel_rfl) (by kernel_rfl) (by kernel_rfl) (fun _ _ _ h => h) (Or.inl ⟨by rfl, ?_⟩) ?_
      · intro w'
        go_simp
        try with_reducible rfl
      try simp [Act.put]
      refine wpAny_ready (rs := [4, 5]) (by kernel_rfl) (by simp) ?_
      refine AllReady.cons rfl (fun K hK => ?_) (AllReady.cons rfl (fun K hK => ?_) (AllReady.nil))
      · skip
        have hKK := hK
        clear hK
        go_simp
        refine hKK _ _ ?_
        clear hKK K
        try simp [Act.put]
        refine wpAny_ready (rs := [5]) (by kernel_rfl) (by simp) ?_
        refine AllReady.cons rfl (fun K hK => ?_) (AllReady.nil)
        have hKK := hK
        clear hK
        go_simp
        refine hKK _ _ ?_
        clear hKK K
        try simp [Act.put]
        refine wpAny_ready (rs := [6]) (by kernel_rfl) (by simp) ?_
        refine AllReady.cons rfl (fun K hK => ?_) (AllReady.nil)
        have b8 := (Below.refl W4.heap.size W4).alloc (Nat.le_refl _) (.cells #[.int .i64 kd, .string tx, .int .i64 (st : Int)] 30)
        have N8 := hide (boxF_new W4 [.int .i64 kd, .string tx, .int .i64 (st : Int)] 30).triW.1
        have C8 := hide ((unhide CX4).up b8)
        have R8 := hide ((unhide RX4).up b8)
        have B8 := hide ((unhide BW4).trans (b8.mono (unhide BW4).size))
        clear b8
        have hKK := hK
        clear hK
        go_simp
        refine hKK _ _ ?_
        clear hKK K
        try simp [Act.put]
        refine wpAny_ready (rs := [7]) (by kernel_rfl) (by simp) ?_
        refine AllReady.cons rfl (fun K hK => ?_) (AllReady.nil)
        have hKK := hK
        clear hK
        refine step_wdAppend (w := W4.alloc (.cells #[.int .i64 kd, .string tx, .int .i64 (st : Int)] 30)) (by rfl) (.tmp 93) (.tmp 95) (by rfl) B (.slice ra rn rc) ws ⟨kd, tx, (st : Int)⟩ W4.heap.size (by rfl) (by rfl) (unhide R8) (unhide N8).1 (unhide N8).2.1 (unhide N8).2.2 (unhide HLEN) (Nat.le_trans hB (unhide B8).size) ?_
        intro g9 n9 c9 w9 r9 gr9
        have t9 : Turn ((Value.slice ra rn rc).ownBlock.toList) _ w9 := Turn.of_grown gr9 (fun k hk => .inl (by rw [hk]; simp))
        have NI9 := hide (show ∀ g' ∈ (Value.slice ra rn rc).ownBlock.toList, B ≤ g' from fun g' hg => (unhide R8).ge g' (by simpa using hg))
        have C9 := hide ((unhide C8).turn t9 (fun hm => by have := unhide NI9 _ hm; omega))
        have T9 := hide (show Turn (cb :: (Value.slice ra rn rc).ownBlock.toList) w w9 from ((Turn.of_below (S := cb :: (Value.slice ra rn rc).ownBlock.toList) (unhide B8)).trans (t9.mono (fun j hj => .inl (List.mem_cons_of_mem _ hj)))))
        have V9 := hide r9
        clear gr9 r9 t9
        refine hKK _ _ ?_
        clear hKK K
        try simp [Act.put]
        refine wpAny_take (i := 8) (v := .pointer (some ⟨cb, 0, none⟩)) rfl (by kernel_rfl) (by kernel_rfl) (by kernel_rfl) (fun _ _ _ h => h) (Or.inl ⟨by rfl, ?_⟩) ?_
        · intro w'
          go_simp
          try with_reducible rfl
        try simp [Act.put]
        refine wpAny_take (i := 9) (v := .pointer (some ⟨cb, 2, none⟩)) rfl (by kernel_rfl) (by kernel_rfl) (by kernel_rfl) (fun _ _ _ h => h) (Or.inl ⟨by rfl, ?_⟩) ?_
        · intro w'
          go_simp
          try with_reducible rfl
        try simp [Act.put]
        refine wpAny_ready (rs := [10]) (by kernel_rfl) (by simp) ?_
        refine AllReady.cons rfl (fun K hK => ?_) (AllReady.nil)
        have hcx := unhide C9
        unfold cutC at hcx
        obtain ⟨⟨e0, e1, e2, e3, e4⟩, u0, u1, u2, u3, u4⟩ := hcx.fiveW
        clear hcx
        have hKK := hK
        clear hK
        go_simp
        refine hKK _ _ ?_
        clear hKK K
        try simp [Act.put]
        clear e0 e1 e2 e3 e4 u0 u1 u2 u3 u4
        have XA := hide (show BoxF (w9.setCell ⟨cb, 2, none⟩ (.slice (some ⟨g9, 0, none⟩) n9 c9)) cb (cutC s kb (.slice (some ⟨g9, 0, none⟩) n9 c9) 1 st) from by
          have := (unhide C9).set 2 (.slice (some ⟨g9, 0, none⟩) n9 c9) (by simp [cutC])
          simpa [cutC] using this)
        have VA := hide ((unhide V9).keep (w' := w9.setCell ⟨cb, 2, none⟩ (.slice (some ⟨g9, 0, none⟩) n9 c9)) (fun g' hg => ((Turn.refl [cb] w9).setCell (g := cb) (by simp) 2 (.slice (some ⟨g9, 0, none⟩) n9 c9)).block g' ((unhide V9).lt g' hg) (by have := (unhide V9).ge g' hg; simp; omega)))
        have TA := hide ((unhide T9).setCell (g := cb) (by simp) 2 (.slice (some ⟨g9, 0, none⟩) n9 c9))
        refine wpAny_done (by kernel_rfl) ?_ _
        go_wp2_with fail
        go_ret
        exact ⟨rfl, some ⟨g9, 0, none⟩, n9, c9, XA, VA, TA⟩
      · skip
        have hKK := hK
        clear hK
        go_simp
        refine hKK _ _ ?_
        clear hKK K
        try simp [Act.put]
        refine wpAny_ready (rs := [4, 6]) (by kernel_rfl) (by simp) ?_
        refine AllReady.cons rfl (fun K hK => ?_) (AllReady.cons rfl (fun K hK => ?_) (AllReady.nil))
        · skip
          have hKK := hK
          clear hK
          go_simp
          refine hKK _ _ ?_
          clear hKK K
          try simp [Act.put]
          refine wpAny_ready (rs := [6]) (by kernel_rfl) (by simp) ?_
          refine AllReady.cons rfl (fun K hK => ?_) (AllReady.nil)
          have b8 := (Below.refl W4.heap.size W4).alloc (Nat.le_refl _) (.cells #[.int .i64 kd, .string tx, .int .i64 (st : Int)] 30)
          have N8 := hide (boxF_new W4 [.int .i64 kd, .string tx, .int .i64 (st : Int)] 30).triW.1
          have C8 := hide ((unhide CX4).up b8)
          have R8 := hide ((unhide RX4).up b8)
          have B8 := hide ((unhide BW4).trans (b8.mono (unhide BW4).size))
          clear b8
          have hKK := hK
          clear hK
          go_simp
          refine hKK _ _ ?_
          clear hKK K
          try simp [Act.put]
          refine wpAny_ready (rs := [7]) (by kernel_rfl) (by simp) ?_
          refine AllReady.cons rfl (fun K hK => ?_) (AllReady.nil)
          have hKK := hK
          clear hK
          refine step_wdAppend (w := W4.alloc (.cells #[.int .i64 kd, .string tx, .int .i64 (st : Int)] 30)) (by rfl) (.tmp 93) (.tmp 95) (by rfl) B (.slice ra rn rc) ws ⟨kd, tx, (st : Int)⟩ W4.heap.size (by rfl) (by rfl) (unhide R8) (unhide N8).1 (unhide N8).2.1 (unhide N8).2.2 (unhide HLEN) (Nat.le_trans hB (unhide B8).size) ?_
          intro g9 n9 c9 w9 r9 gr9
          have t9 : Turn ((Value.slice ra rn rc).ownBlock.toList) _ w9 := Turn.of_grown gr9 (fun k hk => .inl (by rw [hk]; simp))
          have NI9 := hide (show ∀ g' ∈ (Value.slice ra rn rc).ownBlock.toList, B ≤ g' from fun g' hg => (unhide R8).ge g' (by simpa using hg))
          have C9 := hide ((unhide C8).turn t9 (fun hm => by have := unhide NI9 _ hm; omega))
          have T9 := hide (show Turn (cb :: (Value.slice ra rn rc).ownBlock.toList) w w9 from ((Turn.of_below (S := cb :: (Value.slice ra rn rc).ownBlock.toList) (unhide B8)).trans (t9.mono (fun j hj => .inl (List.mem_cons_of_mem _ hj)))))
          have V9 := hide r9
          clear gr9 r9 t9
          refine hKK _ _ ?_
          clear hKK K
          try simp [Act.put]
          refine wpAny_take (i := 8) (v := .pointer (some ⟨cb, 0, none⟩)) rfl (by kernel_rfl) (by kernel_rfl) (by kernel_rfl) (fun _ _ _ h => h) (Or.inl ⟨by rfl, ?_⟩) ?_
          · intro w'
            go_simp
            try with_reducible rfl
          try simp [Act.put]
          refine wpAny_take (i := 9) (v := .pointer (some ⟨cb, 2, none⟩)) rfl (by kernel_rfl) (by kernel_rfl) (by kernel_rfl) (fun _ _ _ h => h) (Or.inl ⟨by rfl, ?_⟩) ?_
          · intro w'
            go_simp
            try with_reducible rfl
          try simp [Act.put]
          refine wpAny_ready (rs := [10]) (by kernel_rfl) (by simp) ?_
          refine AllReady.cons rfl (fun K hK => ?_) (AllReady.nil)
          have hcx := unhide C9
          unfold cutC at hcx
          obtain ⟨⟨e0, e1, e2, e3, e4⟩, u0, u1, u2, u3, u4⟩ := hcx.fiveW
          clear hcx
          have hKK := hK
          clear hK
          go_simp
          refine hKK _ _ ?_
          clear hKK K
          try simp [Act.put]
          clear e0 e1 e2 e3 e4 u0 u1 u2 u3 u4
          have XA := hide (show BoxF (w9.setCell ⟨cb, 2, none⟩ (.slice (some ⟨g9, 0, none⟩) n9 c9)) cb (cutC s kb (.slice (some ⟨g9, 0, none⟩) n9 c9) 1 st) from by
            have := (unhide C9).set 2 (.slice (some ⟨g9, 0, none⟩) n9 c9) (by simp [cutC])
            simpa [cutC] using this)
          have VA := hide ((unhide V9).keep (w' := w9.setCell ⟨cb, 2, none⟩ (.slice (some ⟨g9, 0, none⟩) n9 c9)) (fun g' hg => ((Turn.refl [cb] w9).setCell (g := cb) (by simp) 2 (.slice (some ⟨g9, 0, none⟩) n9 c9)).block g' ((unhide V9).lt g' hg) (by have := (unhide V9).ge g' hg; simp; omega)))
          have TA := hide ((unhide T9).setCell (g := cb) (by simp) 2 (.slice (some ⟨g9, 0, none⟩) n9 c9))
          refine wpAny_done (by kernel_rfl) ?_ _
          go_wp2_with fail
          go_ret
          exact ⟨rfl, some ⟨g9, 0, none⟩, n9, c9, XA, VA, TA⟩
        · skip
          have b8 := (Below.refl W4.heap.size W4).alloc (Nat.le_refl _) (.cells #[.int .i64 kd, .string tx, .int .i64 (st : Int)] 30)
          have N8 := hide (boxF_new W4 [.int .i64 kd, .string tx, .int .i64 (st : Int)] 30).triW.1
          have C8 := hide ((unhide CX4).up b8)
          have R8 := hide ((unhide RX4).up b8)
          have B8 := hide ((unhide BW4).trans (b8.mono (unhide BW4).size))
          clear b8
          have hKK := hK
          clear hK
          go_simp
          refine hKK _ _ ?_
          clear hKK K
          try simp [Act.put]
          refine wpAny_ready (rs := [4]) (by kernel_rfl) (by simp) ?_
          refine AllReady.cons rfl (fun K hK => ?_) (AllReady.nil)
          have hcx := unhide C8
          unfold cutC at hcx
          obtain ⟨⟨e0, e1, e2, e3, e4⟩, -⟩ := hcx.fiveW
          clear hcx
          have hKK := hK
          clear hK
          go_simp
          refine hKK _ _ ?_
          clear hKK K
          try simp [Act.put]
          clear e0 e1 e2 e3 e4
          refine wpAny_ready (rs := [7]) (by kernel_rfl) (by simp) ?_
          refine AllReady.cons rfl (fun K hK => ?_) (AllReady.nil)
          have hKK := hK
          clear hK
          refine step_wdAppend (w := W4.alloc (.cells #[.int .i64 kd, .string tx, .int .i64 (st : Int)] 30)) (by rfl) (.tmp 93) (.tmp 95) (by rfl) B (.slice ra rn rc) ws ⟨kd, tx, (st : Int)⟩ W4.heap.size (by rfl) (by rfl) (unhide R8) (unhide N8).1 (unhide N8).2.1 (unhide N8).2.2 (unhide HLEN) (Nat.le_trans hB (unhide B8).size) ?_
          intro g9 n9 c9 w9 r9 gr9
          have t9 : Turn ((Value.slice ra rn rc).ownBlock.toList) _ w9 := Turn.of_grown gr9 (fun k hk => .inl (by rw [hk]; simp))
          have NI9 := hide (show ∀ g' ∈ (Value.slice ra rn rc).ownBlock.toList, B ≤ g' from fun g' hg => (unhide R8).ge g' (by simpa using hg))
          have C9 := hide ((unhide C8).turn t9 (fun hm => by have := unhide NI9 _ hm; omega))
          have T9 := hide (show Turn (cb :: (Value.slice ra rn rc).ownBlock.toList) w w9 from ((Turn.of_below (S := cb :: (Value.slice ra rn rc).ownBlock.toList) (unhide B8)).trans (t9.mono (fun j hj => .inl (List.mem_cons_of_mem _ hj)))))
          have V9 := hide r9
          clear gr9 r9 t9
          refine hKK _ _ ?_
          clear hKK K
          try simp [Act.put]
          refine wpAny_take (i := 8) (v := .pointer (some ⟨cb, 0, none⟩)) rfl (by kernel_rfl) (by kernel_rfl) (by kernel_rfl) (fun _ _ _ h => h) (Or.inl ⟨by rfl, ?_⟩) ?_
          · intro w'
            go_simp
            try with_reducible rfl
          try simp [Act.put]
          refine wpAny_take (i := 9) (v := .pointer (some ⟨cb, 2, none⟩)) rfl (by kernel_rfl) (by kernel_rfl) (by kernel_rfl) (fun _ _ _ h => h) (Or.inl ⟨by rfl, ?_⟩) ?_
          · intro w'
            go_simp
            try with_reducible rfl
          try simp [Act.put]
          refine wpAny_ready (rs := [10]) (by kernel_rfl) (by simp) ?_
          refine AllReady.cons rfl (fun K hK => ?_) (AllReady.nil)
          have hcx := unhide C9
          unfold cutC at hcx
          obtain ⟨⟨e0, e1, e2, e3, e4⟩, u0, u1, u2, u3, u4⟩ := hcx.fiveW
          clear hcx
          have hKK := hK
          clear hK
          go_simp
          refine hKK _ _ ?_
          clear hKK K
          try simp [Act.put]
          clear e0 e1 e2 e3 e4 u0 u1 u2 u3 u4
          have XA := hide (show BoxF (w9.setCell ⟨cb, 2, none⟩ (.slice (some ⟨g9, 0, none⟩) n9 c9)) cb (cutC s kb (.slice (some ⟨g9, 0, none⟩) n9 c9) 1 st) from by
            have := (unhide C9).set 2 (.slice (some ⟨g9, 0, none⟩) n9 c9) (by simp [cutC])
            simpa [cutC] using this)
          have VA := hide ((unhide V9).keep (w' := w9.setCell ⟨cb, 2, none⟩ (.slice (some ⟨g9, 0, none⟩) n9 c9)) (fun g' hg => ((Turn.refl [cb] w9).setCell (g := cb) (by simp) 2 (.slice (some ⟨g9, 0, none⟩) n9 c9)).block g' ((unhide V9).lt g' hg) (by have := (unhide V9).ge g' hg; simp; omega)))
          have TA := hide ((unhide T9).setCell (g := cb) (by simp) 2 (.slice (some ⟨g9, 0, none⟩) n9 c9))
          refine wpAny_done (by kernel_rfl) ?_ _
          go_wp2_with fail
          go_ret
          exact ⟨rfl, some ⟨g9, 0, none⟩, n9, c9, XA, VA, TA⟩
    · rw [hq] at HKEY
      have h8' : ¬ (8 : Int) < (tx.size : Int) := by omega
      have KP := hide (show ∀ X : World, Below W.heap.size W X → (X.cell? ⟨cb, 1, none⟩ = some (.map (some kb)) ∧ X.cell? ⟨q, 0, none⟩ = some (.int .i64 2) ∧ X.cell? ⟨q, 1, none⟩ = some (.string tx)) ∧ Hid (Below W.heap.size W X) from fun X b => by
        have y := ((unhide XQ).up b).1
        have z := ((unhide BXW).up b).1
        exact ⟨⟨z.at 1 _ rfl, y.at 0 _ rfl, y.at 1 _ rfl⟩, hide b⟩)
      go_upto_region 10 with fail
      go_region_held3 (fun X : World => (X.cell? ⟨cb, 1, none⟩ = some (.map (some kb)) ∧ X.cell? ⟨q, 0, none⟩ = some (.int .i64 2) ∧ X.cell? ⟨q, 1, none⟩ = some (.string tx)) ∧ Hid (Below W.heap.size W X)) ((refine unhide KP _ ?_; exact unhide (by assumption)))
        (first
          | (go_at_call 42; refine (unhide HKEY _ (held_belW (by assumption))).mono ?_; rintro e w2 ⟨rfl, b2⟩; have BB := hide ((unhide BD).trans (b2.mono (unhide BD).size)); clear b2)
          | fail)
      have X2 := hide ((unhide XQ).up (unhide BB))
      have B2 := hide ((unhide BQ).trans ((unhide BB).mono (unhide BQ).size))
      go_upto_region 12 with fail
      have XF := hide (show BoxF w2 q [.int .i64 kd, .string tx, .int .i64 (st : Int)] from by rw [hkd]; exact unhide X2)
      have BF := B2
      clear KP BB X2 B2 XQ BQ BXW HRW KYW HKEY HNO HSG BD c0 c1 c2 c3 c4 f0 f1 f2 f3 f4 x0 x1 x2 g0 g1 g2 hkd hq h8 h8'
      generalize w2 = WF at *
      refine wp_region_any (by kernel_rfl) ?_
      change wpAny _ _ _ _ _ _ _ (World.drew _)
      have BW4 := hide (unhide BF).drew
      have XW4 := hide ((unhide XF).up (Below.refl WF.heap.size WF).drew)
      generalize WF.drew = W4 at *
      have CX4 := hide ((unhide BX).up (unhide BW4))
      have RX4 := hide ((unhide HR).up (unhide BW4))
      clear XF BF
      have hcx := unhide CX4
      unfold cutC at hcx
      obtain ⟨⟨c0, c1, c2, c3, c4⟩, f0, f1, f2, f3, f4⟩ := hcx.fiveW
      obtain ⟨⟨x0, x1, x2⟩, g0, g1, g2⟩ := (unhide XW4).triW
      clear hcx
      refine wpAny_take (i := 0) (v := .pointer (some ⟨cb, 0, none⟩)) rfl (by kernel_rfl) (by kernel_rfl) (by kernel_rfl) (fun _ _ _ h => h) (Or.inl ⟨by rfl, ?_⟩) ?_
      · intro w'
        go_simp
        try with_reducible rfl
      try simp [Act.put]
      refine wpAny_take (i := 1) (v := .pointer (some ⟨cb, 0, none⟩)) rfl (by kernel_rfl) (by kernel_rfl) (by kernel_rfl) (fun _ _ _ h => h) (Or.inl ⟨by rfl, ?_⟩) ?_
      · intro w'
        go_simp
        try with_reducible rfl
      try simp [Act.put]
      refine wpAny_take (i := 2) (v := .pointer (some ⟨cb, 0, none⟩)) rfl (by kernel_rfl) (by kernel_rfl) (by kernel_rfl) (fun _ _ _ h => h) (Or.inl ⟨by rfl, ?_⟩) ?_
      · intro w'
        go_simp
        try with_reducible rfl
      try simp [Act.put]
      refine wpAny_take (i := 3) (v := .pointer (some ⟨cb, 2, none⟩)) rfl (by kernel_rfl) (by kernel_rfl) (by kernel_rfl) (fun _ _ _ h => h) (Or.inl ⟨by rfl, ?_⟩) ?_
      · intro w'
        go_simp
        try with_reducible rfl
      try simp [Act.put]
      refine wpAny_ready (rs := [4, 5]) (by kernel_rfl) (by simp) ?_
      refine AllReady.cons rfl (fun K hK => ?_) (AllReady.cons rfl (fun K hK => ?_) (AllReady.nil))
      · skip
        have hKK := hK
        clear hK
        go_simp
        refine hKK _ _ ?_
        clear hKK K
        try simp [Act.put]
        refine wpAny_ready (rs := [5]) (by kernel_rfl) (by simp) ?_
        refine AllReady.cons rfl (fun K hK => ?_) (AllReady.nil)
        have hKK := hK
        clear hK
        go_simp
        refine hKK _ _ ?_
        clear hKK K
        try simp [Act.put]
        refine wpAny_ready (rs := [6]) (by kernel_rfl) (by simp) ?_
        refine AllReady.cons rfl (fun K hK => ?_) (AllReady.nil)
        have b8 := (Below.refl W4.heap.size W4).alloc (Nat.le_refl _) (.cells #[.int .i64 kd, .string tx, .int .i64 (st : Int)] 30)
        have N8 := hide (boxF_new W4 [.int .i64 kd, .string tx, .int .i64 (st : Int)] 30).triW.1
        have C8 := hide ((unhide CX4).up b8)
        have R8 := hide ((unhide RX4).up b8)
        have B8 := hide ((unhide BW4).trans (b8.mono (unhide BW4).size))
        clear b8
        have hKK := hK
        clear hK
        go_simp
        refine hKK _ _ ?_
        clear hKK K
        try simp [Act.put]
        refine wpAny_ready (rs := [7]) (by kernel_rfl) (by simp) ?_
        refine AllReady.cons rfl (fun K hK => ?_) (AllReady.nil)
        have hKK := hK
        clear hK
        refine step_wdAppend (w := W4.alloc (.cells #[.int .i64 kd, .string tx, .int .i64 (st : Int)] 30)) (by rfl) (.tmp 93) (.tmp 95) (by rfl) B (.slice ra rn rc) ws ⟨kd, tx, (st : Int)⟩ W4.heap.size (by rfl) (by rfl) (unhide R8) (unhide N8).1 (unhide N8).2.1 (unhide N8).2.2 (unhide HLEN) (Nat.le_trans hB (unhide B8).size) ?_
        intro g9 n9 c9 w9 r9 gr9
        have t9 : Turn ((Value.slice ra rn rc).ownBlock.toList) _ w9 := Turn.of_grown gr9 (fun k hk => .inl (by rw [hk]; simp))
        have NI9 := hide (show ∀ g' ∈ (Value.slice ra rn rc).ownBlock.toList, B ≤ g' from fun g' hg => (unhide R8).ge g' (by simpa using hg))
        have C9 := hide ((unhide C8).turn t9 (fun hm => by have := unhide NI9 _ hm; omega))
        have T9 := hide (show Turn (cb :: (Value.slice ra rn rc).ownBlock.toList) w w9 from ((Turn.of_below (S := cb :: (Value.slice ra rn rc).ownBlock.toList) (unhide B8)).trans (t9.mono (fun j hj => .inl (List.mem_cons_of_mem _ hj)))))
        have V9 := hide r9
        clear gr9 r9 t9
        refine hKK _ _ ?_
        clear hKK K
        try simp [Act.put]
        refine wpAny_take (i := 8) (v := .pointer (some ⟨cb, 0, none⟩)) rfl (by kernel_rfl) (by kernel_rfl) (by kernel_rfl) (fun _ _ _ h => h) (Or.inl ⟨by rfl, ?_⟩) ?_
        · intro w'
          go_simp
          try with_reducible rfl
        try simp [Act.put]
        refine wpAny_take (i := 9) (v := .pointer (some ⟨cb, 2, none⟩)) rfl (by kernel_rfl) (by kernel_rfl) (by kernel_rfl) (fun _ _ _ h => h) (Or.inl ⟨by rfl, ?_⟩) ?_
        · intro w'
          go_simp
          try with_reducible rfl
        try simp [Act.put]
        refine wpAny_ready (rs := [10]) (by kernel_rfl) (by simp) ?_
        refine AllReady.cons rfl (fun K hK => ?_) (AllReady.nil)
        have hcx := unhide C9
        unfold cutC at hcx
        obtain ⟨⟨e0, e1, e2, e3, e4⟩, u0, u1, u2, u3, u4⟩ := hcx.fiveW
        clear hcx
        have hKK := hK
        clear hK
        go_simp
        refine hKK _ _ ?_
        clear hKK K
        try simp [Act.put]
        clear e0 e1 e2 e3 e4 u0 u1 u2 u3 u4
        have XA := hide (show BoxF (w9.setCell ⟨cb, 2, none⟩ (.slice (some ⟨g9, 0, none⟩) n9 c9)) cb (cutC s kb (.slice (some ⟨g9, 0, none⟩) n9 c9) 2 st) from by
          have := (unhide C9).set 2 (.slice (some ⟨g9, 0, none⟩) n9 c9) (by simp [cutC])
          simpa [cutC] using this)
        have VA := hide ((unhide V9).keep (w' := w9.setCell ⟨cb, 2, none⟩ (.slice (some ⟨g9, 0, none⟩) n9 c9)) (fun g' hg => ((Turn.refl [cb] w9).setCell (g := cb) (by simp) 2 (.slice (some ⟨g9, 0, none⟩) n9 c9)).block g' ((unhide V9).lt g' hg) (by have := (unhide V9).ge g' hg; simp; omega)))
        have TA := hide ((unhide T9).setCell (g := cb) (by simp) 2 (.slice (some ⟨g9, 0, none⟩) n9 c9))
        refine wpAny_done (by kernel_rfl) ?_ _
        go_wp2_with fail
        go_ret
        exact ⟨rfl, some ⟨g9, 0, none⟩, n9, c9, XA, VA, TA⟩
      · skip
        have hKK := hK
        clear hK
        go_simp
        refine hKK _ _ ?_
        clear hKK K
        try simp [Act.put]
        refine wpAny_ready (rs := [4, 6]) (by kernel_rfl) (by simp) ?_
        refine AllReady.cons rfl (fun K hK => ?_) (AllReady.cons rfl (fun K hK => ?_) (AllReady.nil))
        · skip
          have hKK := hK
          clear hK
          go_simp
          refine hKK _ _ ?_
          clear hKK K
          try simp [Act.put]
          refine wpAny_ready (rs := [6]) (by kernel_rfl) (by simp) ?_
          refine AllReady.cons rfl (fun K hK => ?_) (AllReady.nil)
          have b8 := (Below.refl W4.heap.size W4).alloc (Nat.le_refl _) (.cells #[.int .i64 kd, .string tx, .int .i64 (st : Int)] 30)
          have N8 := hide (boxF_new W4 [.int .i64 kd, .string tx, .int .i64 (st : Int)] 30).triW.1
          have C8 := hide ((unhide CX4).up b8)
          have R8 := hide ((unhide RX4).up b8)
          have B8 := hide ((unhide BW4).trans (b8.mono (unhide BW4).size))
          clear b8
          have hKK := hK
          clear hK
          go_simp
          refine hKK _ _ ?_
          clear hKK K
          try simp [Act.put]
          refine wpAny_ready (rs := [7]) (by kernel_rfl) (by simp) ?_
          refine AllReady.cons rfl (fun K hK => ?_) (AllReady.nil)
          have hKK := hK
          clear hK
          refine step_wdAppend (w := W4.alloc (.cells #[.int .i64 kd, .string tx, .int .i64 (st : Int)] 30)) (by rfl) (.tmp 93) (.tmp 95) (by rfl) B (.slice ra rn rc) ws ⟨kd, tx, (st : Int)⟩ W4.heap.size (by rfl) (by rfl) (unhide R8) (unhide N8).1 (unhide N8).2.1 (unhide N8).2.2 (unhide HLEN) (Nat.le_trans hB (unhide B8).size) ?_
          intro g9 n9 c9 w9 r9 gr9
          have t9 : Turn ((Value.slice ra rn rc).ownBlock.toList) _ w9 := Turn.of_grown gr9 (fun k hk => .inl (by rw [hk]; simp))
          have NI9 := hide (show ∀ g' ∈ (Value.slice ra rn rc).ownBlock.toList, B ≤ g' from fun g' hg => (unhide R8).ge g' (by simpa using hg))
          have C9 := hide ((unhide C8).turn t9 (fun hm => by have := unhide NI9 _ hm; omega))
          have T9 := hide (show Turn (cb :: (Value.slice ra rn rc).ownBlock.toList) w w9 from ((Turn.of_below (S := cb :: (Value.slice ra rn rc).ownBlock.toList) (unhide B8)).trans (t9.mono (fun j hj => .inl (List.mem_cons_of_mem _ hj)))))
          have V9 := hide r9
          clear gr9 r9 t9
          refine hKK _ _ ?_
          clear hKK K
          try simp [Act.put]
          refine wpAny_take (i := 8) (v := .pointer (some ⟨cb, 0, none⟩)) rfl (by kernel_rfl) (by kernel_rfl) (by kernel_rfl) (fun _ _ _ h => h) (Or.inl ⟨by rfl, ?_⟩) ?_
          · intro w'
            go_simp
            try with_reducible rfl
          try simp [Act.put]
          refine wpAny_take (i := 9) (v := .pointer (some ⟨cb, 2, none⟩)) rfl (by kernel_rfl) (by kernel_rfl) (by kernel_rfl) (fun _ _ _ h => h) (Or.inl ⟨by rfl, ?_⟩) ?_
          · intro w'
            go_simp
            try with_reducible rfl
          try simp [Act.put]
          refine wpAny_ready (rs := [10]) (by kernel_rfl) (by simp) ?_
          refine AllReady.cons rfl (fun K hK => ?_) (AllReady.nil)
          have hcx := unhide C9
          unfold cutC at hcx
          obtain ⟨⟨e0, e1, e2, e3, e4⟩, u0, u1, u2, u3, u4⟩ := hcx.fiveW
          clear hcx
          have hKK := hK
          clear hK
          go_simp
          refine hKK _ _ ?_
          clear hKK K
          try simp [Act.put]
          clear e0 e1 e2 e3 e4 u0 u1 u2 u3 u4
          have XA := hide (show BoxF (w9.setCell ⟨cb, 2, none⟩ (.slice (some ⟨g9, 0, none⟩) n9 c9)) cb (cutC s kb (.slice (some ⟨g9, 0, none⟩) n9 c9) 2 st) from by
            have := (unhide C9).set 2 (.slice (some ⟨g9, 0, none⟩) n9 c9) (by simp [cutC])
            simpa [cutC] using this)
          have VA := hide ((unhide V9).keep (w' := w9.setCell ⟨cb, 2, none⟩ (.slice (some ⟨g9, 0, none⟩) n9 c9)) (fun g' hg => ((Turn.refl [cb] w9).setCell (g := cb) (by simp) 2 (.slice (some ⟨g9, 0, none⟩) n9 c9)).block g' ((unhide V9).lt g' hg) (by have := (unhide V9).ge g' hg; simp; omega)))
          have TA := hide ((unhide T9).setCell (g := cb) (by simp) 2 (.slice (some ⟨g9, 0, none⟩) n9 c9))
          refine wpAny_done (by kernel_rfl) ?_ _
          go_wp2_with fail
          go_ret
          exact ⟨rfl, some ⟨g9, 0, none⟩, n9, c9, XA, VA, TA⟩
        · skip
          have b8 := (Below.refl W4.heap.size W4).alloc (Nat.le_refl _) (.cells #[.int .i64 kd, .string tx, .int .i64 (st : Int)] 30)
          have N8 := hide (boxF_new W4 [.int .i64 kd, .string tx, .int .i64 (st : Int)] 30).triW.1
          have C8 := hide ((unhide CX4).up b8)
          have R8 := hide ((unhide RX4).up b8)
          have B8 := hide ((unhide BW4).trans (b8.mono (unhide BW4).size))
          clear b8
          have hKK := hK
          clear hK
          go_simp
          refine hKK _ _ ?_
          clear hKK K
          try simp [Act.put]
          refine wpAny_ready (rs := [4]) (by kernel_rfl) (by simp) ?_
          refine AllReady.cons rfl (fun K hK => ?_) (AllReady.nil)
          have hcx := unhide C8
          unfold cutC at hcx
          obtain ⟨⟨e0, e1, e2, e3, e4⟩, -⟩ := hcx.fiveW
          clear hcx
          have hKK := hK
          clear hK
          go_simp
          refine hKK _ _ ?_
          clear hKK K
          try simp [Act.put]
          clear e0 e1 e2 e3 e4
          refine wpAny_ready (rs := [7]) (by kernel_rfl) (by simp) ?_
          refine AllReady.cons rfl (fun K hK => ?_) (AllReady.nil)
          have hKK := hK
          clear hK
          refine step_wdAppend (w := W4.alloc (.cells #[.int .i64 kd, .string tx, .int .i64 (st : Int)] 30)) (by rfl) (.tmp 93) (.tmp 95) (by rfl) B (.slice ra rn rc) ws ⟨kd, tx, (st : Int)⟩ W4.heap.size (by rfl) (by rfl) (unhide R8) (unhide N8).1 (unhide N8).2.1 (unhide N8).2.2 (unhide HLEN) (Nat.le_trans hB (unhide B8).size) ?_
          intro g9 n9 c9 w9 r9 gr9
          have t9 : Turn ((Value.slice ra rn rc).ownBlock.toList) _ w9 := Turn.of_grown gr9 (fun k hk => .inl (by rw [hk]; simp))
          have NI9 := hide (show ∀ g' ∈ (Value.slice ra rn rc).ownBlock.toList, B ≤ g' from fun g' hg => (unhide R8).ge g' (by simpa using hg))
          have C9 := hide ((unhide C8).turn t9 (fun hm => by have := unhide NI9 _ hm; omega))
          have T9 := hide (show Turn (cb :: (Value.slice ra rn rc).ownBlock.toList) w w9 from ((Turn.of_below (S := cb :: (Value.slice ra rn rc).ownBlock.toList) (unhide B8)).trans (t9.mono (fun j hj => .inl (List.mem_cons_of_mem _ hj)))))
          have V9 := hide r9
          clear gr9 r9 t9
          refine hKK _ _ ?_
          clear hKK K
          try simp [Act.put]
          refine wpAny_take (i := 8) (v := .pointer (some ⟨cb, 0, none⟩)) rfl (by kernel_rfl) (by kernel_rfl) (by kernel_rfl) (fun _ _ _ h => h) (Or.inl ⟨by rfl, ?_⟩) ?_
          · intro w'
            go_simp
            try with_reducible rfl
          try simp [Act.put]
          refine wpAny_take (i := 9) (v := .pointer (some ⟨cb, 2, none⟩)) rfl (by kernel_rfl) (by kernel_rfl) (by kernel_rfl) (fun _ _ _ h => h) (Or.inl ⟨by rfl, ?_⟩) ?_
          · intro w'
            go_simp
            try with_reducible rfl
          try simp [Act.put]
          refine wpAny_ready (rs := [10]) (by kernel_rfl) (by simp) ?_
          refine AllReady.cons rfl (fun K hK => ?_) (AllReady.nil)
          have hcx := unhide C9
          unfold cutC at hcx
          obtain ⟨⟨e0, e1, e2, e3, e4⟩, u0, u1, u2, u3, u4⟩ := hcx.fiveW
          clear hcx
          have hKK := hK
          clear hK
          go_simp
          refine hKK _ _ ?_
          clear hKK K
          try simp [Act.put]
          clear e0 e1 e2 e3 e4 u0 u1 u2 u3 u4
          have XA := hide (show BoxF (w9.setCell ⟨cb, 2, none⟩ (.slice (some ⟨g9, 0, none⟩) n9 c9)) cb (cutC s kb (.slice (some ⟨g9, 0, none⟩) n9 c9) 2 st) from by
            have := (unhide C9).set 2 (.slice (some ⟨g9, 0, none⟩) n9 c9) (by simp [cutC])
            simpa [cutC] using this)
          have VA := hide ((unhide V9).keep (w' := w9.setCell ⟨cb, 2, none⟩ (.slice (some ⟨g9, 0, none⟩) n9 c9)) (fun g' hg => ((Turn.refl [cb] w9).setCell (g := cb) (by simp) 2 (.slice (some ⟨g9, 0, none⟩) n9 c9)).block g' ((unhide V9).lt g' hg) (by have := (unhide V9).ge g' hg; simp; omega)))
          have TA := hide ((unhide T9).setCell (g := cb) (by simp) 2 (.slice (some ⟨g9, 0, none⟩) n9 c9))
          refine wpAny_done (by kernel_rfl) ?_ _
          go_wp2_with fail
          go_ret
          exact ⟨rfl, some ⟨g9, 0, none⟩, n9, c9, XA, VA, TA⟩
    · rw [hq] at HKEY
      have h8' : ¬ (8 : Int) < (tx.size : Int) := by omega
      have KP := hide (show ∀ X : World, Below W.heap.size W X → (X.cell? ⟨cb, 1, none⟩ = some (.map (some kb)) ∧ X.cell? ⟨q, 0, none⟩ = some (.int .i64 2) ∧ X.cell? ⟨q, 1, none⟩ = some (.string tx)) ∧ Hid (Below W.heap.size W X) from fun X b => by
        have y := ((unhide XQ).up b).1
        have z := ((unhide BXW).up b).1
        exact ⟨⟨z.at 1 _ rfl, y.at 0 _ rfl, y.at 1 _ rfl⟩, hide b⟩)
      go_upto_region 10 with fail
      go_region_held3 (fun X : World => (X.cell? ⟨cb, 1, none⟩ = some (.map (some kb)) ∧ X.cell? ⟨q, 0, none⟩ = some (.int .i64 2) ∧ X.cell? ⟨q, 1, none⟩ = some (.string tx)) ∧ Hid (Below W.heap.size W X)) ((refine unhide KP _ ?_; exact unhide (by assumption)))
        (first
          | (go_at_call 42; refine (unhide HKEY _ (held_belW (by assumption))).mono ?_; rintro e w2 ⟨rfl, b2⟩; have BB := hide ((unhide BD).trans (b2.mono (unhide BD).size)); clear b2)
          | fail)
      have X2 := hide ((unhide XQ).up (unhide BB))
      have B2 := hide ((unhide BQ).trans ((unhide BB).mono (unhide BQ).size))
      clear x0 x1 x2 g0 g1 g2
      obtain ⟨⟨x0, x1, x2⟩, g0, g1, g2⟩ := (unhide X2).triW
      go_upto_region 12 with fail
      have XF := hide (show BoxF (w2.setCell ⟨q, 0, none⟩ (.int .i64 3)) q [.int .i64 kd, .string tx, .int .i64 (st : Int)] from by rw [hkd]; exact (unhide X2).set 0 _ (by simp))
      have BF := hide ((unhide B2).setCell (p := ⟨q, 0, none⟩) (unhide HQ) (.int .i64 3))
      clear KP BB X2 B2 XQ BQ BXW HRW KYW HKEY HNO HSG BD c0 c1 c2 c3 c4 f0 f1 f2 f3 f4 x0 x1 x2 g0 g1 g2 hkd hq h8 h8'
      generalize w2.setCell ⟨q, 0, none⟩ (.int .i64 3) = WF at *
      refine wp_region_any (by kernel_rfl) ?_
      change wpAny _ _ _ _ _ _ _ (World.drew _)
      have BW4 := hide (unhide BF).drew
      have XW4 := hide ((unhide XF).up (Below.refl WF.heap.size WF).drew)
      generalize WF.drew = W4 at *
      have CX4 := hide ((unhide BX).up (unhide BW4))
      have RX4 := hide ((unhide HR).up (unhide BW4))
      clear XF BF
      have hcx := unhide CX4
      unfold cutC at hcx
      obtain ⟨⟨c0, c1, c2, c3, c4⟩, f0, f1, f2, f3, f4⟩ := hcx.fiveW
      obtain ⟨⟨x0, x1, x2⟩, g0, g1, g2⟩ := (unhide XW4).triW
      clear hcx
      refine wpAny_take (i := 0) (v := .pointer (some ⟨cb, 0, none⟩)) rfl (by kernel_rfl) (by kernel_rfl) (by kernel_rfl) (fun _ _ _ h => h) (Or.inl ⟨by rfl, ?_⟩) ?_
      · intro w'
        go_simp
        try with_reducible rfl
      try simp [Act.put]
      refine wpAny_take (i := 1) (v := .pointer (some ⟨cb, 0, none⟩)) rfl (by kernel_rfl) (by kernel_rfl) (by kernel_rfl) (fun _ _ _ h => h) (Or.inl ⟨by rfl, ?_⟩) ?_
      · intro w'
        go_simp
        try with_reducible rfl
      try simp [Act.put]
      refine wpAny_take (i := 2) (v := .pointer (some ⟨cb, 0, none⟩)) rfl (by kernel_rfl) (by kernel_rfl) (by kernel_rfl) (fun _ _ _ h => h) (Or.inl ⟨by rfl, ?_⟩) ?_
      · intro w'
        go_simp
        try with_reducible rfl
      try simp [Act.put]
      refine wpAny_take (i := 3) (v := .pointer (some ⟨cb, 2, none⟩)) rfl (by kernel_rfl) (by kernel_rfl) (by kernel_rfl) (fun _ _ _ h => h) (Or.inl ⟨by rfl, ?_⟩) ?_
      · intro w'
        go_simp
        try with_reducible rfl
      try simp [Act.put]
      refine wpAny_ready (rs := [4, 5]) (by kernel_rfl) (by simp) ?_
      refine AllReady.cons rfl (fun K hK => ?_) (AllReady.cons rfl (fun K hK => ?_) (AllReady.nil))
      · skip
        have hKK := hK
        clear hK
        go_simp
        refine hKK _ _ ?_
        clear hKK K
        try simp [Act.put]
        refine wpAny_ready (rs := [5]) (by kernel_rfl) (by simp) ?_
        refine AllReady.cons rfl (fun K hK => ?_) (AllReady.nil)
        have hKK := hK
        clear hK
        go_simp
        refine hKK _ _ ?_
        clear hKK K
        try simp [Act.put]
        refine wpAny_ready (rs := [6]) (by kernel_rfl) (by simp) ?_
        refine AllReady.cons rfl (fun K hK => ?_) (AllReady.nil)
        have b8 := (Below.refl W4.heap.size W4).alloc (Nat.le_refl _) (.cells #[.int .i64 kd, .string tx, .int .i64 (st : Int)] 30)
        have N8 := hide (boxF_new W4 [.int .i64 kd, .string tx, .int .i64 (st : Int)] 30).triW.1
        have C8 := hide ((unhide CX4).up b8)
        have R8 := hide ((unhide RX4).up b8)
        have B8 := hide ((unhide BW4).trans (b8.mono (unhide BW4).size))
        clear b8
        have hKK := hK
        clear hK
        go_simp
        refine hKK _ _ ?_
        clear hKK K
        try simp [Act.put]
        refine wpAny_ready (rs := [7]) (by kernel_rfl) (by simp) ?_
        refine AllReady.cons rfl (fun K hK => ?_) (AllReady.nil)
        have hKK := hK
        clear hK
        refine step_wdAppend (w := W4.alloc (.cells #[.int .i64 kd, .string tx, .int .i64 (st : Int)] 30)) (by rfl) (.tmp 93) (.tmp 95) (by rfl) B (.slice ra rn rc) ws ⟨kd, tx, (st : Int)⟩ W4.heap.size (by rfl) (by rfl) (unhide R8) (unhide N8).1 (unhide N8).2.1 (unhide N8).2.2 (unhide HLEN) (Nat.le_trans hB (unhide B8).size) ?_
        intro g9 n9 c9 w9 r9 gr9
        have t9 : Turn ((Value.slice ra rn rc).ownBlock.toList) _ w9 := Turn.of_grown gr9 (fun k hk => .inl (by rw [hk]; simp))
        have NI9 := hide (show ∀ g' ∈ (Value.slice ra rn rc).ownBlock.toList, B ≤ g' from fun g' hg => (unhide R8).ge g' (by simpa using hg))
        have C9 := hide ((unhide C8).turn t9 (fun hm => by have := unhide NI9 _ hm; omega))
        have T9 := hide (show Turn (cb :: (Value.slice ra rn rc).ownBlock.toList) w w9 from ((Turn.of_below (S := cb :: (Value.slice ra rn rc).ownBlock.toList) (unhide B8)).trans (t9.mono (fun j hj => .inl (List.mem_cons_of_mem _ hj)))))
        have V9 := hide r9
        clear gr9 r9 t9
        refine hKK _ _ ?_
        clear hKK K
        try simp [Act.put]
        refine wpAny_take (i := 8) (v := .pointer (some ⟨cb, 0, none⟩)) rfl (by kernel_rfl) (by kernel_rfl) (by kernel_rfl) (fun _ _ _ h => h) (Or.inl ⟨by rfl, ?_⟩) ?_
        · intro w'
          go_simp
          try with_reducible rfl
        try simp [Act.put]
        refine wpAny_take (i := 9) (v := .pointer (some ⟨cb, 2, none⟩)) rfl (by kernel_rfl) (by kernel_rfl) (by kernel_rfl) (fun _ _ _ h => h) (Or.inl ⟨by rfl, ?_⟩) ?_
        · intro w'
          go_simp
          try with_reducible rfl
        try simp [Act.put]
        refine wpAny_ready (rs := [10]) (by kernel_rfl) (by simp) ?_
        refine AllReady.cons rfl (fun K hK => ?_) (AllReady.nil)
        have hcx := unhide C9
        unfold cutC at hcx
        obtain ⟨⟨e0, e1, e2, e3, e4⟩, u0, u1, u2, u3, u4⟩ := hcx.fiveW
        clear hcx
        have hKK := hK
        clear hK
        go_simp
        refine hKK _ _ ?_
        clear hKK K
        try simp [Act.put]
        clear e0 e1 e2 e3 e4 u0 u1 u2 u3 u4
        have XA := hide (show BoxF (w9.setCell ⟨cb, 2, none⟩ (.slice (some ⟨g9, 0, none⟩) n9 c9)) cb (cutC s kb (.slice (some ⟨g9, 0, none⟩) n9 c9) 2 st) from by
          have := (unhide C9).set 2 (.slice (some ⟨g9, 0, none⟩) n9 c9) (by simp [cutC])
          simpa [cutC] using this)
        have VA := hide ((unhide V9).keep (w' := w9.setCell ⟨cb, 2, none⟩ (.slice (some ⟨g9, 0, none⟩) n9 c9)) (fun g' hg => ((Turn.refl [cb] w9).setCell (g := cb) (by simp) 2 (.slice (some ⟨g9, 0, none⟩) n9 c9)).block g' ((unhide V9).lt g' hg) (by have := (unhide V9).ge g' hg; simp; omega)))
        have TA := hide ((unhide T9).setCell (g := cb) (by simp) 2 (.slice (some ⟨g9, 0, none⟩) n9 c9))
        refine wpAny_done (by kernel_rfl) ?_ _
        go_wp2_with fail
        go_ret
        exact ⟨rfl, some ⟨g9, 0, none⟩, n9, c9, XA, VA, TA⟩
      · skip
        have hKK := hK
        clear hK
        go_simp
        refine hKK _ _ ?_
        clear hKK K
        try simp [Act.put]
        refine wpAny_ready (rs := [4, 6]) (by kernel_rfl) (by simp) ?_
        refine AllReady.cons rfl (fun K hK => ?_) (AllReady.cons rfl (fun K hK => ?_) (AllReady.nil))
        · skip
          have hKK := hK
          clear hK
          go_simp
          refine hKK _ _ ?_
          clear hKK K
          try simp [Act.put]
          refine wpAny_ready (rs := [6]) (by kernel_rfl) (by simp) ?_
          refine AllReady.cons rfl (fun K hK => ?_) (AllReady.nil)
          have b8 := (Below.refl W4.heap.size W4).alloc (Nat.le_refl _) (.cells #[.int .i64 kd, .string tx, .int .i64 (st : Int)] 30)
          have N8 := hide (boxF_new W4 [.int .i64 kd, .string tx, .int .i64 (st : Int)] 30).triW.1
          have C8 := hide ((unhide CX4).up b8)
          have R8 := hide ((unhide RX4).up b8)
          have B8 := hide ((unhide BW4).trans (b8.mono (unhide BW4).size))
          clear b8
          have hKK := hK
          clear hK
          go_simp
          refine hKK _ _ ?_
          clear hKK K
          try simp [Act.put]
          refine wpAny_ready (rs := [7]) (by kernel_rfl) (by simp) ?_
          refine AllReady.cons rfl (fun K hK => ?_) (AllReady.nil)
          have hKK := hK
          clear hK
          refine step_wdAppend (w := W4.alloc (.cells #[.int .i64 kd, .string tx, .int .i64 (st : Int)] 30)) (by rfl) (.tmp 93) (.tmp 95) (by rfl) B (.slice ra rn rc) ws ⟨kd, tx, (st : Int)⟩ W4.heap.size (by rfl) (by rfl) (unhide R8) (unhide N8).1 (unhide N8).2.1 (unhide N8).2.2 (unhide HLEN) (Nat.le_trans hB (unhide B8).size) ?_
          intro g9 n9 c9 w9 r9 gr9
          have t9 : Turn ((Value.slice ra rn rc).ownBlock.toList) _ w9 := Turn.of_grown gr9 (fun k hk => .inl (by rw [hk]; simp))
          have NI9 := hide (show ∀ g' ∈ (Value.slice ra rn rc).ownBlock.toList, B ≤ g' from fun g' hg => (unhide R8).ge g' (by simpa using hg))
          have C9 := hide ((unhide C8).turn t9 (fun hm => by have := unhide NI9 _ hm; omega))
          have T9 := hide (show Turn (cb :: (Value.slice ra rn rc).ownBlock.toList) w w9 from ((Turn.of_below (S := cb :: (Value.slice ra rn rc).ownBlock.toList) (unhide B8)).trans (t9.mono (fun j hj => .inl (List.mem_cons_of_mem _ hj)))))
          have V9 := hide r9
          clear gr9 r9 t9
          refine hKK _ _ ?_
          clear hKK K
          try simp [Act.put]
          refine wpAny_take (i := 8) (v := .pointer (some ⟨cb, 0, none⟩)) rfl (by kernel_rfl) (by kernel_rfl) (by kernel_rfl) (fun _ _ _ h => h) (Or.inl ⟨by rfl, ?_⟩) ?_
          · intro w'
            go_simp
            try with_reducible rfl
          try simp [Act.put]
          refine wpAny_take (i := 9) (v := .pointer (some ⟨cb, 2, none⟩)) rfl (by kernel_rfl) (by kernel_rfl) (by kernel_rfl) (fun _ _ _ h => h) (Or.inl ⟨by rfl, ?_⟩) ?_
          · intro w'
            go_simp
            try with_reducible rfl
          try simp [Act.put]
          refine wpAny_ready (rs := [10]) (by kernel_rfl) (by simp) ?_
          refine AllReady.cons rfl (fun K hK => ?_) (AllReady.nil)
          have hcx := unhide C9
          unfold cutC at hcx
          obtain ⟨⟨e0, e1, e2, e3, e4⟩, u0, u1, u2, u3, u4⟩ := hcx.fiveW
          clear hcx
          have hKK := hK
          clear hK
          go_simp
          refine hKK _ _ ?_
          clear hKK K
          try simp [Act.put]
          clear e0 e1 e2 e3 e4 u0 u1 u2 u3 u4
          have XA := hide (show BoxF (w9.setCell ⟨cb, 2, none⟩ (.slice (some ⟨g9, 0, none⟩) n9 c9)) cb (cutC s kb (.slice (some ⟨g9, 0, none⟩) n9 c9) 2 st) from by
            have := (unhide C9).set 2 (.slice (some ⟨g9, 0, none⟩) n9 c9) (by simp [cutC])
            simpa [cutC] using this)
          have VA := hide ((unhide V9).keep (w' := w9.setCell ⟨cb, 2, none⟩ (.slice (some ⟨g9, 0, none⟩) n9 c9)) (fun g' hg => ((Turn.refl [cb] w9).setCell (g := cb) (by simp) 2 (.slice (some ⟨g9, 0, none⟩) n9 c9)).block g' ((unhide V9).lt g' hg) (by have := (unhide V9).ge g' hg; simp; omega)))
          have TA := hide ((unhide T9).setCell (g := cb) (by simp) 2 (.slice (some ⟨g9, 0, none⟩) n9 c9))
          refine wpAny_done (by kernel_rfl) ?_ _
          go_wp2_with fail
          go_ret
          exact ⟨rfl, some ⟨g9, 0, none⟩, n9, c9, XA, VA, TA⟩
        · skip
          have b8 := (Below.refl W4.heap.size W4).alloc (Nat.le_refl _) (.cells #[.int .i64 kd, .string tx, .int .i64 (st : Int)] 30)
          have N8 := hide (boxF_new W4 [.int .i64 kd, .string tx, .int .i64 (st : Int)] 30).triW.1
          have C8 := hide ((unhide CX4).up b8)
          have R8 := hide ((unhide RX4).up b8)
          have B8 := hide ((unhide BW4).trans (b8.mono (unhide BW4).size))
          clear b8
          have hKK := hK
          clear hK
          go_simp
          refine hKK _ _ ?_
          clear hKK K
          try simp [Act.put]
          refine wpAny_ready (rs := [4]) (by kernel_rfl) (by simp) ?_
          refine AllReady.cons rfl (fun K hK => ?_) (AllReady.nil)
          have hcx := unhide C8
          unfold cutC at hcx
          obtain ⟨⟨e0, e1, e2, e3, e4⟩, -⟩ := hcx.fiveW
          clear hcx
          have hKK := hK
          clear hK
          go_simp
          refine hKK _ _ ?_
          clear hKK K
          try simp [Act.put]
          clear e0 e1 e2 e3 e4
          refine wpAny_ready (rs := [7]) (by kernel_rfl) (by simp) ?_
          refine AllReady.cons rfl (fun K hK => ?_) (AllReady.nil)
          have hKK := hK
          clear hK
          refine step_wdAppend (w := W4.alloc (.cells #[.int .i64 kd, .string tx, .int .i64 (st : Int)] 30)) (by rfl) (.tmp 93) (.tmp 95) (by rfl) B (.slice ra rn rc) ws ⟨kd, tx, (st : Int)⟩ W4.heap.size (by rfl) (by rfl) (unhide R8) (unhide N8).1 (unhide N8).2.1 (unhide N8).2.2 (unhide HLEN) (Nat.le_trans hB (unhide B8).size) ?_
          intro g9 n9 c9 w9 r9 gr9
          have t9 : Turn ((Value.slice ra rn rc).ownBlock.toList) _ w9 := Turn.of_grown gr9 (fun k hk => .inl (by rw [hk]; simp))
          have NI9 := hide (show ∀ g' ∈ (Value.slice ra rn rc).ownBlock.toList, B ≤ g' from fun g' hg => (unhide R8).ge g' (by simpa using hg))
          have C9 := hide ((unhide C8).turn t9 (fun hm => by have := unhide NI9 _ hm; omega))
          have T9 := hide (show Turn (cb :: (Value.slice ra rn rc).ownBlock.toList) w w9 from ((Turn.of_below (S := cb :: (Value.slice ra rn rc).ownBlock.toList) (unhide B8)).trans (t9.mono (fun j hj => .inl (List.mem_cons_of_mem _ hj)))))
          have V9 := hide r9
          clear gr9 r9 t9
          refine hKK _ _ ?_
          clear hKK K
          try simp [Act.put]
          refine wpAny_take (i := 8) (v := .pointer (some ⟨cb, 0, none⟩)) rfl (by kernel_rfl) (by kernel_rfl) (by kernel_rfl) (fun _ _ _ h => h) (Or.inl ⟨by rfl, ?_⟩) ?_
          · intro w'
            go_simp
            try with_reducible rfl
          try simp [Act.put]
          refine wpAny_take (i := 9) (v := .pointer (some ⟨cb, 2, none⟩)) rfl (by kernel_rfl) (by kernel_rfl) (by kernel_rfl) (fun _ _ _ h => h) (Or.inl ⟨by rfl, ?_⟩) ?_
          · intro w'
            go_simp
            try with_reducible rfl
          try simp [Act.put]
          refine wpAny_ready (rs := [10]) (by kernel_rfl) (by simp) ?_
          refine AllReady.cons rfl (fun K hK => ?_) (AllReady.nil)
          have hcx := unhide C9
          unfold cutC at hcx
          obtain ⟨⟨e0, e1, e2, e3, e4⟩, u0, u1, u2, u3, u4⟩ := hcx.fiveW
          clear hcx
          have hKK := hK
          clear hK
          go_simp
          refine hKK _ _ ?_
          clear hKK K
          try simp [Act.put]
          clear e0 e1 e2 e3 e4 u0 u1 u2 u3 u4
          have XA := hide (show BoxF (w9.setCell ⟨cb, 2, none⟩ (.slice (some ⟨g9, 0, none⟩) n9 c9)) cb (cutC s kb (.slice (some ⟨g9, 0, none⟩) n9 c9) 2 st) from by
            have := (unhide C9).set 2 (.slice (some ⟨g9, 0, none⟩) n9 c9) (by simp [cutC])
            simpa [cutC] using this)
          have VA := hide ((unhide V9).keep (w' := w9.setCell ⟨cb, 2, none⟩ (.slice (some ⟨g9, 0, none⟩) n9 c9)) (fun g' hg => ((Turn.refl [cb] w9).setCell (g := cb) (by simp) 2 (.slice (some ⟨g9, 0, none⟩) n9 c9)).block g' ((unhide V9).lt g' hg) (by have := (unhide V9).ge g' hg; simp; omega)))
          have TA := hide ((unhide T9).setCell (g := cb) (by simp) 2 (.slice (some ⟨g9, 0, none⟩) n9 c9))
          refine wpAny_done (by kernel_rfl) ?_ _
          go_wp2_with fail
          go_ret
          exact ⟨rfl, some ⟨g9, 0, none⟩, n9, c9, XA, VA, TA⟩
    · rw [hq] at HSG
      go_upto_region 10 with (first
        | (go_at_call 40; refine (unhide HSG _).mono ?_; rintro e w2 ⟨rfl, rfl⟩)
        | fail)
      go_region
      go_upto_region 12 with fail
      have XF := hide (show BoxF w2.drew q [.int .i64 kd, .string tx, .int .i64 (st : Int)] from by rw [hkd]; exact (unhide XQ).up (Below.refl _ _).drew)
      have BF := hide (unhide BQ).drew
      clear XQ BQ BXW HRW KYW HKEY HNO HSG BD c0 c1 c2 c3 c4 f0 f1 f2 f3 f4 x0 x1 x2 g0 g1 g2 hkd hq
      generalize w2.drew = WF at *
      refine wp_region_any (by kernel_rfl) ?_
      change wpAny _ _ _ _ _ _ _ (World.drew _)
      have BW4 := hide (unhide BF).drew
      have XW4 := hide ((unhide XF).up (Below.refl WF.heap.size WF).drew)
      generalize WF.drew = W4 at *
      have CX4 := hide ((unhide BX).up (unhide BW4))
      have RX4 := hide ((unhide HR).up (unhide BW4))
      clear XF BF
      have hcx := unhide CX4
      unfold cutC at hcx
      obtain ⟨⟨c0, c1, c2, c3, c4⟩, f0, f1, f2, f3, f4⟩ := hcx.fiveW
      obtain ⟨⟨x0, x1, x2⟩, g0, g1, g2⟩ := (unhide XW4).triW
      clear hcx
      refine wpAny_take (i := 0) (v := .pointer (some ⟨cb, 0, none⟩)) rfl (by kernel_rfl) (by kernel_rfl) (by kernel_rfl) (fun _ _ _ h => h) (Or.inl ⟨by rfl, ?_⟩) ?_
      · intro w'
        go_simp
        try with_reducible rfl
      try simp [Act.put]
      refine wpAny_take (i := 1) (v := .pointer (some ⟨cb, 0, none⟩)) rfl (by kernel_rfl) (by kernel_rfl) (by kernel_rfl) (fun _ _ _ h => h) (Or.inl ⟨by rfl, ?_⟩) ?_
      · intro w'
        go_simp
        try with_reducible rfl
      try simp [Act.put]
      refine wpAny_take (i := 2) (v := .pointer (some ⟨cb, 0, none⟩)) rfl (by kernel_rfl) (by kernel_rfl) (by kernel_rfl) (fun _ _ _ h => h) (Or.inl ⟨by rfl, ?_⟩) ?_
      · intro w'
        go_simp
        try with_reducible rfl
      try simp [Act.put]
      refine wpAny_take (i := 3) (v := .pointer (some ⟨cb, 2, none⟩)) rfl (by kernel_rfl) (by kernel_rfl) (by kernel_rfl) (fun _ _ _ h => h) (Or.inl ⟨by rfl, ?_⟩) ?_
      · intro w'
        go_simp
        try with_reducible rfl
      try simp [Act.put]
      refine wpAny_ready (rs := [4, 5]) (by kernel_rfl) (by simp) ?_
      refine AllReady.cons rfl (fun K hK => ?_) (AllReady.cons rfl (fun K hK => ?_) (AllReady.nil))
      · skip
        have hKK := hK
        clear hK
        go_simp
        refine hKK _ _ ?_
        clear hKK K
        try simp [Act.put]
        refine wpAny_ready (rs := [5]) (by kernel_rfl) (by simp) ?_
        refine AllReady.cons rfl (fun K hK => ?_) (AllReady.nil)
        have hKK := hK
        clear hK
        go_simp
        refine hKK _ _ ?_
        clear hKK K
        try simp [Act.put]
        refine wpAny_ready (rs := [6]) (by kernel_rfl) (by simp) ?_
        refine AllReady.cons rfl (fun K hK => ?_) (AllReady.nil)
        have b8 := (Below.refl W4.heap.size W4).alloc (Nat.le_refl _) (.cells #[.int .i64 kd, .string tx, .int .i64 (st : Int)] 30)
        have N8 := hide (boxF_new W4 [.int .i64 kd, .string tx, .int .i64 (st : Int)] 30).triW.1
        have C8 := hide ((unhide CX4).up b8)
        have R8 := hide ((unhide RX4).up b8)
        have B8 := hide ((unhide BW4).trans (b8.mono (unhide BW4).size))
        clear b8
        have hKK := hK
        clear hK
        go_simp
        refine hKK _ _ ?_
        clear hKK K
        try simp [Act.put]
        refine wpAny_ready (rs := [7]) (by kernel_rfl) (by simp) ?_
        refine AllReady.cons rfl (fun K hK => ?_) (AllReady.nil)
        have hKK := hK
        clear hK
        refine step_wdAppend (w := W4.alloc (.cells #[.int .i64 kd, .string tx, .int .i64 (st : Int)] 30)) (by rfl) (.tmp 93) (.tmp 95) (by rfl) B (.slice ra rn rc) ws ⟨kd, tx, (st : Int)⟩ W4.heap.size (by rfl) (by rfl) (unhide R8) (unhide N8).1 (unhide N8).2.1 (unhide N8).2.2 (unhide HLEN) (Nat.le_trans hB (unhide B8).size) ?_
        intro g9 n9 c9 w9 r9 gr9
        have t9 : Turn ((Value.slice ra rn rc).ownBlock.toList) _ w9 := Turn.of_grown gr9 (fun k hk => .inl (by rw [hk]; simp))
        have NI9 := hide (show ∀ g' ∈ (Value.slice ra rn rc).ownBlock.toList, B ≤ g' from fun g' hg => (unhide R8).ge g' (by simpa using hg))
        have C9 := hide ((unhide C8).turn t9 (fun hm => by have := unhide NI9 _ hm; omega))
        have T9 := hide (show Turn (cb :: (Value.slice ra rn rc).ownBlock.toList) w w9 from ((Turn.of_below (S := cb :: (Value.slice ra rn rc).ownBlock.toList) (unhide B8)).trans (t9.mono (fun j hj => .inl (List.mem_cons_of_mem _ hj)))))
        have V9 := hide r9
        clear gr9 r9 t9
        refine hKK _ _ ?_
        clear hKK K
        try simp [Act.put]
        refine wpAny_take (i := 8) (v := .pointer (some ⟨cb, 0, none⟩)) rfl (by kernel_rfl) (by kernel_rfl) (by kernel_rfl) (fun _ _ _ h => h) (Or.inl ⟨by rfl, ?_⟩) ?_
        · intro w'
          go_simp
          try with_reducible rfl
        try simp [Act.put]
        refine wpAny_take (i := 9) (v := .pointer (some ⟨cb, 2, none⟩)) rfl (by kernel_rfl) (by kernel_rfl) (by kernel_rfl) (fun _ _ _ h => h) (Or.inl ⟨by rfl, ?_⟩) ?_
        · intro w'
          go_simp
          try with_reducible rfl
        try simp [Act.put]
        refine wpAny_ready (rs := [10]) (by kernel_rfl) (by simp) ?_
        refine AllReady.cons rfl (fun K hK => ?_) (AllReady.nil)
        have hcx := unhide C9
        unfold cutC at hcx
        obtain ⟨⟨e0, e1, e2, e3, e4⟩, u0, u1, u2, u3, u4⟩ := hcx.fiveW
        clear hcx
        have hKK := hK
        clear hK
        go_simp
        refine hKK _ _ ?_
        clear hKK K
        try simp [Act.put]
        clear e0 e1 e2 e3 e4 u0 u1 u2 u3 u4
        have XA := hide (show BoxF (w9.setCell ⟨cb, 2, none⟩ (.slice (some ⟨g9, 0, none⟩) n9 c9)) cb (cutC s kb (.slice (some ⟨g9, 0, none⟩) n9 c9) 4 st) from by
          have := (unhide C9).set 2 (.slice (some ⟨g9, 0, none⟩) n9 c9) (by simp [cutC])
          simpa [cutC] using this)
        have VA := hide ((unhide V9).keep (w' := w9.setCell ⟨cb, 2, none⟩ (.slice (some ⟨g9, 0, none⟩) n9 c9)) (fun g' hg => ((Turn.refl [cb] w9).setCell (g := cb) (by simp) 2 (.slice (some ⟨g9, 0, none⟩) n9 c9)).block g' ((unhide V9).lt g' hg) (by have := (unhide V9).ge g' hg; simp; omega)))
        have TA := hide ((unhide T9).setCell (g := cb) (by simp) 2 (.slice (some ⟨g9, 0, none⟩) n9 c9))
        refine wpAny_done (by kernel_rfl) ?_ _
        go_wp2_with fail
        go_ret
        exact ⟨rfl, some ⟨g9, 0, none⟩, n9, c9, XA, VA, TA⟩
      · skip
        have hKK := hK
        clear hK
        go_simp
        refine hKK _ _ ?_
        clear hKK K
        try simp [Act.put]
        refine wpAny_ready (rs := [4, 6]) (by kernel_rfl) (by simp) ?_
        refine AllReady.cons rfl (fun K hK => ?_) (AllReady.cons rfl (fun K hK => ?_) (AllReady.nil))
        · skip
          have hKK := hK
          clear hK
          go_simp
          refine hKK _ _ ?_
          clear hKK K
          try simp [Act.put]
          refine wpAny_ready (rs := [6]) (by kernel_rfl) (by simp) ?_
          refine AllReady.cons rfl (fun K hK => ?_) (AllReady.nil)
          have b8 := (Below.refl W4.heap.size W4).alloc (Nat.le_refl _) (.cells #[.int .i64 kd, .string tx, .int .i64 (st : Int)] 30)
          have N8 := hide (boxF_new W4 [.int .i64 kd, .string tx, .int .i64 (st : Int)] 30).triW.1
          have C8 := hide ((unhide CX4).up b8)
          have R8 := hide ((unhide RX4).up b8)
          have B8 := hide ((unhide BW4).trans (b8.mono (unhide BW4).size))
          clear b8
          have hKK := hK
          clear hK
          go_simp
          refine hKK _ _ ?_
          clear hKK K
          try simp [Act.put]
          refine wpAny_ready (rs := [7]) (by kernel_rfl) (by simp) ?_
          refine AllReady.cons rfl (fun K hK => ?_) (AllReady.nil)
          have hKK := hK
          clear hK
          refine step_wdAppend (w := W4.alloc (.cells #[.int .i64 kd, .string tx, .int .i64 (st : Int)] 30)) (by rfl) (.tmp 93) (.tmp 95) (by rfl) B (.slice ra rn rc) ws ⟨kd, tx, (st : Int)⟩ W4.heap.size (by rfl) (by rfl) (unhide R8) (unhide N8).1 (unhide N8).2.1 (unhide N8).2.2 (unhide HLEN) (Nat.le_trans hB (unhide B8).size) ?_
          intro g9 n9 c9 w9 r9 gr9
          have t9 : Turn ((Value.slice ra rn rc).ownBlock.toList) _ w9 := Turn.of_grown gr9 (fun k hk => .inl (by rw [hk]; simp))
          have NI9 := hide (show ∀ g' ∈ (Value.slice ra rn rc).ownBlock.toList, B ≤ g' from fun g' hg => (unhide R8).ge g' (by simpa using hg))
          have C9 := hide ((unhide C8).turn t9 (fun hm => by have := unhide NI9 _ hm; omega))
          have T9 := hide (show Turn (cb :: (Value.slice ra rn rc).ownBlock.toList) w w9 from ((Turn.of_below (S := cb :: (Value.slice ra rn rc).ownBlock.toList) (unhide B8)).trans (t9.mono (fun j hj => .inl (List.mem_cons_of_mem _ hj)))))
          have V9 := hide r9
          clear gr9 r9 t9
          refine hKK _ _ ?_
          clear hKK K
          try simp [Act.put]
          refine wpAny_take (i := 8) (v := .pointer (some ⟨cb, 0, none⟩)) rfl (by kernel_rfl) (by kernel_rfl) (by kernel_rfl) (fun _ _ _ h => h) (Or.inl ⟨by rfl, ?_⟩) ?_
          · intro w'
            go_simp
            try with_reducible rfl
          try simp [Act.put]
          refine wpAny_take (i := 9) (v := .pointer (some ⟨cb, 2, none⟩)) rfl (by kernel_rfl) (by kernel_rfl) (by kernel_rfl) (fun _ _ _ h => h) (Or.inl ⟨by rfl, ?_⟩) ?_
          · intro w'
            go_simp
            try with_reducible rfl
          try simp [Act.put]
          refine wpAny_ready (rs := [10]) (by kernel_rfl) (by simp) ?_
          refine AllReady.cons rfl (fun K hK => ?_) (AllReady.nil)
          have hcx := unhide C9
          unfold cutC at hcx
          obtain ⟨⟨e0, e1, e2, e3, e4⟩, u0, u1, u2, u3, u4⟩ := hcx.fiveW
          clear hcx
          have hKK := hK
          clear hK
          go_simp
          refine hKK _ _ ?_
          clear hKK K
          try simp [Act.put]
          clear e0 e1 e2 e3 e4 u0 u1 u2 u3 u4
          have XA := hide (show BoxF (w9.setCell ⟨cb, 2, none⟩ (.slice (some ⟨g9, 0, none⟩) n9 c9)) cb (cutC s kb (.slice (some ⟨g9, 0, none⟩) n9 c9) 4 st) from by
            have := (unhide C9).set 2 (.slice (some ⟨g9, 0, none⟩) n9 c9) (by simp [cutC])
            simpa [cutC] using this)
          have VA := hide ((unhide V9).keep (w' := w9.setCell ⟨cb, 2, none⟩ (.slice (some ⟨g9, 0, none⟩) n9 c9)) (fun g' hg => ((Turn.refl [cb] w9).setCell (g := cb) (by simp) 2 (.slice (some ⟨g9, 0, none⟩) n9 c9)).block g' ((unhide V9).lt g' hg) (by have := (unhide V9).ge g' hg; simp; omega)))
          have TA := hide ((unhide T9).setCell (g := cb) (by simp) 2 (.slice (some ⟨g9, 0, none⟩) n9 c9))
          refine wpAny_done (by kernel_rfl) ?_ _
          go_wp2_with fail
          go_ret
          exact ⟨rfl, some ⟨g9, 0, none⟩, n9, c9, XA, VA, TA⟩
        · skip
          have b8 := (Below.refl W4.heap.size W4).alloc (Nat.le_refl _) (.cells #[.int .i64 kd, .string tx, .int .i64 (st : Int)] 30)
          have N8 := hide (boxF_new W4 [.int .i64 kd, .string tx, .int .i64 (st : Int)] 30).triW.1
          have C8 := hide ((unhide CX4).up b8)
          have R8 := hide ((unhide RX4).up b8)
          have B8 := hide ((unhide BW4).trans (b8.mono (unhide BW4).size))
          clear b8
          have hKK := hK
          clear hK
          go_simp
          refine hKK _ _ ?_
          clear hKK K
          try simp [Act.put]
          refine wpAny_ready (rs := [4]) (by kernel_rfl) (by simp) ?_
          refine AllReady.cons rfl (fun K hK => ?_) (AllReady.nil)
          have hcx := unhide C8
          unfold cutC at hcx
          obtain ⟨⟨e0, e1, e2, e3, e4⟩, -⟩ := hcx.fiveW
          clear hcx
          have hKK := hK
          clear hK
          go_simp
          refine hKK _ _ ?_
          clear hKK K
          try simp [Act.put]
          clear e0 e1 e2 e3 e4
          refine wpAny_ready (rs := [7]) (by kernel_rfl) (by simp) ?_
          refine AllReady.cons rfl (fun K hK => ?_) (AllReady.nil)
          have hKK := hK
          clear hK
          refine step_wdAppend (w := W4.alloc (.cells #[.int .i64 kd, .string tx, .int .i64 (st : Int)] 30)) (by rfl) (.tmp 93) (.tmp 95) (by rfl) B (.slice ra rn rc) ws ⟨kd, tx, (st : Int)⟩ W4.heap.size (by rfl) (by rfl) (unhide R8) (unhide N8).1 (unhide N8).2.1 (unhide N8).2.2 (unhide HLEN) (Nat.le_trans hB (unhide B8).size) ?_
          intro g9 n9 c9 w9 r9 gr9
          have t9 : Turn ((Value.slice ra rn rc).ownBlock.toList) _ w9 := Turn.of_grown gr9 (fun k hk => .inl (by rw [hk]; simp))
          have NI9 := hide (show ∀ g' ∈ (Value.slice ra rn rc).ownBlock.toList, B ≤ g' from fun g' hg => (unhide R8).ge g' (by simpa using hg))
          have C9 := hide ((unhide C8).turn t9 (fun hm => by have := unhide NI9 _ hm; omega))
          have T9 := hide (show Turn (cb :: (Value.slice ra rn rc).ownBlock.toList) w w9 from ((Turn.of_below (S := cb :: (Value.slice ra rn rc).ownBlock.toList) (unhide B8)).trans (t9.mono (fun j hj => .inl (List.mem_cons_of_mem _ hj)))))
          have V9 := hide r9
          clear gr9 r9 t9
          refine hKK _ _ ?_
          clear hKK K
          try simp [Act.put]
          refine wpAny_take (i := 8) (v := .pointer (some ⟨cb, 0, none⟩)) rfl (by kernel_rfl) (by kernel_rfl) (by kernel_rfl) (fun _ _ _ h => h) (Or.inl ⟨by rfl, ?_⟩) ?_
          · intro w'
            go_simp
            try with_reducible rfl
          try simp [Act.put]
          refine wpAny_take (i := 9) (v := .pointer (some ⟨cb, 2, none⟩)) rfl (by kernel_rfl) (by kernel_rfl) (by kernel_rfl) (fun _ _ _ h => h) (Or.inl ⟨by rfl, ?_⟩) ?_
          · intro w'
            go_simp
            try with_reducible rfl
          try simp [Act.put]
          refine wpAny_ready (rs := [10]) (by kernel_rfl) (by simp) ?_
          refine AllReady.cons rfl (fun K hK => ?_) (AllReady.nil)
          have hcx := unhide C9
          unfold cutC at hcx
          obtain ⟨⟨e0, e1, e2, e3, e4⟩, u0, u1, u2, u3, u4⟩ := hcx.fiveW
          clear hcx
          have hKK := hK
          clear hK
          go_simp
          refine hKK _ _ ?_
          clear hKK K
          try simp [Act.put]
          clear e0 e1 e2 e3 e4 u0 u1 u2 u3 u4
          have XA := hide (show BoxF (w9.setCell ⟨cb, 2, none⟩ (.slice (some ⟨g9, 0, none⟩) n9 c9)) cb (cutC s kb (.slice (some ⟨g9, 0, none⟩) n9 c9) 4 st) from by
            have := (unhide C9).set 2 (.slice (some ⟨g9, 0, none⟩) n9 c9) (by simp [cutC])
            simpa [cutC] using this)
          have VA := hide ((unhide V9).keep (w' := w9.setCell ⟨cb, 2, none⟩ (.slice (some ⟨g9, 0, none⟩) n9 c9)) (fun g' hg => ((Turn.refl [cb] w9).setCell (g := cb) (by simp) 2 (.slice (some ⟨g9, 0, none⟩) n9 c9)).block g' ((unhide V9).lt g' hg) (by have := (unhide V9).ge g' hg; simp; omega)))
          have TA := hide ((unhide T9).setCell (g := cb) (by simp) 2 (.slice (some ⟨g9, 0, none⟩) n9 c9))
          refine wpAny_done (by kernel_rfl) ?_ _
          go_wp2_with fail
          go_ret
          exact ⟨rfl, some ⟨g9, 0, none⟩, n9, c9, XA, VA, TA⟩

end Go.Proofs.YtjfebnplffpmoaaGreatDoor
