/-
  The program's line of a word.
-/
import Derived.Test.YtiebfcefmdiajaaGreatDoorLineS
import Derived.Test.YtiebfcefmdiajaaGreatDoorLexI
import Derived.Test.YtiebfcefmdiajaaGreatDoorMerged43
import Derived.Deep.AppendLies
import Derived.Deep.RegionHeld
import Derived.Deep.DeepCutAuto
import Derived.Deep.CutBlock
set_option linter.unusedVariables false
namespace Go.Proofs.YtiebfcefmdiajaaGreatDoor
open Go.RowKit Go.Maps Go.Deep

theorem joinTx {B : Nat} {w : World} {a : Option Addr} {n c : Nat} {ts : List ByteArray} (h : TxRow B w (.slice a n c) ts) (h0 : 0 < ts.length) (hl : ts.length ≤ 100) (hz : (joinB ts).size ≤ 100000) :
    Calls Tryz.prog 54 #[.slice a n c, .string ⟨#[32]⟩] w fun e w' => e = .returned (.string (joinB ts)) ∧ Below w.heap.size w w' := by
  obtain ⟨rfl, g, rfl, hg, hc⟩ := h.at h0
  have hcap : ts.length ≤ c := by
    rcases h with ⟨_, ⟨e, h00⟩ | ⟨g', cap, cur, e, _, _, hnc, _⟩⟩
    · simp only [Value.slice.injEq] at e; exact absurd e.1 (by simp)
    · simp only [Value.slice.injEq] at e; obtain ⟨-, -, rfl⟩ := e; exact hnc
  have hle : (Lib.join (ts.map (·.data.toList)) (⟨#[32]⟩ : ByteArray).data.toList).length ≤ 100000 := by
    have := hz
    unfold joinB at this
    rw [size_lit] at this
    exact this
  refine Tryz.strings_Join g 0 c ts ⟨#[32]⟩ w (fun j x hj => ?_) hg (by omega) hcap (Nat.le_trans hle (by decide))
  obtain ⟨hjl, e⟩ := List.getElem?_eq_some_iff.1 hj
  rw [Nat.zero_add, hc j hjl, e]
theorem news_one13 (w : World) (t : TypeId) (a : Value) : ∀ j u, [a][j]? = some u → (w.alloc (.cells #[a] t)).cell? ((⟨w.heap.size, 0, none⟩ : Addr).add j) = some u := by
  intro j u h
  match j, h with
  | 0, h =>
    simp only [List.getElem?_cons_zero, Option.some.injEq] at h
    subst h
    exact World.cell?_alloc_at _ _ _ _ rfl
  | j + 1, h => simp at h
/-- where the way to a world began: what the program's tables are, stands there -/
structure From0 (w0 : World) (lb : Nat) (w : World) : Prop where
  pow : PowIn w0
  bel : Below w0.heap.size w0 w
  le : w0.heap.size ≤ lb
theorem From0.turn {w0 w w' : World} {lb : Nat} (h : From0 w0 lb w) (t : Turn [lb] w w') : From0 w0 lb w' := ⟨h.pow, h.bel.trans (t.below h.bel.size (by simp; exact h.le)), h.le⟩
theorem From0.up {w0 w w' : World} {lb : Nat} (h : From0 w0 lb w) (b : Below w.heap.size w w') : From0 w0 lb w' := ⟨h.pow, h.bel.trans (b.mono h.bel.size), h.le⟩
theorem From0.powIn {w0 w : World} {lb : Nat} (h : From0 w0 lb w) : PowIn w := h.pow.below h.bel (Nat.le_refl _)
theorem itoa_from {w0 w : World} {lb : Nat} (h : From0 w0 lb w) (n : Int) (hn : F64 n) : Calls Tryz.prog 52 #[.int .i64 n] w fun e w' => e = .returned (.string (itoaB n)) ∧ Below w.heap.size w w' := itoa_any n hn.1 hn.2 w h.powIn
theorem lineW4 (s : SayV) : joinB [itoaB s.src, itoaB s.dst, kindT s.kind, s.name] = lineHd s := rfl
set_option maxRecDepth 20000 in
set_option maxHeartbeats 6400000 in
theorem implLine_any (s : SayV) (a : Option Addr) (c : Nat) (w0 w : World) (lb kb : Nat) (hok : sayOkB s = true) (hv : F64 s.val) (hin : VerIn w a s.stamp) (hne : s.stamp ≠ [] → ∀ sb off, a = some ⟨sb, off, none⟩ → sb ≠ lb) (hlx : LexNew w lb kb) (h0 : From0 w0 lb w) :
    Calls Tryz.prog 27 #[.pointer (some ⟨lb, 0, none⟩), .agg #[.int .i64 s.kind, .int .i64 s.src, .int .i64 s.dst, .string s.name, .int .i64 s.val, .slice a s.stamp.length c]] w fun e w' => e = .returned (.string (lineT s)) ∧ Turn [lb] w w' := by
  obtain ⟨h1, h2, h3, h4⟩ := okS hok
  have hk3 : s.kind = 1 ∨ s.kind = 2 ∨ s.kind = 3 := by rcases h4 with ⟨e, -⟩ | ⟨e, -⟩ <;> omega
  have f1 : F64 s.src := ⟨by omega, by omega⟩
  have f2 : F64 s.dst := ⟨by omega, by omega⟩
  have hv' := hv
  have hlb := hlx.box.1.1
  have bx := boxF_new w [.int .i64 s.kind, .int .i64 s.src, .int .i64 s.dst, .string s.name, .int .i64 s.val, .slice a s.stamp.length c] 24
  have bb := (Below.refl w.heap.size w).alloc (Nat.le_refl _) (.cells #[.int .i64 s.kind, .int .i64 s.src, .int .i64 s.dst, .string s.name, .int .i64 s.val, .slice a s.stamp.length c] 24)
  simp only [List.toArray] at bx
  have hz : (w.alloc (.cells #[.int .i64 s.kind, .int .i64 s.src, .int .i64 s.dst, .string s.name, .int .i64 s.val, .slice a s.stamp.length c] 24)).heap.size = w.heap.size + 1 := by simp
  have HIN := hide hin
  have HF := hide (show From0 w0 lb (w.alloc (.cells #[.int .i64 s.kind, .int .i64 s.src, .int .i64 s.dst, .string s.name, .int .i64 s.val, .slice a s.stamp.length c] 24)) from h0.up bb)
  have HLX := hide (show LexNew (w.alloc (.cells #[.int .i64 s.kind, .int .i64 s.src, .int .i64 s.dst, .string s.name, .int .i64 s.val, .slice a s.stamp.length c] 24)) lb kb from ⟨hlx.box.up bb, hlx.kinds.turn (Turn.of_below (S := []) bb) (by simp), hlx.ne⟩)
  have HWD := hide (fun (W : World) (hW : LexNew W lb kb) => word_any lb kb s.kind hk3 W hW)
  have HD := hide (fun (W : World) (hW : From0 w0 lb W) (n : Int) (hn : F64 n) => itoa_from hW n hn)
  have HHD := hide (lineW4 s)
  have HHZ := hide (lineHd_size hok)
  have T0 := hide (Turn.of_below (S := [lb]) bb)
  obtain ⟨R, HR⟩ : ∃ R, Hid (R = lineT s) := ⟨_, rfl⟩
  rw [← unhide HR]
  have HX := hide (fun (hk : s.kind ≠ 2) => lineHd_all hk)
  have HXA := hide (fun (hk : s.kind = 2) => lineTo_all hk)
  have HZ0 := hide (lineTo_zero s)
  have HSZ := hide (fun k hk => lineTo_size hok hv k hk)
  have hst := hide (fun (hk : s.kind = 2) => show s.stamp.length ≤ 12 ∧ 1 ≤ s.stamp.length ∧ ∀ x ∈ s.stamp, plainB x.a0 = true ∧ 1 ≤ x.a1 ∧ x.a1 ≤ 1099511627776 from by
    rcases h4 with ⟨-, h5, h4⟩ | ⟨h4, -⟩
    · exact ⟨(stamp_vers h4).1, h5, (stamp_vers h4).2⟩
    · omega)
  have BX := hide bx
  have z3 := (plain_size h3).2
  clear bx hin hlx h0 bb h1 h2 h3 h4 hk3 hok
  obtain ⟨dec, hdec⟩ : ∃ dec, dec = itoaB := ⟨_, rfl⟩
  have HDEC := hide hdec
  rw [← hdec] at HD HHD HZ0
  clear hdec
  generalize hKT : kindT s.kind = K at *
  have HKT := hide hKT
  clear hKT
  generalize hnm : s.name = name at *
  generalize hsr : s.src = src at *
  generalize hds : s.dst = dst at *
  generalize hvl : s.val = val at *
  generalize hki : s.kind = kind at *
  have HEQ := hide (And.intro hnm (And.intro hsr (And.intro hds (And.intro hvl hki))))
  clear hnm hsr hds hvl hki
  go_enter Tryz.func27, Tryz.ntmps27
  go_wp2_with fail
  generalize w.alloc (.cells #[.int .i64 kind, .int .i64 src, .int .i64 dst, .string name, .int .i64 val, .slice a s.stamp.length c] 24) = W at *
  have hg0 : w.heap.size < W.heap.size := by omega
  generalize hgq : w.heap.size = g0 at *
  have hgl : g0 ≠ lb := by omega
  have HSB := hide (show ∀ X, Turn [lb] W X → (fun X : World => X.cell? ⟨g0, 0, none⟩ = some (.int .i64 kind) ∧ X.cell? ⟨g0, 1, none⟩ = some (.int .i64 src) ∧ X.cell? ⟨g0, 2, none⟩ = some (.int .i64 dst) ∧ X.cell? ⟨g0, 3, none⟩ = some (.string name)) X from fun X t => by
    have hn : g0 ∉ [lb] := by simpa using hgl
    exact ⟨(t.cell hg0 hn).trans ((unhide BX).1.at 0 _ rfl), (t.cell hg0 hn).trans ((unhide BX).1.at 1 _ rfl), (t.cell hg0 hn).trans ((unhide BX).1.at 2 _ rfl), (t.cell hg0 hn).trans ((unhide BX).1.at 3 _ rfl)⟩)
  go_wp2_with fail
  go_upto_region 1 with fail
  go_cut [5] (fun av wx => ∃ g, av = .slice (some ⟨g, 0, none⟩) 4 4 ∧ Hid (TxRow W.heap.size wx (.slice (some ⟨g, 0, none⟩) 4 4) [dec src, dec dst, K, name]) ∧ Hid (Turn [lb] W wx) ∧ Hid (From0 w0 lb wx))
  case first =>
      have hS := unhide HSB W.drew ((Turn.refl [lb] W).dn 1)
      have T1 := hide ((Below.refl W.heap.size W).drew)
      refine wp_region_held_drew (S := fun X : World => X.cell? ⟨g0, 0, none⟩ = some (.int .i64 kind) ∧ X.cell? ⟨g0, 1, none⟩ = some (.int .i64 src) ∧ X.cell? ⟨g0, 2, none⟩ = some (.int .i64 dst) ∧ X.cell? ⟨g0, 3, none⟩ = some (.string name)) (by kernel_rfl) hS ?_
      intro hS
      refine wpAnyH_take (i := 0) (v := .pointer (some ⟨g0, 1, none⟩)) rfl (by kernel_rfl) (by kernel_rfl) (by kernel_rfl) (fun _ _ _ h => h) (Or.inl ⟨by rfl, ?_⟩) hS ?_
      · intro X hX
        obtain ⟨h0, h1, h2, h3⟩ := hX
        clear hS
        go_simp
        try with_reducible rfl
      try simp [Act.put]
      refine wpAnyH_take (i := 1) (v := .int .i64 src) rfl (by kernel_rfl) (by kernel_rfl) (by kernel_rfl) (fun _ _ _ h => h) (Or.inl ⟨by rfl, ?_⟩) hS ?_
      · intro X hX
        obtain ⟨h0, h1, h2, h3⟩ := hX
        clear hS
        go_simp
        try with_reducible rfl
      try simp [Act.put]
      refine wpAnyH_take (i := 3) (v := .pointer (some ⟨g0, 2, none⟩)) rfl (by kernel_rfl) (by kernel_rfl) (by kernel_rfl) (fun _ _ _ h => h) (Or.inl ⟨by rfl, ?_⟩) hS ?_
      · intro X hX
        obtain ⟨h0, h1, h2, h3⟩ := hX
        clear hS
        go_simp
        try with_reducible rfl
      try simp [Act.put]
      refine wpAnyH_take (i := 4) (v := .int .i64 dst) rfl (by kernel_rfl) (by kernel_rfl) (by kernel_rfl) (fun _ _ _ h => h) (Or.inl ⟨by rfl, ?_⟩) hS ?_
      · intro X hX
        obtain ⟨h0, h1, h2, h3⟩ := hX
        clear hS
        go_simp
        try with_reducible rfl
      try simp [Act.put]
      refine wpAnyH_take (i := 6) (v := .pointer (some ⟨lb, 0, none⟩)) rfl (by kernel_rfl) (by kernel_rfl) (by kernel_rfl) (fun _ _ _ h => h) (Or.inl ⟨by rfl, ?_⟩) hS ?_
      · intro X hX
        obtain ⟨h0, h1, h2, h3⟩ := hX
        clear hS
        go_simp
        try with_reducible rfl
      try simp [Act.put]
      refine wpAnyH_take (i := 7) (v := .pointer (some ⟨g0, 0, none⟩)) rfl (by kernel_rfl) (by kernel_rfl) (by kernel_rfl) (fun _ _ _ h => h) (Or.inl ⟨by rfl, ?_⟩) hS ?_
      · intro X hX
        obtain ⟨h0, h1, h2, h3⟩ := hX
        clear hS
        go_simp
        try with_reducible rfl
      try simp [Act.put]
      refine wpAnyH_take (i := 8) (v := .int .i64 kind) rfl (by kernel_rfl) (by kernel_rfl) (by kernel_rfl) (fun _ _ _ h => h) (Or.inl ⟨by rfl, ?_⟩) hS ?_
      · intro X hX
        obtain ⟨h0, h1, h2, h3⟩ := hX
        clear hS
        go_simp
        try with_reducible rfl
      try simp [Act.put]
      refine wpAnyH_take (i := 10) (v := .pointer (some ⟨g0, 3, none⟩)) rfl (by kernel_rfl) (by kernel_rfl) (by kernel_rfl) (fun _ _ _ h => h) (Or.inl ⟨by rfl, ?_⟩) hS ?_
      · intro X hX
        obtain ⟨h0, h1, h2, h3⟩ := hX
        clear hS
        go_simp
        try with_reducible rfl
      try simp [Act.put]
      refine wpAnyH_take (i := 11) (v := .string name) rfl (by kernel_rfl) (by kernel_rfl) (by kernel_rfl) (fun _ _ _ h => h) (Or.inl ⟨by rfl, ?_⟩) hS ?_
      · intro X hX
        obtain ⟨h0, h1, h2, h3⟩ := hX
        clear hS
        go_simp
        try with_reducible rfl
      try simp [Act.put]
      refine wpAnyH_ready (rs := [2]) (by kernel_rfl) (by simp) ?_
      refine AllReadyH.cons rfl (fun K hK => ?_) AllReadyH.nil
      go_simp
      go_wp2_with (go_at_call 52; refine (unhide HD _ ((unhide HF).up (unhide T1)) src f1).mono ?_; rintro e w2 ⟨rfl, b2⟩; have T2 := hide ((unhide T1).trans (b2.mono (unhide T1).size)); clear b2)
      refine hK.out _ _ (unhide HSB w2 (Turn.of_below (unhide T2))) ?_
      clear hK K
      intro hS
      try simp [Act.put]
      refine wpAnyH_ready (rs := [5]) (by kernel_rfl) (by simp) ?_
      refine AllReadyH.cons rfl (fun K hK => ?_) AllReadyH.nil
      go_simp
      go_wp2_with (go_at_call 52; refine (unhide HD _ ((unhide HF).up (unhide T2)) dst f2).mono ?_; rintro e w3 ⟨rfl, b3⟩; have T3 := hide ((unhide T2).trans (b3.mono (unhide T2).size)); clear b3)
      refine hK.out _ _ (unhide HSB w3 (Turn.of_below (unhide T3))) ?_
      clear hK K
      intro hS
      try simp [Act.put]
      have HL3 := hide (show LexNew w3 lb kb from ⟨(unhide HLX).box.up (unhide T3), (unhide HLX).kinds.turn (Turn.of_below (S := []) (unhide T3)) (by simp), (unhide HLX).ne⟩)
      refine wpAnyH_ready (rs := [9]) (by kernel_rfl) (by simp) ?_
      refine AllReadyH.cons rfl (fun K hK => ?_) AllReadyH.nil
      go_simp
      go_wp2_with (go_at_call 53; refine (unhide HWD _ (unhide HL3)).mono ?_; rintro e w4 ⟨rfl, b4⟩; have T4 := hide ((Turn.of_below (S := [lb]) (unhide T3)).trans b4); clear b4)
      refine hK.out _ _ (unhide HSB w4 (unhide T4)) ?_
      clear hK K
      intro hS
      try simp [Act.put]
      have T5 := hide ((unhide T4).alloc (.cells #[.string (dec src), .string (dec dst), .string K, .string name] 9))
      have R5 := hide (show TxRow W.heap.size (w4.alloc (.cells #[.string (dec src), .string (dec dst), .string K, .string name] 9)) (.slice (some ⟨w4.heap.size, 0, none⟩) 4 4) [dec src, dec dst, K, name] from World.ownsRow_lit (size := 1) w4 #[.string (dec src), .string (dec dst), .string K, .string name] 4 (unhide T4).size (by unfold maxLen; omega) rfl)
      refine wpAnyH_ready (rs := [12]) (by kernel_rfl) (by simp) ?_
      refine AllReadyH.cons rfl (fun K hK => ?_) AllReadyH.nil
      go_simp
      refine hK.out _ _ (unhide HSB _ (unhide T5)) ?_
      clear hK K
      intro hS
      try simp [Act.put]
      refine wpAnyH_ready (rs := [13]) (by kernel_rfl) (by simp) ?_
      refine AllReadyH.cons rfl (fun K hK => ?_) AllReadyH.nil
      go_simp
      refine hK.out _ _ hS ?_
      clear hK K
      intro hS
      try simp [Act.put]
      refine wpAnyH_done (by kernel_rfl) ?_ _
      go_wp2_with fail
      go_meet
      exact ⟨_, rfl, R5, T5, hide ((unhide HF).turn (unhide T5))⟩
  case rest =>
  obtain ⟨g, rfl, HR5, HT5, HF5⟩ := hcut
  have hn0 : g0 ∉ [lb] := by simpa using hgl
  have d0 := ((unhide HT5).cell hg0 hn0).trans ((unhide BX).1.at 0 _ rfl)
  have d4 := ((unhide HT5).cell hg0 hn0).trans ((unhide BX).1.at 4 _ rfl)
  have d5 := ((unhide HT5).cell hg0 hn0).trans ((unhide BX).1.at 5 _ rfl)
  have hzL : (lineHd s).size ≤ 600 := unhide HHZ
  by_cases hk2 : kind = 2
  rotate_left
  · have q2 : (kind == 2) = false := by rw [beq_eq_false_iff_ne]; exact hk2
    have hhd : joinB [dec src, dec dst, K, name] = lineHd s := unhide HHD
    have HJ := hide (joinTx (unhide HR5) (by simp) (by simp) (by rw [hhd]; omega))
    have HE := hide (show joinB [dec src, dec dst, K, name] = R from by rw [hhd, unhide HR]; exact unhide HX hk2)
    clear hhd hzL hk2 d4 d5
    generalize joinB [dec src, dec dst, K, name] = J at *
    go_wp2_with fail
    refine (unhide HJ).mono ?_
    rintro e w6 ⟨rfl, b6⟩
    have T6 := hide ((unhide T0).trans ((unhide HT5).trans (Turn.of_below b6)))
    clear b6
    go_wp2_with fail
    go_ret
    exact ⟨by rw [unhide HE]; rfl, unhide T6⟩
  have q2 : (kind == 2) = true := by rw [hk2]; rfl
  obtain ⟨hs12, hs1, hsx⟩ := unhide hst hk2
  have HSX := hide hsx
  obtain ⟨sb, soff, rfl, hsb, HV⟩ : ∃ sb soff, a = some ⟨sb, soff, none⟩ ∧ sb < g0 ∧ Hid (VerAt w sb soff s.stamp) := by
    rcases unhide HIN with h0 | ⟨b, off, e, hb, hc⟩
    · rw [h0] at hs1; simp at hs1
    · exact ⟨b, off, e, by rw [hgq] at hb; exact hb, hide hc⟩
  have hsl : sb ≠ lb := hne (by intro e; rw [e] at hs1; simp at hs1) sb soff rfl
  have HDV := hide (unhide HD _ (unhide HF5) val hv')
  have hzW : W.heap.size ≤ wc.heap.size := (unhide HT5).size
  clear hsx hst
  have hrg : W.heap.size ≤ g := (unhide HR5).ge g rfl
  go_wp2_with (first
    | (go_at_call 52; refine (unhide HDV).mono ?_; rintro e w6 ⟨rfl, b6⟩; have T6 := hide (((unhide HT5).trans (Turn.of_below b6)).alloc (.cells #[.string (dec val)] 9)); have R6 := hide (((unhide HR5).up b6).up ((Below.refl _ w6).alloc (Nat.le_refl _) (.cells #[.string (dec val)] 9))); have C6 := hide ((boxF_new w6 [.string (dec val)] 9).1.at 0 _ rfl); have S6 := hide (show W.heap.size ≤ (w6.alloc (.cells #[.string (dec val)] 9)).heap.size from (unhide T6).size); clear b6)
    | (at_builtin; refine wpList_txAppend rfl _ _ rfl W.heap.size (.slice (some ⟨g, 0, none⟩) 4 4) [dec src, dec dst, K, name] (dec val) w6.heap.size rfl rfl (unhide R6) (unhide C6) (by simp) (unhide S6) ?_; intro g7 n7 c7 w7 r7 gr7; have R7 := hide r7; have T7 := hide ((unhide T6).more gr7 (fun k hk => by simp [Value.ownBlock] at hk; omega)); have e5 := ((unhide T7).cell hg0 hn0).trans ((unhide BX).1.at 5 _ rfl); clear r7 gr7)
    | fail)
  have F7 := hide ((unhide HF).turn (unhide T7))
  clear d0 d4 d5 HR5 HT5 HF5 HDV T6 R6 C6 S6 hrg hzW
  have HVW := hide (fun (X : World) (t : Turn [lb] W X) (k : Nat) (hk : k < s.stamp.length) => show X.cell? ⟨sb, soff + k * 2, none⟩ = some (.string s.stamp[k].a0) ∧ X.cell? ⟨sb, soff + k * 2 + 1, none⟩ = some (.int .i64 s.stamp[k].a1) from by
    obtain ⟨v0, v1⟩ := unhide HV k hk
    have t2 := (unhide T0).trans t
    have hs1 : sb < w.heap.size := by rw [hgq]; exact hsb
    exact ⟨(t2.cell hs1 (by simpa using hsl)).trans v0, (t2.cell hs1 (by simpa using hsl)).trans v1⟩)
  have HWK := hide (fun k (hk : k < s.stamp.length) => show [dec src, dec dst, K, name, dec val] ++ (s.stamp.take (k + 1)).map verT = ([dec src, dec dst, K, name, dec val] ++ (s.stamp.take k).map verT) ++ [s.stamp[k].a0 ++ ⟨#[58]⟩ ++ dec s.stamp[k].a1] from by
    rw [ver_snoc _ _ hk, ← List.append_assoc, unhide HDEC]; rfl)
  have HWJ := hide (show joinB ([dec src, dec dst, K, name, dec val] ++ (s.stamp.take s.stamp.length).map verT) = R from by
    rw [unhide HR, ← unhide HXA hk2]
    unfold lineTo
    obtain ⟨q1, q2, q3, q4, q5⟩ := unhide HEQ
    rw [q2, q3, q1, q4, q5, unhide HKT, unhide HDEC])
  have HWZ := hide (show (joinB ([dec src, dec dst, K, name, dec val] ++ (s.stamp.take s.stamp.length).map verT)).size ≤ 600 from by
    rw [unhide HWJ, unhide HR, ← unhide HXA hk2]; exact unhide HSZ _ hk2)
  clear HV HZ0 HSZ HXA HX HHD HHZ HIN HWD HKT HLX BX HEQ hzL
  go_wp2_with fail
  obtain ⟨i0, hi, hz0, hz1, hz2⟩ := info_parts1 infoTx
  obtain ⟨WK, hWK⟩ : ∃ WK : Nat → List ByteArray, ∀ k, [dec src, dec dst, K, name, dec val] ++ (s.stamp.take k).map verT = WK k := ⟨_, fun _ => rfl⟩
  have HWL := hide (show ∀ k, (WK k).length ≤ 5 + s.stamp.length ∧ 0 < (WK k).length from fun k => by rw [← hWK]; simp; omega)
  have HW0 := hide (show [dec src, dec dst, K, name] ++ [dec val] = WK 0 from by rw [← hWK]; simp)
  have HWK2 := hide (fun k (hk : k < s.stamp.length) => show WK (k + 1) = WK k ++ [s.stamp[k].a0 ++ ⟨#[58]⟩ ++ dec s.stamp[k].a1] from by rw [← hWK, ← hWK]; exact unhide HWK k hk)
  have HWJ2 := hide (show joinB (WK s.stamp.length) = R from by rw [← hWK]; exact unhide HWJ)
  have HWZ2 := hide (show (joinB (WK s.stamp.length)).size ≤ 600 from by rw [← hWK]; exact unhide HWZ)
  clear HWK HWJ HWZ hWK
  go_loopw [5, 33] (fun av iv wr => ∃ (k : Nat) (oa : Option Addr) (on oc : Nat), k ≤ s.stamp.length ∧ iv = .int .i64 (k : Int) ∧ av = .slice oa on oc ∧ Hid (TxRow W.heap.size wr (.slice oa on oc) (WK k)) ∧ Hid (Turn [lb] W wr)) (fun _ iv _ => s.stamp.length - (intOf iv).toNat)
  case atStart => exact ⟨0, _, _, _, Nat.zero_le _, rfl, rfl, by rw [← unhide HW0]; exact R7, T7⟩
  case round =>
    obtain ⟨k, oa, on, oc, hk, rfl, rfl, HR8, HT8⟩ := hrel
    by_cases hlt : k < s.stamp.length
    · have hlt' : (k : Int) < (s.stamp.length : Int) := by omega
      have hx := unhide HSX _ (List.getElem_mem hlt)
      obtain ⟨g1, g2⟩ := unhide HVW wr (unhide HT8) k hlt
      have fz : F64 s.stamp[k].a1 := ⟨by omega, by omega⟩
      have zn := (plain_size hx.1).2
      have zdd : (dec s.stamp[k].a1).size ≤ 20 := by rw [unhide HDEC]; exact itoaB_size _ fz.1 fz.2
      have HWN := hide (unhide HWK2 k hlt)
      have hwl := (unhide HWL k).1
      clear hx
      generalize s.stamp[k].a0 = nm at *
      generalize s.stamp[k].a1 = vl at *
      have HDV := hide (fun (X : World) (t : Turn [lb] W X) => unhide HD X ((unhide HF).turn t) vl fz)
      generalize dec vl = dv at *
      generalize WK k = ts at *
      have a0 : ¬ 9223372036854775807 < nm.size + 1 := by omega
      have a1 : ¬ 9223372036854775807 < nm.size + 1 + dv.size := by omega
      obtain ⟨bx2, bb2, zz2⟩ := boxNew2 wr (.string nm) (.int .i64 vl) 57
      go_wp2_with fail
      generalize wr.alloc (.cells #[.string nm, .int .i64 vl] 57) = W2 at *
      have hgb : ∀ y, (Value.slice oa on oc).ownBlock = some y → W.heap.size ≤ y ∧ y < wr.heap.size := fun y hy => ⟨(unhide HR8).ge y hy, (unhide HR8).lt y hy⟩
      have HRW := hide ((unhide HR8).up bb2)
      have TW := hide ((unhide HT8).trans (Turn.of_below (S := [lb]) bb2))
      have HSB2 := hide (show ∀ X, Turn (Value.slice oa on oc).ownBlock.toList W2 X → X.cell? ⟨wr.heap.size, 0, none⟩ = some (.string nm) ∧ X.cell? ⟨wr.heap.size, 1, none⟩ = some (.int .i64 vl) from fun X t => by
        have hnm : wr.heap.size ∉ (Value.slice oa on oc).ownBlock.toList := by
          intro hm
          have := (hgb _ (by simpa using hm)).2
          omega
        exact ⟨(t.cell zz2 hnm).trans bx2.two.1, (t.cell zz2 hnm).trans bx2.two.2⟩)
      have hW2 : W.heap.size ≤ W2.heap.size := (unhide TW).size
      have hS : W2.drew.cell? ⟨wr.heap.size, 0, none⟩ = some (.string nm) ∧ W2.drew.cell? ⟨wr.heap.size, 1, none⟩ = some (.int .i64 vl) := ⟨bx2.two.1, bx2.two.2⟩
      clear bx2 bb2 HR8 g1 g2
      generalize hgz : wr.heap.size = gz at *
      have BD := hide (show Below W2.heap.size W2 W2.drew from (Below.refl _ _).drew)
      refine wp_region_held_drew (S := fun X : World => X.cell? ⟨gz, 0, none⟩ = some (.string nm) ∧ X.cell? ⟨gz, 1, none⟩ = some (.int .i64 vl)) (by kernel_rfl) hS ?_
      intro hS
      refine wpAnyH_take (i := 0) (v := .slice oa on oc) rfl (by kernel_rfl) (by kernel_rfl) (by kernel_rfl) (fun _ _ _ h => h) (Or.inl ⟨by rfl, ?_⟩) hS ?_
      · intro X hX
        obtain ⟨h0, h1⟩ := hX
        clear hS
        go_simp
        try with_reducible rfl
      try simp [Act.put]
      refine wpAnyH_take (i := 1) (v := .pointer (some ⟨gz, 0, none⟩)) rfl (by kernel_rfl) (by kernel_rfl) (by kernel_rfl) (fun _ _ _ h => h) (Or.inl ⟨by rfl, ?_⟩) hS ?_
      · intro X hX
        obtain ⟨h0, h1⟩ := hX
        clear hS
        go_simp
        try with_reducible rfl
      try simp [Act.put]
      refine wpAnyH_take (i := 2) (v := .string nm) rfl (by kernel_rfl) (by kernel_rfl) (by kernel_rfl) (fun _ _ _ h => h) (Or.inl ⟨by rfl, ?_⟩) hS ?_
      · intro X hX
        obtain ⟨h0, h1⟩ := hX
        clear hS
        go_simp
        try with_reducible rfl
      try simp [Act.put]
      refine wpAnyH_take (i := 3) (v := .string (nm ++ ⟨#[58]⟩)) rfl (by kernel_rfl) (by kernel_rfl) (by kernel_rfl) (fun _ _ _ h => h) (Or.inl ⟨by rfl, ?_⟩) hS ?_
      · intro X hX
        obtain ⟨h0, h1⟩ := hX
        clear hS
        go_simp
        try with_reducible rfl
      try simp [Act.put]
      refine wpAnyH_take (i := 4) (v := .pointer (some ⟨gz, 1, none⟩)) rfl (by kernel_rfl) (by kernel_rfl) (by kernel_rfl) (fun _ _ _ h => h) (Or.inl ⟨by rfl, ?_⟩) hS ?_
      · intro X hX
        obtain ⟨h0, h1⟩ := hX
        clear hS
        go_simp
        try with_reducible rfl
      try simp [Act.put]
      refine wpAnyH_take (i := 5) (v := .int .i64 vl) rfl (by kernel_rfl) (by kernel_rfl) (by kernel_rfl) (fun _ _ _ h => h) (Or.inl ⟨by rfl, ?_⟩) hS ?_
      · intro X hX
        obtain ⟨h0, h1⟩ := hX
        clear hS
        go_simp
        try with_reducible rfl
      try simp [Act.put]
      refine wpAnyH_ready (rs := [6]) (by kernel_rfl) (by simp) ?_
      refine AllReadyH.cons rfl (fun K hK => ?_) AllReadyH.nil
      go_simp
      go_wp2_with (go_at_call 52; refine (unhide HDV _ ((unhide TW).trans (Turn.of_below (unhide BD)))).mono ?_; rintro e w2 ⟨rfl, b2⟩; have B2 := hide ((unhide BD).trans (b2.mono (unhide BD).size)); clear b2)
      refine hK.out _ _ (unhide HSB2 w2 (Turn.of_below (unhide B2))) ?_
      clear hK K
      intro hS
      try simp [Act.put]
      have HR2 := hide ((unhide HRW).up (unhide B2))
      have hw2 := (unhide B2).size
      refine wpAnyH_ready (rs := [7]) (by kernel_rfl) (by simp) ?_
      refine AllReadyH.cons rfl (fun K hK => ?_) AllReadyH.nil
      go_simp
      refine hK.out _ _ hS ?_
      clear hK K
      intro hS
      try simp [Act.put]
      refine wpAnyH_ready (rs := [8]) (by kernel_rfl) (by simp) ?_
      refine AllReadyH.cons rfl (fun K hK => ?_) AllReadyH.nil
      go_simp
      refine hK.out _ _ (unhide HSB2 _ (Turn.of_below ((unhide B2).alloc (unhide B2).size _))) ?_
      clear hK K
      intro hS
      try simp [Act.put]
      refine wpAnyH_ready (rs := [9]) (by kernel_rfl) (by simp) ?_
      refine AllReadyH.cons rfl (fun K hK => ?_) AllReadyH.nil
      refine step_append_lies _ (by rfl) (.tmp 37) (.tmp 45) 41 (by rfl) W.heap.size 9 i0 _ 1 16 Tryz.underlying41 hi hz0 hz1 hz2 rfl Nat.one_pos (.slice oa on oc) ts.length (ts.map .string) (by rfl) ((unhide HR2).up ((Below.refl w2.heap.size w2).alloc (Nat.le_refl _) _)) ⟨w2.heap.size, 0, none⟩ 1 1 [.string (nm ++ ⟨#[58]⟩ ++ dv)] (by rfl) rfl (news_one13 w2 9 (.string (nm ++ ⟨#[58]⟩ ++ dv))) (by intro u hu; simp at hu; rw [hu]; rfl) Nat.one_pos (by unfold maxLen; omega) (by omega) (by simp; omega) _ rfl ?_
      intro g8 c8 w8 hown8 hgrow8 hor8 hlt8
      have T8 := hide (show Turn (Value.slice oa on oc).ownBlock.toList W2 w8 from (Turn.of_below ((unhide B2).alloc (unhide B2).size (.cells #[.string (nm ++ ⟨#[58]⟩ ++ dv)] 9))).trans (Turn.of_grown hgrow8 (fun y hy => Or.inl (by rw [hy]; simp))))
      have R8 := hide (show TxRow W.heap.size w8 (.slice (some ⟨g8, 0, none⟩) (ts.length + 1) c8) (ts ++ [nm ++ ⟨#[58]⟩ ++ dv]) by
        unfold TxRow
        rw [List.length_append, List.map_append]
        exact hown8)
      have B8 := hide (show Turn [lb] W w8 from ((unhide TW).trans (Turn.of_below (S := [lb]) ((unhide B2).alloc (unhide B2).size (.cells #[.string (nm ++ ⟨#[58]⟩ ++ dv)] 9)))).more hgrow8 (fun y hy => (hgb y hy).1))
      clear hown8 hgrow8 hor8
      refine hK.out _ _ (unhide HSB2 w8 (unhide T8)) ?_
      clear hK K
      intro hS
      try simp [Act.put]
      refine wpAnyH_ready (rs := [10]) (by kernel_rfl) (by simp) ?_
      refine AllReadyH.cons rfl (fun K hK => ?_) AllReadyH.nil
      go_simp
      refine hK.out _ _ hS ?_
      clear hK K
      intro hS
      try simp [Act.put]
      refine wpAnyH_done (by kernel_rfl) ?_ _
      rw [← unhide HWN] at R8
      go_wp2_with fail
      go_roundw
      case rel => exact ⟨k + 1, _, _, _, by omega, by go_num, rfl, R8, B8⟩
      case measure => simp [intOf]; omega
    · have e : k = s.stamp.length := by omega
      subst e
      have hlt' : ¬ ((s.stamp.length : Int) < (s.stamp.length : Int)) := by omega
      have hwl := unhide HWL s.stamp.length
      have HJ := hide (joinTx (unhide HR8) hwl.2 (by omega) (by have := unhide HWZ2; omega))
      rw [unhide HWJ2] at HJ
      go_wp2_with fail
      refine (unhide HJ).mono ?_
      rintro e w9 ⟨rfl, b9⟩
      have T9 := hide ((unhide T0).trans ((unhide HT8).trans (Turn.of_below b9)))
      clear b9
      go_wp2_with fail
      go_ret
      exact ⟨rfl, unhide T9⟩
end Go.Proofs.YtiebfcefmdiajaaGreatDoor
