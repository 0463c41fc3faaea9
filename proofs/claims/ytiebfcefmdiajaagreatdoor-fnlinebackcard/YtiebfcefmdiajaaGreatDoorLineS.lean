/-
  SayLine of the specification.
-/
import Derived.Test.YtiebfcefmdiajaaGreatDoorLineMath
import Derived.Test.YtiebfcefmdiajaaGreatDoorMerged38
import Derived.Test.YtiebfcefmdiajaaGreatDoorMerged12
import Derived.Test.YtiebfcefmdiajaaGreatDoorBoxes
set_option linter.unusedVariables false
namespace Go.Proofs.YtiebfcefmdiajaaGreatDoor
open Go.RowKit Go.Maps Go.Deep

theorem l10Word_any (k : Int) (w : World) : Calls Tryz.prog 34 #[.int .i64 k] w fun e w' => e = .returned (.string (kindT k)) ∧ w' = w := by
  by_cases h1 : k = 1
  · subst h1
    go_enter Tryz.func34, Tryz.ntmps34
    go_wp2
    go_ret
    exact ⟨rfl, rfl⟩
  by_cases h2 : k = 2
  · subst h2
    go_enter Tryz.func34, Tryz.ntmps34
    go_wp2
    go_ret
    exact ⟨rfl, rfl⟩
  have e1 : (k == 1) = false := by rw [beq_eq_false_iff_ne]; exact h1
  have e2 : (k == 2) = false := by rw [beq_eq_false_iff_ne]; exact h2
  have hk := hide (show kindT k = goneT by unfold kindT; rw [if_neg h1, if_neg h2])
  clear h1 h2
  go_enter Tryz.func34, Tryz.ntmps34
  go_wp2
  go_ret
  exact ⟨by rw [unhide hk]; rfl, rfl⟩

/-- the line of a tell with its first k versions -/
def lineTo (s : SayV) (k : Nat) : ByteArray := joinB ([itoaB s.src, itoaB s.dst, kindT s.kind, s.name, itoaB s.val] ++ (s.stamp.take k).map verT)
def lineHd (s : SayV) : ByteArray := joinB [itoaB s.src, itoaB s.dst, kindT s.kind, s.name]
theorem lineHd_is (s : SayV) : itoaB s.src ++ ⟨#[32]⟩ ++ itoaB s.dst ++ ⟨#[32]⟩ ++ kindT s.kind ++ ⟨#[32]⟩ ++ s.name = lineHd s := by
  unfold lineHd
  rw [show [itoaB s.src, itoaB s.dst, kindT s.kind, s.name] = [itoaB s.src] ++ [itoaB s.dst] ++ [kindT s.kind] ++ [s.name] from rfl, joinB_snoc _ _ (by simp), joinB_snoc _ _ (by simp), joinB_snoc _ _ (by simp), joinB_one]
theorem lineTo_zero (s : SayV) : lineHd s ++ ⟨#[32]⟩ ++ itoaB s.val = lineTo s 0 := by
  unfold lineHd lineTo
  rw [show [itoaB s.src, itoaB s.dst, kindT s.kind, s.name, itoaB s.val] ++ (s.stamp.take 0).map verT = [itoaB s.src, itoaB s.dst, kindT s.kind, s.name] ++ [itoaB s.val] from by simp, joinB_snoc _ _ (by simp)]
theorem ver_snoc (ns : List VerV) (k : Nat) (h : k < ns.length) : (ns.take (k + 1)).map verT = (ns.take k).map verT ++ [verT ns[k]] := by
  rw [List.take_add_one, List.getElem?_eq_getElem h]
  simp only [Option.toList, List.map_append, List.map_cons, List.map_nil]
theorem lineTo_next (s : SayV) (k : Nat) (h : k < s.stamp.length) : lineTo s k ++ ⟨#[32]⟩ ++ s.stamp[k].a0 ++ ⟨#[58]⟩ ++ itoaB s.stamp[k].a1 = lineTo s (k + 1) := by
  unfold lineTo
  rw [ver_snoc _ _ h, ← List.append_assoc, joinB_snoc _ _ (by simp), verT]
  apply ByteArray.ext
  simp
theorem lineTo_all {s : SayV} (h : s.kind = 2) : lineTo s s.stamp.length = lineT s := by
  unfold lineTo lineT lineW
  rw [List.take_length, if_pos h]
  simp
theorem lineHd_all {s : SayV} (h : s.kind ≠ 2) : lineHd s = lineT s := by
  unfold lineHd lineT lineW
  rw [if_neg h]
  simp
theorem verT_size {x : VerV} (h : plainB x.a0 = true ∧ 1 ≤ x.a1 ∧ x.a1 ≤ 1099511627776) : (verT x).size ≤ 29 := by
  have h8 : x.a0.size ≤ 8 := by
    have := h.1
    unfold plainB at this
    simp only [Bool.and_eq_true, decide_eq_true_eq] at this
    exact this.1.2
  have := itoaB_size x.a1 (by omega) (by omega)
  have e : (⟨#[58]⟩ : ByteArray).size = 1 := rfl
  simp only [verT, ByteArray.size_append, e]
  omega
theorem kindT_size (k : Int) : (kindT k).size ≤ 5 := by
  unfold kindT
  split
  · decide
  split
  · decide
  · decide
theorem plain_size {t : ByteArray} (h : plainB t = true) : 1 ≤ t.size ∧ t.size ≤ 8 := by
  unfold plainB at h
  simp only [Bool.and_eq_true, decide_eq_true_eq] at h
  exact h.1
theorem lineTo_size {s : SayV} (hok : sayOkB s = true) (hv : -9223372036854775808 ≤ s.val ∧ s.val ≤ 9223372036854775807) (k : Nat) (hk : s.kind = 2) : (lineTo s k).size ≤ 600 := by
  obtain ⟨h1, h2, h3, h4⟩ := okS hok
  have hst : s.stamp.length ≤ 12 ∧ ∀ x ∈ s.stamp, plainB x.a0 = true ∧ 1 ≤ x.a1 ∧ x.a1 ≤ 1099511627776 := by
    rcases h4 with ⟨-, -, h4⟩ | ⟨h4, -⟩
    · exact stamp_vers h4
    · omega
  have hz := joinB_len ([itoaB s.src, itoaB s.dst, kindT s.kind, s.name, itoaB s.val] ++ (s.stamp.take k).map verT) 29 (fun t ht => by
    simp only [List.mem_append, List.mem_cons, List.not_mem_nil, or_false] at ht
    rcases ht with (rfl | rfl | rfl | rfl | rfl) | ht
    · have := itoaB_size s.src (by omega) (by omega); omega
    · have := itoaB_size s.dst (by omega) (by omega); omega
    · have := kindT_size s.kind; omega
    · have := plain_size h3; omega
    · have := itoaB_size s.val hv.1 hv.2; omega
    · obtain ⟨x, hx, rfl⟩ := List.mem_map.1 ht
      exact verT_size (hst.2 x (List.mem_of_mem_take hx)))
  have hl : ([itoaB s.src, itoaB s.dst, kindT s.kind, s.name, itoaB s.val] ++ (s.stamp.take k).map verT).length ≤ 17 := by
    simp only [List.length_append, List.length_cons, List.length_nil, List.length_map, List.length_take]
    omega
  unfold lineTo
  omega
theorem lineHd_size {s : SayV} (hok : sayOkB s = true) : (lineHd s).size ≤ 600 := by
  obtain ⟨h1, h2, h3, h4⟩ := okS hok
  have hz := joinB_len [itoaB s.src, itoaB s.dst, kindT s.kind, s.name] 29 (fun t ht => by
    simp only [List.mem_cons, List.not_mem_nil, or_false] at ht
    rcases ht with rfl | rfl | rfl | rfl
    · have := itoaB_size s.src (by omega) (by omega); omega
    · have := itoaB_size s.dst (by omega) (by omega); omega
    · have := kindT_size s.kind; omega
    · have := plain_size h3; omega)
  unfold lineHd
  simp only [List.length_cons, List.length_nil] at hz
  omega
def F64 (n : Int) : Prop := -9223372036854775808 ≤ n ∧ n ≤ 9223372036854775807
set_option maxRecDepth 20000 in
set_option maxHeartbeats 6400000 in
theorem specLine_any (s : SayV) (v : Value) (w : World) (hs : SmallSay s) (h : SayRd w v s) :
    Calls Tryz.prog 13 #[v] w fun e w' => e = .returned (.string (lineOut s)) ∧ Below w.heap.size w w' := by
  have HO := hide (fun (W : World) (bW : Below w.heap.size w W) => specSayOk_any s v W hs (h.up bW))
  have hfit := hs.2
  have hln : s.stamp.length ≤ 1048576 := hs.1.2.1
  obtain ⟨v5, rfl, a, c, rfl, hin⟩ := h
  have bx := boxF_new w [.int .i64 s.kind, .int .i64 s.src, .int .i64 s.dst, .string s.name, .int .i64 s.val, .slice a s.stamp.length c] 24
  have bb := (Below.refl w.heap.size w).alloc (Nat.le_refl _) (.cells #[.int .i64 s.kind, .int .i64 s.src, .int .i64 s.dst, .string s.name, .int .i64 s.val, .slice a s.stamp.length c] 24)
  simp only [List.toArray] at bx
  have HIN := hide hin
  have HF := hide hfit.2
  clear hin hfit
  obtain ⟨R, HR⟩ : ∃ R, Hid (R = lineOut s) := ⟨_, rfl⟩
  rw [← unhide HR]
  by_cases hok : sayOkB s = true
  rotate_left
  · have hno : sayOkB s = false := by simpa using hok
    have HE := hide (show R = ⟨#[]⟩ by rw [unhide HR]; unfold lineOut; rw [if_neg hok])
    rw [hno] at HO
    have c0 := bx.1.at 0 _ rfl
    have c1 := bx.1.at 1 _ rfl
    have c2 := bx.1.at 2 _ rfl
    have c3 := bx.1.at 3 _ rfl
    have c4 := bx.1.at 4 _ rfl
    have c5 := bx.1.at 5 _ rfl
    clear hok hno HR HIN HF bx
    generalize s.stamp.length = n at *
    generalize s.kind = kind at *
    generalize s.src = src at *
    generalize s.dst = dst at *
    generalize s.val = val at *
    generalize s.name = name at *
    go_enter Tryz.func13, Tryz.ntmps13
    go_wp2_with fail
    generalize w.alloc (.cells #[.int .i64 kind, .int .i64 src, .int .i64 dst, .string name, .int .i64 val, .slice a n c] 24) = W at *
    go_wp2_with fail
    refine (unhide HO W bb).mono ?_
    rintro e w1 ⟨rfl, b1⟩
    go_wp2_with fail
    go_ret
    exact ⟨by rw [unhide HE]; rfl, bb.trans (b1.mono bb.size)⟩
  have HE := hide (show R = lineT s by rw [unhide HR]; unfold lineOut; rw [if_pos hok])
  obtain ⟨h1, h2, h3, h4⟩ := okS hok
  rw [hok] at HO
  have z3 := (plain_size h3).2
  have zk := kindT_size s.kind
  have z1 := itoaB_size s.src (by omega) (by omega)
  have z2 := itoaB_size s.dst (by omega) (by omega)
  have HHD := hide (lineHd_is s)
  have HHZ := hide (lineHd_size hok)
  have HD := hide (fun (n : Int) (h : F64 n) (W : World) => l10Dec_all n h.1 h.2 W)
  have f1 : F64 s.src := ⟨by omega, by omega⟩
  have f2 : F64 s.dst := ⟨by omega, by omega⟩
  have f4 : F64 s.val := ⟨(unhide HF).2.2.2.1, (unhide HF).2.2.2.2⟩
  obtain ⟨dec, hdec⟩ : ∃ dec, dec = itoaB := ⟨_, rfl⟩
  have HKW := hide (fun W => l10Word_any s.kind W)
  have z4 := itoaB_size s.val (unhide HF).2.2.2.1 (unhide HF).2.2.2.2
  have BX := hide bx
  clear bx
  rw [← hdec] at HHD z1 z2 z4
  rw [← hdec] at HD
  by_cases hk2 : s.kind = 2
  rotate_left
  · have HX := hide (lineHd_all hk2)
    have q2 : (s.kind != 2) = true := by simp [hk2]
    have c0 := (unhide BX).1.at 0 _ rfl
    have c1 := (unhide BX).1.at 1 _ rfl
    have c2 := (unhide BX).1.at 2 _ rfl
    have c3 := (unhide BX).1.at 3 _ rfl
    have c4 := (unhide BX).1.at 4 _ rfl
    have c5 := (unhide BX).1.at 5 _ rfl
    clear hok HR HIN HF h1 h2 h3 h4 hk2 BX z4 hdec f4
    generalize s.stamp.length = n at *
    generalize s.kind = kind at *
    generalize s.src = src at *
    generalize s.dst = dst at *
    generalize s.val = val at *
    generalize s.name = name at *
    generalize kindT kind = K at *
    go_enter Tryz.func13, Tryz.ntmps13
    go_wp2_with fail
    generalize w.alloc (.cells #[.int .i64 kind, .int .i64 src, .int .i64 dst, .string name, .int .i64 val, .slice a n c] 24) = W at *
    go_wp2_with fail
    refine (unhide HO W bb).mono ?_
    rintro e w1 ⟨rfl, b1⟩
    have B1 := hide (bb.trans (b1.mono bb.size))
    have r0 : ∀ x : LaterW w1, x.to.cell? ⟨w.heap.size, 0, none⟩ = some (.int .i64 kind) := fun x => x.cell ((b1.cell (lt_of_cell0 c0)).trans c0)
    have r1 : ∀ x : LaterW w1, x.to.cell? ⟨w.heap.size, 1, none⟩ = some (.int .i64 src) := fun x => x.cell ((b1.cell (lt_of_cell0 c1)).trans c1)
    have r2 : ∀ x : LaterW w1, x.to.cell? ⟨w.heap.size, 2, none⟩ = some (.int .i64 dst) := fun x => x.cell ((b1.cell (lt_of_cell0 c2)).trans c2)
    have r3 : ∀ x : LaterW w1, x.to.cell? ⟨w.heap.size, 3, none⟩ = some (.string name) := fun x => x.cell ((b1.cell (lt_of_cell0 c3)).trans c3)
    have d0 := (b1.cell (lt_of_cell0 c0)).trans c0
    clear b1 bb c0 c1 c2 c3 c4 c5 HO
    have a0 : ¬ 9223372036854775807 < (dec src).size + 1 := by omega
    have a1 : ¬ 9223372036854775807 < (dec src).size + 1 + (dec dst).size := by omega
    have a2 : ¬ 9223372036854775807 < (dec src).size + 1 + (dec dst).size + 1 := by omega
    have a3 : ¬ 9223372036854775807 < (dec src).size + 1 + (dec dst).size + 1 + K.size := by omega
    have a4 : ¬ 9223372036854775807 < (dec src).size + 1 + (dec dst).size + 1 + K.size + 1 := by omega
    have a5 : ¬ 9223372036854775807 < (dec src).size + 1 + (dec dst).size + 1 + K.size + 1 + name.size := by omega
    clear z1 z2 z3 zk
    go_wp2_with fail
    refine wp_region_later (by kernel_rfl) (by kernel_rfl) ?_
    repeat (go_big_quiet_step (first | (go_at_call 33; refine quiet_ret (unhide HD _ ?_ _); assumption) | (go_at_call 34; refine (unhide HKW _).mono ?_; rintro e w' ⟨rfl, rfl⟩; exact ⟨rfl, _, rfl⟩)))
    refine wpQuiet_nil ?_
    rintro _ ⟨x, rfl⟩
    obtain ⟨w2, BB⟩ := x
    dsimp only
    have e0 := (BB.cell (lt_of_cell0 d0)).trans d0
    have B2 := hide ((unhide B1).trans (BB.mono (unhide B1).size))
    clear BB r0 r1 r2 r3 d0 a0 a1 a2 a3 a4 a5 HD HKW B1
    go_wp2_with fail
    go_ret
    exact ⟨by rw [unhide HE, ← unhide HX, ← unhide HHD]; first | rfl | (congr 1; apply ByteArray.ext; simp), unhide B2⟩
  have HX := hide (lineTo_all hk2)
  have HZ0 := hide (lineTo_zero s)
  have HNX := hide (lineTo_next s)
  have HSZ := hide (fun k => lineTo_size hok (unhide HF).2.2.2 k hk2)
  have hst := hide (show s.stamp.length ≤ 12 ∧ ∀ x ∈ s.stamp, plainB x.a0 = true ∧ 1 ≤ x.a1 ∧ x.a1 ≤ 1099511627776 from by
    rcases h4 with ⟨-, -, h4⟩ | ⟨h4, -⟩
    · exact stamp_vers h4
    · omega)
  have hpos : 1 ≤ s.stamp.length := by
    rcases h4 with ⟨-, h5, -⟩ | ⟨h4, -⟩
    · exact h5
    · omega
  obtain ⟨sb, soff, rfl, hsb, HV⟩ : ∃ sb soff, a = some ⟨sb, soff, none⟩ ∧ sb < w.heap.size ∧ Hid (VerAt w sb soff s.stamp) := by
    rcases unhide HIN with h0 | ⟨b, off, e, hb, hc⟩
    · rw [h0] at hpos; simp at hpos
    · exact ⟨b, off, e, hb, hide hc⟩
  have c0 := (unhide BX).1.at 0 _ rfl
  have c1 := (unhide BX).1.at 1 _ rfl
  have c2 := (unhide BX).1.at 2 _ rfl
  have c3 := (unhide BX).1.at 3 _ rfl
  have c4 := (unhide BX).1.at 4 _ rfl
  have c5 := (unhide BX).1.at 5 _ rfl
  rw [← hdec] at HZ0 HNX
  have HK2 := hide hk2
  have q2 : (s.kind != 2) = false := by simp [hk2]
  have HDEC := hide hdec
  clear hok HR HIN HF h1 h2 h3 h4 hk2 BX hdec
  have f1' := f1
  obtain ⟨LT, hLT⟩ : ∃ LT : Nat → ByteArray, ∀ k, lineTo s k = LT k := ⟨lineTo s, fun _ => rfl⟩
  rw [hLT] at HZ0
  have HX2 : Hid (LT s.stamp.length = lineT s) := hide (by have := unhide HX; rw [hLT] at this; exact this)
  have HSZ2 : Hid (∀ k, (LT k).size ≤ 600) := hide (fun k => by have := unhide HSZ k; rw [hLT] at this; exact this)
  have HNX2 : Hid (∀ k (h : k < s.stamp.length), LT k ++ ⟨#[32]⟩ ++ s.stamp[k].a0 ++ ⟨#[58]⟩ ++ dec s.stamp[k].a1 = LT (k + 1)) := hide (fun k h => by have := unhide HNX k h; rw [hLT, hLT] at this; exact this)
  clear HX HSZ HNX hLT
  generalize lineHd s = HDL at *
  have zval := z4
  generalize s.stamp = st at *
  generalize s.kind = kind at *
  generalize s.src = src at *
  generalize s.dst = dst at *
  generalize s.val = val at *
  generalize s.name = name at *
  generalize kindT kind = K at *
  go_enter Tryz.func13, Tryz.ntmps13
  go_wp2_with fail
  generalize w.alloc (.cells #[.int .i64 kind, .int .i64 src, .int .i64 dst, .string name, .int .i64 val, .slice (some ⟨sb, soff, none⟩) st.length c] 24) = W at *
  go_wp2_with fail
  refine (unhide HO W bb).mono ?_
  rintro e w1 ⟨rfl, b1⟩
  have B1 := hide (bb.trans (b1.mono bb.size))
  have BW1 := hide b1
  have r0 : ∀ x : LaterW w1, x.to.cell? ⟨w.heap.size, 0, none⟩ = some (.int .i64 kind) := fun x => x.cell ((b1.cell (lt_of_cell0 c0)).trans c0)
  have r1 : ∀ x : LaterW w1, x.to.cell? ⟨w.heap.size, 1, none⟩ = some (.int .i64 src) := fun x => x.cell ((b1.cell (lt_of_cell0 c1)).trans c1)
  have r2 : ∀ x : LaterW w1, x.to.cell? ⟨w.heap.size, 2, none⟩ = some (.int .i64 dst) := fun x => x.cell ((b1.cell (lt_of_cell0 c2)).trans c2)
  have r3 : ∀ x : LaterW w1, x.to.cell? ⟨w.heap.size, 3, none⟩ = some (.string name) := fun x => x.cell ((b1.cell (lt_of_cell0 c3)).trans c3)
  have C5 := hide c5
  have C4 := hide c4
  have C0 := hide c0
  clear b1 bb c0 c1 c2 c3 c4 c5 HO
  have a0 : ¬ 9223372036854775807 < (dec src).size + 1 := by omega
  have a1 : ¬ 9223372036854775807 < (dec src).size + 1 + (dec dst).size := by omega
  have a2 : ¬ 9223372036854775807 < (dec src).size + 1 + (dec dst).size + 1 := by omega
  have a3 : ¬ 9223372036854775807 < (dec src).size + 1 + (dec dst).size + 1 + K.size := by omega
  have a4 : ¬ 9223372036854775807 < (dec src).size + 1 + (dec dst).size + 1 + K.size + 1 := by omega
  have a5 : ¬ 9223372036854775807 < (dec src).size + 1 + (dec dst).size + 1 + K.size + 1 + name.size := by omega
  clear z1 z2 z3 zk z4
  go_wp2_with fail
  refine wp_region_later (by kernel_rfl) (by kernel_rfl) ?_
  repeat (go_big_quiet_step (first | (go_at_call 33; refine quiet_ret (unhide HD _ ?_ _); assumption) | (go_at_call 34; refine (unhide HKW _).mono ?_; rintro e w' ⟨rfl, rfl⟩; exact ⟨rfl, _, rfl⟩)))
  refine wpQuiet_nil ?_
  rintro _ ⟨x, rfl⟩
  obtain ⟨w2, BB⟩ := x
  dsimp only
  have hh := unhide HHD
  have B2 := hide ((unhide BW1).trans (BB.mono (unhide BW1).size))
  have d0 := ((unhide B2).cell (lt_of_cell0 (unhide C0))).trans (unhide C0)
  have d4 := ((unhide B2).cell (lt_of_cell0 (unhide C4))).trans (unhide C4)
  have B20 := hide ((unhide B1).trans (BB.mono (unhide B1).size))
  have zh : HDL.size ≤ 600 := unhide HHZ
  clear BB r0 r1 r2 r3 a0 a1 a2 a3 a4 a5 HKW B1 BW1 C0 C4
  rw [hh]
  clear hh HHD
  have HDV := hide (unhide HD val f4)
  generalize dec val = DV at *
  have a0 : ¬ 9223372036854775807 < HDL.size + 1 := by omega
  have a1 : ¬ 9223372036854775807 < HDL.size + 1 + DV.size := by omega
  clear zh zval
  go_wp2_with fail
  refine (unhide HDV _).mono ?_
  rintro e w3 ⟨rfl, b3⟩
  have B3 := hide ((unhide B20).trans (b3.mono (unhide B20).size))
  have BW3 := hide ((unhide B2).trans (b3.mono (unhide B2).size))
  clear b3 d0 d4 B2 B20 HDV
  go_wp2_with fail
  clear a0 a1
  go_loopw [3, 4] (fun ov iv wr => ∃ k : Nat, k ≤ st.length ∧ iv = .int .i64 (k : Int) ∧ ov = .string (LT k) ∧ Hid (Below W.heap.size W wr) ∧ Hid (Below w.heap.size w wr)) (fun _ iv _ => st.length - (intOf iv).toNat)
  case atStart => exact ⟨0, Nat.zero_le _, rfl, by rw [← unhide HZ0], BW3, B3⟩
  case round =>
    obtain ⟨k, hk, rfl, rfl, HBW, HBr⟩ := hrel
    have d5 := ((unhide HBW).cell (lt_of_cell0 (unhide C5))).trans (unhide C5)
    by_cases hlt : k < st.length
    · have hlt' : (k : Int) < (st.length : Int) := by omega
      have hx := (unhide hst).2 _ (List.getElem_mem hlt)
      obtain ⟨v0, v1⟩ := unhide HV k hlt
      have g0 := ((unhide HBr).cell hsb).trans v0
      have g1 := ((unhide HBr).cell hsb).trans v1
      have HNK := hide (unhide HNX2 k hlt)
      have zL : (LT k).size ≤ 600 := unhide HSZ2 k
      have fz : F64 st[k].a1 := ⟨by omega, by omega⟩
      have zd := itoaB_size st[k].a1 fz.1 fz.2
      have zn := (plain_size hx.1).2
      have zdd : (dec st[k].a1).size ≤ 20 := by rw [unhide HDEC]; exact zd
      generalize LT k = L at *
      clear hx v0 v1 zd
      generalize st[k].a0 = nm at *
      generalize st[k].a1 = vl at *
      have a0 : ¬ 9223372036854775807 < L.size + 1 := by omega
      have a1 : ¬ 9223372036854775807 < L.size + 1 + nm.size := by omega
      have a2 : ¬ 9223372036854775807 < L.size + 1 + nm.size + 1 := by omega
      have a3 : ¬ 9223372036854775807 < L.size + 1 + nm.size + 1 + (dec vl).size := by omega
      clear zL zn zdd
      go_wp2_with fail
      have r0 : ∀ x : LaterW wr, x.to.cell? ⟨w.heap.size, 5, none⟩ = some (.slice (some ⟨sb, soff, none⟩) st.length c) := fun x => x.cell d5
      have r1 : ∀ x : LaterW wr, x.to.cell? ⟨sb, soff + k * 2, none⟩ = some (.string nm) := fun x => x.cell g0
      have r2 : ∀ x : LaterW wr, x.to.cell? ⟨sb, soff + k * 2 + 1, none⟩ = some (.int .i64 vl) := fun x => x.cell g1
      clear d5 g0 g1
      refine wp_region_later (by kernel_rfl) (by kernel_rfl) ?_
      repeat (go_big_quiet_step ((go_at_call 33; refine quiet_ret (unhide HD _ ?_ _); assumption)))
      refine wpQuiet_nil ?_
      rintro _ ⟨x, rfl⟩
      obtain ⟨w4, BB⟩ := x
      dsimp only
      have X1 := hide ((unhide HBW).trans (BB.mono (unhide HBW).size))
      have X2 := hide ((unhide HBr).trans (BB.mono (unhide HBr).size))
      clear BB r0 r1 r2 a0 a1 a2 a3
      rw [unhide HNK]
      go_wp2_with fail
      go_roundw
      case rel => exact ⟨k + 1, by omega, by go_num, rfl, X1, X2⟩
      case measure => simp [intOf]; omega
    · have e : k = st.length := by omega
      subst e
      have hlt' : ¬ ((st.length : Int) < (st.length : Int)) := by omega
      go_wp2_with fail
      go_ret
      exact ⟨by rw [unhide HE, ← unhide HX2]; rfl, unhide HBr⟩
end Go.Proofs.YtiebfcefmdiajaaGreatDoor
