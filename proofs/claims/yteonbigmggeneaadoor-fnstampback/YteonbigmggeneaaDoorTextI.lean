/-
  StampText of the program.
-/
import Derived.Test.YteonbigmggeneaaDoorTextMath
import Derived.Test.YteonbigmggeneaaDoorStampI
import Derived.Test.YteonbigmggeneaaDoorItoa13
import Derived.Deep.AppendLies
import Derived.Deep.RegionHeld
set_option linter.unusedVariables false
namespace Go.Proofs.YteonbigmggeneaaDoor
open Go.RowKit Go.Maps Go.Deep

theorem infoStr13 : (Tryd.prog.info? 9).map (fun i => (i.zero, i.size, i.bytes)) = some (some (.string ByteArray.empty), 1, 16) := by kernel_rfl
/-- a slice of texts that one may append to -/
def StrRow13 (base : Nat) (w : World) (v : Value) (ts : List ByteArray) : Prop := w.ownsRow base 9 1 v ts.length (ts.map .string)
theorem StrRow13.open {base : Nat} {w : World} {v : Value} {ts : List ByteArray} (h : StrRow13 base w v ts) (h0 : 1 ≤ ts.length) :
    ∃ g cap, v = .slice (some ⟨g, 0, none⟩) ts.length cap ∧ g < w.heap.size ∧ ts.length ≤ cap ∧ ∀ j t, ts[j]? = some t → w.cell? ⟨g, 0 + j, none⟩ = some (.string t) := by
  rcases h.2 with ⟨_, h'⟩ | ⟨g, cap, cur, rfl, hB, hg, hc, _, hsz, htk⟩
  · omega
  · refine ⟨g, cap, rfl, (Array.getElem?_eq_some_iff.1 hg).1, hc, fun j t hj => ?_⟩
    have hjl : j < ts.length := (List.getElem?_eq_some_iff.1 hj).1
    have h1 : (cur.toList.take (ts.length * 1))[j]? = some (.string t) := by rw [htk, List.getElem?_map, hj]; rfl
    rw [List.getElem?_take, if_pos (by omega)] at h1
    rw [Nat.zero_add]
    simp only [World.cell?, hg]
    simpa using h1
theorem StrRow13.lt {B : Nat} {w : World} {v : Value} {ts : List ByteArray} (h : StrRow13 B w v ts) : ∀ g, v.ownBlock = some g → B ≤ g ∧ g < w.heap.size := by
  intro g hg
  rcases h.2 with ⟨rfl, _⟩ | ⟨g', cap, cur, rfl, hB, hh, _⟩
  · simp [Value.ownBlock] at hg
  · simp [Value.ownBlock] at hg; rw [← hg]; exact ⟨hB, (Array.getElem?_eq_some_iff.1 hh).1⟩
theorem StrRow13.up {B : Nat} {w w' : World} {v : Value} {ts : List ByteArray} (h : StrRow13 B w v ts) (hb : Below w.heap.size w w') : StrRow13 B w' v ts := by
  refine ⟨h.1, ?_⟩
  rcases h.2 with h0 | ⟨g, cap, cur, e, hB, hg, r⟩
  · exact .inl h0
  · exact .inr ⟨g, cap, cur, e, hB, (hb.block g (Array.getElem?_eq_some_iff.1 hg).1).trans hg, r⟩
theorem news_one13 (w : World) (t : TypeId) (a : Value) : ∀ j u, [a][j]? = some u → (w.alloc (.cells #[a] t)).cell? ((⟨w.heap.size, 0, none⟩ : Addr).add j) = some u := by
  intro j u h
  match j, h with
  | 0, h =>
    simp only [List.getElem?_cons_zero, Option.some.injEq] at h
    subst h
    exact World.cell?_alloc_at _ _ _ _ rfl
  | j + 1, h => simp at h
theorem one_str13 (T : ByteArray) : ∀ u ∈ [Value.string T], u.oneCell' = true := by
  intro u hu
  simp only [List.mem_singleton] at hu
  subst hu
  rfl
theorem join13 (w : World) (g c : Nat) (ts : List ByteArray) (hg : g < w.heap.size) (hcap : ts.length ≤ c) (hcells : ∀ j t, ts[j]? = some t → w.cell? ⟨g, 0 + j, none⟩ = some (.string t)) (h12 : ts.length ≤ 12) (hz : (joinB ts).size ≤ 360) :
    Calls Tryd.prog 20 #[.slice (some ⟨g, 0, none⟩) ts.length c, .string ⟨#[32]⟩] w fun e w' => e = .returned (.string (joinB ts)) ∧ Below w.heap.size w w' := by
  have hle : (Lib.join (ts.map (·.data.toList)) (⟨#[32]⟩ : ByteArray).data.toList).length ≤ 360 := by
    have := hz
    unfold joinB at this
    rw [size_lit] at this
    exact this
  exact Tryd.strings_Join g 0 c ts ⟨#[32]⟩ w hcells hg (by omega) hcap (Nat.le_trans hle (by decide))
set_option maxHeartbeats 6400000 in
theorem implText_row (w : World) (b off cap : Nat) (ns : List MarkV) (hm : mstampB ns = true) (h0 : 0 < ns.length) (hs : SmallMarkS ns) (hc : MarkAt w b off ns) (hb : b < w.heap.size) (hp : PowIn w) :
    Calls Tryd.prog 6 #[.slice (some ⟨b, off, none⟩) ns.length cap] w fun e w' => e = .returned (.string (stampT ns)) ∧ Below w.heap.size w w' := by
  have HO := hide (implStampOk_any ns _ w hs ⟨_, cap, rfl, .inr ⟨b, off, rfl, hb, hc⟩⟩)
  rw [hm] at HO
  have h12 : (ns.length : Int) ≤ 12 := by have := (mark_good hm).1; omega
  have HX := hide (mark_good hm).2
  have HT := hide (textTo_size hm ns.length)
  have HC := hide hc
  have HP := hide hp
  have n0 : ((ns.length : Int) == 0) = false := by rw [beq_eq_false_iff_ne]; omega
  clear hm hs hc hp
  go_enter Tryd.func6, Tryd.ntmps6
  go_wp2_with fail
  refine (unhide HO).mono ?_
  rintro e w1 ⟨rfl, b1⟩
  have B1 := hide b1
  clear b1 HO
  go_wp2_with fail
  obtain ⟨i0, hi, hz0, hz1, hz2⟩ := info_parts1 infoStr13
  go_loopw [3, 14] (fun av i wr => ∃ k : Nat, k ≤ ns.length ∧ i = .int .i64 k ∧ Hid (StrRow13 w.heap.size wr av ((ns.take k).map markT)) ∧ Hid (Below w.heap.size w wr)) (fun _ i _ => ns.length - (intOf i).toNat)
  case atStart => exact ⟨0, Nat.zero_le _, rfl, hide ⟨rfl, .inl ⟨rfl, rfl⟩⟩, B1⟩
  case round =>
    obtain ⟨k, hk, rfl, HR, HBr⟩ := hrel
    by_cases hlt : k < ns.length
    · have hx := unhide HX _ (List.getElem_mem hlt)
      have hn : (ns[k].a0.size : Int) ≤ 8 := by omega
      have hd : ((itoaB ns[k].a1).size : Int) ≤ 20 := by have := itoaB_size ns[k].a1 (by omega) (by omega); omega
      have HD := hide (fun W (bW : Below w.heap.size w W) => itoa_any ns[k].a1 (by omega) (by omega) W ((unhide HP).below bW (Nat.le_refl _)))
      obtain ⟨c0, c1⟩ := (unhide HC).below (unhide HBr) hb k hlt
      have HTS := hide (take_snoc ns k hlt)
      have HMT := hide (show markT ns[k] = ns[k].a0 ++ ⟨#[58]⟩ ++ itoaB ns[k].a1 from rfl)
      have htl : ((ns.take k).map markT).length = k := by rw [List.length_map, List.length_take]; omega
      generalize markT ns[k] = T at *
      clear hx
      generalize ns[k].a0 = nm at *
      generalize ns[k].a1 = vl at *
      generalize itoaB vl = dv at *
      generalize (ns.take k).map markT = ts at *
      have a0 : ¬ 9223372036854775807 < nm.size + 1 := by omega
      have a1 : ¬ 9223372036854775807 < nm.size + 1 + dv.size := by omega
      obtain ⟨bx, bb, zz⟩ := boxNew2 wr (.string nm) (.int .i64 vl) 39
      go_wp2_with fail
      generalize wr.alloc (.cells #[.string nm, .int .i64 vl] 39) = W at *
      have hg0 : ∀ g, u3.ownBlock = some g → w.heap.size ≤ g ∧ g < wr.heap.size := (unhide HR).lt
      have hgz := (unhide HBr).size
      have HRW := hide ((unhide HR).up bb)
      have BW := hide ((unhide HBr).trans (bb.mono hgz))
      have HSB := hide (show ∀ X, Turn u3.ownBlock.toList W X → X.cell? ⟨wr.heap.size, 0, none⟩ = some (.string nm) ∧ X.cell? ⟨wr.heap.size, 1, none⟩ = some (.int .i64 vl) from fun X t => by
        have hnm : wr.heap.size ∉ u3.ownBlock.toList := by
          intro hm
          have := (hg0 _ (by simpa using hm)).2
          omega
        exact ⟨(t.cell zz hnm).trans bx.two.1, (t.cell zz hnm).trans bx.two.2⟩)
      have hW := (unhide BW).size
      have hS : W.drew.cell? ⟨wr.heap.size, 0, none⟩ = some (.string nm) ∧ W.drew.cell? ⟨wr.heap.size, 1, none⟩ = some (.int .i64 vl) := ⟨bx.two.1, bx.two.2⟩
      clear bx bb HR
      generalize wr.heap.size = g0 at *
      have BD := hide (show Below W.heap.size W W.drew from (Below.refl _ _).drew)
      refine wp_region_held_drew (S := fun X : World => X.cell? ⟨g0, 0, none⟩ = some (.string nm) ∧ X.cell? ⟨g0, 1, none⟩ = some (.int .i64 vl)) (by kernel_rfl) hS ?_
      intro hS
      refine wpAnyH_take (i := 0) (v := u3) rfl (by kernel_rfl) (by kernel_rfl) (by kernel_rfl) (fun _ _ _ h => h) (Or.inl ⟨by rfl, ?_⟩) hS ?_
      · intro X hX
        obtain ⟨h1, h2⟩ := hX
        clear hS
        go_simp
        try with_reducible rfl
      try simp [Act.put]
      refine wpAnyH_take (i := 1) (v := .pointer (some ⟨g0, 0, none⟩)) rfl (by kernel_rfl) (by kernel_rfl) (by kernel_rfl) (fun _ _ _ h => h) (Or.inl ⟨by rfl, ?_⟩) hS ?_
      · intro X hX
        obtain ⟨h1, h2⟩ := hX
        clear hS
        go_simp
        try with_reducible rfl
      try simp [Act.put]
      refine wpAnyH_take (i := 2) (v := .string nm) rfl (by kernel_rfl) (by kernel_rfl) (by kernel_rfl) (fun _ _ _ h => h) (Or.inl ⟨by rfl, ?_⟩) hS ?_
      · intro X hX
        obtain ⟨h1, h2⟩ := hX
        clear hS
        go_simp
        try with_reducible rfl
      try simp [Act.put]
      refine wpAnyH_take (i := 3) (v := .string (nm ++ ⟨#[58]⟩)) rfl (by kernel_rfl) (by kernel_rfl) (by kernel_rfl) (fun _ _ _ h => h) (Or.inl ⟨by rfl, ?_⟩) hS ?_
      · intro X hX
        obtain ⟨h1, h2⟩ := hX
        clear hS
        go_simp
        try with_reducible rfl
      try simp [Act.put]
      refine wpAnyH_take (i := 4) (v := .pointer (some ⟨g0, 1, none⟩)) rfl (by kernel_rfl) (by kernel_rfl) (by kernel_rfl) (fun _ _ _ h => h) (Or.inl ⟨by rfl, ?_⟩) hS ?_
      · intro X hX
        obtain ⟨h1, h2⟩ := hX
        clear hS
        go_simp
        try with_reducible rfl
      try simp [Act.put]
      refine wpAnyH_take (i := 5) (v := .int .i64 vl) rfl (by kernel_rfl) (by kernel_rfl) (by kernel_rfl) (fun _ _ _ h => h) (Or.inl ⟨by rfl, ?_⟩) hS ?_
      · intro X hX
        obtain ⟨h1, h2⟩ := hX
        clear hS
        go_simp
        try with_reducible rfl
      try simp [Act.put]
      refine wpAnyH_ready (rs := [6]) (by kernel_rfl) (by simp) ?_
      refine AllReadyH.cons rfl (fun K hK => ?_) AllReadyH.nil
      go_simp
      go_wp2_with (go_at_call 19; refine (unhide HD _ ((unhide BW).trans ((unhide BD).mono hW))).mono ?_; rintro e w2 ⟨rfl, b2⟩; have B2 := hide ((unhide BD).trans (b2.mono (unhide BD).size)); clear b2)
      refine hK.out _ _ (unhide HSB w2 (Turn.of_below (unhide B2))) ?_
      clear hK K
      intro hS
      try simp [Act.put]
      have HR2 := hide ((unhide HRW).up (unhide B2))
      have hw2 := (unhide B2).size
      refine wpAnyH_ready (rs := [7]) (by kernel_rfl) (by simp) ?_
      refine AllReadyH.cons rfl (fun K hK => ?_) AllReadyH.nil
      go_simp
      refine hK.out _ _ hS ?_
      clear hK K
      intro hS
      try simp [Act.put]
      refine wpAnyH_ready (rs := [8]) (by kernel_rfl) (by simp) ?_
      refine AllReadyH.cons rfl (fun K hK => ?_) AllReadyH.nil
      go_simp
      refine hK.out _ _ (unhide HSB _ (Turn.of_below ((unhide B2).alloc (unhide B2).size _))) ?_
      clear hK K
      intro hS
      try simp [Act.put]
      refine wpAnyH_ready (rs := [9]) (by kernel_rfl) (by simp) ?_
      refine AllReadyH.cons rfl (fun K hK => ?_) AllReadyH.nil
      refine step_append_lies _ (by rfl) (.tmp 18) (.tmp 26) 37 (by rfl) w.heap.size 9 i0 _ 1 16 Tryd.underlying37 hi hz0 hz1 hz2 rfl Nat.one_pos u3 ts.length (ts.map .string) (by rfl) ((unhide HR2).up ((Below.refl w2.heap.size w2).alloc (Nat.le_refl _) _)) ⟨w2.heap.size, 0, none⟩ 1 1 [.string (nm ++ ⟨#[58]⟩ ++ dv)] (by rfl) rfl (news_one13 w2 9 (.string (nm ++ ⟨#[58]⟩ ++ dv))) (one_str13 _) Nat.one_pos (by unfold maxLen; omega) (by omega) (by simp; omega) _ rfl ?_
      intro g2 c2 w6 hown6 hgrow6 hor6 hlt6
      have T6 := hide (show Turn u3.ownBlock.toList W w6 from (Turn.of_below ((unhide B2).alloc (unhide B2).size (.cells #[.string (nm ++ ⟨#[58]⟩ ++ dv)] 9))).trans (Turn.of_grown hgrow6 (fun y hy => Or.inl (by rw [hy]; simp))))
      have R6 := hide (show StrRow13 w.heap.size w6 (.slice (some ⟨g2, 0, none⟩) (ts.length + 1) c2) (ts ++ [nm ++ ⟨#[58]⟩ ++ dv]) by
        unfold StrRow13
        rw [List.length_append, List.map_append]
        exact hown6)
      have B6 := hide (show Below w.heap.size w w6 from ((unhide BW).trans (Below.mono ((unhide B2).alloc (unhide B2).size (.cells #[.string (nm ++ ⟨#[58]⟩ ++ dv)] 9)) hW)).grown hgrow6 (by simp; omega) (fun y hy => (hg0 y hy).1))
      clear hown6 hgrow6 hor6
      refine hK.out _ _ (unhide HSB w6 (unhide T6)) ?_
      clear hK K
      intro hS
      try simp [Act.put]
      refine wpAnyH_ready (rs := [10]) (by kernel_rfl) (by simp) ?_
      refine AllReadyH.cons rfl (fun K hK => ?_) AllReadyH.nil
      go_simp
      refine hK.out _ _ hS ?_
      clear hK K
      intro hS
      try simp [Act.put]
      refine wpAnyH_done (by kernel_rfl) ?_ _
      rw [← unhide HMT, ← unhide HTS, htl] at R6
      go_wp2_with fail
      go_roundw
      case rel => exact ⟨k + 1, by omega, by go_num, R6, B6⟩
      case measure => simp [intOf]; omega
    · have e : k = ns.length := by omega
      have HRR := unhide HR
      rw [e, List.take_length] at HRR
      obtain ⟨g, c, rfl, hg, hcap, hcells⟩ := HRR.open (by rw [List.length_map]; omega)
      have hz : (joinB (ns.map markT)).size ≤ 360 := by have := unhide HT; rw [textTo_all] at this; exact this
      have HJ := hide (join13 wr g c (ns.map markT) hg hcap hcells (by rw [List.length_map]; omega) hz)
      have HJe := hide (show joinB (ns.map markT) = stampT ns from rfl)
      clear HRR hcells e HR hcap hg hz
      generalize joinB (ns.map markT) = J at *
      generalize (ns.map markT).length = nl at *
      go_wp2_with fail
      refine (unhide HJ).mono ?_
      rintro e w6 ⟨rfl, b6⟩
      have B6 := hide ((unhide HBr).trans (b6.mono (unhide HBr).size))
      clear b6
      go_wp2_with fail
      go_ret
      exact ⟨by rw [← unhide HJe]; rfl, unhide B6⟩
theorem implText_bad (w : World) (v : Value) (ns : List MarkV) (hm : mstampB ns = false) (hs : SmallMarkS ns) (h : MarkSRd w v ns) :
    Calls Tryd.prog 6 #[v] w fun e w' => e = .returned (.string ⟨#[]⟩) ∧ Below w.heap.size w w' := by
  have HO := hide (implStampOk_any ns v w hs h)
  rw [hm] at HO
  obtain ⟨a, n, c, rfl⟩ := h.form
  clear hm hs h
  go_enter Tryd.func6, Tryd.ntmps6
  go_wp2_with fail
  refine (unhide HO).mono ?_
  rintro e w1 ⟨rfl, b1⟩
  have B1 := hide b1
  clear b1 HO
  go_wp2_with fail
  go_ret
  exact ⟨rfl, unhide B1⟩
theorem implText_none (w : World) (a : Option Addr) (c : Nat) :
    Calls Tryd.prog 6 #[.slice a 0 c] w fun e w' => e = .returned (.string ⟨#[45]⟩) ∧ Below w.heap.size w w' := by
  have HO := hide (implStampOk_any [] (.slice a 0 c) w ⟨⟨by simp, by simp⟩, fun x hx => by cases hx⟩ ⟨a, c, rfl, .inl rfl⟩)
  rw [show mstampB [] = true from rfl] at HO
  go_enter Tryd.func6, Tryd.ntmps6
  go_wp2_with fail
  refine (unhide HO).mono ?_
  rintro e w1 ⟨rfl, b1⟩
  have B1 := hide b1
  clear b1 HO
  go_wp2_with fail
  go_ret
  exact ⟨rfl, unhide B1⟩
theorem implText_any (ns : List MarkV) (v : Value) (w : World) (hs : SmallMarkS ns) (h : MarkSRd w v ns) (hp : PowIn w) :
    Calls Tryd.prog 6 #[v] w fun e w' => e = .returned (.string (textOut ns)) ∧ Below w.heap.size w w' := by
  unfold textOut
  cases hm : mstampB ns
  · exact implText_bad w v ns hm hs h
  · obtain ⟨a, c, rfl, h⟩ := h
    by_cases h0 : ns.length = 0
    · have : ns = [] := List.eq_nil_of_length_eq_zero h0
      subst this
      exact implText_none w a c
    · rcases h with rfl | ⟨b, off, rfl, hb, hc⟩
      · exact absurd rfl h0
      · simp only [if_neg h0, if_true]
        exact implText_row w b off c ns hm (by omega) hs hc hb hp
end Go.Proofs.YteonbigmggeneaaDoor
