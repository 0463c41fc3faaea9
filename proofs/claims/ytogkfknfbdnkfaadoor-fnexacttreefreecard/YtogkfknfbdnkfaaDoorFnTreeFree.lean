/-
  The law on TreeFree, walked: both sides ask for the same names; nothing is written into an argument; the answer owns its memory.
-/
import Derived.Test.YtogkfknfbdnkfaaDoorImplNames
import Derived.Test.YtogkfknfbdnkfaaDoorMarkNodes
set_option linter.unusedVariables false
namespace Go.Proofs.YtogkfknfbdnkfaaDoor
open Go.RowKit Go.Maps Go.Deep

theorem same_free (f : BT NodeV) : ∀ (g : BT NodeV) (r r' : List NodeV), kok f → kok g → cnt f = cnt g → fl f ++ r = fl g ++ r' → (∀ bf i, freeF f bf i = freeF g bf i) ∧ r = r' := by
  induction f with
  | nil =>
    intro g r r' _ _ hc h
    cases g with
    | nil => exact ⟨fun _ _ => rfl, by simpa [fl] using h⟩
    | node b o x l s => simp [cnt] at hc
  | node b o x l s ihl ihs =>
    intro g r r' hf hg hc h
    cases g with
    | nil => simp [cnt] at hc
    | node b' o' x' l' s' =>
      simp only [fl, List.cons_append, List.append_assoc, List.cons.injEq] at h
      obtain ⟨rfl, h⟩ := h
      obtain ⟨h1, h2⟩ := ihl l' _ _ hf.2.1 hg.2.1 (by have := hf.1; have := hg.1; omega) h
      obtain ⟨h3, h4⟩ := ihs s' _ _ hf.2.2 hg.2.2 (by simp [cnt] at hc; omega) h2
      exact ⟨fun bf i => by rw [freeF_node, freeF_node, h3]; unfold freeT; rw [h1], h4⟩
/-- these are the names that the nodes ask for -/
def FreeIs (ns : List NodeV) (ts : List ByteArray) : Prop := (∃ x l, OkAt ns x l ∧ ts = (freeT x l []).foldl addS []) ∨ (¬ OkTree ns ∧ ts = [])
theorem free_same {ns : List NodeV} {s t : List ByteArray} (h : FreeIs ns s) (h' : FreeIs ns t) : t = s := by
  rcases h with ⟨x, l, hok, rfl⟩ | ⟨hno, rfl⟩
  · rcases h' with ⟨y, m, hok', rfl⟩ | ⟨hno, rfl⟩
    · have e := hok'.eq.symm.trans hok.eq
      injection e with e1 e2
      subst e1
      have hc : cnt m = cnt l := by have a := hok.kids; have b := hok'.kids; omega
      have := (same_free m l [] [] hok'.kok hok.kok hc (by rw [List.append_nil, List.append_nil]; exact e2)).1
      unfold freeT
      rw [this]
    · exact absurd ⟨x, l, hok⟩ hno
  · rcases h' with ⟨y, m, hok', rfl⟩ | ⟨_, rfl⟩
    · exact absurd ⟨y, m, hok'⟩ hno
    · rfl
theorem free_short {ns : List NodeV} {s : List ByteArray} (h : FreeIs ns s) : s.length ≤ 1000 := by
  rcases h with ⟨x, l, hok, rfl⟩ | ⟨_, rfl⟩
  · have h1 := fold_len (freeT x l []) []
    have h2 := freeT_len x l []
    have h3 := hok.size
    rw [hok.eq] at h3
    simp at h1 h3
    omega
  · simp

theorem specFree_is (w : World) (b off cap : Nat) (ns : List NodeV) (hl : ns.length ≤ 1048576) (hc : NodesAt w b off ns) (hb : b < w.heap.size) (hs : NamesOk ns) :
    Calls Tryd.prog 5 #[.slice (some ⟨b, off, none⟩) ns.length cap] w fun e w' => ∃ v ts, e = .returned v ∧ Hid (FreeIs ns ts) ∧ Hid (StrAt w' v ts) ∧ Below w.heap.size w w' :=
  (specFree_any w b off cap ns hl hc hb hs).mono fun e w' ⟨h, hb⟩ => by
    rcases h with ⟨x, l, hok, v, rfl, hv⟩ | ⟨hno, rfl⟩
    · exact ⟨v, _, rfl, .inl ⟨x, l, hok, rfl⟩, hv, hb⟩
    · exact ⟨_, [], rfl, .inr ⟨hno, rfl⟩, StrAt.nil _, hb⟩
set_option maxHeartbeats 1600000 in
theorem implFree_is (w : World) (b off cap : Nat) (ns : List NodeV) (hl : ns.length ≤ 1048576) (hc : NodesAt w b off ns) (hb : b < w.heap.size) (hs : NamesOk ns) (hsh : ShapesIn w) :
    Calls Tryd.prog 7 #[.slice (some ⟨b, off, none⟩) ns.length cap] w fun e w' => ∃ v ts, e = .returned v ∧ Hid (FreeIs ns ts) ∧ Hid (StrRow w.heap.size w' v ts) ∧ Below w.heap.size w w' := by
  have HC := hide hc
  have HSH := hide hsh
  clear hc hsh
  go_enter Tryd.func7, Tryd.ntmps7
  go_wp2_with fail
  refine (treeOf_any w b off cap ns hl (unhide HC) hb hs (unhide HSH)).mono ?_
  rintro e w1 ⟨⟨x, l, v, ws, hok, rfl, hfs, hnode⟩ | ⟨hno, rfl⟩, hb1⟩
  · have hln : (fl l).length + 1 ≤ 400 := by
      have h1 := hok.size
      rw [hok.eq] at h1
      simpa using h1
    have hdp := hok.deep
    obtain ⟨tv, uv, rfl⟩ := hnode.iface
    have HK := hide (freeNames_any x l w1 _ _ ws hfs hnode (by omega) (by omega))
    have HOK := hide hok
    have HB1 := hide hb1
    clear hfs hnode hok hb1
    go_wp2_with (first
      | (go_at_call 18; refine (unhide HK).mono ?_; rintro e w2 ⟨v2, rfl, hr2, hb2⟩; have HR2 := hide hr2; have HB2 := hide hb2; clear hr2 hb2)
      | fail)
    go_ret
    refine ⟨_, _, rfl, .inl ⟨x, l, unhide HOK, rfl⟩, ?_, (unhide HB1).trans ((unhide HB2).mono (unhide HB1).size)⟩
    have h := unhide HR2
    refine ⟨h.1, ?_⟩
    rcases h.2 with h0 | ⟨g, cap', cur, hv, hB, r⟩
    · exact .inl h0
    · exact .inr ⟨g, cap', cur, hv, Nat.le_trans (unhide HB1).size hB, r⟩
  · have HNO := hide hno
    have HB1 := hide hb1
    clear hno hb1
    go_wp2_with fail
    go_ret
    exact ⟨_, [], rfl, .inr ⟨unhide HNO, rfl⟩, StrRow.nil _ _, unhide HB1⟩

theorem markStringS_at (w : World) (base : Nat) (v : Value) (ts : List ByteArray) (hl : ts.length ≤ 1048576) (hrow : StrRow base w v ts) :
    Calls Tryd.prog 11 #[v, .int .i64 1] w fun e w' => e = .returned (.int .i64 (1 + (ts.length : Int))) ∧ Hid (StrRow base w' v (marks 1 ts.length) ∧ w.grownBy w' v.ownBlock) := by
  by_cases h0 : 1 ≤ ts.length
  · obtain ⟨g, cap, rfl, _⟩ := hrow.open h0
    exact markStringS_any w base g cap ts 1 (by omega) (by omega) hl hrow
  · have e : ts = [] := List.eq_nil_of_length_eq_zero (by omega)
    subst e
    obtain ⟨a, cap, rfl⟩ : ∃ a cap, v = .slice a 0 cap := by
      rcases hrow.2 with ⟨rfl, _⟩ | ⟨g, cap, cur, rfl, _⟩
      · exact ⟨_, _, rfl⟩
      · exact ⟨_, _, rfl⟩
    refine (markStringS_none w a cap 1).mono ?_
    rintro e w' ⟨rfl, rfl⟩
    exact ⟨rfl, hide ⟨hrow, grown_refl _ _⟩⟩
theorem heldStringS_at (w : World) (v : Value) (n : Nat) (hl : n ≤ 1048576) (h : StrAt w v (marks 1 n)) :
    Calls Tryd.prog 12 #[v, .int .i64 1] w fun e w' => e = .returned (.int .i64 (1 + (n : Int))) ∧ Below w.heap.size w w' := by
  obtain ⟨a, cap, rfl, h⟩ := h
  rw [marks_len]
  rcases h with h | ⟨g, rfl, hg, hc⟩
  · have e : n = 0 := by have := congrArg List.length h; rwa [marks_len] at this
    subst e
    refine (heldStringS_none w a cap 1).mono ?_
    rintro e w' ⟨rfl, rfl⟩
    exact ⟨rfl, Below.refl _ _⟩
  · exact heldStringS_any w g cap n 1 (by omega) (by omega) hl hg (fun j hj => by have := hc j (by rw [marks_len]; exact hj); rwa [marks_get] at this)

theorem StrAt.grown {w w' : World} {v : Value} {ts : List ByteArray} {r : Option Nat} (h : StrAt w v ts) (hg : w.grownBy w' r) (hne : 1 ≤ ts.length → ∀ g, v.ownBlock = some g → some g ≠ r) : StrAt w' v ts := by
  obtain ⟨a, cap, rfl, h⟩ := h
  refine ⟨a, cap, rfl, ?_⟩
  rcases h with h | ⟨g, rfl, hl, hc⟩
  · exact .inl h
  · exact .inr ⟨g, rfl, Nat.lt_of_lt_of_le hl hg.size, fun j hj => (World.cell?_of_block (w := w) (a := ⟨g, j, none⟩) (hg.block g hl (hne (by omega) g rfl))).trans (hc j hj)⟩
theorem StrRow.grown {base : Nat} {w w' : World} {v : Value} {ts : List ByteArray} {r : Option Nat} (h : StrRow base w v ts) (hg : w.grownBy w' r) (hne : ∀ g, v.ownBlock = some g → some g ≠ r) : StrRow base w' v ts := by
  refine ⟨h.1, ?_⟩
  rcases h.2 with h0 | ⟨g, cap, cur, hv, hB, hgg, r'⟩
  · exact .inl h0
  · exact .inr ⟨g, cap, cur, hv, hB, (hg.block g (Array.getElem?_eq_some_iff.1 hgg).1 (hne g (by rw [hv]; rfl))).trans hgg, r'⟩
theorem StrAt.blockLt {w : World} {v : Value} {ts : List ByteArray} (h : StrAt w v ts) (h1 : 1 ≤ ts.length) : ∀ g, v.ownBlock = some g → g < w.heap.size := by
  obtain ⟨a, cap, rfl, h⟩ := h
  intro g hg
  rcases h with h | ⟨g', rfl, hl, hc⟩
  · subst h; simp at h1
  · simp only [Value.ownBlock, Option.some.injEq] at hg
    omega

set_option maxHeartbeats 3200000 in
theorem fnTreeFree_any (a : Option Addr) (cap : Nat) (ns : List NodeV) (w : World) (hl : ns.length ≤ maxLen) (hn : NodesIn w a ns) (hs : NamesOk ns) (hsh : ShapesIn w) :
    Calls Tryd.prog 3 #[.slice a ns.length cap] w fun e w' => e = .returned (.bool true) ∧ Below w.heap.size w w' := by
  have HL := hide hl
  have HSH := hide hsh
  have HN := hide hn
  have HS := hide hs
  clear hl hsh hn hs
  go_enter Tryd.func3, Tryd.ntmps3
  go_wp2_with fail
  refine (szNodeS_in w a cap ns (unhide HL) (unhide HN) (unhide HS)).mono ?_
  rintro e w1 ⟨⟨r, rfl, hr⟩, b1⟩
  have HR := hide hr
  have B1 := hide b1
  clear hr b1
  by_cases hneg : r < 0
  · go_wp2_with fail
    go_ret
    exact ⟨rfl, unhide B1⟩
  · have hlen := (unhide HR (by omega)).1
    clear HR
    go_wp2_with fail
    refine (toNodeS_in w1 a cap ns hlen ((unhide HN).below (unhide B1))).mono ?_
    rintro e w2 ⟨rfl, m2, z2, b2⟩
    have M2 := hide m2
    have B2 := hide ((unhide B1).trans (b2.mono (unhide B1).size))
    clear m2 b2
    go_wp2_with fail
    refine (specFree_is w2 _ _ _ ns hlen (unhide M2) z2 (unhide HS)).mono ?_
    rintro e w3 ⟨v0, ts, rfl, HF0, S0, b3⟩
    have B3 := hide ((unhide B2).trans (b3.mono (unhide B2).size))
    have hts := free_short (unhide HF0)
    have N0 := hide (fun (h : 1 ≤ ts.length) => (unhide S0).blockLt h)
    clear b3
    go_wp2_with fail
    refine (toNodeS_soft_in w3 a cap ns hlen ((unhide HN).below (unhide B3))).mono ?_
    rintro e w4 ⟨rfl, m4, z4, b4, r4⟩
    have M4 := hide m4
    have R4 := hide r4
    have B4 := hide ((unhide B3).trans (b4.mono (unhide B3).size))
    have S04 := hide ((unhide S0).below b4)
    have hz3 := (unhide B3).size
    clear m4 b4 r4
    go_wp2_with fail
    refine (implFree_is w4 _ _ _ ns hlen (unhide M4) z4 (unhide HS) ((unhide HSH).below (unhide B4) (Nat.le_refl _))).mono ?_
    rintro e w5 ⟨v1, ts1, rfl, HF1, R1, b5⟩
    obtain rfl := free_same (unhide HF0) (unhide HF1)
    have B5 := hide ((unhide B4).trans (b5.mono (unhide B4).size))
    have S05 := hide ((unhide S04).below b5)
    have M5 := hide ((unhide M4).below b5 z4)
    have R5 := hide ((unhide R4).below b5 z4)
    have N1 := hide (ownBlock_ge (unhide R1))
    have z5 : w3.heap.size < w5.heap.size := Nat.lt_of_lt_of_le z4 b5.size
    clear b5
    go_wp2_with fail
    refine (eqStringS_same w5 v1 v0 ts1 (by omega) (unhide R1).at (unhide S05)).mono ?_
    rintro e w6 ⟨rfl, b6⟩
    have B6 := hide ((unhide B5).trans (b6.mono (unhide B5).size))
    have S06 := hide ((unhide S05).below b6)
    have M6 := hide ((unhide M5).below b6 z5)
    have R6 := hide ((unhide R5).below b6 z5)
    have R16 := hide (show StrRow w4.heap.size w6 v1 ts1 from ownsRow_up (unhide R1) b6)
    have z6 : w3.heap.size < w6.heap.size := Nat.lt_of_lt_of_le z5 b6.size
    clear b6
    go_wp2_with fail
    refine (toNodeS_in w6 a cap ns hlen ((unhide HN).below (unhide B6))).mono ?_
    rintro e w7 ⟨rfl, m7, z7, b7⟩
    have B7 := hide ((unhide B6).trans (b7.mono (unhide B6).size))
    have S07 := hide ((unhide S06).below b7)
    have M7 := hide ((unhide M6).below b7 z6)
    have R7 := hide ((unhide R6).below b7 z6)
    have R17 := hide (show StrRow w4.heap.size w7 v1 ts1 from ownsRow_up (unhide R16) b7)
    have M77 := hide m7
    have z37 : w3.heap.size < w7.heap.size := Nat.lt_of_lt_of_le z6 b7.size
    clear m7 b7
    go_wp2_with fail
    refine (eqNodeS_same w7 _ _ _ _ _ _ ns (by omega) (unhide M7) (unhide M77) z37 z7).mono ?_
    rintro e w8 ⟨rfl, b8⟩
    have B8 := hide ((unhide B7).trans (b8.mono (unhide B7).size))
    have S08 := hide ((unhide S07).below b8)
    have R8 := hide ((unhide R7).below b8 z37)
    have R18 := hide (show StrRow w4.heap.size w8 v1 ts1 from ownsRow_up (unhide R17) b8)
    have z38 : w3.heap.size < w8.heap.size := Nat.lt_of_lt_of_le z37 b8.size
    clear b8
    go_wp2_with fail
    refine (markNodeS_any w8 w3.heap.size ns.length 1 (by omega) (by omega) hlen z38 (unhide R8)).mono ?_
    rintro e w9 ⟨rfl, G9⟩
    have B9 := hide ((unhide B8).grown (unhide G9) (unhide B8).size (fun y hy => by cases hy; exact hz3))
    have S09 := hide ((unhide S08).grown (unhide G9) (fun h g hg e => by have := unhide N0 h g hg; cases e; omega))
    have R19 := hide ((unhide R18).grown (unhide G9) (fun g hg e => by have := unhide N1 g hg; cases e; omega))
    have hkk : ¬ (1 + 4 * (ns.length : Int)) < 0 := by omega
    clear G9
    go_wp2_with (first
      | (go_at_call 8; refine (eqStringS_same w9 v1 v0 ts1 (by omega) (unhide R19).at (unhide S09)).mono ?_; rintro e w10 ⟨rfl, b10⟩; have B10 := hide ((unhide B9).trans (b10.mono (unhide B9).size)); have S010 := hide ((unhide S09).below b10); have R110 := hide (show StrRow w4.heap.size w10 v1 ts1 from ownsRow_up (unhide R19) b10); clear b10)
      | fail)
    refine (markStringS_at w10 w4.heap.size v1 ts1 (by omega) (unhide R110)).mono ?_
    rintro e w11 ⟨rfl, P11⟩
    have hz4 := (unhide B4).size
    have B11 := hide ((unhide B10).grown (unhide P11).2 (unhide B10).size (fun y hy => by have := unhide N1 y hy; omega))
    have S011 := hide ((unhide S010).grown (unhide P11).2 (fun h g hg e => by have := unhide N0 h g hg; have := unhide N1 g e.symm; omega))
    have H11 := hide (unhide P11).1.at
    clear P11
    go_wp2_with fail
    refine (heldStringS_at w11 v1 ts1.length (by omega) (unhide H11)).mono ?_
    rintro e w12 ⟨rfl, b12⟩
    have B12 := hide ((unhide B11).trans (b12.mono (unhide B11).size))
    have S012 := hide ((unhide S011).below b12)
    have H12 := hide ((unhide H11).below b12)
    have hq : ¬ (1 + (ts1.length : Int)) < 0 := by omega
    clear b12
    go_wp2_with fail
    refine (toNodeS_in w12 a cap ns hlen ((unhide HN).below (unhide B12))).mono ?_
    rintro e w13 ⟨rfl, m13, z13, b13⟩
    have M13 := hide m13
    have B13 := hide ((unhide B12).trans (b13.mono (unhide B12).size))
    have S013 := hide ((unhide S012).below b13)
    have H13 := hide ((unhide H12).below b13)
    clear m13 b13
    go_wp2_with fail
    refine (implFree_is w13 _ _ _ ns hlen (unhide M13) z13 (unhide HS) ((unhide HSH).below (unhide B13) (Nat.le_refl _))).mono ?_
    rintro e w14 ⟨v2, ts2, rfl, HF2, R2, b14⟩
    obtain rfl := free_same (unhide HF1) (unhide HF2)
    have B14 := hide ((unhide B13).trans (b14.mono (unhide B13).size))
    have S014 := hide ((unhide S013).below b14)
    have H14 := hide ((unhide H13).below b14)
    clear b14
    go_wp2_with fail
    refine (eqStringS_same w14 v2 v0 ts2 (by omega) (unhide R2).at (unhide S014)).mono ?_
    rintro e w15 ⟨rfl, b15⟩
    have B15 := hide ((unhide B14).trans (b15.mono (unhide B14).size))
    have H15 := hide ((unhide H14).below b15)
    clear b15
    go_wp2_with fail
    refine (heldStringS_at w15 v1 ts2.length (by omega) (unhide H15)).mono ?_
    rintro e w16 ⟨rfl, b16⟩
    have B16 := hide ((unhide B15).trans (b16.mono (unhide B15).size))
    clear b16
    go_wp2_with fail
    go_ret
    exact ⟨rfl, unhide B16⟩
end Go.Proofs.YtogkfknfbdnkfaaDoor
