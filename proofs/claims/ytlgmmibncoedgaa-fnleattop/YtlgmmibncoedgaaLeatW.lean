/-
  The walk of the law: words that go through a stream are heard just as they were said. (Made by wip/mkleat.py.)
-/
import Derived.Test.YtlgmmibncoedgaaLeatK
import Derived.Test.YtlgmmibncoedgaaSplPiecesK
import Derived.Test.YtlgmmibncoedgaaSayBytesJ
import Derived.Test.YtlgmmibncoedgaaMerged51
import Derived.Test.YtlgmmibncoedgaaMerged42
import Derived.Handy
import Derived.Deep.RegionHeld3
set_option linter.unusedVariables false
namespace Go.Proofs.Ytlgmmibncoedgaa
open Go.RowKit Go.Maps Go.Deep

theorem boxF_new6 (w : World) (a b c d e f : Value) (T : TypeId) : BoxF (w.alloc (.cells #[a, b, c, d, e, f] T)) w.heap.size [a, b, c, d, e, f] := boxF_new w [a, b, c, d, e, f] T
theorem drawSay_rd (w : World) (v : Value) (bs : List UInt8) (hl : bs.length ≤ maxLen) (h : ByRd w v bs) : Calls Try.prog 7 #[v] w fun e w' => RetDT w e w' := by
  obtain ⟨a, c, rfl, hin, hc⟩ := h
  exact drawSay_st w a c bs hl hc hin
def Off (vs vt : Value) (k : Nat) : Prop := vs.ownBlock ≠ some k ∧ vt.ownBlock ≠ some k
theorem leat_s {B : Nat} {W w8 : World} {vs vt : Value} {xs : List (SayV × Value)} {bs : List UInt8} {s : SayV} {u : Value} {g n c : Nat} (R : SyRow B W vs xs) (T : ByRow B W vt bs) (Q : WdsR (Off vs vt) W xs) (U : VerQ (Off vs vt) W u s.stamp) (gr : W.grownBy w8 vs.ownBlock) (hg : vs.ownBlock = some g ∨ g = W.heap.size) :
    ByRow B w8 vt bs ∧ WdsR (Off (.slice (some ⟨g, 0, none⟩) n c) vt) w8 (xs ++ [(s, u)]) := by
  have t8 : Turn vs.ownBlock.toList W w8 := Turn.of_grown gr (fun k hk => .inl (by rw [hk]; simp))
  refine ⟨T.turn t8 (fun k hk hm => R.apart T k hk (by simpa using hm)), ?_⟩
  have h1 : WdsR (fun k => Off vs vt k ∧ Off (.slice (some ⟨g, 0, none⟩) n c) vt k) W (xs ++ [(s, u)]) := (Q.snoc U).mono (fun k hk hp => ⟨hp, fun e => by
    simp [Value.ownBlock] at e
    rcases hg with hg | hg
    · exact hp.1 (by rw [← e]; exact hg)
    · omega, hp.2⟩)
  exact (h1.turn t8 (fun k hk hp => hp.1.1 (by simpa using hk))).mono (fun k _ hp => hp.2)
theorem leat_t {B : Nat} {W w8 : World} {vs vt vt' : Value} {xs : List (SayV × Value)} {bs : List UInt8} (R : SyRow B W vs xs) (T : ByRow B W vt bs) (Q : WdsR (Off vs vt) W xs) (gr : W.grownBy w8 vt.ownBlock) (hg : vt'.ownBlock = vt.ownBlock ∨ ∀ g, vt'.ownBlock = some g → W.heap.size ≤ g) :
    SyRow B w8 vs xs ∧ WdsR (Off vs vt') w8 xs := by
  have t8 : Turn vt.ownBlock.toList W w8 := Turn.of_grown gr (fun k hk => .inl (by rw [hk]; simp))
  refine ⟨R.keep (fun g hg => t8.block g (R.lt g hg) (fun hm => R.apart T g (by simpa using hm) hg)), ?_⟩
  have h1 : WdsR (fun k => Off vs vt k ∧ Off vs vt' k) W xs := Q.mono (fun k hk hp => ⟨hp, hp.1, fun e => by
    rcases hg with hg | hg
    · exact hp.2 (by rw [← hg]; exact e)
    · have := hg k e; omega⟩)
  exact (h1.turn t8 (fun k hk hp => hp.1.2 (by simpa using hk))).mono (fun k _ hp => hp.2)
theorem says_n {w : World} {a : Option Addr} {n c : Nat} {ns : List SayV} (h : SaySRd w (.slice a n c) ns) : n = ns.length := by
  obtain ⟨a', c', e, h⟩ := h
  simp only [Value.slice.injEq] at e
  exact e.2.1
theorem says_at {w : World} {a : Option Addr} {n c : Nat} {ns : List SayV} (h : SaySRd w (.slice a n c) ns) (i : Nat) (hi : i < ns.length) : ∃ b off, a = some ⟨b, off, none⟩ ∧ n = ns.length ∧ ∃ v, SayCells w b (off + i * 6) ns[i] v ∧ VerRd w v ns[i].stamp := by
  obtain ⟨a', c', e, h⟩ := h
  simp only [Value.slice.injEq] at e
  obtain ⟨rfl, rfl, rfl⟩ := e
  rcases h with rfl | ⟨b, off, rfl, _, h⟩
  · simp at hi
  · exact ⟨b, off, rfl, rfl, h i hi⟩
theorem sp_n0 {w : World} {a : Option Addr} {n c : Nat} {l : Int} (h : SplitRd w (.agg #[.slice a n c, .int .i64 l]) ⟨[], 0⟩) : n = 0 := by
  obtain ⟨v0, e, h0⟩ := h
  obtain ⟨a', c', rfl⟩ := h0.len
  simp at e
  exact e.1.2.1
theorem body_l {ss : List SayV} {A B : List (List UInt8)} (h : ss.map sayAll = A ++ B) (i : Nat) (hi : i < ss.length) (ha : i < A.length) : A[i] = sayAll ss[i] := by
  have h1 : (ss.map sayAll)[i]? = (A ++ B)[i]? := by rw [h]
  rw [List.getElem?_append_left ha, List.getElem?_eq_getElem ha, List.getElem?_map, List.getElem?_eq_getElem hi] at h1
  simpa using h1.symm
theorem body_r {ss : List SayV} {A B : List (List UInt8)} (h : ss.map sayAll = A ++ B) (i j : Nat) (hi : i < ss.length) (hj : j + A.length = i) (hb : j < B.length) : B[j] = sayAll ss[i] := by
  have h1 : (ss.map sayAll)[i]? = (A ++ B)[i]? := by rw [h]
  rw [List.getElem?_append_right (by omega), show i - A.length = j by omega, List.getElem?_eq_getElem hb, List.getElem?_map, List.getElem?_eq_getElem hi] at h1
  simpa using h1.symm
theorem word_stamp {s : SayV} (h : sayOkB s = true) : s.stamp.length ≤ 255 := by
  have g := say_good h
  by_cases k : s.kind = 2
  · have q := (g.tell k).2
    simp only [stampB, Bool.and_eq_true, decide_eq_true_eq] at q
    omega
  · rw [(g.bare k).2]
    simp
/-- what the first loop keeps -/
structure LeatI (B : Nat) (wr : World) (vs vt : Value) (xs : List (SayV × Value)) (k : Nat) : Prop where
  row : SyRow B wr vs xs
  str : ByRow B wr vt (streamL (xs.map (·.1)))
  ver : WdsR (Off vs vt) wr xs
  len : xs.length ≤ k
  ok : ∀ s ∈ xs.map (·.1), WordOk s ∧ SmallSay s ∧ s.stamp.length ≤ 255
theorem LeatI.up {B : Nat} {w w' : World} {vs vt : Value} {xs : List (SayV × Value)} {k k' : Nat} (h : LeatI B w vs vt xs k) (b : Below w.heap.size w w') (hk : k ≤ k') : LeatI B w' vs vt xs k' := ⟨h.row.up b, h.str.up b, h.ver.up b, by have := h.len; omega, h.ok⟩
set_option maxRecDepth 20000 in
set_option maxHeartbeats 25600000 in
theorem leat_walk (a a2 : Option Addr) (cap cap2 : Nat) (bs ms : List UInt8) (w : World) (hl : bs.length ≤ maxLen) (hc : bs.length ≤ cap) (hb : ByIn w a bs) (hl2 : ms.length ≤ maxLen) (hc2 : ms.length ≤ cap2) (hb2 : ByIn w a2 ms) :
    Calls Try.prog 3 #[.slice a bs.length cap, .slice a2 ms.length cap2] w fun e w' => e = .returned (.bool true) ∧ Below w.heap.size w w' := by
  by_cases hbs : (bs.length : Int) ≤ 1048576
  rotate_left
  · unfold maxLen at hl hl2
    go_enter Try.func3, Try.ntmps3
    go_wp2_with fail
    go_ret
    exact ⟨rfl, Below.refl _ _⟩
  by_cases hms : (ms.length : Int) ≤ 1048576
  rotate_left
  · unfold maxLen at hl hl2
    go_enter Try.func3, Try.ntmps3
    go_wp2_with fail
    go_ret
    exact ⟨rfl, Below.refl _ _⟩
  have RC := hide (show ByRd w (.slice a bs.length cap) bs from ⟨a, cap, rfl, hb, hc⟩)
  have HLC := hide (show bs.length ≤ cap from hc)
  clear hb hc hl hb2 hc2 hl2
  go_enter Try.func3, Try.ntmps3
  go_upto_block 0 with fail
  go_cut [5, 6, 7, 8, 9, 10, 11, 12, 13, 14] (fun sv tv _ _ _ _ _ _ _ _ wx => ∃ xs oa on oc ta tn tc, sv = .slice oa on oc ∧ tv = .slice ta tn tc ∧ Hid (LeatI w.heap.size wx (.slice oa on oc) (.slice ta tn tc) xs 12) ∧ Hid (Below w.heap.size w wx))
  case first =>
    go_wp2_with fail
    go_loopw [5, 6, 7] (fun sv tv nv wr => ∃ (k : Nat) (xs : List (SayV × Value)) (oa : Option Addr) (on oc : Nat) (ta : Option Addr) (tn tc : Nat), k ≤ bs.length ∧ k ≤ 12 ∧ nv = .int .i64 (k : Int) ∧ sv = .slice oa on oc ∧ tv = .slice ta tn tc ∧ Hid (LeatI w.heap.size wr (.slice oa on oc) (.slice ta tn tc) xs k) ∧ Hid (Below w.heap.size w wr)) (fun _ _ n _ => 12 - (intOf n).toNat)
    case atStart => exact ⟨0, [], none, 0, 0, none, 0, 0, Nat.zero_le _, Nat.zero_le _, rfl, rfl, rfl, hide ⟨SyRow.nil _ _, ByRow.nil _ _, WdsR.nil _ _, Nat.zero_le _, by simp⟩, hide (Below.refl _ _)⟩
    case round =>
      obtain ⟨k, xs, oa, on, oc, ta, tn, tc, hk, hk12, rfl, rfl, rfl, HI, HBR⟩ := hrel
      by_cases hlt : k < bs.length ∧ k < 12
      rotate_left
      · have HE := hide ((unhide HI).up (k' := 12) (Below.refl _ _) hk12)
        by_cases hm : (k : Int) < (bs.length : Int)
        · have hm4 : ¬ (k : Int) < 12 := by omega
          clear hlt
          go_wp2_with fail
          go_meet
          exact ⟨xs, oa, on, oc, ta, tn, tc, rfl, rfl, HE, HBR⟩
        · clear hlt
          go_wp2_with fail
          go_meet
          exact ⟨xs, oa, on, oc, ta, tn, tc, rfl, rfl, HE, HBR⟩
      obtain ⟨hlt1, hlt2⟩ := hlt
      have HDR := hide (by_drop ((unhide RC).up (unhide HBR)) k (by omega))
      have hkc : ¬ cap = k := by have := unhide HLC; omega
      have hkc2 : (k : Int) ≤ (cap : Int) := by have := unhide HLC; omega
      have hkc3 : (k : Int) ≤ (bs.length : Int) := by omega
      have HDD := hide (drawSay_rd wr _ (bs.drop k) (by rw [List.length_drop]; unfold maxLen; omega) (unhide HDR))
      rw [if_neg hkc] at HDD
      clear HDR
      have hcm : cap - k + k = cap := by have := unhide HLC; omega
      clear hcm
      go_wp2_with fail
      refine Calls.mono (by first | exact unhide HDD | simpa [*] using unhide HDD) ?_
      rintro e w1 ⟨sk, sf, st, sn, sv, sa, sm, sc, s, rfl, RS, F1, b1⟩
      have SM := hide (unhide F1).small
      have HV := hide (unhide F1).2.2.2.2.1
      clear HDD F1
      have RS0 := hide (unhide RS w1 [] (Turn.refl _ _) (by simp))
      obtain ⟨HU1, hse⟩ := say_new (unhide RS)
      have HU := hide HU1
      clear HU1 RS
      have hse2 := hse
      simp at hse2
      obtain ⟨rfl, rfl, rfl, rfl, rfl⟩ := hse2
      clear hse
      have B0 := hide b1
      clear b1
      have x201 := boxF_new6 w1 (.int .i64 s.kind) (.int .i64 s.src) (.int .i64 s.dst) (.string s.name) (.int .i64 s.val) (.slice sa sm sc) 26
      have b202 := (Below.refl w1.heap.size w1).alloc (Nat.le_refl _) (.cells #[.int .i64 s.kind, .int .i64 s.src, .int .i64 s.dst, .string s.name, .int .i64 s.val, .slice sa sm sc] 26)
      have B203 := hide ((unhide B0).trans (b202.mono (unhide B0).size))
      clear B0
      have F204 := hide ((unhide RS0).up b202)
      clear RS0
      have F205 := hide ((unhide HU).up b202)
      clear HU
      have X206 := hide x201
      clear x201 b202
      obtain ⟨⟨c207, c208, c209, c210, c211, c212⟩, z213, z214, z215, z216, z217, z218⟩ := (unhide X206).six
      go_wp2_with fail
      generalize w1.alloc (.cells #[.int .i64 s.kind, .int .i64 s.src, .int .i64 s.dst, .string s.name, .int .i64 s.val, .slice sa sm sc] 26) = W219 at *
      generalize w1.heap.size = g220 at *
      clear c207 c208 c209 c210 c211 c212 z213 z214 z215 z216 z217 z218
      refine (implSayBytes_any s _ W219 (unhide SM) (unhide F204)).mono ?_
      rintro e w221 ⟨xa, xn, xc, rfl, hr, b⟩
      have B222 := hide ((unhide B203).trans (b.mono (unhide B203).size))
      clear B203
      have F223 := hide ((unhide F204).up b)
      clear F204
      have F224 := hide ((unhide F205).up b)
      clear F205
      have X225 := hide ((unhide X206).up b)
      clear X206
      clear b
      have F226 := hide (hr.rd)
      clear hr
      obtain ⟨⟨c227, c228, c229, c230, c231, c232⟩, z233, z234, z235, z236, z237, z238⟩ := (unhide X225).six
      go_wp2_with fail
      clear c227 c228 c229 c230 c231 c232 z233 z234 z235 z236 z237 z238
      refine (specSayBytes_any s _ w221 (unhide SM) (unhide F223)).mono ?_
      rintro e w239 ⟨ya, yn, yc, rfl, hr, b⟩
      have B240 := hide ((unhide B222).trans (b.mono (unhide B222).size))
      clear B222
      have F241 := hide ((unhide F223).up b)
      clear F223
      have F242 := hide ((unhide F224).up b)
      clear F224
      have F243 := hide ((unhide F226).up b)
      clear F226
      have X244 := hide ((unhide X225).up b)
      clear X225
      clear b
      have F245 := hide (hr.rd)
      clear hr
      have cvx := conv_back (unhide F243)
      have cvy := conv_back (unhide F245)
      generalize (⟨(sayBytesL s).toArray⟩ : ByteArray) = tx at *
      have BR := hide ((unhide HBR).trans ((unhide B240).mono (unhide HBR).size))
      cases hok : sayOkB s
      · clear hok
        go_wp2_with fail
        go_roundw
        case rel => exact ⟨k + 1, xs, oa, on, oc, ta, tn, tc, by omega, by omega, by go_num, rfl, rfl, hide ((unhide HI).up (unhide B240) (by omega)), BR⟩
        case measure => simp [intOf]; omega
      have HW := hide (show WordOk s from ⟨hok, unhide HV⟩)
      have HXL := hide (show sayBytesL s = sayAll s from sayAll_some hok)
      have HST := hide (word_stamp hok)
      clear hok BR
      clear F245
      have RX := hide (show ByRd w239 (.slice xa xn xc) (sayAll s) from unhide HXL ▸ (unhide F243))
      clear F243
      go_wp2_with fail
      clear cvx cvy
      have HBF := hide (unhide B240).size
      refine (implFrame_any (sayAll s) _ w239 (by have := (word_len (unhide HW)).2; omega) (unhide RX)).mono ?_
      rintro e w246 ⟨vf, Sf, rfl, Of, Lf, b⟩
      obtain ⟨fa, fn, fc, rfl⟩ := (unhide Of).rd.form
      have B247 := hide ((unhide B240).trans (b.mono (unhide B240).size))
      clear B240
      have F248 := hide ((unhide F241).up b)
      clear F241
      have F249 := hide ((unhide F242).up b)
      clear F242
      have F250 := hide ((unhide RX).up b)
      clear RX
      have X251 := hide ((unhide X244).up b)
      clear X244
      clear b
      rw [word_fit (unhide HW)]
      have A7 := hide ((Below.refl w246.heap.size w246).alloc (Nat.le_refl _) (.cells #[.int .i64 s.kind, .int .i64 s.src, .int .i64 s.dst, .string s.name, .int .i64 s.val, .slice sa sm sc] 26))
      have BW := hide (show Below wr.heap.size wr (w246.alloc (.cells #[.int .i64 s.kind, .int .i64 s.src, .int .i64 s.dst, .string s.name, .int .i64 s.val, .slice sa sm sc] 26)) from (unhide B247).trans ((unhide A7).mono (unhide B247).size))
      have HI7 := hide ((unhide HI).up (k' := k) (unhide BW) (Nat.le_refl _))
      have C7 := hide (show SayCells (w246.alloc (.cells #[.int .i64 s.kind, .int .i64 s.src, .int .i64 s.dst, .string s.name, .int .i64 s.val, .slice sa sm sc] 26)) w246.heap.size 0 s (.slice sa sm sc) from by have h := (boxF_new w246 [.int .i64 s.kind, .int .i64 s.src, .int .i64 s.dst, .string s.name, .int .i64 s.val, .slice sa sm sc] 26).1; exact ⟨h.at 0 _ rfl, h.at 1 _ rfl, h.at 2 _ rfl, h.at 3 _ rfl, h.at 4 _ rfl, h.at 5 _ rfl⟩)
      have U7 := hide (show VerQ (Off (.slice oa on oc) (.slice ta tn tc)) (w246.alloc (.cells #[.int .i64 s.kind, .int .i64 s.src, .int .i64 s.dst, .string s.name, .int .i64 s.val, .slice sa sm sc] 26)) (.slice sa sm sc) s.stamp from (((unhide F249).up (unhide A7)).mono (fun k _ hk => ⟨fun e => by have := (unhide HI).row.lt k e; omega, fun e => by have := (unhide HI).str.lt k e; omega⟩)))
      have F7 := hide ((unhide Of).up (unhide A7))
      have HXL7 := hide (show xs.length ≤ 1000000 by have := (unhide HI).len; omega)
      have hbz := (unhide HBR).size
      have HZ7 := hide (show w.heap.size ≤ (w246.alloc (.cells #[.int .i64 s.kind, .int .i64 s.src, .int .i64 s.dst, .string s.name, .int .i64 s.val, .slice sa sm sc] 26)).heap.size by have := (unhide BW).size; omega)
      have HZF := hide (show ∀ k ∈ Sf, (Value.slice oa on oc).ownBlock ≠ some k from fun k hk e => by have h1 := (unhide HI).row.lt k e; have h2 := unhide Lf k hk; have h3 := unhide HBF; omega)
      have HQL := hide (show (streamL (xs.map (·.1))).length + (frameL (sayAll s)).length ≤ 140737488355328 by have h1 := (stream_len (xs.map (·.1)) (fun s hs => ((unhide HI).ok s hs).1)).2; have h2 := frameL_size (word_fit (unhide HW)); have h3 := (word_len (unhide HW)).2; have h4 := (unhide HI).len; rw [List.length_map] at h1; omega)
      have HSS := hide (show ∀ z ∈ (xs ++ [(s, Value.slice sa sm sc)]).map (·.1), WordOk z ∧ SmallSay z ∧ z.stamp.length ≤ 255 from fun z hz => by
        rw [List.map_append] at hz
        rcases List.mem_append.1 hz with h | h
        · exact (unhide HI).ok z h
        · simp at h; rw [h]; exact ⟨unhide HW, unhide SM, unhide HST⟩)
      clear hbz
      obtain ⟨⟨c252, c253, c254, c255, c256, c257⟩, z258, z259, z260, z261, z262, z263⟩ := (unhide X251).six
      go_wp2_with (first
        | (at_builtin; have _t := T8; refine wpList_byAppend rfl _ _ rfl w.heap.size (.slice ta tn tc) (.slice fa fn fc) (streamL (xs.map (·.1))) (frameL (sayAll s)) rfl rfl (unhide T8) (unhide F8) (unhide HQL) (unhide HZ8) ?_; intro a9 c9 w9 r9 g9 q9; have K9 := hide (leat_t (unhide R8) (unhide T8) (unhide Q8) g9 q9); have R9 := hide r9; have B9 := hide ((unhide B8).grown g9 (unhide HZ8) (fun y hy => (unhide T8).ge y hy)); obtain ⟨n9, HN9⟩ : ∃ n9, Hid ((streamL (xs.map (·.1))).length + (frameL (sayAll s)).length = n9) := ⟨_, hide rfl⟩; rw [unhide HN9] at R9 K9; rw [unhide HN9]; clear r9 g9 q9)
        | (at_builtin; (refine wpList_syAppend rfl _ _ rfl w.heap.size (.slice oa on oc) xs s sa sm sc w246.heap.size rfl rfl (unhide HI7).row (unhide C7) (unhide HXL7) (unhide HZ7) ?_); intro g8 n8 c8 w8 r8 gr8 hg8; (have K8 := hide (leat_s (n := n8) (c := c8) (unhide HI7).row (unhide HI7).str (unhide HI7).ver (unhide U7) gr8 hg8); have R8 := hide r8; have T8 := hide (unhide K8).1; have Q8 := hide (unhide K8).2; have B8 := hide (((unhide HBR).trans ((unhide BW).mono (unhide HBR).size)).grown gr8 (unhide HZ7) (fun y hy => (unhide HI7).row.ge y hy)); have F8 := hide ((unhide F7).turn (Turn.of_grown (S := (Value.slice oa on oc).ownBlock.toList) gr8 (fun k hk => .inl (by rw [hk]; simp))) (fun k hk hm => unhide HZF k hk (by simpa using hm))).rd; have HZ8 := hide (Nat.le_trans (unhide HZ7) gr8.size); clear r8 gr8 hg8 K8))
        | fail)
      go_roundw
      case rel => exact ⟨k + 1, _, _, n8, c8, a9, n9, c9, by omega, by omega, by go_num, rfl, rfl, hide ⟨(unhide K9).1, by rw [List.map_append, List.map_cons, List.map_nil, stream_snoc]; exact unhide R9, (unhide K9).2, by have := (unhide HI).len; simp; omega, unhide HSS⟩, B9⟩
      case measure => simp [intOf]; omega
  case rest =>
  obtain ⟨xs, oa, on, oc, ta, tn, tc, rfl, rfl, HI, HBC⟩ := hcut
  obtain ⟨ss, hss⟩ : ∃ ss, ss = xs.map (·.1) := ⟨_, rfl⟩
  have RW := hide (show SaySRd wc (.slice oa on oc) ss from hss ▸ (unhide HI).row.rdW (unhide HI).ver)
  have RT := hide (show ByRd wc (.slice ta tn tc) (streamL ss) from hss ▸ (unhide HI).str.rd)
  have HOK := hide (show ∀ s ∈ ss, WordOk s ∧ SmallSay s ∧ s.stamp.length ≤ 255 from hss ▸ (unhide HI).ok)
  have HL := hide (show ss.length ≤ 12 by rw [hss, List.length_map]; exact (unhide HI).len)
  have LE := hide (leat (fun s hs => (unhide HOK s hs).1) (unhide HL))
  have HSM := hide (show SmallSayS ss from ⟨by have := unhide HL; omega, fun s hs => (unhide HOK s hs).2⟩)
  have bc := unhide HBC
  clear HBC HI hss xs
  generalize wc = wq at *
  have HON := hide (says_n (unhide RW))
  have HTN := hide (by_len (unhide RT))
  have HB0 := hide bc
  clear bc
  go_wp2_with fail
  refine (implSays_any (streamL ss) _ wq (by have := (unhide LE).2.2.1; unfold SmallByteS; omega) (unhide RT)).mono ?_
  rintro e w1 ⟨vg, Sg, rfl, Og, _, b⟩
  have B2 := hide ((unhide HB0).trans (b.mono (unhide HB0).size))
  clear HB0
  have F3 := hide ((unhide RW).up b)
  clear RW
  have F4 := hide ((unhide RT).up b)
  clear RT
  clear b
  rw [(unhide LE).2.1]
  have OG := unhide Og
  rw [(unhide LE).1] at OG
  obtain ⟨ga, gn, gc, rfl⟩ := OG.rd.form
  have RG := hide OG.rd
  clear OG Og
  go_wp2_with fail
  refine (leSays_same ss _ _ w1 (unhide HSM) (unhide RG) (unhide F3)).mono ?_
  rintro e w5 ⟨rfl, b⟩
  have B6 := hide ((unhide B2).trans (b.mono (unhide B2).size))
  clear B2
  have F7 := hide ((unhide F3).up b)
  clear F3
  have F8 := hide ((unhide F4).up b)
  clear F4
  clear b
  clear RG
  have htn : tn ≤ 2604 := by have := (unhide LE).2.2.1; have := (unhide HTN).1; omega
  go_upto_region 22 with fail
  go_cut [17] (fun s17 wx => (∃ K : Nat, s17 = .int .i64 (K : Int) ∧ K ≤ tn) ∧ wx = w5)
  case first =>
    go_wp2_with fail
    go_meet
    refine ⟨⟨ms.length * 37 % (tn + 1), ?_, by have := Nat.mod_lt (ms.length * 37) (show 0 < tn + 1 by omega); omega⟩, rfl⟩
    go_num
  case rest =>
  obtain ⟨⟨k, rfl, hk⟩, hwc⟩ := hcut
  have hwc2 := hwc.symm
  clear hwc
  subst hwc2
  have HK := hide (show k ≤ (streamL ss).length by have := (unhide HTN).1; omega)
  have HTWO := hide (feed_two (unhide LE).2.2.2.1 k (unhide HK))
  have hkc : (k : Int) ≤ (tc : Int) := by have := (unhide HTN).2; omega
  have hky : (k : Int) ≤ (tn : Int) := by omega
  have HSX := hide (small_feedS ⟨[], 0⟩ ((streamL ss).take k))
  have HBT := hide (by_take (unhide F8) k (unhide HK))
  go_wp2_with fail
  refine (implFeed_any ⟨[], 0⟩ (.agg #[.slice none 0 0, .int .i64 0]) ((streamL ss).take k) _ w5 (by unfold SmallSplit; simp) (by have := (unhide LE).2.2.1; unfold SmallByteS; simp; omega) ⟨_, rfl, ByRd.nil _ _ _⟩ (unhide HBT)).mono ?_
  rintro e w9 ⟨vt, St, vl, Qa, rfl, Ot, _, Hl, _, _, b⟩
  obtain ⟨xa, xn, xc, rfl⟩ := sp_form (unhide Ot).rd
  obtain ⟨la, ln, lc, rfl⟩ := (unhide Hl).rd.form
  have B10 := hide ((unhide B6).trans (b.mono (unhide B6).size))
  clear B6
  have F11 := hide ((unhide F7).up b)
  clear F7
  have F12 := hide ((unhide F8).up b)
  clear F8
  clear b
  have F13 := hide ((unhide Ot).rd)
  have F14 := hide ((unhide Hl).rd)
  clear Ot Hl HBT
  have x15 := boxF_new2 w9 (.slice xa xn xc) (.int .i64 (feedS ⟨[], 0⟩ ((streamL ss).take k)).lost) 35
  have b16 := (Below.refl w9.heap.size w9).alloc (Nat.le_refl _) (.cells #[.slice xa xn xc, .int .i64 (feedS ⟨[], 0⟩ ((streamL ss).take k)).lost] 35)
  have B17 := hide ((unhide B10).trans (b16.mono (unhide B10).size))
  clear B10
  have F18 := hide ((unhide F11).up b16)
  clear F11
  have F19 := hide ((unhide F12).up b16)
  clear F12
  have F20 := hide ((unhide F13).up b16)
  clear F13
  have F21 := hide ((unhide F14).up b16)
  clear F14
  have X22 := hide x15
  clear x15 b16
  obtain ⟨⟨c23, c24⟩, z25, z26⟩ := (unhide X22).pr
  go_upto_region 24 with fail
  generalize w9.alloc (.cells #[.slice xa xn xc, .int .i64 (feedS ⟨[], 0⟩ ((streamL ss).take k)).lost] 35) = W27 at *
  generalize w9.heap.size = g28 at *
  clear c23 c24 z25 z26
  obtain ⟨⟨c29, c30⟩, z31, z32⟩ := (unhide X22).pr
  go_cut [21, 22, 23] (fun ka kb kc wx => ∃ gx q0 q1 q2 h0 h1 h2 Q, ka = .pointer (some ⟨gx, 0, none⟩) ∧ kb = .slice h0 h1 h2 ∧ kc = .bool (feedB (feedS ⟨[], 0⟩ ((streamL ss).take k)) ((streamL ss).drop k)) ∧ Hid (BoxF wx gx [.slice q0 q1 q2, .int .i64 (feedS (feedS ⟨[], 0⟩ ((streamL ss).take k)) ((streamL ss).drop k)).lost]) ∧ Hid (SplitRd wx (.agg #[.slice q0 q1 q2, .int .i64 (feedS (feedS ⟨[], 0⟩ ((streamL ss).take k)) ((streamL ss).drop k)).lost]) (feedS (feedS ⟨[], 0⟩ ((streamL ss).take k)) ((streamL ss).drop k))) ∧ Hid (ByteSSOwn Q wx (.slice h0 h1 h2) (feedH (feedS ⟨[], 0⟩ ((streamL ss).take k)) ((streamL ss).drop k))) ∧ Hid (Below W27.heap.size W27 wx))
  case first =>
    have BD := hide (show Below W27.heap.size W27 W27.drew from (Below.refl _ _).drew)
    have BE := hide (show Below W27.heap.size W27 (W27.alloc (.cells #[.slice none 0 0, .int .i64 0] 35)).drew from ((Below.refl _ _).alloc (Nat.le_refl _) _).drew)
    have NB := hide ((boxF_new2 W27 (.slice none 0 0) (.int .i64 0) 35).up ((Below.refl _ _).drew))
    by_cases hck : tc = k
    · have hck2 := hck.symm
      clear hck
      subst hck2
      have KP := hide (show ∀ X : World, Below W27.heap.size W27 X → (fun (X : World) => (X.cell? ⟨g28, 0, none⟩ = some (.slice xa xn xc) ∧ X.cell? ⟨g28, 1, none⟩ = some (.int .i64 (feedS ⟨[], 0⟩ ((streamL ss).take k)).lost)) ∧ Hid (Below W27.heap.size W27 X)) X from fun X b => ⟨((unhide X22).up b).pr.1, hide b⟩)
      go_region_held3 (fun (X : World) => (X.cell? ⟨g28, 0, none⟩ = some (.slice xa xn xc) ∧ X.cell? ⟨g28, 1, none⟩ = some (.int .i64 (feedS ⟨[], 0⟩ ((streamL ss).take k)).lost)) ∧ Hid (Below W27.heap.size W27 X)) ((first | (refine unhide KP _ ?_; exact unhide (by assumption)) | (refine unhide KP _ ?_; exact (unhide BB3).alloc (unhide BB3).size _) | (refine unhide KP _ ?_; exact (unhide BD).alloc (unhide BD).size _) | (refine unhide KP _ ?_; exact below_s2 (unhide BB3) (by first | exact Nat.le_refl _ | exact (unhide BB3).size) _ _) | (refine unhide KP _ ?_; exact below_s2 ((unhide BB3).alloc (unhide BB3).size _) (by first | exact Nat.le_refl _ | exact (unhide BB3).size) _ _)))
        (first
        | (go_at_call 13; (with_reducible show Calls _ _ _ W27.drew _); refine (implFeed_any (feedS ⟨[], 0⟩ ((streamL ss).take k)) _ ((streamL ss).drop k) _ _ (unhide HSX) (by have := (unhide LE).2.2.1; unfold SmallByteS; simp; omega) ((unhide F20).up (unhide BD)) (by first | exact by_drop ((unhide F19).up (unhide BD)) k (unhide HK) | simpa [*] using by_drop ((unhide F19).up (unhide BD)) k (unhide HK) | (have q := by_drop ((unhide F19).up (unhide BD)) k (unhide HK); rw [if_pos rfl] at q; simpa using q) | (have q := by_drop ((unhide F19).up (unhide BD)) k (unhide HK); rw [if_neg (by assumption)] at q; exact q))).mono ?_; rintro e w4 ⟨v4, S4, vh4, Q4, rfl, O4, L4, OH4, LH4, _, b4⟩; obtain ⟨q0, q1, q2, rfl⟩ := sp_form (unhide O4).rd; obtain ⟨h0, h1, h2, rfl⟩ := (unhide OH4).rd.form; have BB3 := hide ((unhide BD).trans (b4.mono (unhide BD).size)); have KA := hide (ended_a2 (unhide BB3) (unhide O4).rd (unhide OH4)); clear b4 O4 L4 OH4 LH4 NB)
        | (go_at_call 13; (with_reducible show Calls _ _ _ (W27.alloc _).drew _); refine (implFeed_any (feedS ⟨[], 0⟩ ((streamL ss).take k)) _ ((streamL ss).drop k) _ _ (unhide HSX) (by have := (unhide LE).2.2.1; unfold SmallByteS; simp; omega) ((unhide F20).up (unhide BE)) (by first | exact by_drop ((unhide F19).up (unhide BE)) k (unhide HK) | simpa [*] using by_drop ((unhide F19).up (unhide BE)) k (unhide HK) | (have q := by_drop ((unhide F19).up (unhide BE)) k (unhide HK); rw [if_pos rfl] at q; simpa using q) | (have q := by_drop ((unhide F19).up (unhide BE)) k (unhide HK); rw [if_neg (by assumption)] at q; exact q))).mono ?_; rintro e w4 ⟨v4, S4, vh4, Q4, rfl, O4, L4, OH4, LH4, _, b4⟩; obtain ⟨q0, q1, q2, rfl⟩ := sp_form (unhide O4).rd; obtain ⟨h0, h1, h2, rfl⟩ := (unhide OH4).rd.form; have NB4 := hide ((unhide NB).up b4); have BB3 := hide ((unhide BE).trans (b4.mono (unhide BE).size)); have KA := hide (ended_b2 (unhide BB3) (unhide NB4) (Nat.le_refl _) (fun k hk => by have := unhide L4 k hk; have := (unhide NB).1.1; omega) (fun k hk => by have := unhide LH4 k hk; have := (unhide NB).1.1; omega) (unhide O4) (unhide OH4)); obtain ⟨⟨nc0, nc1⟩, nf0, nf1⟩ := (unhide NB4).pr; clear b4 O4 L4 OH4 LH4)
        | fail)
      all_goals
        go_wp2_with fail
        go_meet
        exact ⟨_, q0, q1, q2, h0, h1, h2, Q4, rfl, rfl, rfl, hide (unhide KA).1, hide (unhide KA).2.1, hide (unhide KA).2.2.1, hide (unhide KA).2.2.2⟩
    · skip
      have KP := hide (show ∀ X : World, Below W27.heap.size W27 X → (fun (X : World) => (X.cell? ⟨g28, 0, none⟩ = some (.slice xa xn xc) ∧ X.cell? ⟨g28, 1, none⟩ = some (.int .i64 (feedS ⟨[], 0⟩ ((streamL ss).take k)).lost)) ∧ Hid (Below W27.heap.size W27 X)) X from fun X b => ⟨((unhide X22).up b).pr.1, hide b⟩)
      go_region_held3 (fun (X : World) => (X.cell? ⟨g28, 0, none⟩ = some (.slice xa xn xc) ∧ X.cell? ⟨g28, 1, none⟩ = some (.int .i64 (feedS ⟨[], 0⟩ ((streamL ss).take k)).lost)) ∧ Hid (Below W27.heap.size W27 X)) ((first | (refine unhide KP _ ?_; exact unhide (by assumption)) | (refine unhide KP _ ?_; exact (unhide BB3).alloc (unhide BB3).size _) | (refine unhide KP _ ?_; exact (unhide BD).alloc (unhide BD).size _) | (refine unhide KP _ ?_; exact below_s2 (unhide BB3) (by first | exact Nat.le_refl _ | exact (unhide BB3).size) _ _) | (refine unhide KP _ ?_; exact below_s2 ((unhide BB3).alloc (unhide BB3).size _) (by first | exact Nat.le_refl _ | exact (unhide BB3).size) _ _)))
        (first
        | (go_at_call 13; (with_reducible show Calls _ _ _ W27.drew _); refine (implFeed_any (feedS ⟨[], 0⟩ ((streamL ss).take k)) _ ((streamL ss).drop k) _ _ (unhide HSX) (by have := (unhide LE).2.2.1; unfold SmallByteS; simp; omega) ((unhide F20).up (unhide BD)) (by first | exact by_drop ((unhide F19).up (unhide BD)) k (unhide HK) | simpa [*] using by_drop ((unhide F19).up (unhide BD)) k (unhide HK) | (have q := by_drop ((unhide F19).up (unhide BD)) k (unhide HK); rw [if_pos rfl] at q; simpa using q) | (have q := by_drop ((unhide F19).up (unhide BD)) k (unhide HK); rw [if_neg (by assumption)] at q; exact q))).mono ?_; rintro e w4 ⟨v4, S4, vh4, Q4, rfl, O4, L4, OH4, LH4, _, b4⟩; obtain ⟨q0, q1, q2, rfl⟩ := sp_form (unhide O4).rd; obtain ⟨h0, h1, h2, rfl⟩ := (unhide OH4).rd.form; have BB3 := hide ((unhide BD).trans (b4.mono (unhide BD).size)); have KA := hide (ended_a2 (unhide BB3) (unhide O4).rd (unhide OH4)); clear b4 O4 L4 OH4 LH4 NB)
        | (go_at_call 13; (with_reducible show Calls _ _ _ (W27.alloc _).drew _); refine (implFeed_any (feedS ⟨[], 0⟩ ((streamL ss).take k)) _ ((streamL ss).drop k) _ _ (unhide HSX) (by have := (unhide LE).2.2.1; unfold SmallByteS; simp; omega) ((unhide F20).up (unhide BE)) (by first | exact by_drop ((unhide F19).up (unhide BE)) k (unhide HK) | simpa [*] using by_drop ((unhide F19).up (unhide BE)) k (unhide HK) | (have q := by_drop ((unhide F19).up (unhide BE)) k (unhide HK); rw [if_pos rfl] at q; simpa using q) | (have q := by_drop ((unhide F19).up (unhide BE)) k (unhide HK); rw [if_neg (by assumption)] at q; exact q))).mono ?_; rintro e w4 ⟨v4, S4, vh4, Q4, rfl, O4, L4, OH4, LH4, _, b4⟩; obtain ⟨q0, q1, q2, rfl⟩ := sp_form (unhide O4).rd; obtain ⟨h0, h1, h2, rfl⟩ := (unhide OH4).rd.form; have NB4 := hide ((unhide NB).up b4); have BB3 := hide ((unhide BE).trans (b4.mono (unhide BE).size)); have KA := hide (ended_b2 (unhide BB3) (unhide NB4) (Nat.le_refl _) (fun k hk => by have := unhide L4 k hk; have := (unhide NB).1.1; omega) (fun k hk => by have := unhide LH4 k hk; have := (unhide NB).1.1; omega) (unhide O4) (unhide OH4)); obtain ⟨⟨nc0, nc1⟩, nf0, nf1⟩ := (unhide NB4).pr; clear b4 O4 L4 OH4 LH4)
        | fail)
      all_goals
        go_wp2_with fail
        go_meet
        exact ⟨_, q0, q1, q2, h0, h1, h2, Q4, rfl, rfl, rfl, hide (unhide KA).1, hide (unhide KA).2.1, hide (unhide KA).2.2.1, hide (unhide KA).2.2.2⟩
  case rest =>
  obtain ⟨g33, rz0, rz1, rz2, hz0, hz1_, hz2, Qb, rfl, rfl, rfl, BXz, RXz, OHz, HBC⟩ := hcut
  clear c29 c30 z31 z32
  have bc := unhide HBC
  clear HBC
  generalize wc = w34 at *
  have B35 := hide ((unhide B17).trans (bc.mono (unhide B17).size))
  clear B17
  have F36 := hide ((unhide F18).up bc)
  clear F18
  have F37 := hide ((unhide F19).up bc)
  clear F19
  have F38 := hide ((unhide F20).up bc)
  clear F20
  have F39 := hide ((unhide F21).up bc)
  clear F21
  have X40 := hide ((unhide X22).up bc)
  clear X22
  clear bc
  obtain ⟨f1, f2, f3, f4, f5⟩ := unhide HTWO
  have HZB := hide (show SplitRd w34 (.agg #[.slice rz0 rz1 rz2, .int .i64 (feedS (feedS ⟨[], 0⟩ ((streamL ss).take k)) ((streamL ss).drop k)).lost]) ⟨[], 0⟩ from by have q := (unhide RXz); rw [f3, (unhide LE).2.2.2.2.1] at q; rw [f3, (unhide LE).2.2.2.2.1]; exact q)
  have hz1 : rz1 = 0 := sp_n0 (unhide HZB)
  have hz2 : (feedS (feedS ⟨[], 0⟩ ((streamL ss).take k)) ((streamL ss).drop k)).lost = 0 := by rw [f3, (unhide LE).2.2.2.2.1]
  have HF4 := hide (show ss.map sayAll = feedH ⟨[], 0⟩ ((streamL ss).take k) ++ feedH (feedS ⟨[], 0⟩ ((streamL ss).take k)) ((streamL ss).drop k) from by rw [← f4, (unhide LE).2.2.2.2.2])
  have HAN := hide (bss_n (unhide F39))
  have HBN := hide (bss_n (unhide OHz).rd)
  have HAB := hide (show ln + hz1_ = on by have h1 := congrArg List.length (unhide HF4); rw [List.length_map, List.length_append] at h1; have h2 := unhide HAN; have h3 := unhide HBN; have h4 := unhide HON; omega)
  have hon : on ≤ 12 := by have := unhide HON; have := unhide HL; omega
  have hln : (ln : Int) + (hz1_ : Int) = (on : Int) := by have := unhide HAB; omega
  have hlb : ln ≤ 12 := by have := unhide HAB; omega
  subst hz1
  rw [f1, f2]
  clear f1 f2 f3 f4 f5 HTWO
  generalize (feedS (feedS ⟨[], 0⟩ ((streamL ss).take k)) ((streamL ss).drop k)).lost = zl at *
  subst hz2
  obtain ⟨⟨c41, c42⟩, z43, z44⟩ := (unhide BXz).pr
  go_wp2_with fail
  clear c41 c42 z43 z44
  clear F38
  clear RXz
  clear F37
  clear X40
  clear BXz
  clear HZB
  go_loopw [24] (fun iv wr => ∃ i : Nat, i ≤ on ∧ iv = .int .i64 (i : Int) ∧ Hid (Below w34.heap.size w34 wr)) (fun i _ => on - (intOf i).toNat)
  case atStart => exact ⟨0, Nat.zero_le _, rfl, hide (Below.refl _ _)⟩
  case round =>
    obtain ⟨i, hi, rfl, HBR⟩ := hrel
    by_cases hlt : i < on
    rotate_left
    · go_wp2_with fail
      go_ret
      exact ⟨rfl, (unhide B35).trans ((unhide HBR).mono (unhide B35).size)⟩
    have his : i < ss.length := by rw [← unhide HON]; exact hlt
    obtain ⟨wb, wo, hwa, -, hwv⟩ := says_at ((unhide F36).up (unhide HBR)) i his
    subst hwa
    obtain ⟨wv, wc6, wver⟩ := hwv
    have HWI := hide (unhide HOK _ (List.getElem_mem his))
    have BL := hide (show Below wr.heap.size wr (wr.alloc (.cells #[] 5)) from (Below.refl _ _).alloc (Nat.le_refl _) _)
    have HC6 := hide wc6
    have hwl : wb < wr.heap.size := lt_of_cell0 wc6.c0
    clear wc6
    obtain ⟨wva, wvc, rfl⟩ := wver.len
    have RW6 := hide (show SayRd wr (.agg #[.int .i64 ss[i].kind, .int .i64 ss[i].src, .int .i64 ss[i].dst, .string ss[i].name, .int .i64 ss[i].val, .slice wva ss[i].stamp.length wvc]) ss[i] from ⟨_, rfl, wver⟩)
    clear wver
    by_cases hia : i < ln
    · obtain ⟨ab, ao, va, vc, haa, -, hac, hab⟩ := rdAtB (((unhide F39).up (unhide HBR)).up (unhide BL)) i (by rw [← unhide HAN]; exact hia)
      have HSA := hide (body_l (unhide HF4) i his (by rw [← unhide HAN]; exact hia))
      subst haa
      rw [unhide HSA] at hac hab
      have RB := hide hab
      clear hab
      have HSB := hide (show SmallByteS (sayAll ss[i]) from by have := (word_len (unhide HWI).1).2; unfold SmallByteS; omega)
      generalize (sayAll ss[i]).length = vlen at *
      have HSR := hide (implSayRead_kit (sayAll ss[i]) _ _ (unhide HSB) (unhide RB))
      go_wp2_with fail
      refine (unhide HSR).mono ?_
      rintro e w5 ⟨v5, S5, rfl, O5, _, b5⟩
      have hws := word_is (unhide HWI).1
      have R5 := (unhide O5).rd
      rw [hws.2] at R5
      rw [hws.1]
      clear hws O5
      obtain ⟨u5, rfl, hv5⟩ := R5
      obtain ⟨ua, uc, rfl⟩ := hv5.len
      have B5 := hide ((unhide BL).trans (b5.mono (unhide BL).size))
      have RV5 := hide (show SayRd w5 (.agg #[.int .i64 ss[i].kind, .int .i64 ss[i].src, .int .i64 ss[i].dst, .string ss[i].name, .int .i64 ss[i].val, .slice ua ss[i].stamp.length uc]) ss[i] from ⟨_, rfl, hv5⟩)
      clear hv5 b5 HSR RB
      have A6 := hide ((Below.refl w5.heap.size w5).alloc (Nat.le_refl _) (.cells #[.int .i64 ss[i].kind, .int .i64 ss[i].src, .int .i64 ss[i].dst, .string ss[i].name, .int .i64 ss[i].val, .slice ua ss[i].stamp.length uc] 26))
      have X6 := hide (boxF_new6 w5 (.int .i64 ss[i].kind) (.int .i64 ss[i].src) (.int .i64 ss[i].dst) (.string ss[i].name) (.int .i64 ss[i].val) (.slice ua ss[i].stamp.length uc) 26)
      have B6 := hide ((unhide B5).trans ((unhide A6).mono (unhide B5).size))
      have RV6 := hide ((unhide RV5).up (unhide A6))
      have RW7 := hide ((unhide RW6).up (unhide B6))
      have HSTL := hide (show ss[i].stamp.length ≤ 1048576 by have := (unhide HWI).2.2; omega)
      have HC7 := hide ((unhide HC6).of (w' := w5.alloc (.cells #[.int .i64 ss[i].kind, .int .i64 ss[i].src, .int .i64 ss[i].dst, .string ss[i].name, .int .i64 ss[i].val, .slice ua ss[i].stamp.length uc] 26)) (fun i => (unhide B6).cell (by exact hwl)))
      have hwl6 : wb < (w5.alloc (.cells #[.int .i64 ss[i].kind, .int .i64 ss[i].src, .int .i64 ss[i].dst, .string ss[i].name, .int .i64 ss[i].val, .slice ua ss[i].stamp.length uc] 26)).heap.size := Nat.lt_of_lt_of_le hwl (unhide B6).size
      generalize hgs : ss[i] = y at *
      clear hgs HC6 hac RV5 A6 B5
      go_upto_region 35 with fail
      generalize w5.alloc (.cells #[.int .i64 y.kind, .int .i64 y.src, .int .i64 y.dst, .string y.name, .int .i64 y.val, .slice ua y.stamp.length uc] 26) = W6 at *
      generalize w5.heap.size = gs6 at *
      have KP := hide (show ∀ X : World, Below W6.heap.size W6 X → (fun (X : World) => (X.cell? ⟨wb, wo + i * 6, none⟩ = some (.int .i64 y.kind) ∧ X.cell? ⟨wb, wo + i * 6 + 1, none⟩ = some (.int .i64 y.src) ∧ X.cell? ⟨wb, wo + i * 6 + 2, none⟩ = some (.int .i64 y.dst) ∧ X.cell? ⟨wb, wo + i * 6 + 3, none⟩ = some (.string y.name) ∧ X.cell? ⟨wb, wo + i * 6 + 4, none⟩ = some (.int .i64 y.val) ∧ X.cell? ⟨wb, wo + i * 6 + 5, none⟩ = some (.slice wva y.stamp.length wvc)) ∧ (X.cell? ⟨gs6, 0, none⟩ = some (.int .i64 y.kind) ∧ X.cell? ⟨gs6, 1, none⟩ = some (.int .i64 y.src) ∧ X.cell? ⟨gs6, 2, none⟩ = some (.int .i64 y.dst) ∧ X.cell? ⟨gs6, 3, none⟩ = some (.string y.name) ∧ X.cell? ⟨gs6, 4, none⟩ = some (.int .i64 y.val) ∧ X.cell? ⟨gs6, 5, none⟩ = some (.slice ua y.stamp.length uc)) ∧ Hid (Below W6.heap.size W6 X)) X from fun X b => by have q := (unhide HC7).of (w' := X) (fun i => b.cell (by exact hwl6)); exact ⟨⟨q.c0, q.c1, q.c2, q.c3, q.c4, q.c5⟩, ((unhide X6).up b).six.1, hide b⟩)
      have BD := hide (show Below W6.heap.size W6 W6.drew from (Below.refl _ _).drew)
      obtain ⟨⟨k0, k1, k2, k3, k4, k5⟩, ⟨l0, l1, l2, l3, l4, l5⟩, -⟩ := unhide KP W6 (Below.refl _ _)
      go_region_held3 (fun (X : World) => (X.cell? ⟨wb, wo + i * 6, none⟩ = some (.int .i64 y.kind) ∧ X.cell? ⟨wb, wo + i * 6 + 1, none⟩ = some (.int .i64 y.src) ∧ X.cell? ⟨wb, wo + i * 6 + 2, none⟩ = some (.int .i64 y.dst) ∧ X.cell? ⟨wb, wo + i * 6 + 3, none⟩ = some (.string y.name) ∧ X.cell? ⟨wb, wo + i * 6 + 4, none⟩ = some (.int .i64 y.val) ∧ X.cell? ⟨wb, wo + i * 6 + 5, none⟩ = some (.slice wva y.stamp.length wvc)) ∧ (X.cell? ⟨gs6, 0, none⟩ = some (.int .i64 y.kind) ∧ X.cell? ⟨gs6, 1, none⟩ = some (.int .i64 y.src) ∧ X.cell? ⟨gs6, 2, none⟩ = some (.int .i64 y.dst) ∧ X.cell? ⟨gs6, 3, none⟩ = some (.string y.name) ∧ X.cell? ⟨gs6, 4, none⟩ = some (.int .i64 y.val) ∧ X.cell? ⟨gs6, 5, none⟩ = some (.slice ua y.stamp.length uc)) ∧ Hid (Below W6.heap.size W6 X)) ((first | (refine unhide KP _ ?_; exact unhide (by assumption))))
        (first | (go_at_call 15; refine (leSay_same y _ _ _ (unhide HSTL) ((unhide RV6).up (unhide BD)) ((unhide RW7).up (unhide BD))).mono ?_; rintro e w9 ⟨rfl, b9⟩; have BB9 := hide ((unhide BD).trans (b9.mono (unhide BD).size)); clear b9) | fail)
      all_goals
        have B10 := hide ((unhide HBR).trans (((unhide B6).trans ((unhide BB9).mono (unhide B6).size)).mono (unhide HBR).size))
        clear k0 k1 k2 k3 k4 k5 l0 l1 l2 l3 l4 l5
        go_wp2_with fail
        go_roundw
        case rel => exact ⟨i + 1, by omega, by go_num, B10⟩
        case measure => simp [intOf]; omega
    · have hib : i - ln < hz1_ := by have := unhide HAB; omega
      obtain ⟨ab, ao, va, vc, haa, -, hac, hab⟩ := rdAtB (((unhide OHz).rd.up (unhide HBR)).up (unhide BL)) (i - ln) (by rw [← unhide HBN]; exact hib)
      have HSA := hide (body_r (unhide HF4) i (i - ln) his (by have := unhide HAN; omega) (by rw [← unhide HBN]; exact hib))
      subst haa
      have hsub : (i : Int) - (ln : Int) = ((i - ln : Nat) : Int) := by omega
      have hia2 : ¬ (i : Int) < (ln : Int) := by omega
      have hib2 : ((i - ln : Nat) : Int) < (hz1_ : Int) := by omega
      have hib3 : (0 : Int) ≤ (i : Int) - (ln : Int) := by omega
      have hib4 : (i : Int) - (ln : Int) < (hz1_ : Int) := by omega
      have htn2 : ((i : Int) - (ln : Int)).toNat = i - ln := by omega
      rw [unhide HSA] at hac hab
      have RB := hide hab
      clear hab
      have HSB := hide (show SmallByteS (sayAll ss[i]) from by have := (word_len (unhide HWI).1).2; unfold SmallByteS; omega)
      generalize (sayAll ss[i]).length = vlen at *
      have HSR := hide (implSayRead_kit (sayAll ss[i]) _ _ (unhide HSB) (unhide RB))
      go_wp2_with fail
      refine (unhide HSR).mono ?_
      rintro e w5 ⟨v5, S5, rfl, O5, _, b5⟩
      have hws := word_is (unhide HWI).1
      have R5 := (unhide O5).rd
      rw [hws.2] at R5
      rw [hws.1]
      clear hws O5
      obtain ⟨u5, rfl, hv5⟩ := R5
      obtain ⟨ua, uc, rfl⟩ := hv5.len
      have B5 := hide ((unhide BL).trans (b5.mono (unhide BL).size))
      have RV5 := hide (show SayRd w5 (.agg #[.int .i64 ss[i].kind, .int .i64 ss[i].src, .int .i64 ss[i].dst, .string ss[i].name, .int .i64 ss[i].val, .slice ua ss[i].stamp.length uc]) ss[i] from ⟨_, rfl, hv5⟩)
      clear hv5 b5 HSR RB
      have A6 := hide ((Below.refl w5.heap.size w5).alloc (Nat.le_refl _) (.cells #[.int .i64 ss[i].kind, .int .i64 ss[i].src, .int .i64 ss[i].dst, .string ss[i].name, .int .i64 ss[i].val, .slice ua ss[i].stamp.length uc] 26))
      have X6 := hide (boxF_new6 w5 (.int .i64 ss[i].kind) (.int .i64 ss[i].src) (.int .i64 ss[i].dst) (.string ss[i].name) (.int .i64 ss[i].val) (.slice ua ss[i].stamp.length uc) 26)
      have B6 := hide ((unhide B5).trans ((unhide A6).mono (unhide B5).size))
      have RV6 := hide ((unhide RV5).up (unhide A6))
      have RW7 := hide ((unhide RW6).up (unhide B6))
      have HSTL := hide (show ss[i].stamp.length ≤ 1048576 by have := (unhide HWI).2.2; omega)
      have HC7 := hide ((unhide HC6).of (w' := w5.alloc (.cells #[.int .i64 ss[i].kind, .int .i64 ss[i].src, .int .i64 ss[i].dst, .string ss[i].name, .int .i64 ss[i].val, .slice ua ss[i].stamp.length uc] 26)) (fun i => (unhide B6).cell (by exact hwl)))
      have hwl6 : wb < (w5.alloc (.cells #[.int .i64 ss[i].kind, .int .i64 ss[i].src, .int .i64 ss[i].dst, .string ss[i].name, .int .i64 ss[i].val, .slice ua ss[i].stamp.length uc] 26)).heap.size := Nat.lt_of_lt_of_le hwl (unhide B6).size
      generalize hgs : ss[i] = y at *
      clear hgs HC6 hac RV5 A6 B5
      go_upto_region 35 with fail
      generalize w5.alloc (.cells #[.int .i64 y.kind, .int .i64 y.src, .int .i64 y.dst, .string y.name, .int .i64 y.val, .slice ua y.stamp.length uc] 26) = W6 at *
      generalize w5.heap.size = gs6 at *
      have KP := hide (show ∀ X : World, Below W6.heap.size W6 X → (fun (X : World) => (X.cell? ⟨wb, wo + i * 6, none⟩ = some (.int .i64 y.kind) ∧ X.cell? ⟨wb, wo + i * 6 + 1, none⟩ = some (.int .i64 y.src) ∧ X.cell? ⟨wb, wo + i * 6 + 2, none⟩ = some (.int .i64 y.dst) ∧ X.cell? ⟨wb, wo + i * 6 + 3, none⟩ = some (.string y.name) ∧ X.cell? ⟨wb, wo + i * 6 + 4, none⟩ = some (.int .i64 y.val) ∧ X.cell? ⟨wb, wo + i * 6 + 5, none⟩ = some (.slice wva y.stamp.length wvc)) ∧ (X.cell? ⟨gs6, 0, none⟩ = some (.int .i64 y.kind) ∧ X.cell? ⟨gs6, 1, none⟩ = some (.int .i64 y.src) ∧ X.cell? ⟨gs6, 2, none⟩ = some (.int .i64 y.dst) ∧ X.cell? ⟨gs6, 3, none⟩ = some (.string y.name) ∧ X.cell? ⟨gs6, 4, none⟩ = some (.int .i64 y.val) ∧ X.cell? ⟨gs6, 5, none⟩ = some (.slice ua y.stamp.length uc)) ∧ Hid (Below W6.heap.size W6 X)) X from fun X b => by have q := (unhide HC7).of (w' := X) (fun i => b.cell (by exact hwl6)); exact ⟨⟨q.c0, q.c1, q.c2, q.c3, q.c4, q.c5⟩, ((unhide X6).up b).six.1, hide b⟩)
      have BD := hide (show Below W6.heap.size W6 W6.drew from (Below.refl _ _).drew)
      obtain ⟨⟨k0, k1, k2, k3, k4, k5⟩, ⟨l0, l1, l2, l3, l4, l5⟩, -⟩ := unhide KP W6 (Below.refl _ _)
      go_region_held3 (fun (X : World) => (X.cell? ⟨wb, wo + i * 6, none⟩ = some (.int .i64 y.kind) ∧ X.cell? ⟨wb, wo + i * 6 + 1, none⟩ = some (.int .i64 y.src) ∧ X.cell? ⟨wb, wo + i * 6 + 2, none⟩ = some (.int .i64 y.dst) ∧ X.cell? ⟨wb, wo + i * 6 + 3, none⟩ = some (.string y.name) ∧ X.cell? ⟨wb, wo + i * 6 + 4, none⟩ = some (.int .i64 y.val) ∧ X.cell? ⟨wb, wo + i * 6 + 5, none⟩ = some (.slice wva y.stamp.length wvc)) ∧ (X.cell? ⟨gs6, 0, none⟩ = some (.int .i64 y.kind) ∧ X.cell? ⟨gs6, 1, none⟩ = some (.int .i64 y.src) ∧ X.cell? ⟨gs6, 2, none⟩ = some (.int .i64 y.dst) ∧ X.cell? ⟨gs6, 3, none⟩ = some (.string y.name) ∧ X.cell? ⟨gs6, 4, none⟩ = some (.int .i64 y.val) ∧ X.cell? ⟨gs6, 5, none⟩ = some (.slice ua y.stamp.length uc)) ∧ Hid (Below W6.heap.size W6 X)) ((first | (refine unhide KP _ ?_; exact unhide (by assumption))))
        (first | (go_at_call 15; refine (leSay_same y _ _ _ (unhide HSTL) ((unhide RV6).up (unhide BD)) ((unhide RW7).up (unhide BD))).mono ?_; rintro e w9 ⟨rfl, b9⟩; have BB9 := hide ((unhide BD).trans (b9.mono (unhide BD).size)); clear b9) | fail)
      all_goals
        have B10 := hide ((unhide HBR).trans (((unhide B6).trans ((unhide BB9).mono (unhide B6).size)).mono (unhide HBR).size))
        clear k0 k1 k2 k3 k4 k5 l0 l1 l2 l3 l4 l5
        go_wp2_with fail
        go_roundw
        case rel => exact ⟨i + 1, by omega, by go_num, B10⟩
        case measure => simp [intOf]; omega
end Go.Proofs.Ytlgmmibncoedgaa
