/-
  Lists of windows of one's own: the row's block, and blocks for each window; copied so, and their marks written.
-/
import Derived.Test.YtpiapgjiaeddjaaWinsTo
import Derived.Test.YtpiapgjiaeddjaaWinsSz
import Derived.Test.YtpiapgjiaeddjaaMerged50
set_option linter.unusedVariables false
namespace Go.Proofs.Ytpiapgjiaeddjaa
open Go.RowKit Go.Maps Go.Deep

structure WinRowOwn (S : List Nat) (w : World) (b off : Nat) (ns : List (List ItemV)) (G : Nat → List Nat) : Prop where
  mem : b ∈ S
  sub : ∀ i, i < ns.length → ∀ k ∈ G i, k ∈ S
  apart : ApartG G ns.length
  at' : ∀ i (h : i < ns.length), b ∉ G i ∧ ∃ v, w.cell? ⟨b, off + i, none⟩ = some v ∧ ItemSFull (G i) w v ns[i]
def ItemSSFull (S : List Nat) (w : World) (v : Value) (ns : List (List ItemV)) : Prop :=
  ∃ a c, v = .slice a ns.length c ∧ (∀ k ∈ S, k < w.heap.size) ∧ (ns = [] ∨ ∃ b off G, a = some ⟨b, off, none⟩ ∧ WinRowOwn S w b off ns G)
theorem WinRowOwn.turn {S S' : List Nat} {w w' : World} {b off : Nat} {ns : List (List ItemV)} {G : Nat → List Nat} (h : WinRowOwn S w b off ns G) (hl : ∀ k ∈ S, k < w.heap.size) (ht : Turn S' w w') (hS : ∀ k ∈ S, k ∉ S') : WinRowOwn S w' b off ns G := by
  refine ⟨h.mem, h.sub, h.apart, fun i hi => ?_⟩
  obtain ⟨hg, v, c, hv⟩ := h.at' i hi
  exact ⟨hg, v, (ht.cell (hl b h.mem) (hS b h.mem)).trans c, hv.turn ht (fun k hk => hS k (h.sub i hi k hk))⟩
theorem ItemSSFull.rd {S : List Nat} {w : World} {v : Value} {ns : List (List ItemV)} (h : ItemSSFull S w v ns) : ItemSSRd w v ns := by
  obtain ⟨a, c, rfl, hl, h⟩ := h
  rcases h with h | ⟨b, off, G, rfl, h⟩
  · exact ⟨a, c, rfl, .inl h⟩
  · refine ⟨_, c, rfl, .inr ⟨b, off, rfl, hl b h.mem, fun i hi => ?_⟩⟩
    obtain ⟨_, v, c, hv⟩ := h.at' i hi
    exact ⟨v, c, hv.rd⟩
theorem ItemSSFull.lt {S : List Nat} {w : World} {v : Value} {ns : List (List ItemV)} (h : ItemSSFull S w v ns) : ∀ k ∈ S, k < w.heap.size := by
  obtain ⟨a, c, rfl, hl, h⟩ := h
  exact hl
theorem ItemSSFull.turn {S S' : List Nat} {w w' : World} {v : Value} {ns : List (List ItemV)} (h : ItemSSFull S w v ns) (ht : Turn S' w w') (hS : ∀ k ∈ S, k ∉ S') : ItemSSFull S w' v ns := by
  obtain ⟨a, c, rfl, hl, h⟩ := h
  refine ⟨a, c, rfl, fun k hk => Nat.lt_of_lt_of_le (hl k hk) ht.size, ?_⟩
  rcases h with h | ⟨b, off, G, rfl, h⟩
  · exact .inl h
  · exact .inr ⟨b, off, G, rfl, h.turn hl ht hS⟩
theorem ItemSSFull.up {S : List Nat} {w w' : World} {v : Value} {ns : List (List ItemV)} (h : ItemSSFull S w v ns) (hb : Below w.heap.size w w') : ItemSSFull S w' v ns := h.turn (Turn.of_below (S := []) hb) (by simp)

/-- the first k of a row's cells are these; each one lies in blocks of its own, behind the row's and ahead of N -/
def WinsToF (B N : Nat) (w : World) (xs : List Value) (ns : List (List ItemV)) (k : Nat) : Prop :=
  ∃ G : Nat → List Nat, (∀ i (h : i < ns.length), i < k → ∃ v, xs[i]? = some v ∧ ItemSFull (G i) w v ns[i]) ∧ ApartG G k ∧ ∀ i, i < k → ∀ a ∈ G i, B < a ∧ a < N
theorem WinsToF.turn {B N : Nat} {w w' : World} {xs : List Value} {ns : List (List ItemV)} {k : Nat} (h : WinsToF B N w xs ns k) (ht : Turn [B] w w') : WinsToF B N w' xs ns k := by
  obtain ⟨G, h, ha, hn⟩ := h
  refine ⟨G, fun i hi hk => ?_, ha, hn⟩
  obtain ⟨v, c, hv⟩ := h i hi hk
  exact ⟨v, c, hv.turn ht (fun j hj hm => by have := hn i hk j hj; simp at hm; omega)⟩
theorem winsToF_step {B N N' : Nat} {w : World} {xs : List Value} {ns : List (List ItemV)} {k : Nat} {v : Value} {T : List Nat} (hk : k < ns.length) (hx : xs.length = ns.length) (h : WinsToF B N w xs ns k) (hB : B < N) (hT : ∀ a ∈ T, N ≤ a ∧ a < N') (hN : N ≤ N') (hv : ItemSFull T w v ns[k]) :
    WinsToF B N' w (xs.set k v) ns (k + 1) := by
  obtain ⟨G, h, ha, hn⟩ := h
  refine ⟨fun i => if i = k then T else G i, fun i hi hik => ?_, fun i j hi hj hij => ?_, fun i hi => ?_⟩
  · by_cases e : i = k
    · subst e
      simp only [if_true]
      exact ⟨v, List.getElem?_set_self (by omega), hv⟩
    · obtain ⟨v', c, hv'⟩ := h i hi (by omega)
      simp only [if_neg e]
      exact ⟨v', by rw [List.getElem?_set_ne (by omega)]; exact c, hv'⟩
  · intro a h1 h2
    by_cases e1 : i = k
    · have e2 : ¬ j = k := by omega
      simp only [if_pos e1] at h1
      simp only [if_neg e2] at h2
      have := hT a h1
      have := hn j (by omega) a h2
      omega
    · simp only [if_neg e1] at h1
      by_cases e2 : j = k
      · simp only [if_pos e2] at h2
        have := hT a h2
        have := hn i (by omega) a h1
        omega
      · simp only [if_neg e2] at h2
        exact ha i j (by omega) (by omega) hij a h1 h2
  · intro a h1
    by_cases e : i = k
    · simp only [if_pos e] at h1
      have := hT a h1
      omega
    · simp only [if_neg e] at h1
      have := hn i (by omega) a h1
      omega
theorem winFullOfRow {w : World} {base : Nat} {e : TypeId} {g n : Nat} {xs : List Value} {ns : List (List ItemV)} (h : w.ownsRow base e 1 (.slice (some ⟨g, 0, none⟩) n n) n xs) (hn : ns.length = n) (hg : g < w.heap.size) {N : Nat} (ht : WinsToF g N w xs ns n) : ∃ S, ItemSSFull S w (.slice (some ⟨g, 0, none⟩) n n) ns ∧ ∀ k ∈ S, g ≤ k := by
  subst hn
  obtain ⟨G, ht, ha, hN⟩ := ht
  refine ⟨g :: (List.range ns.length).flatMap G, ⟨_, _, rfl, ?_, .inr ⟨g, 0, G, rfl, by simp, ?_, ha, ?_⟩⟩, ?_⟩
  · intro k hk
    simp only [List.mem_cons, List.mem_flatMap, List.mem_range] at hk
    rcases hk with rfl | ⟨i, hi, hk⟩
    · exact hg
    · obtain ⟨v, _, hv⟩ := ht i hi hi
      exact hv.lt _ hk
  · intro i hi k hk
    simp only [List.mem_cons, List.mem_flatMap, List.mem_range]
    exact .inr ⟨i, hi, hk⟩
  · intro i hi
    obtain ⟨v, c, hv⟩ := ht i hi hi
    refine ⟨fun hm => by have := hN i hi g hm; omega, v, ?_, hv⟩
    rw [Nat.zero_add, h.cellAt _ (by omega)]
    exact c
  · intro k hk
    simp only [List.mem_cons, List.mem_flatMap, List.mem_range] at hk
    rcases hk with rfl | ⟨i, hi, hk⟩
    · exact Nat.le_refl _
    · exact Nat.le_of_lt (hN i hi k hk).1
set_option maxHeartbeats 3200000 in
theorem toItemSSF_row (w : World) (b off cap : Nat) (ns : List (List ItemV)) (hs : SmallItemSS ns) (hc : WinsAt w b off ns) (hb : b < w.heap.size) :
    Calls Try.prog 6 #[.slice (some ⟨b, off, none⟩) ns.length cap] w fun e w' => e = .returned (.slice (some ⟨w.heap.size, 0, none⟩) ns.length ns.length) ∧ Hid (∃ S, ItemSSFull S w' (.slice (some ⟨w.heap.size, 0, none⟩) ns.length ns.length) ns ∧ ∀ k ∈ S, w.heap.size ≤ k) ∧ Below w.heap.size w w' := by
  have HS := hide hs.2
  have hl := hs.1
  have HC := hide hc
  clear hs hc
  obtain ⟨i0, hi, hz0, hz1, hz2⟩ := info_parts1 infoItemS
  go_enter Try.func6, Try.ntmps6
  go_wp2_with (first
    | (at_make; refine wpList_make_full _ rfl _ _ 27 rfl w.heap.size 39 i0 _ 1 Try.underlying27 hi hz0 hz1 _ _ _ _ ns.length rfl rfl rfl rfl (by rw [hz2]; omega) (by unfold maxLen; omega) (Nat.le_refl _) ?_; intro w1 hown hgrow)
    | go_in)
  clear hz0 hz1 hz2 hi
  have hlt1 : w.heap.size < w1.heap.size := by
    rcases hown.2 with ⟨h', _⟩ | ⟨g', cap', cur, h', _, hg, _⟩
    · simp at h'
    · simp only [Value.slice.injEq, Option.some.injEq, Addr.mk.injEq, and_true, true_and] at h'
      obtain ⟨rfl, rfl⟩ := h'
      exact (Array.getElem?_eq_some_iff.1 hg).1
  have hbw1 : Below w.heap.size w w1 := (Below.refl _ _).grown hgrow (Nat.le_refl _) (fun k hk => by cases hk)
  go_loopw [4] (fun i wr => ∃ (k : Nat) (xs : List Value), k ≤ ns.length ∧ i = .int .i64 k ∧ Hid (wr.ownsRow w.heap.size 39 1 (.slice (some ⟨w.heap.size, 0, none⟩) ns.length ns.length) ns.length xs) ∧ Hid (WinsToF w.heap.size wr.heap.size wr xs ns k) ∧ w.heap.size < wr.heap.size ∧ Hid (Below w.heap.size w wr)) (fun i _ => ns.length - (intOf i).toNat)
  case atStart => exact ⟨0, _, Nat.zero_le _, rfl, hown, hide ⟨fun _ => [], fun j _ hj => absurd hj (Nat.not_lt_zero _), fun i j hi => absurd hi (Nat.not_lt_zero _), fun j hj => absurd hj (Nat.not_lt_zero _)⟩, hlt1, hbw1⟩
  case round =>
    obtain ⟨k, xs, hk, rfl, HR, HT, hsz, HB⟩ := hrel
    by_cases hlt : k < ns.length
    · obtain ⟨v, c0, hv⟩ := (unhide HC).up hb (unhide HB) k hlt
      have HV := hide (fun W (bW : Below wr.heap.size wr W) => toItemF_kit ns[k] v W (unhide HS _ (List.getElem_mem hlt)) (hv.up bW))
      have HST := hide (fun (W : World) (N N' : Nat) (T : List Nat) (v : Value) (h : WinsToF w.heap.size N W xs ns k) (hB : w.heap.size < N) (hT : ∀ a ∈ T, N ≤ a ∧ a < N') (hN : N ≤ N') (hv : ItemSFull T W v ns[k]) => winsToF_step (k := k) hlt (by simpa using (unhide HR).1) h hB hT hN hv)
      obtain ⟨va, vn, vc, rfl⟩ := hv.form
      clear hv
      generalize ns[k] = ms at *
      go_wp2_with fail
      refine (unhide HV _ (by go_grown)).mono ?_
      rintro e w2 ⟨v2, S, rfl, O2, L2, hb2⟩
      have R2 := hide (ownsRowMark_below (unhide HR) hb2 hsz)
      obtain ⟨v0, d0, f0⟩ := winsRow_cell (unhide R2) k hlt
      obtain ⟨fa, fn, fc, rfl⟩ := (unhide O2).rd.form
      have HS3 := hide ((unhide R2).stored k (.slice fa fn fc)).1
      have B3 := hide (show Below w.heap.size w w2 from (unhide HB).trans (hb2.mono (Nat.le_of_lt hsz)))
      have B4 := hide ((unhide B3).setCell (p := ⟨w.heap.size, k, none⟩) (Nat.le_refl _) (.slice fa fn fc))
      have hs2 : w.heap.size < w2.heap.size := Nat.lt_of_lt_of_le hsz hb2.size
      have T4 := hide (show Turn [w.heap.size] w2 (w2.setCell ⟨w.heap.size, k, none⟩ (.slice fa fn fc)) from (Turn.refl _ _).setCell (by simp) _ _)
      have HT4 := hide (unhide HST _ wr.heap.size (w2.setCell ⟨w.heap.size, k, none⟩ (.slice fa fn fc)).heap.size S (.slice fa fn fc) (((unhide HT).turn (Turn.of_below (S := [w.heap.size]) hb2)).turn (unhide T4)) hsz (fun j hj => ⟨unhide L2 j hj, by have := (unhide O2).lt j hj; simpa using this⟩) (by have := hb2.size; simpa using this) ((unhide O2).turn (unhide T4) (fun j hj hm => by have := unhide L2 j hj; simp at hm; omega)))
      clear hb2 c0 HST HV O2 L2 HR HT
      go_wp2_with fail
      clear d0 f0
      go_roundw
      case rel => exact ⟨k + 1, _, by omega, by go_num, HS3, HT4, by simpa using hs2, B4⟩
      case measure => simp [intOf]; omega
    · go_wp2_with fail
      go_ret
      have e : k = ns.length := by omega
      subst e
      obtain ⟨S, h1, h2⟩ := winFullOfRow (unhide HR) rfl hsz (unhide HT)
      exact ⟨rfl, hide ⟨S, h1, h2⟩, unhide HB⟩
theorem toItemSSF_kit (ns : List (List ItemV)) (v : Value) (w : World) (hs : SmallItemSSF ns) (h : ItemSSRd w v ns) :
    Calls Try.prog 6 #[v] w fun e w' => ∃ v S, e = .returned v ∧ Hid (ItemSSFull S w' v ns) ∧ Hid (∀ k ∈ S, w.heap.size ≤ k) ∧ Below w.heap.size w w' := by
  obtain ⟨a, c, rfl, h⟩ := h
  rcases h with rfl | ⟨b, off, rfl, hb, hc⟩
  · refine (toItemSS_none w a c).mono ?_
    rintro e w' ⟨rfl, h2, h3⟩
    exact ⟨_, [], rfl, hide ⟨_, 0, rfl, by simp, .inl rfl⟩, hide (by simp), h3⟩
  · refine (toItemSSF_row w b off c ns hs.1 hc hb).mono ?_
    rintro e w' ⟨rfl, h1, h3⟩
    obtain ⟨S, h1, h2⟩ := unhide h1
    exact ⟨_, S, rfl, hide h1, hide h2, h3⟩
theorem eqItemSSF_kit (ns : List (List ItemV)) (v v' : Value) (w : World) (hs : SmallItemSSF ns) (h : ItemSSRd w v ns) (h' : ItemSSRd w v' ns) :
    Calls Try.prog 9 #[v, v'] w fun e w' => e = .returned (.bool true) ∧ Below w.heap.size w w' := eqItemSS_kit ns v v' w hs.1 h h'

/-- how many marks windows take -/
def nItemSSF (ns : List (List ItemV)) : Nat := (ns.map nItemF).sum
def marksItemSSF : Nat → List (List ItemV) → List (List ItemV)
  | _, [] => []
  | k, x :: xs => marksItemF k x :: marksItemSSF (k + nItemF x) xs
theorem marksItemSSF_len (k : Nat) (ns : List (List ItemV)) : (marksItemSSF k ns).length = ns.length := by
  induction ns generalizing k with
  | nil => rfl
  | cons x xs ih => simp [marksItemSSF, ih]
theorem marksItemSSF_get (k : Nat) (ns : List (List ItemV)) (i : Nat) (h : i < ns.length) : (marksItemSSF k ns)[i]? = some (marksItemF (k + nItemSSF (ns.take i)) ns[i]) := by
  induction ns generalizing k i with
  | nil => simp at h
  | cons x xs ih =>
    match i, h with
    | 0, _ => simp [marksItemSSF, nItemSSF]
    | i + 1, h =>
      simp only [marksItemSSF, List.getElem?_cons_succ, List.take_succ_cons, List.getElem_cons_succ]
      rw [ih _ i (by simpa using h)]
      simp only [nItemSSF, List.map_cons, List.sum_cons]
      rw [Nat.add_assoc]
theorem nItemSSF_take (ns : List (List ItemV)) (i : Nat) (h : i < ns.length) : nItemSSF (ns.take (i + 1)) = nItemSSF (ns.take i) + nItemF ns[i] := by
  unfold nItemSSF
  rw [List.take_succ_eq_append_getElem h, List.map_append, List.sum_append]
  simp
theorem nItemF_w (ns : List ItemV) : nItemF ns ≤ 2 * wItemS ns := by
  unfold wItemS wTo
  rw [List.take_length]
  induction ns with
  | nil => simp [nItemF]
  | cons x xs ih =>
    unfold nItemF at ih ⊢
    simp only [List.map_cons, List.sum_cons, List.length_cons, nMarkS] at ih ⊢
    omega
theorem nItemSSF_w (ns : List (List ItemV)) (i : Nat) : nItemSSF (ns.take i) ≤ 2 * wwTo ns ns.length := by
  unfold wwTo
  rw [List.take_length]
  induction ns generalizing i with
  | nil => simp [nItemSSF]
  | cons x xs ih =>
    match i with
    | 0 => simp [nItemSSF]
    | i + 1 =>
      have h1 := ih i
      have h2 := nItemF_w x
      unfold nItemSSF at h1 ⊢
      simp only [List.take_succ_cons, List.map_cons, List.sum_cons] at h1 ⊢
      omega
theorem nItemSSF_take_le {ns : List (List ItemV)} (hs : SmallItemSSF ns) (i : Nat) : nItemSSF (ns.take i) ≤ 100000000 := by
  have h1 := nItemSSF_w ns i
  have h2 := hs.2
  unfold wItemSS at h2
  omega
theorem nItemSSF_le {ns : List (List ItemV)} (hs : SmallItemSSF ns) : nItemSSF ns ≤ 100000000 := by
  have h := nItemSSF_take_le hs ns.length
  rwa [List.take_length] at h
def mtItemSSF (ns : List (List ItemV)) (k j : Nat) : List (List ItemV) := (marksItemSSF k ns).take j ++ ns.drop j
theorem mtItemSSF_len (ns : List (List ItemV)) (k j : Nat) (h : j ≤ ns.length) : (mtItemSSF ns k j).length = ns.length := by simp [mtItemSSF, marksItemSSF_len]; omega
theorem mtItemSSF_at (ns : List (List ItemV)) (k j : Nat) (h : j < ns.length) : (mtItemSSF ns k j)[j]? = some ns[j] := by
  unfold mtItemSSF
  rw [List.getElem?_append_right (by simp [marksItemSSF_len]; omega)]
  simp [marksItemSSF_len, Nat.min_eq_left (Nat.le_of_lt h), List.getElem?_eq_getElem h]
theorem mtItemSSF_step (ns : List (List ItemV)) (k j : Nat) (h : j < ns.length) : (mtItemSSF ns k j).set j (marksItemF (k + nItemSSF (ns.take j)) ns[j]) = mtItemSSF ns k (j + 1) := by
  have hl := marksItemSSF_len k ns
  unfold mtItemSSF
  have e1 : (marksItemSSF k ns).take (j + 1) = (marksItemSSF k ns).take j ++ [marksItemF (k + nItemSSF (ns.take j)) ns[j]] := by
    rw [List.take_succ_eq_append_getElem (by omega)]
    have := marksItemSSF_get k ns j h
    rw [List.getElem?_eq_getElem (by omega)] at this
    rw [Option.some.inj this]
  rw [e1, List.set_append_right _ _ (by rw [List.length_take, hl]; omega), List.append_assoc]
  congr 1
  rw [List.drop_eq_getElem_cons h, List.length_take, hl, Nat.min_eq_left (Nat.le_of_lt h), Nat.sub_self]
  rfl
theorem mtItemSSF_all (ns : List (List ItemV)) (k : Nat) : mtItemSSF ns k ns.length = marksItemSSF k ns := by
  unfold mtItemSSF
  rw [List.drop_length, List.append_nil, ← marksItemSSF_len k ns, List.take_length]
theorem mtItemSSF_zero (ns : List (List ItemV)) (k : Nat) : mtItemSSF ns k 0 = ns := by simp [mtItemSSF]
/-- one window of the row is written anew, in its own blocks -/
theorem WinRowOwn.step {S : List Nat} {w w2 : World} {b off : Nat} {ns : List (List ItemV)} {G : Nat → List Nat} (h : WinRowOwn S w b off ns G) (hl : ∀ k ∈ S, k < w.heap.size) {j : Nat} (hj : j < ns.length) (ms : List ItemV) (u : Value)
    (hu : w.cell? ⟨b, off + j, none⟩ = some u) (ht : Turn (G j) w w2) (hm : ItemSFull (G j) w2 u ms) : WinRowOwn S w2 b off (ns.set j ms) G ∧ Turn S w w2 := by
  have hb := hl b h.mem
  have hbj : b ∉ G j := (h.at' j hj).1
  have hlen : (ns.set j ms).length = ns.length := by simp
  refine ⟨⟨h.mem, fun i hi => h.sub i (by rw [← hlen]; exact hi), by rw [hlen]; exact h.apart, fun i hi => ?_⟩, ht.mono (fun k hk => .inl (h.sub j hj k hk))⟩
  have hi' : i < ns.length := by rw [← hlen]; exact hi
  obtain ⟨hg, v, c, hv⟩ := h.at' i hi'
  by_cases e : i = j
  · subst e
    simp only [List.getElem_set_self]
    exact ⟨hg, u, (ht.cell hb hbj).trans hu, hm⟩
  · rw [List.getElem_set_ne (by omega)]
    exact ⟨hg, v, (ht.cell hb hbj).trans c, hv.turn ht (fun k hk => h.apart i j hi' hj e k hk)⟩
set_option maxHeartbeats 6400000 in
theorem markItemSSF_row (S : List Nat) (w : World) (b off cap : Nat) (ns : List (List ItemV)) (G : Nat → List Nat) (k : Nat) (hk : k ≤ 10000000000000) (hs : SmallItemSSF ns) (hl : ∀ k ∈ S, k < w.heap.size) (h : WinRowOwn S w b off ns G) :
    Calls Try.prog 10 #[.slice (some ⟨b, off, none⟩) ns.length cap, .int .i64 (k : Int)] w fun e w' => e = .returned (.int .i64 ((k + nItemSSF ns : Nat) : Int)) ∧ Hid (WinRowOwn S w' b off (marksItemSSF k ns) G ∧ Turn S w w') := by
  have HS := hide hs
  have HL := hide hl
  have hlen := hs.1.1
  have HO := hide h
  clear hs hl h
  go_enter Try.func10, Try.ntmps10
  go_wp2_with fail
  go_loopw [1, 5] (fun kv i wr => ∃ (j q : Nat), j ≤ ns.length ∧ i = .int .i64 j ∧ kv = .int .i64 (q : Int) ∧ Hid (q = k + nItemSSF (ns.take j)) ∧ Hid (WinRowOwn S wr b off (mtItemSSF ns k j) G ∧ Turn S w wr)) (fun _ i _ => ns.length - (intOf i).toNat)
  case atStart => exact ⟨0, k, Nat.zero_le _, rfl, rfl, by simp [nItemSSF, Hid], hide ⟨by rw [mtItemSSF_zero]; exact unhide HO, Turn.refl _ _⟩⟩
  case round =>
    obtain ⟨j, q, hj, rfl, rfl, HQ, HR⟩ := hrel
    by_cases hlt : j < ns.length
    · have hq : q ≤ 20000000000000 := by have := unhide HQ; have := nItemSSF_take_le (unhide HS) j; omega
      have hxl := mtItemSSF_len ns k j (by omega)
      have hjx : j < (mtItemSSF ns k j).length := by omega
      have hat : (mtItemSSF ns k j)[j] = ns[j] := Option.some.inj ((List.getElem?_eq_getElem hjx).symm.trans (mtItemSSF_at ns k j hlt))
      have HLr := hide (show ∀ k ∈ S, k < wr.heap.size from fun k hk => Nat.lt_of_lt_of_le (unhide HL k hk) (unhide HR).2.size)
      obtain ⟨hg, v, c0, hv⟩ := (unhide HR).1.at' j hjx
      rw [hat] at hv
      have HN := hide (show q + nItemF ns[j] = k + nItemSSF (ns.take (j + 1)) by rw [nItemSSF_take ns j hlt, unhide HQ]; omega)
      have HV := hide (markItemF_kit (G j) ns[j] v wr q (nItemF ns[j]) (q : Int) rfl rfl (by omega) ((unhide HS).1.2 _ (List.getElem_mem hlt)) hv)
      have HST := hide (fun (W : World) (ht : Turn (G j) wr W) (hm : ItemSFull (G j) W v (marksItemF q ns[j])) => (show WinRowOwn S W b off (mtItemSSF ns k (j + 1)) G ∧ Turn S w W from by
        have e := (unhide HR).1.step (unhide HLr) hjx _ v c0 ht hm
        rw [unhide HQ, mtItemSSF_step ns k j hlt] at e
        exact ⟨e.1, (unhide HR).2.trans e.2⟩))
      obtain ⟨va, vn, vc, rfl⟩ := hv.rd.form
      clear hv hat hxl
      generalize nItemF ns[j] = nn at *
      generalize marksItemF q ns[j] = mm at *
      go_wp2_with fail
      refine (unhide HV).mono ?_
      rintro e w2 ⟨rfl, P⟩
      have HR2 := hide (unhide HST _ (unhide P).2 (unhide P).1)
      have hnn : nn ≤ 200000000000000 := by have := unhide HN; have := nItemSSF_take_le (unhide HS) (j + 1); omega
      clear P c0
      go_wp2_with fail
      go_roundw
      case rel => exact ⟨j + 1, q + nn, by omega, by go_num, by go_num, HN, HR2⟩
      case measure => simp [intOf]; omega
    · have e : j = ns.length := by omega
      subst e
      have HP := hide (show WinRowOwn S wr b off (marksItemSSF k ns) G ∧ Turn S w wr by rw [← mtItemSSF_all]; exact unhide HR)
      have HE := hide (show q = k + nItemSSF ns by have := unhide HQ; rwa [List.take_length] at this)
      go_wp2_with fail
      go_ret
      exact ⟨by rw [unhide HE]; rfl, HP⟩
theorem markItemSSF_none (w : World) (a : Option Addr) (cap : Nat) (K : Int) : Calls Try.prog 10 #[.slice a 0 cap, .int .i64 K] w fun e w' => e = .returned (.int .i64 K) ∧ w' = w := by
  go_enter Try.func10, Try.ntmps10
  go_wp2
  refine wp_loop_rounds 1 ?_
  rw [rounds_succ]
  go_wp2
  go_ret
  exact ⟨rfl, rfl⟩
theorem markItemSSF_kit (S : List Nat) (ns : List (List ItemV)) (v : Value) (w : World) (k n : Nat) (K : Int) (hK : K = (k : Int)) (hn : nItemSSF ns = n) (hk : k ≤ 10000000000000) (hs : SmallItemSSF ns) (h : ItemSSFull S w v ns) :
    Calls Try.prog 10 #[v, .int .i64 K] w fun e w' => e = .returned (.int .i64 (K + (n : Int))) ∧ Hid (ItemSSFull S w' v (marksItemSSF k ns) ∧ Turn S w w') := by
  subst hK hn
  obtain ⟨a, c, rfl, hl, h⟩ := h
  rcases h with rfl | ⟨b, off, G, rfl, h⟩
  · refine (markItemSSF_none w a c k).mono ?_
    rintro e w' ⟨rfl, rfl⟩
    exact ⟨by simp [nItemSSF], hide ⟨⟨a, c, rfl, hl, .inl rfl⟩, Turn.refl _ _⟩⟩
  · refine (markItemSSF_row S w b off c ns G k hk hs hl h).mono ?_
    rintro e w' ⟨rfl, P⟩
    have ht := (unhide P).2
    exact ⟨by rw [Int.natCast_add], hide ⟨⟨_, c, by rw [marksItemSSF_len], fun k hk => Nat.lt_of_lt_of_le (hl k hk) ht.size, .inr ⟨b, off, G, rfl, (unhide P).1⟩⟩, ht⟩⟩
end Go.Proofs.Ytpiapgjiaeddjaa
