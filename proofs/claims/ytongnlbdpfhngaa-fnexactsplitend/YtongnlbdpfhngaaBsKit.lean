/-
  Lists of rows of bytes: for reading and of one's own; the laws' helpers over them: compared, marked, held against their marks; the same of who listens.
-/
import Derived.Test.YtongnlbdpfhngaaBsRows
import Derived.Test.YtongnlbdpfhngaaByKit
import Derived.Test.YtongnlbdpfhngaaSplits
set_option linter.unusedVariables false
namespace Go.Proofs.Ytongnlbdpfhngaa
open Go.RowKit Go.Maps Go.Deep

def BssAt (w : World) (b off : Nat) (ns : List (List UInt8)) : Prop := ∀ i (h : i < ns.length), ∃ v, w.cell? ⟨b, off + i, none⟩ = some v ∧ ByRd w v ns[i]
def ByteSSRd (w : World) (v : Value) (ns : List (List UInt8)) : Prop := ∃ a c, v = .slice a ns.length c ∧ (ns = [] ∨ ∃ b off, a = some ⟨b, off, none⟩ ∧ b < w.heap.size ∧ BssAt w b off ns)
theorem BssAt.up {w w' : World} {b off : Nat} {ns : List (List UInt8)} (h : BssAt w b off ns) (hb : b < w.heap.size) (hB : Below w.heap.size w w') : BssAt w' b off ns := fun i hi => by
  obtain ⟨v, c, hv⟩ := h i hi
  exact ⟨v, (hB.cell (p := ⟨b, off + i, none⟩) hb).trans c, hv.up hB⟩
theorem ByteSSRd.up {w w' : World} {v : Value} {ns : List (List UInt8)} (h : ByteSSRd w v ns) (hb : Below w.heap.size w w') : ByteSSRd w' v ns := by
  obtain ⟨a, c, rfl, h⟩ := h
  rcases h with h | ⟨b, off, rfl, hl, h⟩
  · exact ⟨a, c, rfl, .inl h⟩
  · exact ⟨_, c, rfl, .inr ⟨b, off, rfl, Nat.lt_of_lt_of_le hl hb.size, h.up hl hb⟩⟩
theorem ByteSSRd.form {w : World} {v : Value} {ns : List (List UInt8)} (h : ByteSSRd w v ns) : ∃ a n c, v = .slice a n c := by
  obtain ⟨a, c, rfl, h⟩ := h
  exact ⟨a, _, c, rfl⟩
structure BssOwn (S : List Nat) (w : World) (b off n : Nat) (f : Nat → List UInt8) (G : Nat → List Nat) (vs : Nat → Value) : Prop where
  mem : b ∈ S
  sub : ∀ i, i < n → ∀ k ∈ G i, k ∈ S
  apart : ∀ i j, i < n → j < n → i ≠ j → ∀ k ∈ G i, k ∉ G j
  off' : ∀ i, i < n → b ∉ G i
  cell : ∀ i, i < n → w.cell? ⟨b, off + i, none⟩ = some (vs i)
  own : ∀ i, i < n → ByOwn (G i) w (vs i) (f i)
def ByteSSOwn (S : List Nat) (w : World) (v : Value) (ns : List (List UInt8)) : Prop :=
  ∃ a c, v = .slice a ns.length c ∧ (∀ k ∈ S, k < w.heap.size) ∧ (ns = [] ∨ ∃ b off G vs, a = some ⟨b, off, none⟩ ∧ BssOwn S w b off ns.length (fun i => ns.getD i []) G vs)
theorem getD_at (ns : List (List UInt8)) (i : Nat) (h : i < ns.length) : ns.getD i [] = ns[i] := by simp [h]
theorem BssOwn.turn {S S' : List Nat} {w w' : World} {b off n : Nat} {f : Nat → List UInt8} {G : Nat → List Nat} {vs : Nat → Value} (h : BssOwn S w b off n f G vs) (hl : ∀ k ∈ S, k < w.heap.size) (ht : Turn S' w w') (hS : ∀ k ∈ S, k ∉ S') : BssOwn S w' b off n f G vs :=
  ⟨h.mem, h.sub, h.apart, h.off', fun i hi => (ht.cell (hl b h.mem) (hS b h.mem)).trans (h.cell i hi), fun i hi => (h.own i hi).turn ht (fun k hk => hS k (h.sub i hi k hk))⟩
theorem ByteSSOwn.rd {S : List Nat} {w : World} {v : Value} {ns : List (List UInt8)} (h : ByteSSOwn S w v ns) : ByteSSRd w v ns := by
  obtain ⟨a, c, rfl, hl, h⟩ := h
  rcases h with h | ⟨b, off, G, vs, rfl, h⟩
  · exact ⟨a, c, rfl, .inl h⟩
  · refine ⟨_, c, rfl, .inr ⟨b, off, rfl, hl b h.mem, fun i hi => ⟨vs i, h.cell i hi, ?_⟩⟩⟩
    have := (h.own i hi).rd
    rwa [getD_at ns i hi] at this
theorem ByteSSOwn.lt {S : List Nat} {w : World} {v : Value} {ns : List (List UInt8)} (h : ByteSSOwn S w v ns) : ∀ k ∈ S, k < w.heap.size := by
  obtain ⟨a, c, rfl, hl, h⟩ := h
  exact hl
theorem ByteSSOwn.turn {S S' : List Nat} {w w' : World} {v : Value} {ns : List (List UInt8)} (h : ByteSSOwn S w v ns) (ht : Turn S' w w') (hS : ∀ k ∈ S, k ∉ S') : ByteSSOwn S w' v ns := by
  obtain ⟨a, c, rfl, hl, h⟩ := h
  refine ⟨a, c, rfl, fun k hk => Nat.lt_of_lt_of_le (hl k hk) ht.size, ?_⟩
  rcases h with h | ⟨b, off, G, vs, rfl, h⟩
  · exact .inl h
  · exact .inr ⟨b, off, G, vs, rfl, h.turn hl ht hS⟩
theorem ByteSSOwn.up {S : List Nat} {w w' : World} {v : Value} {ns : List (List UInt8)} (h : ByteSSOwn S w v ns) (hb : Below w.heap.size w w') : ByteSSOwn S w' v ns := h.turn (Turn.of_below (S := []) hb) (by simp)
def SmallByteSS (ns : List (List UInt8)) : Prop := ns.length ≤ 10000 ∧ ∀ x ∈ ns, x.length ≤ 260
def sumTo (ns : List (List UInt8)) (j : Nat) : Nat := ((ns.take j).map List.length).sum
def nByteSS (ns : List (List UInt8)) : Nat := sumTo ns ns.length
theorem sumTo_succ (ns : List (List UInt8)) (j : Nat) (h : j < ns.length) : sumTo ns (j + 1) = sumTo ns j + ns[j].length := by
  unfold sumTo
  rw [List.take_succ_eq_append_getElem h, List.map_append, List.sum_append]
  simp only [List.map_cons, List.map_nil, List.sum_cons, List.sum_nil, Nat.add_zero]
theorem sumTo_le {ns : List (List UInt8)} (h : SmallByteSS ns) : ∀ j, j ≤ ns.length → sumTo ns j ≤ j * 260 := by
  intro j
  induction j with
  | zero => intro _; simp [sumTo]
  | succ j ih =>
    intro hj
    have := ih (by omega)
    have h1 := h.2 ns[j] (List.getElem_mem (by omega))
    rw [sumTo_succ ns j (by omega)]
    omega
theorem nByteSS_le {ns : List (List UInt8)} (h : SmallByteSS ns) : nByteSS ns ≤ 100000000 := by
  have := sumTo_le h ns.length (Nat.le_refl _)
  have := h.1
  unfold nByteSS
  omega
def marksByteSS (k : Nat) (ns : List (List UInt8)) : List (List UInt8) := (List.range ns.length).map fun j => byMarks (k + sumTo ns j) (ns.getD j []).length
theorem marksByteSS_len (k : Nat) (ns : List (List UInt8)) : (marksByteSS k ns).length = ns.length := by simp [marksByteSS]
theorem marksByteSS_get (k : Nat) (ns : List (List UInt8)) (j : Nat) (h : j < ns.length) : (marksByteSS k ns).getD j [] = byMarks (k + sumTo ns j) (ns.getD j []).length := by simp [marksByteSS, h]
def marksSplit (k : Nat) (d : SplitV) : SplitV := ⟨marksByteS k d.buf, d.lost⟩
set_option maxHeartbeats 3200000 in
theorem eqByteSS_row (w : World) (b off cap b' off' cap' : Nat) (ns : List (List UInt8)) (hs : SmallByteSS ns) (hc : BssAt w b off ns) (hc' : BssAt w b' off' ns) (hb : b < w.heap.size) (hb' : b' < w.heap.size) :
    Calls Try.prog 8 #[.slice (some ⟨b, off, none⟩) ns.length cap, .slice (some ⟨b', off', none⟩) ns.length cap'] w fun e w' => e = .returned (.bool true) ∧ Below w.heap.size w w' := by
  have HS := hide hs.2
  have hl := hs.1
  have HC := hide hc
  have HC' := hide hc'
  clear hs hc hc'
  go_enter Try.func8, Try.ntmps8
  go_wp2_with fail
  go_loopw [5] (fun i wr => ∃ (k : Nat), k ≤ ns.length ∧ i = .int .i64 k ∧ Hid (Below w.heap.size w wr)) (fun i _ => ns.length - (intOf i).toNat)
  case atStart => exact ⟨0, Nat.zero_le _, rfl, Below.refl _ _⟩
  case round =>
    obtain ⟨k, hk, rfl, HB⟩ := hrel
    by_cases hlt : k < ns.length
    · obtain ⟨v, c0, hv⟩ := (unhide HC).up hb (unhide HB) k hlt
      obtain ⟨v', d0, hv'⟩ := (unhide HC').up hb' (unhide HB) k hlt
      have HV := hide (fun W (bW : Below wr.heap.size wr W) => eqByteS_kit ns[k] v v' W (by have := unhide HS _ (List.getElem_mem hlt); unfold SmallByteS; omega) (hv.up bW) (hv'.up bW))
      obtain ⟨va, vn, vc, rfl⟩ := hv.form
      obtain ⟨va', vn', vc', rfl⟩ := hv'.form
      clear hv hv'
      generalize ns[k] = ms at *
      go_wp2_with fail
      go_region_with (go_at_call 21; refine (unhide HV _ ((Below.refl _ _).drew)).mono ?_; rintro e w2 ⟨rfl, hb2⟩)
      all_goals
        have hb3 := hide ((unhide HB).trans (Below.mono (((Below.refl wr.heap.size wr).drew).trans hb2) (unhide HB).size))
        clear c0 d0
        go_wp2_with fail
        go_roundw
        case rel => exact ⟨k + 1, by omega, by go_num, hb3⟩
        case measure => simp [intOf]; omega
    · go_wp2_with fail
      go_ret
      exact ⟨rfl, unhide HB⟩
theorem eqByteSS_kit (ns : List (List UInt8)) (v v' : Value) (w : World) (hs : SmallByteSS ns) (h : ByteSSRd w v ns) (h' : ByteSSRd w v' ns) :
    Calls Try.prog 8 #[v, v'] w fun e w' => e = .returned (.bool true) ∧ Below w.heap.size w w' := by
  have none : ∀ a a' c c', Calls Try.prog 8 #[.slice a 0 c, .slice a' 0 c'] w fun e w' => e = .returned (.bool true) ∧ Below w.heap.size w w' := by
    intro a a' c c'
    go_enter Try.func8, Try.ntmps8
    go_wp2
    refine wp_loop_rounds 1 ?_
    rw [rounds_succ]
    go_wp2
    go_ret
    exact ⟨rfl, Below.refl _ _⟩
  obtain ⟨a, c, rfl, h⟩ := h
  obtain ⟨a', c', rfl, h'⟩ := h'
  rcases h with rfl | ⟨b, off, rfl, hb, h⟩
  · exact none a a' c c'
  · rcases h' with rfl | ⟨b', off', rfl, hb', h'⟩
    · exact none _ a' c c'
    · exact eqByteSS_row w b off c b' off' c' ns hs h h' hb hb'
theorem markBy4 (S : List Nat) (bs : List UInt8) (v : Value) (w : World) (k n : Nat) (K : Int) (hK : K = (k : Int)) (hn : bs.length = n) (hk : k ≤ 4000000000) (hs : bs.length ≤ 1048576) (h : ByOwn S w v bs) :
    Calls Try.prog 22 #[v, .int .i64 K] w fun e w' => e = .returned (.int .i64 (K + (n : Int))) ∧ Hid (ByOwn S w' v (byMarks k bs.length) ∧ Turn S w w') := by
  subst hK hn
  exact markByteS_any S w v bs k (by omega) hs h
theorem heldBy4 (bs : List UInt8) (v : Value) (w : World) (k n : Nat) (K : Int) (hK : K = (k : Int)) (hn : bs.length = n) (hk : k ≤ 4000000000) (hs : bs.length ≤ 1048576) (h : ByRd w v (byMarks k bs.length)) :
    Calls Try.prog 23 #[v, .int .i64 K] w fun e w' => e = .returned (.int .i64 (K + (n : Int))) ∧ Below w.heap.size w w' := by
  subst hK hn
  refine (heldByteS_any w v bs.length k (by omega) hs h).mono ?_
  rintro e w' ⟨rfl, rfl⟩
  exact ⟨rfl, Below.refl _ _⟩
set_option maxHeartbeats 3200000 in
theorem markByteSS_row (S : List Nat) (w : World) (b off cap k : Nat) (ns : List (List UInt8)) (G : Nat → List Nat) (vs : Nat → Value) (hk : k ≤ 1000000000) (hs : SmallByteSS ns) (hl : ∀ k ∈ S, k < w.heap.size) (h : BssOwn S w b off ns.length (fun i => ns.getD i []) G vs) :
    Calls Try.prog 11 #[.slice (some ⟨b, off, none⟩) ns.length cap, .int .i64 (k : Int)] w fun e w' => e = .returned (.int .i64 ((k + nByteSS ns : Nat) : Int)) ∧ Hid (BssOwn S w' b off ns.length (fun j => byMarks (k + sumTo ns j) (ns.getD j []).length) G vs ∧ Turn S w w') := by
  have HS := hide hs
  have hn := hs.1
  have H0 := hide h
  have HL := hide hl
  clear hs h hl
  go_enter Try.func11, Try.ntmps11
  go_wp2_with fail
  go_loopw [1, 5] (fun kv i wr => ∃ (j : Nat), j ≤ ns.length ∧ i = .int .i64 j ∧ kv = .int .i64 ((k + sumTo ns j : Nat) : Int) ∧ Hid (BssOwn S wr b off ns.length (fun t => if t < j then byMarks (k + sumTo ns t) (ns.getD t []).length else ns.getD t []) G vs) ∧ Hid (Turn S w wr)) (fun _ i _ => ns.length - (intOf i).toNat)
  case atStart => exact ⟨0, Nat.zero_le _, rfl, rfl, by simpa using H0, hide (Turn.refl _ _)⟩
  case round =>
    obtain ⟨j, hj, rfl, rfl, HO, HT⟩ := hrel
    have hsum := sumTo_le (unhide HS) j hj
    by_cases hlt : j < ns.length
    · have ho := (unhide HO).own j hlt
      simp only [Nat.lt_irrefl, if_false] at ho
      have c0 := (unhide HO).cell j hlt
      have HLN := hide (show ns.getD j [] = ns[j] from getD_at ns j hlt)
      have HM := hide (markBy4 (G j) (ns.getD j []) (vs j) wr (k + sumTo ns j) (ns.getD j []).length ((k + sumTo ns j : Nat) : Int) rfl rfl (by omega) (by rw [unhide HLN]; have := (unhide HS).2 _ (List.getElem_mem hlt); omega) ho)
      obtain ⟨va, vn, vc, hv⟩ := ho.rd.form
      rw [hv] at c0 HM
      have HV := hide hv
      have HK2 := hide (show ((k + sumTo ns j : Nat) : Int) + ((ns.getD j []).length : Int) = ((k + sumTo ns (j + 1) : Nat) : Int) by rw [sumTo_succ ns j hlt, unhide HLN]; omega)
      clear ho hv
      generalize hkk : ((k + sumTo ns j : Nat) : Int) = kk at *
      clear hkk
      go_wp2_with fail
      refine (unhide HM).mono ?_
      rintro e w2 ⟨rfl, HH⟩
      obtain ⟨o2, t2⟩ := unhide HH
      have HO2 := hide (show BssOwn S w2 b off ns.length (fun t => if t < j + 1 then byMarks (k + sumTo ns t) (ns.getD t []).length else ns.getD t []) G vs from
        ⟨(unhide HO).mem, (unhide HO).sub, (unhide HO).apart, (unhide HO).off', fun i hi => (t2.cell (Nat.lt_of_lt_of_le (unhide HL b (unhide HO).mem) (unhide HT).size) ((unhide HO).off' j hlt)).trans ((unhide HO).cell i hi), fun i hi => by
          by_cases e : i = j
          · subst e
            simp only [Nat.lt_succ_self, if_true]
            rw [unhide HV]
            exact o2
          · have := ((unhide HO).own i hi).turn t2 (fun q hq => (unhide HO).apart i j hi hlt e q hq)
            by_cases e2 : i < j
            · have e3 : i < j + 1 := by omega
              simp only [e2, e3, if_true] at this ⊢
              exact this
            · have e3 : ¬ i < j + 1 := by omega
              simp only [e2, e3, if_false] at this ⊢
              exact this⟩)
      have HT2 := hide ((unhide HT).trans (t2.mono (fun q hq => .inl ((unhide HO).sub j hlt q hq))))
      clear o2 t2 HH c0
      rw [unhide HK2]
      go_wp2_with fail
      go_roundw
      case rel => exact ⟨j + 1, by omega, by go_num, rfl, HO2, HT2⟩
      case measure => simp [intOf]; omega
    · obtain rfl : j = ns.length := by omega
      have HR := hide (show BssOwn S wr b off ns.length (fun j => byMarks (k + sumTo ns j) (ns.getD j []).length) G vs from
        ⟨(unhide HO).mem, (unhide HO).sub, (unhide HO).apart, (unhide HO).off', (unhide HO).cell, fun i hi => by
          have := (unhide HO).own i hi
          simp only [hi, if_true] at this
          exact this⟩)
      go_wp2_with fail
      go_ret
      exact ⟨rfl, hide ⟨unhide HR, unhide HT⟩⟩
theorem markByteSS_kit (S : List Nat) (ns : List (List UInt8)) (v : Value) (w : World) (k n : Nat) (K : Int) (hK : K = (k : Int)) (hn : nByteSS ns = n) (hk : k ≤ 1000000000) (hs : SmallByteSS ns) (h : ByteSSOwn S w v ns) :
    Calls Try.prog 11 #[v, .int .i64 K] w fun e w' => e = .returned (.int .i64 (K + (n : Int))) ∧ Hid (ByteSSOwn S w' v (marksByteSS k ns) ∧ Turn S w w') := by
  subst hK hn
  obtain ⟨a, c, rfl, hl, h⟩ := h
  rcases h with rfl | ⟨b, off, G, vs, rfl, h⟩
  · have : Calls Try.prog 11 #[.slice a 0 c, .int .i64 (k : Int)] w fun e w' => e = .returned (.int .i64 (k : Int)) ∧ w' = w := by
      go_enter Try.func11, Try.ntmps11
      go_wp2
      refine wp_loop_rounds 1 ?_
      rw [rounds_succ]
      go_wp2
      go_ret
      exact ⟨rfl, rfl⟩
    refine this.mono ?_
    rintro e w' ⟨rfl, rfl⟩
    exact ⟨by simp [nByteSS, sumTo], hide ⟨⟨a, c, rfl, hl, .inl rfl⟩, Turn.refl _ _⟩⟩
  · refine (markByteSS_row S w b off c k ns G vs hk hs hl h).mono ?_
    rintro e w' ⟨rfl, HH⟩
    obtain ⟨h1, h2⟩ := unhide HH
    refine ⟨by rw [Int.natCast_add], hide ⟨⟨_, c, by rw [marksByteSS_len], fun q hq => Nat.lt_of_lt_of_le (hl q hq) h2.size, .inr ⟨b, off, G, vs, rfl, ?_⟩⟩, h2⟩⟩
    rw [marksByteSS_len]
    exact ⟨h1.mem, h1.sub, h1.apart, h1.off', h1.cell, fun i hi => by
      have := h1.own i hi
      simp only [marksByteSS_get k ns i hi]
      exact this⟩
set_option maxHeartbeats 3200000 in
theorem heldByteSS_row (w : World) (b off cap k : Nat) (ns : List (List UInt8)) (hk : k ≤ 1000000000) (hs : SmallByteSS ns) (hb : b < w.heap.size) (h : BssAt w b off (marksByteSS k ns)) :
    Calls Try.prog 12 #[.slice (some ⟨b, off, none⟩) ns.length cap, .int .i64 (k : Int)] w fun e w' => e = .returned (.int .i64 ((k + nByteSS ns : Nat) : Int)) ∧ Below w.heap.size w w' := by
  have HS := hide hs
  have hn := hs.1
  have H0 := hide h
  clear hs h
  go_enter Try.func12, Try.ntmps12
  go_wp2_with fail
  go_loopw [1, 5] (fun kv i wr => ∃ (j : Nat), j ≤ ns.length ∧ i = .int .i64 j ∧ kv = .int .i64 ((k + sumTo ns j : Nat) : Int) ∧ Hid (Below w.heap.size w wr)) (fun _ i _ => ns.length - (intOf i).toNat)
  case atStart => exact ⟨0, Nat.zero_le _, rfl, rfl, hide (Below.refl _ _)⟩
  case round =>
    obtain ⟨j, hj, rfl, rfl, HB⟩ := hrel
    have hsum := sumTo_le (unhide HS) j hj
    by_cases hlt : j < ns.length
    · obtain ⟨v, c0, hv⟩ := (unhide H0).up hb (unhide HB) j (by rw [marksByteSS_len]; exact hlt)
      have HLN := hide (show ns.getD j [] = ns[j] from getD_at ns j hlt)
      rw [← getD_at (marksByteSS k ns) j (by rw [marksByteSS_len]; exact hlt), marksByteSS_get k ns j hlt] at hv
      have HM := hide (heldBy4 (ns.getD j []) v wr (k + sumTo ns j) (ns.getD j []).length ((k + sumTo ns j : Nat) : Int) rfl rfl (by omega) (by rw [unhide HLN]; have := (unhide HS).2 _ (List.getElem_mem hlt); omega) hv)
      obtain ⟨va, vn, vc, rfl⟩ := hv.form
      have HK2 := hide (show ((k + sumTo ns j : Nat) : Int) + ((ns.getD j []).length : Int) = ((k + sumTo ns (j + 1) : Nat) : Int) by rw [sumTo_succ ns j hlt, unhide HLN]; omega)
      have hk2 : ¬ ((k + sumTo ns (j + 1) : Nat) : Int) < 0 := by omega
      clear hv
      generalize hkk : ((k + sumTo ns j : Nat) : Int) = kk at *
      clear hkk
      go_wp2_with fail
      refine (unhide HM).mono ?_
      rintro e w2 ⟨rfl, b2⟩
      have HB2 := hide ((unhide HB).trans (b2.mono (unhide HB).size))
      clear b2 c0
      rw [unhide HK2]
      generalize hk3 : ((k + sumTo ns (j + 1) : Nat) : Int) = k3 at *
      go_wp2_with fail
      go_roundw
      case rel => exact ⟨j + 1, by omega, by go_num, by rw [hk3], HB2⟩
      case measure => simp [intOf]; omega
    · obtain rfl : j = ns.length := by omega
      go_wp2_with fail
      go_ret
      exact ⟨rfl, unhide HB⟩
theorem heldByteSS_kit (ns : List (List UInt8)) (v : Value) (w : World) (k n : Nat) (K : Int) (hK : K = (k : Int)) (hn : nByteSS ns = n) (hk : k ≤ 1000000000) (hs : SmallByteSS ns) (h : ByteSSRd w v (marksByteSS k ns)) :
    Calls Try.prog 12 #[v, .int .i64 K] w fun e w' => e = .returned (.int .i64 (K + (n : Int))) ∧ Below w.heap.size w w' := by
  subst hK hn
  obtain ⟨a, c, rfl, h⟩ := h
  rw [marksByteSS_len]
  rcases h with h | ⟨b, off, rfl, hb, h⟩
  · have h0 : ns.length = 0 := by have := congrArg List.length h; rwa [marksByteSS_len] at this
    have e : ns = [] := List.eq_nil_of_length_eq_zero h0
    subst e
    have : Calls Try.prog 12 #[.slice a 0 c, .int .i64 (k : Int)] w fun e w' => e = .returned (.int .i64 (k : Int)) ∧ w' = w := by
      go_enter Try.func12, Try.ntmps12
      go_wp2
      refine wp_loop_rounds 1 ?_
      rw [rounds_succ]
      go_wp2
      go_ret
      exact ⟨rfl, rfl⟩
    refine this.mono ?_
    rintro e w' ⟨rfl, rfl⟩
    exact ⟨by simp [nByteSS, sumTo], Below.refl _ _⟩
  · refine (heldByteSS_row w b off c k ns hk hs hb h).mono ?_
    rintro e w' ⟨rfl, hB⟩
    exact ⟨by rw [Int.natCast_add], hB⟩
set_option maxHeartbeats 1600000 in
theorem markSplit_kit (S : List Nat) (d : SplitV) (v : Value) (w : World) (k n : Nat) (K : Int) (hK : K = (k : Int)) (hn : nSplit d = n) (hk : k ≤ 1000000000) (hs : SmallSplit d) (h : SplitOwn S w v d) :
    Calls Try.prog 10 #[v, .int .i64 K] w fun e w' => e = .returned (.int .i64 (K + (n : Int))) ∧ Hid (SplitOwn S w' v (marksSplit k d) ∧ Turn S w w') := by
  obtain ⟨v0, rfl, h0⟩ := h
  obtain ⟨buf, lost⟩ := d
  unfold SmallSplit at hs
  unfold nSplit at hn
  simp only at hs hn h0 ⊢
  have bA := (Below.refl w.heap.size w).alloc (Nat.le_refl _) (.cells #[v0, .int .i64 lost] 29)
  have HM := hide (markBy4 S buf v0 (w.alloc (.cells #[v0, .int .i64 lost] 29)) k n K hK hn (by omega) hs (h0.up bA))
  have TA := hide (show Turn S w _ from Turn.of_below bA)
  have HE := hide (show ∀ w1, ByOwn S w1 v0 (byMarks k buf.length) → SplitOwn S w1 (.agg #[v0, .int .i64 lost]) (marksSplit k ⟨buf, lost⟩) from fun w1 h1 => ⟨_, rfl, h1⟩)
  obtain ⟨a, c, hv⟩ := h0.rd.len
  rw [hv] at HM TA HE ⊢
  clear h0 bA hv hn hs hK hk
  generalize marksSplit k ⟨buf, lost⟩ = ms at *
  generalize byMarks k buf.length = bm at *
  generalize buf.length = m at *
  generalize K + (n : Int) = q at *
  go_enter Try.func10, Try.ntmps10
  go_wp2_with fail
  refine (unhide HM).mono ?_
  rintro e w1 ⟨rfl, HH⟩
  have HE2 := hide (And.intro (unhide HE w1 (unhide HH).1) ((unhide TA).trans (unhide HH).2))
  clear HH HM HE TA
  go_wp2_with fail
  go_ret
  exact ⟨rfl, HE2⟩
end Go.Proofs.Ytongnlbdpfhngaa
