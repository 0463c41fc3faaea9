/-
  Marks over a list of windows, found again.
-/
import Derived.Test.YtcjomdbklgjojaaWinsFull
set_option linter.unusedVariables false
namespace Go.Proofs.Ytcjomdbklgjojaa
open Go.RowKit Go.Maps Go.Deep

set_option maxHeartbeats 6400000 in
theorem heldItemSSF_row (w : World) (b off cap : Nat) (ns : List (List ItemV)) (k : Nat) (hk : k ≤ 10000000000000) (hs : SmallItemSSF ns) (hb : b < w.heap.size) (h : WinsAt w b off (marksItemSSF k ns)) :
    Calls Try.prog 22 #[.slice (some ⟨b, off, none⟩) ns.length cap, .int .i64 (k : Int)] w fun e w' => e = .returned (.int .i64 ((k + nItemSSF ns : Nat) : Int)) ∧ Below w.heap.size w w' := by
  have HS := hide hs
  have hlen := hs.1.1
  have HO := hide h
  clear hs h
  go_enter Try.func22, Try.ntmps22
  go_wp2_with fail
  go_loopw [1, 5] (fun kv i wr => ∃ (j q : Nat), j ≤ ns.length ∧ i = .int .i64 j ∧ kv = .int .i64 (q : Int) ∧ Hid (q = k + nItemSSF (ns.take j)) ∧ Hid (Below w.heap.size w wr)) (fun _ i _ => ns.length - (intOf i).toNat)
  case atStart => exact ⟨0, k, Nat.zero_le _, rfl, rfl, by simp [nItemSSF, Hid], Below.refl _ _⟩
  case round =>
    obtain ⟨j, q, hj, rfl, rfl, HQ, HB⟩ := hrel
    by_cases hlt : j < ns.length
    · have hq : q ≤ 20000000000000 := by have := unhide HQ; have := nItemSSF_take_le (unhide HS) j; omega
      have hml := marksItemSSF_len k ns
      have hjx : j < (marksItemSSF k ns).length := by omega
      have hat : (marksItemSSF k ns)[j] = marksItemF q ns[j] := by
        have := (List.getElem?_eq_getElem hjx).symm.trans (marksItemSSF_get k ns j hlt)
        rw [Option.some.inj this, unhide HQ]
      obtain ⟨v, c0, hv⟩ := (unhide HO).up hb (unhide HB) j hjx
      rw [hat] at hv
      have HN := hide (show q + nItemF ns[j] = k + nItemSSF (ns.take (j + 1)) by rw [nItemSSF_take ns j hlt, unhide HQ]; omega)
      have HV := hide (heldItemF_kit ns[j] v wr q (nItemF ns[j]) (q : Int) rfl rfl (by omega) ((unhide HS).1.2 _ (List.getElem_mem hlt)) hv)
      obtain ⟨va, vn, vc, rfl⟩ := hv.form
      clear hv hat hml hjx
      generalize nItemF ns[j] = nn at *
      have hnn : nn ≤ 200000000000000 := by have := unhide HN; have := nItemSSF_take_le (unhide HS) (j + 1); omega
      have hneg : ¬ ((q : Int) + (nn : Int)) < 0 := by omega
      go_wp2_with fail
      refine (unhide HV).mono ?_
      rintro e w2 ⟨rfl, b2⟩
      have B2 := hide ((unhide HB).trans (b2.mono (unhide HB).size))
      clear b2 c0
      go_wp2_with fail
      go_roundw
      case rel => exact ⟨j + 1, q + nn, by omega, by go_num, by go_num, HN, B2⟩
      case measure => simp [intOf]; omega
    · have e : j = ns.length := by omega
      subst e
      have HE := hide (show q = k + nItemSSF ns by have := unhide HQ; rwa [List.take_length] at this)
      go_wp2_with fail
      go_ret
      exact ⟨by rw [unhide HE]; rfl, unhide HB⟩
theorem heldItemSSF_none (w : World) (a : Option Addr) (cap : Nat) (K : Int) : Calls Try.prog 22 #[.slice a 0 cap, .int .i64 K] w fun e w' => e = .returned (.int .i64 K) ∧ w' = w := by
  go_enter Try.func22, Try.ntmps22
  go_wp2
  refine wp_loop_rounds 1 ?_
  rw [rounds_succ]
  go_wp2
  go_ret
  exact ⟨rfl, rfl⟩
theorem heldItemSSF_kit (ns : List (List ItemV)) (v : Value) (w : World) (k n : Nat) (K : Int) (hK : K = (k : Int)) (hn : nItemSSF ns = n) (hk : k ≤ 10000000000000) (hs : SmallItemSSF ns) (h : ItemSSRd w v (marksItemSSF k ns)) :
    Calls Try.prog 22 #[v, .int .i64 K] w fun e w' => e = .returned (.int .i64 (K + (n : Int))) ∧ Below w.heap.size w w' := by
  subst hK hn
  obtain ⟨a, c, rfl, h⟩ := h
  rw [marksItemSSF_len]
  rcases h with h0 | ⟨b, off, rfl, hb, h⟩
  · have hn : ns = [] := List.eq_nil_of_length_eq_zero (by have := congrArg List.length h0; rwa [marksItemSSF_len] at this)
    subst hn
    refine (heldItemSSF_none w a c k).mono ?_
    rintro e w' ⟨rfl, rfl⟩
    exact ⟨by simp [nItemSSF], Below.refl _ _⟩
  · refine (heldItemSSF_row w b off c ns k hk hs hb h).mono ?_
    rintro e w' ⟨rfl, b⟩
    exact ⟨by rw [Int.natCast_add], b⟩
end Go.Proofs.Ytcjomdbklgjojaa
