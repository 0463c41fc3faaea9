/-
  The walk of the law on stamps that are cut to some sources.
-/
import Derived.Test.YtmgmmgjlagkdoaaDrawOnly
import Derived.Test.YtmgmmgjlagkdoaaBsMarks
import Derived.Test.YtmgmmgjlagkdoaaStampLaws
import Derived.Test.YtmgmmgjlagkdoaaOnlyFace
import Derived.Test.YtmgmmgjlagkdoaaLater
set_option linter.unusedVariables false
namespace Go.Proofs.Ytmgmmgjlagkdoaa
open Go.RowKit Go.Maps Go.Deep

set_option maxRecDepth 20000 in
set_option maxHeartbeats 6400000 in
theorem only_walk (a : Option Addr) (cap : Nat) (bs : List UInt8) (w : World) (hl : bs.length ≤ maxLen) (hc : bs.length ≤ cap) (hb : ByIn w a bs) :
    Calls Try.prog 3 #[.slice a bs.length cap] w fun e w' => e = .returned (.bool true) ∧ Below w.heap.size w w' := by
  have HD := hide (drawOnly_any w a cap bs hl hc hb)
  have hn : (bs.length : Int) ≤ 9223372036854775807 := by unfold maxLen at hl; omega
  clear hl hc hb
  by_cases h1 : (1048576 : Int) < (bs.length : Int)
  · clear HD
    generalize bs.length = n at *
    go_enter Try.func3, Try.ntmps3
    go_wp2_with fail
    go_ret
    exact ⟨rfl, Below.refl _ _⟩
  generalize bs.length = n at *
  go_enter Try.func3, Try.ntmps3
  go_wp2_with fail
  refine (unhide HD).mono ?_
  rintro e w1 ⟨v, xs, u, ts, rfl, HV, HS, HU, HT, b1⟩
  have B1 := hide b1
  have SX := hide ((unhide HS).small (by omega))
  have ST := hide ((unhide HT).small (by omega))
  have HIM := hide (fun W (b : Below w1.heap.size w1 W) => implOnly_any xs v ts u W (unhide SX) (unhide ST) ((unhide HV).up b) ((unhide HU).up b))
  have HSP := hide (fun W (b : Below w1.heap.size w1 W) => specOnly_any xs v ts u W (unhide SX) (unhide ST) ((unhide HV).up b) ((unhide HU).up b))
  have SO := hide (small_only (unhide SX) ts)
  obtain ⟨va, vn, vc, rfl⟩ := (unhide HV).form
  obtain ⟨ua, uc, rfl, hin⟩ := unhide HU
  have HIN := hide hin
  have htl := (unhide HT).1
  clear b1 HD hin HS HT
  go_wp2_with fail
  refine (unhide HIM w1 (Below.refl _ _)).mono ?_
  rintro e w2 ⟨t, rfl, R2, b2⟩
  have B2 := hide ((unhide B1).trans (b2.mono (unhide B1).size))
  have C2 := hide b2
  obtain ⟨ta, tc, rfl⟩ := (unhide R2).slice
  obtain ⟨tl, HTL⟩ : ∃ tl, Hid ((onlyV xs ts).length = tl) := ⟨_, rfl⟩
  rw [unhide HTL] at R2 ⊢
  have RD2 := hide (unhide R2).rd
  clear b2 HIM R2
  go_wp2_with fail
  refine (unhide HSP w2 (unhide C2)).mono ?_
  rintro e w3 ⟨s, rfl, R3, b3⟩
  have B3 := hide ((unhide B2).trans (b3.mono (unhide B2).size))
  have C3 := hide ((unhide C2).trans (b3.mono (unhide C2).size))
  have RD3 := hide ((unhide RD2).up b3)
  have HBS := hide (bsMarks_any (onlyV xs ts) _ (onlyV xs ts) s w3 (unhide SO) (unhide SO) (unhide RD3) (unhide R3).rd)
  rw [eqMk_same] at HBS
  obtain ⟨sa, sc, rfl⟩ := (unhide R3).slice
  clear b3 HSP RD2 R3 C2 B2
  generalize (onlyV xs ts).length = sl at *
  go_wp2_with fail
  refine (unhide HBS).mono ?_
  rintro e w4 ⟨rfl, b4⟩
  have B4 := hide ((unhide B3).trans (b4.mono (unhide B3).size))
  have C4 := hide ((unhide C3).trans (b4.mono (unhide C3).size))
  have RD4 := hide ((unhide RD3).up b4)
  clear b4 HBS RD3 C3 B3
  go_wp2_with fail
  go_loopw [6] (fun i wr => ∃ k : Nat, k ≤ ts.length ∧ i = .int .i64 k ∧ Hid (Below w4.heap.size w4 wr)) (fun i _ => ts.length - (intOf i).toNat)
  case atStart => exact ⟨0, Nat.zero_le _, rfl, Below.refl _ _⟩
  case round =>
    obtain ⟨k, hk, rfl, HBr⟩ := hrel
    by_cases hlt : k < ts.length
    · obtain ⟨b, off, rfl, hbl, hat⟩ : ∃ b off, ua = some ⟨b, off, none⟩ ∧ b < w1.heap.size ∧ StrsAt w1 b off ts := by
        rcases unhide HIN with h | h
        · rw [h] at hlt; simp at hlt
        · exact h
      have D := hide ((unhide C4).trans ((unhide HBr).mono (unhide C4).size))
      have c0 := ((unhide D).cell (p := ⟨b, off + k, none⟩) hbl).trans (hat k hlt)
      have hsz := (unhide ST).2 _ (List.getElem_mem hlt)
      have HG1 := hide (fun W (bW : Below wr.heap.size wr W) => implGet_any (onlyV xs ts) _ ts[k] W (unhide SO) hsz ((unhide RD4).up ((unhide HBr).trans (bW.mono (unhide HBr).size))))
      have HG2 := hide (fun W (bW : Below wr.heap.size wr W) => specGet_any xs _ ts[k] W (unhide SX) hsz ((unhide HV).up ((unhide D).trans (bW.mono (unhide D).size))))
      rw [only_get xs (List.getElem_mem hlt)] at HG1
      have d2 : (k : Int) < (ts.length : Int) := by omega
      clear hat hsz D
      generalize getOut xs ts[k] = gv at *
      generalize ts[k] = nm at *
      have r0 : ∀ x : LaterW wr, x.to.cell? ⟨b, off + k, none⟩ = some (.string nm) := fun x => x.cell c0
      clear c0
      go_wp2_with fail
      refine wp_region_later (by kernel_rfl) (by kernel_rfl) ?_
      repeat (go_big_quiet_step ((first | (go_at_call 10; exact quiet_ret (unhide HG1 _ (LaterW.bel _))) | (go_at_call 11; exact quiet_ret (unhide HG2 _ (LaterW.bel _))))))
      refine wpQuiet_nil ?_
      rintro _ ⟨x, rfl⟩
      obtain ⟨w5, BB⟩ := x
      dsimp only
      have B5 := hide ((unhide HBr).trans (BB.mono (unhide HBr).size))
      clear BB r0
      go_wp2_with fail
      go_roundw
      case rel => exact ⟨k + 1, by omega, by go_num, B5⟩
      case measure => simp [intOf]; omega
    · have HOK := hide (implStampOk_any (onlyV xs ts) _ wr (unhide SO) ((unhide RD4).up (unhide HBr)))
      rw [only_stamp] at HOK
      have B5 := hide ((unhide B4).trans ((unhide HBr).mono (unhide B4).size))
      go_wp2_with fail
      refine (unhide HOK).mono ?_
      rintro e w6 ⟨rfl, b6⟩
      have B6 := hide ((unhide B5).trans (b6.mono (unhide B5).size))
      clear b6
      go_wp2_with fail
      go_ret
      exact ⟨rfl, unhide B6⟩
end Go.Proofs.Ytmgmmgjlagkdoaa
