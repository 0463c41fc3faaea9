/-
  The specification's draw of a window, a source and a version.
-/
import Derived.Test.YtcfnmhcdggnkaaaDrawWin
import Derived.Test.YtcfnmhcdggnkaaaByArg
set_option linter.unusedVariables false
namespace Go.Proofs.Ytcfnmhcdggnkaaa
open Go.RowKit Go.Maps Go.Deep

def nm5 (k : Nat) : ByteArray := [(⟨#[119]⟩ : ByteArray), ⟨#[120]⟩, ⟨#[121]⟩, ⟨#[122]⟩, ⟨#[118]⟩].getD k ⟨#[]⟩
theorem nm5_size (k : Nat) : (nm5 k).size ≤ 100 := by
  unfold nm5
  match k with
  | 0 => decide
  | 1 => decide
  | 2 => decide
  | 3 => decide
  | 4 => decide
  | k + 5 => simp; decide
theorem nm5_cell (w : World) (k : Nat) (hk : k < 5) : (w.alloc (.cells #[.string ⟨#[119]⟩, .string ⟨#[120]⟩, .string ⟨#[121]⟩, .string ⟨#[122]⟩, .string ⟨#[118]⟩] 9)).cell? ⟨w.heap.size, k, none⟩ = some (.string (nm5 k)) := by
  have h := (boxF_new w [.string ⟨#[119]⟩, .string ⟨#[120]⟩, .string ⟨#[121]⟩, .string ⟨#[122]⟩, .string ⟨#[118]⟩] 9).1
  match k, hk with
  | 0, _ => exact h.at 0 _ rfl
  | 1, _ => exact h.at 1 _ rfl
  | 2, _ => exact h.at 2 _ rfl
  | 3, _ => exact h.at 3 _ rfl
  | 4, _ => exact h.at 4 _ rfl
theorem bytesIn34 {w : World} {a : Option Addr} {bs : List UInt8} (h : ByIn w a bs) : BytesIn w a bs.length := by
  rcases h with rfl | ⟨b, off, rfl, hb, hc⟩
  · exact .inl rfl
  · exact .inr ⟨b, off, rfl, hb, fun i hi => ⟨bs[i].toNat, by have := bs[i].toNat_lt; omega, hc i hi⟩⟩
def RetDF34 (w : World) (e : Ending) (w' : World) : Prop := ∃ a n c ns s, ∃ v : Nat, e = .returned (.tuple #[.slice a n c, .string s, .int .i64 (v : Int)]) ∧ Hid (ItemSRd w' (.slice a n c) ns) ∧ Hid (WinFit 6 ns) ∧ Hid (s.size ≤ 100 ∧ v < 8) ∧ Below w.heap.size w w'
set_option maxRecDepth 20000 in
set_option maxHeartbeats 6400000 in
theorem drawFind_any (w : World) (a : Option Addr) (cap : Nat) (bs : List UInt8) (hl : bs.length ≤ maxLen) (hc : bs.length ≤ cap) (hb : ByIn w a bs) :
    Calls Try.prog 12 #[.slice a bs.length cap] w fun e w' => RetDF34 w e w' := by
  have HO := hide (l1Open_any w a bs.length cap hl hc (bytesIn34 hb))
  clear hb hl hc
  go_enter Try.func12, Try.ntmps12
  go_wp2_with fail
  refine (unhide HO).mono ?_
  rintro e w1 ⟨g, rfl, hr1, ht1⟩
  have B1 := hide (show Below w.heap.size w w1 from ht1.below (Nat.le_refl _) (by simp))
  have HGE := hide hr1.above
  have R1 := hide (Rdy.refl hr1 (Nat.le_refl 0))
  clear hr1 ht1 HO
  go_wp2_with fail
  refine (pick_rdy w.heap.size g _ 15 w1 w1 (by omega) (by omega) (by omega) (unhide R1)).mono ?_
  rintro e w2 ⟨x, rfl, hx, D2, T2⟩
  have B2 := hide ((unhide B1).trans ((unhide T2).below (unhide B1).size (by have := unhide HGE; simp; omega)))
  have HWI := hide (l34Window_any w.heap.size g 1 (1 + (x : Int)) w2 (by omega) (by omega) (by omega) (unhide D2).self)
  have hg2 : g < w2.heap.size := (unhide D2).self.lt
  clear T2 D2 R1 B1
  go_wp2_with fail
  refine (unhide HWI).mono ?_
  rintro e w3 ⟨va, vn, vc, ns, rfl, M3, F3⟩
  have B3 := hide ((unhide B2).trans ((unhide M3).rd.turn.below (unhide B2).size (by have := unhide HGE; simp; omega)))
  have HRD := hide (fun (X : World) (t : Turn [g] w3 X) => show ItemSRd X (.slice va vn vc) ns from by obtain ⟨xs, q1, q2⟩ := (unhide M3).out; exact (q1.keep (fun y hy => t.block y (q1.lt y hy) (by have := q1.ge y hy; simp; omega))).rdQ (q2.turn t (fun k hk hp => by have := hp.1; simp at hk; omega)))
  have KEY := hide (fun (X : World) (t : Turn [g] w3 X) (z y : Nat) (hy : (y : Int) < 8) => show RetDF34 w (.returned (.tuple #[.slice va vn vc, .string (nm5 z), .int .i64 (y : Int)])) X from ⟨va, vn, vc, ns, _, y, rfl, hide (unhide HRD X t), F3, hide ⟨nm5_size z, by omega⟩, (unhide B3).trans (t.below (unhide B3).size (by have := unhide HGE; simp; omega))⟩)
  have TD := hide (show Turn [g] w3 w3.drew from Turn.of_below (Below.refl _ _).drew)
  have D0 := hide ((unhide M3).rd.self.up (Below.refl _ _).drew)
  have DA := hide (((unhide M3).rd.self.alloc (.cells #[.string ⟨#[119]⟩, .string ⟨#[120]⟩, .string ⟨#[121]⟩, .string ⟨#[122]⟩, .string ⟨#[118]⟩] 9)).up (Below.refl _ _).drew)
  have TDA := hide (show Turn [g] w3 (w3.alloc (.cells #[.string ⟨#[119]⟩, .string ⟨#[120]⟩, .string ⟨#[121]⟩, .string ⟨#[122]⟩, .string ⟨#[118]⟩] 9)).drew from (Turn.of_alloc [g] w3 _).trans (Turn.of_below (Below.refl _ _).drew))
  have LTA := hide (show w3.heap.size < (w3.alloc (.cells #[.string ⟨#[119]⟩, .string ⟨#[120]⟩, .string ⟨#[121]⟩, .string ⟨#[122]⟩, .string ⟨#[118]⟩] 9)).drew.heap.size from by show w3.heap.size < (w3.alloc (.cells #[.string ⟨#[119]⟩, .string ⟨#[120]⟩, .string ⟨#[121]⟩, .string ⟨#[122]⟩, .string ⟨#[118]⟩] 9)).heap.size; simp)
  have HNA := hide (fun k (hk : k < 5) => show (w3.alloc (.cells #[.string ⟨#[119]⟩, .string ⟨#[120]⟩, .string ⟨#[121]⟩, .string ⟨#[122]⟩, .string ⟨#[118]⟩] 9)).drew.cell? ⟨w3.heap.size, k, none⟩ = some (.string (nm5 k)) from nm5_cell w3 k hk)
  have hg3 : g < w3.heap.size := Nat.lt_of_lt_of_le hg2 (unhide M3).rd.size
  clear M3 HWI B2
  go_wp2_with fail
  go_region_with
    (first
    | (go_at_call 20; have _t := NC1; refine (pick_rdy w.heap.size g _ 8 w3 w4 (by omega) (by omega) (by omega) (unhide D4)).mono ?_; rintro e w5 ⟨y, rfl, hy, D5, T5⟩; have c5 := ((unhide T5).cell (unhide LT1) (fun hm => by have h2 : w3.heap.size = g := List.mem_singleton.1 hm; omega)).trans (unhide NC1); have TT2 := hide ((unhide TT1).trans (unhide T5)); clear T5)
    | (go_at_call 20; have _t := NB1; (with_reducible show Calls _ _ _ (w4.alloc _) _); refine (pick_rdy w.heap.size g _ 8 w3 _ (by omega) (by omega) (by omega) ((unhide D4).alloc _)).mono ?_; rintro e w5 ⟨y, rfl, hy, D5, T5⟩; have c5 := ((unhide T5).cell (by simp) (fun hm => by have h2 : w4.heap.size = g := List.mem_singleton.1 hm; omega)).trans (unhide NB1); have TT2 := hide (((unhide TT1).alloc _).trans (unhide T5)); clear T5)
    | (go_at_call 20; have _t := NB1; (with_reducible show Calls _ _ _ w4 _); refine (pick_rdy w.heap.size g _ 8 w3 w4 (by omega) (by omega) (by omega) (unhide D4)).mono ?_; rintro e w5 ⟨y, rfl, hy, D5, T5⟩; have c5 := nm5_cell w5 z hz5; have TT2 := hide ((unhide TT1).trans (unhide T5)); clear T5)
    | (go_at_call 20; (with_reducible show Calls _ _ _ w3.drew _); refine (pick_rdy w.heap.size g _ 5 w3 w3.drew (by omega) (by omega) (by omega) (unhide D0)).mono ?_; rintro e w4 ⟨z, rfl, hz, D4, T4⟩; have hz5 : z < 5 := (by omega); have TT1 := hide ((unhide TD).trans (unhide T4)); have NB1 := hide (nm5_cell w4 z hz5); have c4 := nm5_cell w4 z hz5; have hz40 : (0 : Int) ≤ (z : Int) := (by omega); have hg4 : g < w4.heap.size := Nat.lt_of_lt_of_le hg3 (unhide TT1).size; clear T4)
    | (go_at_call 20; (with_reducible show Calls _ _ _ (w3.alloc _).drew _); (refine (pick_rdy w.heap.size g _ 5 w3 _ (by omega) (by omega) (by omega) (unhide DA)).mono ?_); rintro e w4 ⟨z, rfl, hz, D4, T4⟩; have hz5 : z < 5 := (by omega); have TT1 := hide ((unhide TDA).trans (unhide T4)); have LT1 := hide (show w3.heap.size < w4.heap.size from Nat.lt_of_lt_of_le (unhide LTA) (unhide T4).size); have NC1 := hide (((unhide T4).cell (unhide LTA) (fun hm => by have h2 : w3.heap.size = g := List.mem_singleton.1 hm; omega)).trans (unhide HNA z hz5)); have c4 := unhide NC1; have hz40 : (0 : Int) ≤ (z : Int) := (by omega); clear T4)
    | fail)
  all_goals
    go_wp2_with fail
    go_ret3
    first | exact unhide KEY _ (unhide TT2) z y hy | exact unhide KEY _ ((unhide TT2).alloc _) z y hy
end Go.Proofs.Ytcfnmhcdggnkaaa
