/-
  Names that are loaded have values: both sides look.
-/
import Derived.Test.YtoehjbehfolekaaDoorCodeOk
import Derived.Test.YtoehjbehfolekaaDoorBindsOk
import Derived.Laws.OwnMore
set_option linter.unusedVariables false
namespace Go.Proofs.YtoehjbehfolekaaDoor
open Go.RowKit Go.Maps Go.Deep

def BoundB (bs : List BindV) (s : ByteArray) : Prop := ∃ j, ∃ h : j < bs.length, bs[j].a0 = s
def LoadsTo (ns : List InsV) (bs : List BindV) (k : Nat) : Prop := ∀ i (h : i < ns.length), i < k → ns[i].a0 = 3 → BoundB bs ns[i].a2
def LoadsOk (ns : List InsV) (bs : List BindV) : Prop := LoadsTo ns bs ns.length
def RetYes (p : Prop) (e : Ending) : Prop := (p ∧ e = .returned (.bool true)) ∨ (¬ p ∧ e = .returned (.bool false))
theorem loads_zero (ns : List InsV) (bs : List BindV) : LoadsTo ns bs 0 := fun i _ h => absurd h (Nat.not_lt_zero _)
theorem loads_step {ns : List InsV} {bs : List BindV} {k : Nat} (hk : k < ns.length) (h : LoadsTo ns bs k) (hb : ns[k].a0 = 3 → BoundB bs ns[k].a2) : LoadsTo ns bs (k + 1) := by
  intro i hi hik
  by_cases e : i = k
  · subst e; exact hb
  · exact h i hi (by omega)
theorem loads_bad {ns : List InsV} {bs : List BindV} {k : Nat} (hk : k < ns.length) (h3 : ns[k].a0 = 3) (hb : ¬ BoundB bs ns[k].a2) : ¬ LoadsOk ns bs := fun h => hb (h k hk hk h3)
/-- one of the first k binds has this name -/
def BoundTo (bs : List BindV) (s : ByteArray) (k : Nat) : Prop := ∃ j, ∃ h : j < bs.length, j < k ∧ bs[j].a0 = s
theorem bound_step {bs : List BindV} {s : ByteArray} {k : Nat} (hk : k < bs.length) (hn : ¬ BoundTo bs s k) (he : ¬ bs[k].a0 = s) : ¬ BoundTo bs s (k + 1) := by
  rintro ⟨j, hj, hjk, e⟩
  by_cases ej : j = k
  · subst ej; exact he e
  · exact hn ⟨j, hj, by omega, e⟩
theorem bound_all {bs : List BindV} {s : ByteArray} : BoundTo bs s bs.length ↔ BoundB bs s :=
  ⟨fun ⟨j, h, _, e⟩ => ⟨j, h, e⟩, fun ⟨j, h, e⟩ => ⟨j, h, h, e⟩⟩

set_option maxHeartbeats 3200000 in
theorem l4Loads_row (w : World) (cb coff ccap bb boff bcap : Nat) (ns : List InsV) (bs : List BindV) (hl : (ns.length : Int) ≤ 4000) (hl40 : (bs.length : Int) ≤ 40) (hc : InsAt w cb coff ns) (hb : BindAt w bb boff bs) :
    Calls Tryd.prog 16 #[.slice (some ⟨cb, coff, none⟩) ns.length ccap, .slice (some ⟨bb, boff, none⟩) bs.length bcap] w fun e w' => RetYes (LoadsOk ns bs) e ∧ ∃ n, w' = w.drewN n := by
  have HC := hide hc
  have HB := hide hb
  clear hc hb
  go_enter Tryd.func16, Tryd.ntmps16
  go_wp2_with fail
  go_loopw [5] (fun i wr => ∃ (k q : Nat), k ≤ ns.length ∧ i = .int .i64 k ∧ Hid (LoadsTo ns bs k) ∧ wr = w.drewN q) (fun i _ => ns.length - (intOf i).toNat)
  case atStart => exact ⟨0, 0, Nat.zero_le _, rfl, loads_zero ns bs, rfl⟩
  case round =>
    obtain ⟨k, q, hk, rfl, HL, rfl⟩ := hrel
    by_cases hlt : k < ns.length
    · obtain ⟨c0, c1, c2⟩ := unhide HC k hlt
      have hstep := hide (loads_step (bs := bs) hlt (unhide HL))
      have hbad := hide (loads_bad (bs := bs) hlt)
      generalize ns[k].a0 = op at c0 hstep hbad
      generalize ns[k].a2 = nm at c2 hstep hbad
      have c0' : (w.drewN q).cell? ⟨cb, coff + k * 3, none⟩ = some (.int .i64 op) := c0
      have C2 := hide c2
      clear c0 c1 c2
      by_cases h3 : op = 3
      · subst h3
        go_wp2_with fail
        go_loopw [6, 7] (fun hv i wr => ∃ (j q2 : Nat) (h : Bool), j ≤ bs.length ∧ i = .int .i64 j ∧ hv = .bool h ∧ Hid (h = true ↔ BoundTo bs nm j) ∧ wr = w.drewN q2) (fun _ i _ => bs.length - (intOf i).toNat)
        case atStart => exact ⟨0, q, false, Nat.zero_le _, rfl, rfl, ⟨fun h => (by cases h), fun ⟨j, _, hj, _⟩ => absurd hj (Nat.not_lt_zero _)⟩, rfl⟩
        case round =>
          obtain ⟨j, q2, h, hj, rfl, rfl, HI, rfl⟩ := hrel
          by_cases hjl : j < bs.length
          · obtain ⟨d0, d1⟩ := unhide HB j hjl
            have i1 : (j : Int) < bs.length := by omega
            have i2 : (k : Int) < ns.length := by omega
            have x0 : (w.drewN q2).cell? ⟨bb, boff + j * 2, none⟩ = some (.string bs[j].a0) := d0
            have x1 : (w.drewN q2).cell? ⟨cb, coff + k * 3 + 2, none⟩ = some (.string nm) := unhide C2
            have y1 : w.cell? ⟨cb, coff + k * 3 + 2, none⟩ = some (.string nm) := unhide C2
            clear d1
            cases h with
            | true =>
              have HI' := hide (show BoundTo bs nm (j + 1) by obtain ⟨t, ht, htj, e⟩ := (unhide HI).1 rfl; exact ⟨t, ht, by omega, e⟩)
              go_wp2_with fail
              go_quiet (fail)
              go_wp2_with fail
              go_roundw
              case rel => exact ⟨j + 1, _, true, by omega, by go_num, rfl, ⟨fun _ => unhide HI', fun _ => rfl⟩, rfl⟩
              case measure => simp [intOf]; omega
            | false =>
              have HN := hide (show ¬ BoundTo bs nm j from fun hh => by have := (unhide HI).2 hh; cases this)
              by_cases he : bs[j].a0 = nm
              · have HI' := hide (show BoundTo bs nm (j + 1) from ⟨j, hjl, by omega, he⟩)
                rw [he] at x0 d0
                clear he
                go_wp2_with fail
                go_quiet (fail)
                go_wp2_with fail
                go_roundw
                case rel => exact ⟨j + 1, _, true, by omega, by go_num, by simp, ⟨fun _ => unhide HI', fun _ => rfl⟩, rfl⟩
                case measure => simp [intOf]; omega
              · have he' : (bs[j].a0.toList == nm.toList) = false := by rw [str_eq]; simpa using he
                have HI' := hide (bound_step hjl (unhide HN) he)
                clear he
                go_wp2_with fail
                go_quiet (fail)
                go_wp2_with fail
                go_roundw
                case rel => exact ⟨j + 1, _, false, by omega, by go_num, by simp, ⟨fun hh => (by cases hh), fun hh => absurd hh (unhide HI')⟩, rfl⟩
                case measure => simp [intOf]; omega
          · have ej : j = bs.length := by omega
            have HI' := hide (show h = true ↔ BoundB bs nm by rw [← bound_all, ← ej]; exact unhide HI)
            clear ej
            cases h with
            | true =>
              have HL' := hide (unhide hstep (fun _ => (unhide HI').1 rfl))
              go_wp2_with fail
              go_roundw
              case rel => exact ⟨k + 1, q2, by omega, by go_num, HL', rfl⟩
              case measure => simp [intOf]; omega
            | false =>
              have HF := hide (unhide hbad (by first | trivial | rfl) (fun hh => by have := (unhide HI').2 hh; cases this))
              go_wp2_with fail
              go_ret
              exact ⟨.inr ⟨unhide HF, rfl⟩, q2, rfl⟩
      · have h3' : (op == 3) = false := by simpa using h3
        have HL' := hide (unhide hstep (fun e => absurd e h3))
        clear h3
        go_wp2_with fail
        go_roundw
        case rel => exact ⟨k + 1, q, by omega, by go_num, HL', rfl⟩
        case measure => simp [intOf]; omega
    · have e : k = ns.length := by omega
      have HL' := hide (show LoadsOk ns bs by have := unhide HL; rw [e] at this; exact this)
      clear e
      go_wp2_with fail
      go_ret
      exact ⟨.inl ⟨unhide HL', rfl⟩, q, rfl⟩

set_option maxHeartbeats 1600000 in
theorem l4Loads_nob (w : World) (cb coff ccap : Nat) (ab : Option Addr) (bcap : Nat) (ns : List InsV) (hl : (ns.length : Int) ≤ 4000) (hc : InsAt w cb coff ns) :
    Calls Tryd.prog 16 #[.slice (some ⟨cb, coff, none⟩) ns.length ccap, .slice ab 0 bcap] w fun e w' => RetYes (LoadsOk ns []) e ∧ ∃ n, w' = w.drewN n := by
  have HC := hide hc
  clear hc
  go_enter Tryd.func16, Tryd.ntmps16
  go_wp2_with fail
  go_loop [5] (fun i => ∃ (k : Nat), k ≤ ns.length ∧ i = .int .i64 k ∧ Hid (LoadsTo ns [] k)) (fun i => ns.length - (intOf i).toNat)
  case atStart => exact ⟨0, Nat.zero_le _, rfl, loads_zero ns []⟩
  case round =>
    obtain ⟨k, hk, rfl, HL⟩ := hrel
    by_cases hlt : k < ns.length
    · obtain ⟨c0, c1, c2⟩ := unhide HC k hlt
      have hstep := hide (loads_step (bs := []) hlt (unhide HL))
      have hbad := hide (fun h3 => loads_bad (bs := []) hlt h3 (fun ⟨_, h, _⟩ => absurd h (Nat.not_lt_zero _)))
      generalize ns[k].a0 = op at c0 hstep hbad
      clear c1 c2
      by_cases h3 : op = 3
      · have HF := hide (unhide hbad h3)
        subst h3
        go_wp2_with fail
        refine wp_loop_rounds 1 ?_
        rw [rounds_succ]
        go_wp2_with fail
        go_ret
        exact ⟨.inr ⟨unhide HF, rfl⟩, 0, rfl⟩
      · have h3' : (op == 3) = false := by simpa using h3
        have HL' := hide (unhide hstep (fun e => absurd e h3))
        clear h3
        go_wp2_with fail
        go_round
        case rel => exact ⟨k + 1, by omega, by go_num, HL'⟩
        case measure => simp [intOf]; omega
    · have e : k = ns.length := by omega
      have HL' := hide (show LoadsOk ns [] by have := unhide HL; rw [e] at this; exact this)
      clear e
      go_wp2_with fail
      go_ret
      exact ⟨.inl ⟨unhide HL', rfl⟩, 0, rfl⟩
theorem l4Loads_any (w : World) (cb coff ccap : Nat) (ab : Option Addr) (bcap : Nat) (ns : List InsV) (bs : List BindV) (hl : (ns.length : Int) ≤ 4000) (hl40 : (bs.length : Int) ≤ 40) (hc : InsAt w cb coff ns) (hb : BindIn w ab bs) :
    Calls Tryd.prog 16 #[.slice (some ⟨cb, coff, none⟩) ns.length ccap, .slice ab bs.length bcap] w fun e w' => RetYes (LoadsOk ns bs) e ∧ ∃ n, w' = w.drewN n := by
  rcases hb with rfl | ⟨b, off, rfl, _, hb⟩
  · exact l4Loads_nob w cb coff ccap ab bcap ns hl hc
  · exact l4Loads_row w cb coff ccap b off bcap ns bs hl hl40 hc hb

end Go.Proofs.YtoehjbehfolekaaDoor
