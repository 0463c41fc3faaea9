/-
  DERIVED: THE SHELF's CONTRACTS AT THIS DUMP, IN PLAIN WORDS (tools/lay-plain.mjs out of 'TryShelfI.lean', which tools/lay-shelf.mjs wrote): THE SAME DECLARATIONS UNDER THE SAME NAMES: 'import', 'namespace', 'open', 'def', 'theorem' AND NOTHING ELSE: no command of the shelf's: FOR A HAND-IN. Each laying: the table of numbers ('.._ren') and one theorem, a field a fact of the dump's own or the kernel's comparison; each contract: ONE APPLICATION.
-/
/-
  The map after the keys that one window alone has were struck.
-/
import Derived.Shelf.SlGeneric
import Derived.Shelf.SlMaps.DeleteFunc
import Derived.Ground.SlmdProg
import Derived.Shelf.SlIter.Nil
import Derived.Shelf.SortM.Plain
import Derived.Shelf.SortM.SortNone
import Derived.Ground.GgzProg
import Derived.Ground.SlgmProg
import Derived.Test.YtpiapgjiaeddjaaProg
import Derived.Test.YtpiapgjiaeddjaaHdMap
import Derived.Handy
namespace Go.Proofs
open Go.Shelf
def Try.keys33_ren : Go.Shelf.Ren := ⟨fun | 7 => 33 | 10 => 45 | n => n, fun | 23 => 58 | 26 => 9 | 3 => 24 | 28 => 68 | 0 => 0 | 27 => 67 | 33 => 82 | 4 => 4 | n => n, fun | n => n⟩
theorem Try.keys33 : Go.Proofs.SlLaysZ.n7 Try.prog Try.keys33_ren := {
  mixed := by kernel_rfl
  f7 := ⟨Try.f33.name, by decide, Try.func33.trans (congrArg some (by kernel_rfl))⟩
  f10 := ⟨Try.f45.name, by decide, Try.func45.trans (congrArg some (by kernel_rfl))⟩
  t0 := Try.underlying0
  a0 := Try.isAgg0
  z0 := Try.sizeOf0
  v0 := Try.zeroValue0
  t4 := Try.underlying4
  a4 := Try.isAgg4
  z4 := Try.sizeOf4
  v4 := Try.zeroValue4
  t23 := Try.underlying58
  a23 := Try.isAgg58
  z23 := Try.sizeOf58
  v23 := Try.zeroValue58
  t26 := Try.underlying9
  a26 := Try.isAgg9
  z26 := Try.sizeOf9
  v26 := Try.zeroValue9
  t27 := Try.underlying67
  a27 := Try.isAgg67
  z27 := Try.sizeOf67
  v27 := Try.zeroValue67
  t28 := Try.underlying68
  a28 := Try.isAgg68
  z28 := Try.sizeOf68
  v28 := Try.zeroValue68
  t33 := Try.underlying82
  a33 := Try.isAgg82
  z33 := Try.sizeOf82
  v33 := Try.zeroValue82 }
def Try.sorted32_ren : Go.Shelf.Ren := ⟨fun | 6 => 32 | 8 => 43 | 9 => 44 | 11 => 60 | 13 => 62 | 12 => 61 | 23 => 80 | 24 => 81 | 14 => 71 | 15 => 72 | 16 => 73 | 17 => 74 | 18 => 75 | 19 => 76 | 20 => 77 | 21 => 78 | 22 => 79 | 25 => 88 | 26 => 89 | 27 => 90 | 28 => 91 | 29 => 92 | 30 => 93 | 31 => 97 | n => n, fun | 26 => 9 | 28 => 68 | 24 => 65 | 0 => 0 | 3 => 3 | 37 => 101 | 48 => 117 | 50 => 119 | 4 => 4 | 40 => 110 | 39 => 109 | 45 => 70 | 5 => 5 | 9 => 9 | 51 => 127 | 55 => 131 | 57 => 137 | 58 => 138 | 33 => 82 | n => n, fun | n => n⟩
theorem Try.sorted32 : Go.Proofs.SlLaysZ.n6 Try.prog Try.sorted32_ren := {
  mixed := by kernel_rfl
  f6 := ⟨Try.f32.name, by decide, Try.func32.trans (congrArg some (by kernel_rfl))⟩
  f8 := ⟨Try.f43.name, by decide, Try.func43.trans (congrArg some (by kernel_rfl))⟩
  f11 := ⟨Try.f60.name, by decide, Try.func60.trans (congrArg some (by kernel_rfl))⟩
  t0 := Try.underlying0
  a0 := Try.isAgg0
  z0 := Try.sizeOf0
  v0 := Try.zeroValue0
  t24 := Try.underlying65
  a24 := Try.isAgg65
  z24 := Try.sizeOf65
  v24 := Try.zeroValue65
  t26 := Try.underlying9
  a26 := Try.isAgg9
  z26 := Try.sizeOf9
  v26 := Try.zeroValue9
  t28 := Try.underlying68
  a28 := Try.isAgg68
  z28 := Try.sizeOf68
  v28 := Try.zeroValue68
  i26 := by kernel_rfl }
def Try.sort44_ren : Go.Shelf.Ren := ⟨fun | 6 => 44 | 8 => 62 | 9 => 61 | 19 => 80 | 20 => 81 | 21 => 71 | 22 => 72 | 23 => 73 | 24 => 74 | 25 => 75 | 26 => 76 | 27 => 77 | 28 => 78 | 29 => 79 | 36 => 88 | 31 => 89 | 32 => 90 | 37 => 91 | 38 => 92 | 39 => 93 | 41 => 97 | n => n, fun | 27 => 65 | 29 => 9 | 3 => 3 | 32 => 101 | 26 => 65 | 0 => 0 | 44 => 117 | 46 => 119 | 4 => 4 | 36 => 110 | 35 => 109 | 41 => 70 | 5 => 5 | 9 => 9 | 53 => 127 | 57 => 131 | 63 => 137 | 64 => 138 | n => n, fun | n => n⟩
theorem Try.sort44 : Go.Proofs.SlLaysM.n6 Try.prog Try.sort44_ren := {
  mixed := by kernel_rfl
  f6 := ⟨Try.f44.name, by decide, Try.func44.trans (congrArg some (by kernel_rfl))⟩
  f8 := Try.func62.trans (congrArg some (by kernel_rfl))
  f9 := ⟨Try.f61.name, by decide, Try.func61.trans (congrArg some (by kernel_rfl))⟩
  f19 := Try.func80.trans (congrArg some (by kernel_rfl))
  f20 := Try.func81.trans (congrArg some (by kernel_rfl))
  f21 := ⟨Try.f71.name, by decide, Try.func71.trans (congrArg some (by kernel_rfl))⟩
  f22 := ⟨Try.f72.name, by decide, Try.func72.trans (congrArg some (by kernel_rfl))⟩
  f23 := ⟨Try.f73.name, by decide, Try.func73.trans (congrArg some (by kernel_rfl))⟩
  f24 := ⟨Try.f74.name, by decide, Try.func74.trans (congrArg some (by kernel_rfl))⟩
  f25 := ⟨Try.f75.name, by decide, Try.func75.trans (congrArg some (by kernel_rfl))⟩
  f26 := ⟨Try.f76.name, by decide, Try.func76.trans (congrArg some (by kernel_rfl))⟩
  f27 := ⟨Try.f77.name, by decide, Try.func77.trans (congrArg some (by kernel_rfl))⟩
  f28 := ⟨Try.f78.name, by decide, Try.func78.trans (congrArg some (by kernel_rfl))⟩
  f29 := ⟨Try.f79.name, by decide, Try.func79.trans (congrArg some (by kernel_rfl))⟩
  f31 := Try.func89.trans (congrArg some (by kernel_rfl))
  f32 := Try.func90.trans (congrArg some (by kernel_rfl))
  f36 := ⟨Try.f88.name, by decide, Try.func88.trans (congrArg some (by kernel_rfl))⟩
  f37 := ⟨Try.f91.name, by decide, Try.func91.trans (congrArg some (by kernel_rfl))⟩
  f38 := ⟨Try.f92.name, by decide, Try.func92.trans (congrArg some (by kernel_rfl))⟩
  f39 := ⟨Try.f93.name, by decide, Try.func93.trans (congrArg some (by kernel_rfl))⟩
  f41 := ⟨Try.f97.name, by decide, Try.func97.trans (congrArg some (by kernel_rfl))⟩
  t0 := Try.underlying0
  a0 := Try.isAgg0
  z0 := Try.sizeOf0
  v0 := Try.zeroValue0
  t3 := Try.underlying3
  a3 := Try.isAgg3
  z3 := Try.sizeOf3
  v3 := Try.zeroValue3
  t4 := Try.underlying4
  a4 := Try.isAgg4
  z4 := Try.sizeOf4
  v4 := Try.zeroValue4
  t5 := Try.underlying5
  a5 := Try.isAgg5
  z5 := Try.sizeOf5
  v5 := Try.zeroValue5
  t9 := Try.underlying9
  a9 := Try.isAgg9
  z9 := Try.sizeOf9
  v9 := Try.zeroValue9
  t26 := Try.underlying65
  a26 := Try.isAgg65
  z26 := Try.sizeOf65
  v26 := Try.zeroValue65
  t27 := Try.underlying65
  a27 := Try.isAgg65
  z27 := Try.sizeOf65
  v27 := Try.zeroValue65
  t29 := Try.underlying9
  a29 := Try.isAgg9
  z29 := Try.sizeOf9
  v29 := Try.zeroValue9
  t32 := Try.underlying101
  a32 := Try.isAgg101
  z32 := Try.sizeOf101
  v32 := Try.zeroValue101
  t35 := Try.underlying109
  a35 := Try.isAgg109
  z35 := Try.sizeOf109
  v35 := Try.zeroValue109
  t36 := Try.underlying110
  a36 := Try.isAgg110
  z36 := Try.sizeOf110
  v36 := Try.zeroValue110
  t41 := Try.underlying70
  a41 := Try.isAgg70
  z41 := Try.sizeOf70
  v41 := Try.zeroValue70
  t44 := Try.underlying117
  a44 := Try.isAgg117
  z44 := Try.sizeOf117
  v44 := Try.zeroValue117
  t46 := Try.underlying119
  a46 := Try.isAgg119
  z46 := Try.sizeOf119
  v46 := Try.zeroValue119
  t53 := Try.underlying127
  a53 := Try.isAgg127
  z53 := Try.sizeOf127
  v53 := Try.zeroValue127
  t57 := Try.underlying131
  a57 := Try.isAgg131
  z57 := Try.sizeOf131
  v57 := Try.zeroValue131
  t63 := Try.underlying137
  a63 := Try.isAgg137
  z63 := Try.sizeOf137
  v63 := Try.zeroValue137
  t64 := Try.underlying138
  a64 := Try.isAgg138
  z64 := Try.sizeOf138
  v64 := Try.zeroValue138 }
def Try.delf30_ren : Go.Shelf.Ren := ⟨fun | 5 => 30 | n => n, fun | 23 => 58 | 26 => 9 | 24 => 24 | 27 => 64 | 0 => 0 | 4 => 4 | n => n, fun | n => n⟩
theorem Try.delf30 : Go.Proofs.SlLaysDf.n5 Try.prog Try.delf30_ren := {
  mixed := by kernel_rfl
  f5 := ⟨Try.f30.name, by decide, Try.func30.trans (congrArg some (by kernel_rfl))⟩
  t0 := Try.underlying0
  a0 := Try.isAgg0
  z0 := Try.sizeOf0
  v0 := Try.zeroValue0
  t4 := Try.underlying4
  a4 := Try.isAgg4
  z4 := Try.sizeOf4
  v4 := Try.zeroValue4
  t23 := Try.underlying58
  a23 := Try.isAgg58
  z23 := Try.sizeOf58
  v23 := Try.zeroValue58
  a24 := Try.isAgg24
  z24 := Try.sizeOf24
  a26 := Try.isAgg9
  z26 := Try.sizeOf9
  t27 := Try.underlying64
  a27 := Try.isAgg64
  z27 := Try.sizeOf64
  v27 := Try.zeroValue64 }
end Go.Proofs

set_option linter.unusedVariables false
namespace Go.Proofs.Ytpiapgjiaeddjaa
open Go.RowKit Go.Maps Go.Deep

theorem df_both {pd : Lit → DataW Unit → Bool} {es : List (Lit × DataW Unit)} (hap : es.Pairwise (fun p q => p.1 ≠ q.1)) {k : Lit} (hk : WideAt.IsKeyLit k) :
    Maps.has (Lib.deleteFuncD pd (.map es)) k = (Maps.has (.map es) k && !pd k ((DataW.map es).atKey k .nil)) ∧ (Lib.deleteFuncD pd (.map es)).atKey k .nil = if (Maps.has (.map es) k && !pd k ((DataW.map es).atKey k .nil)) then (DataW.map es).atKey k .nil else .nil := by
  have hap' : (es.filter fun p => !pd p.1 p.2).Pairwise (fun p q => p.1 ≠ q.1) := hap.filter _
  have hno : ∀ {fs : List (Lit × DataW Unit)}, Maps.has (.map fs) k = false → (DataW.map fs).atKey k .nil = .nil := fun h => atKey_of_not_has h .nil
  cases hh : Maps.has (.map es) k
  · have h2 : Maps.has (Lib.deleteFuncD pd (.map es)) k = false := by
      unfold Lib.deleteFuncD
      rw [has_eq] at hh ⊢
      rw [List.any_eq_false] at hh ⊢
      exact fun p hp => hh p (List.mem_filter.1 hp).1
    refine ⟨by rw [h2]; simp, ?_⟩
    simp only [Bool.false_and, Bool.false_eq_true, if_false]
    exact hno h2
  · rw [has_eq, List.any_eq_true] at hh
    obtain ⟨p, hp, hs⟩ := hh
    have e := WideAt.sameKey_eq hs
    have hm : (k, p.2) ∈ es := by rw [← e]; exact hp
    have hat := WideAt.atKey_mem .nil hk hap hm
    rw [hat]
    cases hpd : pd k p.2
    · have hm' : (k, p.2) ∈ es.filter fun p => !pd p.1 p.2 := List.mem_filter.2 ⟨hm, by simp [hpd]⟩
      have hat' := WideAt.atKey_mem .nil hk hap' hm'
      refine ⟨?_, ?_⟩
      · unfold Lib.deleteFuncD
        rw [has_eq]
        simp only [Bool.not_false, Bool.and_true, List.any_eq_true]
        exact ⟨_, hm', WideAt.sameKey_self hk⟩
      · simp only [Bool.not_false, Bool.and_true, if_true]
        exact hat'
    · have h2 : Maps.has (Lib.deleteFuncD pd (.map es)) k = false := by
        unfold Lib.deleteFuncD
        rw [has_eq, List.any_eq_false]
        intro q hq hs'
        obtain ⟨hq1, hq2⟩ := List.mem_filter.1 hq
        have e' := WideAt.sameKey_eq hs'
        have hmq : (k, q.2) ∈ es := by rw [← e']; exact hq1
        have e2 : q.2 = p.2 := (WideAt.atKey_mem .nil hk hap hmq).symm.trans hat
        rw [e', e2, hpd] at hq2
        simp at hq2
      refine ⟨by rw [h2]; simp, ?_⟩
      simp only [Bool.not_true, Bool.and_false, Bool.false_eq_true, if_false]
      exact hno h2
def oneD : DataW Unit → Bool
  | .slice [_, .lit (.int _ n), _] _ => n == 1
  | _ => false
def oneH : Hd → Bool
  | none => false
  | some (_, n, _) => n == 1
theorem oneD_hd (o : Hd) : oneD (hdD o) = oneH o := by
  rcases o with _ | ⟨g, n, c⟩
  · rfl
  · show ((n : Int) == 1) = (n == 1)
    by_cases e : n = 1
    · subst e; rfl
    · have : ¬ (n : Int) = 1 := by omega
      rw [beq_eq_false_iff_ne.2 this, beq_eq_false_iff_ne.2 e]
/-- the lists of more than one window -/
def cutG (G : ByteArray → Hd) : ByteArray → Hd := fun s => if oneH (G s) then none else G s
theorem HdMap.cut {w w' : World} {b n : Nat} {D : DataW Unit} {G : ByteArray → Hd} (h : HdMap w b n D G) (h' : w'.ownsMap Try.prog 9 hdR b n (Lib.deleteFuncD (fun _ d => oneD d) D)) : HdMap w' b n (Lib.deleteFuncD (fun _ d => oneD d) D) (cutG G) := by
  obtain ⟨es, rfl, hap⟩ := h.own.tidy mapKeyed
  have both := fun s => df_both (pd := fun _ d => oneD d) hap (k := keyL s) trivial
  refine ⟨h', fun s => ?_, fun s => ?_⟩
  · rw [(both s).2, h.there s, h.gives s, oneD_hd]
    unfold cutG
    cases hg : G s with
    | none => rfl
    | some o => cases ho : oneH (some o) <;> simp [hdD]
  · rw [(both s).1, h.there s, h.gives s, oneD_hd]
    unfold cutG
    cases hg : G s with
    | none => rfl
    | some o => cases ho : oneH (some o) <;> simp
theorem del_says (key : Value) (o : Hd) (w : World) : Calls Try.prog 31 #[key, hdV o] w fun e w' => e = .returned (.bool (oneH o)) ∧ w.grownBy w' none := by
  rcases o with _ | ⟨g, n, c⟩
  · simp only [hdV, oneH]
    go_enter Try.func31, Try.ntmps31
    go_wp2_with fail
    go_ret
    exact ⟨rfl, rfl, rfl, rfl, Nat.le_refl _, fun _ _ _ => rfl⟩
  · simp only [hdV, oneH]
    have hn : (((n : Nat) : Int) == (1 : Int)) = (n == 1) := by
      by_cases e : n = 1
      · subst e; rfl
      · have : ¬ (n : Int) = 1 := by omega
        rw [beq_eq_false_iff_ne.2 this, beq_eq_false_iff_ne.2 e]
    go_enter Try.func31, Try.ntmps31
    go_wp2_with fail
    go_ret
    exact ⟨by first | rfl | rw [hn] | simp [hn], rfl, rfl, rfl, Nat.le_refl _, fun _ _ _ => rfl⟩
theorem del_any {w : World} {b n : Nat} {D : DataW Unit} {G : ByteArray → Hd} (h : HdMap w b n D G) :
    Calls Try.prog 30 #[.map (some b), .func (.func 31) #[] #[]] w fun e w' => e = .returned (.tuple #[]) ∧ ∃ D', HdMap w' b n D' (cutG G) ∧ w.grownBy w' (some b) := by
  refine (AnyDf.maps_DeleteFunc Try.delf30 mapKeyed hdR (fun _ d => oneD d) 31 #[] b n D w (enters_of Try.func31 (by kernel_rfl) rfl) h.own ?_).mono ?_
  · intro W key val kl yd yp hg hk hv
    obtain ⟨o, rfl, e⟩ := hdR_inv hv
    simp only [Prod.mk.injEq] at e
    rw [show oneD yd = oneH o by rw [← oneD_hd, ← e.1]]
    exact del_says key o W
  · rintro e w' ⟨rfl, h1, h2⟩
    exact ⟨rfl, _, h.cut h1, h2⟩
end Go.Proofs.Ytpiapgjiaeddjaa
