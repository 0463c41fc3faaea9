/-
  Which windows share a source: mathematics, and the lists that a map holds of them.
-/
/-
  DERIVED: THE SHELF's CONTRACTS AT THIS DUMP, IN PLAIN WORDS (tools/lay-plain.mjs out of 'TryzShelfI.lean', which tools/lay-shelf.mjs wrote): THE SAME DECLARATIONS UNDER THE SAME NAMES: 'import', 'namespace', 'open', 'def', 'theorem' AND NOTHING ELSE: no command of the shelf's: FOR A HAND-IN. Each laying: the table of numbers ('.._ren') and one theorem, a field a fact of the dump's own or the kernel's comparison; each contract: ONE APPLICATION.
-/
/-
  The map after the keys that one window alone has were struck.
-/
/-
  Rows of stamps (each cell a list of marks) that one may append to.
-/
/-
  The program's agreesWithAll: whether a stamp agrees with each of some others.
-/
/-
  The program's chosenStamps: the stamps of a choice.
-/
import Derived.Test.YtknkdbfgfcgkiaaGreatDoorMerged34
import Derived.Test.YtknkdbfgfcgkiaaGreatDoorMerged36
import Derived.Shelf.SlGeneric
import Derived.Shelf.SlMaps.DeleteFunc
import Derived.Ground.SlmdProg
import Derived.Shelf.SlIter.Nil
import Derived.Shelf.SortM.Plain
import Derived.Shelf.SortM.SortNone
import Derived.Ground.GgzProg
import Derived.Ground.SlgmProg
import Derived.Test.YtknkdbfgfcgkiaaGreatDoorProg
import Derived.Handy
import Derived.Test.YtknkdbfgfcgkiaaGreatDoorMerged4
import Derived.Deep.AppendLies
import Derived.Test.YtknkdbfgfcgkiaaGreatDoorMerged20
import Derived.Test.YtknkdbfgfcgkiaaGreatDoorMerged24
set_option linter.unusedVariables false
namespace Go.Proofs.YtknkdbfgfcgkiaaGreatDoor
open Go.RowKit Go.Maps Go.Deep

/-- the stamp of a window's first item -/
def frst (ws : List (List ItemV)) (a : Nat) : List MarkV := (((ws.getD a [])[0]?).map (fun x => x.a1)).getD []
def namB (ns : List MarkV) (s : ByteArray) : Bool := ns.any (fun (x : MarkV) => decide (x.a0 = s))
/-- the windows ahead of i that have a source, and i too if it is among its first j -/
def shr (ws : List (List ItemV)) (i j : Nat) (s : ByteArray) : List Int := ((List.range i).filter (fun a => namB (frst ws a) s)).map Int.ofNat ++ (if namB ((frst ws i).take j) s then [(i : Int)] else [])
theorem namB_nil (s : ByteArray) : namB [] s = false := by simp [namB]
theorem shr_zero (ws : List (List ItemV)) (s : ByteArray) : shr ws 0 0 s = [] := by simp [shr, namB_nil]
theorem shr_next (ws : List (List ItemV)) (i : Nat) (s : ByteArray) : shr ws i (frst ws i).length s = shr ws (i + 1) 0 s := by
 unfold shr
 rw [List.take_length, List.take_zero, namB_nil, List.range_succ, List.filter_append, List.map_append]
 cases h : namB (frst ws i) s <;> simp [h]
theorem namB_step {ns : List MarkV} {j : Nat} (ha : AscM ns) (hj : j < ns.length) : namB (ns.take j) ns[j].a0 = false ∧ namB (ns.take (j + 1)) ns[j].a0 = true ∧ ∀ s, s ≠ ns[j].a0 → namB (ns.take (j + 1)) s = namB (ns.take j) s := by
 have ht : ns.take (j + 1) = ns.take j ++ [ns[j]] := List.take_succ_eq_append_getElem hj
 have has := asc_snoc (xs := ns.take j) (x := ns[j]) (by rw [← ht]; exact asc_take ha _)
 refine ⟨?_, ?_, fun s hs => ?_⟩
 ·unfold namB
  rw [List.any_eq_false]
  intro y hy
  simpa using less_ne (has.2 y hy)
 ·unfold namB
  rw [List.any_eq_true]
  exact ⟨ns[j], by rw [ht]; exact List.mem_append_right _ (List.mem_singleton.2 rfl), by simp⟩
 ·unfold namB
  rw [ht, List.any_append]
  simp [Ne.symm hs]
theorem shr_step {ws : List (List ItemV)} {i j : Nat} (ha : AscM (frst ws i)) (hj : j < (frst ws i).length) : shr ws i (j + 1) (frst ws i)[j].a0 = shr ws i j (frst ws i)[j].a0 ++ [(i : Int)] ∧ ∀ s, s ≠ (frst ws i)[j].a0 → shr ws i (j + 1) s = shr ws i j s := by
 obtain ⟨h1, h2, h3⟩ := namB_step ha hj
 refine ⟨?_, fun s hs => ?_⟩
 ·unfold shr
  rw [h1, h2]
  simp
 ·unfold shr
  rw [h3 s hs]
theorem shr_len (ws : List (List ItemV)) (i j : Nat) (s : ByteArray) : (shr ws i j s).length ≤ i + 1 := by
 unfold shr
 rw [List.length_append, List.length_map]
 have := List.length_filter_le (fun a => namB (frst ws a) s) (List.range i)
 rw [List.length_range] at this
 split <;> simp <;> omega
theorem shr_mem {ws : List (List ItemV)} {n : Nat} {s : ByteArray} {x : Int} : x ∈ shr ws n 0 s ↔ ∃ a : Nat, x = (a : Int) ∧ a < n ∧ namB (frst ws a) s = true := by
 unfold shr
 rw [List.take_zero, namB_nil]
 simp only [Bool.false_eq_true, if_false, List.append_nil, List.mem_map, List.mem_filter, List.mem_range]
 constructor
 ·rintro ⟨a, ⟨h1, h2⟩, rfl⟩
  exact ⟨a, rfl, h1, h2⟩
 ·rintro ⟨a, rfl, h1, h2⟩
  exact ⟨a, ⟨h1, h2⟩, rfl⟩
/-- a window has a source just if a choice's stamp there has it -/
theorem nam_ver {ws : List (List ItemV)} {q : List Int} (hw : winsB ws = true) (hq : InR ws q) {a : Nat} (ha : a < ws.length) (s : ByteArray) : namB (frst ws a) s = true ↔ 0 < verC ws q a s := by
 obtain ⟨k, hk, e1, e2, -, hwin⟩ := inR_stamp hw hq ha
 have h0 : 0 < ws[a].length := by omega
 have hf : frst ws a = ws[a][0].a1 := by
  unfold frst
  rw [show ws.getD a [] = ws[a] by rw [List.getD_eq_getElem?_getD, List.getElem?_eq_getElem ha]; rfl, List.getElem?_eq_getElem h0]
  rfl
 have hst := win_stamp hwin h0
 unfold verC
 rw [e2, win_same hwin s k hk h0, hf]
 unfold namB
 rw [List.any_eq_true]
 constructor
 ·rintro ⟨y, hy, e⟩
  have := getV_pos (asc_of_stamp hst) (pos_of_stamp hst) (s := s) ⟨y, hy, by simpa using e⟩
  omega
 ·intro h
  obtain ⟨x, hm, e⟩ := getV_in (ns := ws[a][0].a1) (s := s) (by omega)
  exact ⟨x, hm, by simpa using e⟩
/-- each key's list, in a row of its own that is not the row pr -/
structure ShRows (B : Nat) (w : World) (G : ByteArray → Hd) (sh : ByteArray → List Int) (pr : Option Nat) : Prop where
 row : ∀ s, InRow B w (hdV (G s)) (sh s)
 non : ∀ s, G s ≠ none → sh s ≠ []
 far : ∀ s s' g, (hdV (G s)).ownBlock = some g → (hdV (G s')).ownBlock = some g → s = s'
 off : ∀ s g, (hdV (G s)).ownBlock = some g → pr ≠ some g
theorem InRow.nilAt (B : Nat) (w : World) : InRow B w (.slice none 0 0) [] := ⟨rfl, .inl ⟨rfl, rfl⟩⟩
theorem ShRows.start (B : Nat) (w : World) (sh : ByteArray → List Int) (hs : ∀ s, sh s = []) (pr : Option Nat) : ShRows B w (fun _ => none) sh pr :=
 ⟨fun s => by rw [hs]; exact InRow.nilAt B w, fun s h => absurd rfl h, fun s s' g h => by simp [hdV, Value.ownBlock] at h, fun s g h => by simp [hdV, Value.ownBlock] at h⟩
theorem ShRows.keep {B : Nat} {w w' : World} {G : ByteArray → Hd} {sh : ByteArray → List Int} {pr : Option Nat} (h : ShRows B w G sh pr) (hk : ∀ s g, (hdV (G s)).ownBlock = some g → w'.heap[g]? = w.heap[g]?) : ShRows B w' G sh pr :=
 ⟨fun s => (h.row s).keep (hk s), h.non, h.far, h.off⟩
theorem ShRows.up {B : Nat} {w w' : World} {G : ByteArray → Hd} {sh : ByteArray → List Int} {pr : Option Nat} (h : ShRows B w G sh pr) (hb : Below w.heap.size w w') : ShRows B w' G sh pr := h.keep fun s g hg => hb.block g ((h.row s).lt g hg)
theorem ShRows.grown {B : Nat} {w w' : World} {G : ByteArray → Hd} {sh : ByteArray → List Int} {pr : Option Nat} (h : ShRows B w G sh pr) (hg : w.grownBy w' pr) : ShRows B w' G sh pr := h.keep fun s g he => hg.block g ((h.row s).lt g he) (fun e => h.off s g he e.symm)
/-- another row to keep off: the old one, or a new one -/
theorem ShRows.aim {B : Nat} {w : World} {G : ByteArray → Hd} {sh : ByteArray → List Int} {pr pr' : Option Nat} (h : ShRows B w G sh pr) (hp : ∀ g, pr' = some g → pr = some g ∨ w.heap.size ≤ g) : ShRows B w G sh pr' :=
 ⟨h.row, h.non, h.far, fun s g hg e => by
  rcases hp g e with e' | e'
  ·exact h.off s g hg e'
  ·have := (h.row s).lt g hg; omega⟩
theorem ShRows.turn {B : Nat} {S : List Nat} {w w' : World} {G : ByteArray → Hd} {sh : ByteArray → List Int} {pr : Option Nat} (h : ShRows B w G sh pr) (t : Turn S w w') (hS : ∀ k ∈ S, k < B ∨ pr = some k) : ShRows B w' G sh pr := h.keep fun s g hg => t.block g ((h.row s).lt g hg) (fun hm => by
 rcases hS g hm with e | e
 ·have := (h.row s).ge g hg; omega
 ·exact h.off s g hg e)
/-- one key's list has grown, and the map has been told -/
theorem ShRows.put {B b : Nat} {w w1 w2 : World} {G : ByteArray → Hd} {sh sh' : ByteArray → List Int} {pr : Option Nat} (h : ShRows B w G sh pr) {s : ByteArray} {y : Int} {g n c : Nat} (hb : b < B) (hp : ∀ p, pr = some p → p < w.heap.size)
  (hr : InRow B w1 (.slice (some ⟨g, 0, none⟩) n c) (sh s ++ [y])) (hg : w.grownBy w1 (hdV (G s)).ownBlock) (hl : (hdV (G s)).ownBlock = some g ∨ w.heap.size ≤ g) (h2 : w1.grownBy w2 (some b)) (hs : sh' s = sh s ++ [y]) (ho : ∀ s', s' ≠ s → sh' s' = sh s') :
  ShRows B w2 (setG G s (g, n, c)) sh' pr := by
 have hgB : B ≤ g := hr.ge g rfl
 have new : ∀ s', s' ≠ s → ∀ k, (hdV (G s')).ownBlock = some k → k ≠ g := fun s' hne k hk e => by
  subst e
  rcases hl with e | e
  ·exact hne (h.far s' s k hk e)
  ·have := (h.row s').lt k hk; omega
 refine ⟨fun s' => ?_, fun s' hn => ?_, fun s1 s2 k h1 h2 => ?_, fun s' k hk e => ?_⟩
 ·unfold setG
  by_cases e : s' = s
  ·subst e
   rw [if_pos rfl, hs]
   exact hr.keep fun k hk => h2.block k (hr.lt k hk) (fun e => by have := hr.ge k hk; simp only [Option.some.injEq] at e; omega)
  ·rw [if_neg e, ho s' e]
   have r1 := (h.row s').keep (w' := w1) fun k hk => hg.block k ((h.row s').lt k hk) (fun e' => e (h.far s' s k hk e'.symm))
   exact r1.keep fun k hk => h2.block k (r1.lt k hk) (fun e => by have := r1.ge k hk; simp only [Option.some.injEq] at e; omega)
 ·by_cases e : s' = s
  ·subst e; rw [hs]; simp
  ·rw [ho s' e]
   refine h.non s' ?_
   unfold setG at hn
   rwa [if_neg e] at hn
 ·unfold setG at h1 h2
  by_cases e1 : s1 = s <;> by_cases e2 : s2 = s
  ·rw [e1, e2]
  ·rw [if_pos e1] at h1
   rw [if_neg e2] at h2
   simp only [hdV, Value.ownBlock, Option.some.injEq] at h1
   exact absurd h1.symm (new s2 e2 k h2)
  ·rw [if_neg e1] at h1
   rw [if_pos e2] at h2
   simp only [hdV, Value.ownBlock, Option.some.injEq] at h2
   exact absurd h2.symm (new s1 e1 k h1)
  ·rw [if_neg e1] at h1
   rw [if_neg e2] at h2
   exact h.far s1 s2 k h1 h2
 ·unfold setG at hk
  by_cases e1 : s' = s
  ·rw [if_pos e1] at hk
   simp only [hdV, Value.ownBlock, Option.some.injEq] at hk
   subst hk
   rcases hl with e' | e'
   ·exact h.off s g e' e
   ·have := hp g e; omega
  ·rw [if_neg e1] at hk
   exact h.off s' k hk e
end Go.Proofs.YtknkdbfgfcgkiaaGreatDoor

namespace Go.Proofs
open Go.Shelf
def Tryz.keys127_ren : Go.Shelf.Ren := ⟨fun | 7 => 127 | 10 => 134 | n => n, fun | 23 => 192 | 26 => 9 | 3 => 37 | 28 => 199 | 0 => 0 | 27 => 198 | 33 => 141 | 4 => 4 | n => n, fun | n => n⟩
theorem Tryz.keys127 : Go.Proofs.SlLaysZ.n7 Tryz.prog Tryz.keys127_ren := {
 mixed := by kernel_rfl
 f7 := ⟨Tryz.f127.name, by decide, Tryz.func127.trans (congrArg some (by kernel_rfl))⟩
 f10 := ⟨Tryz.f134.name, by decide, Tryz.func134.trans (congrArg some (by kernel_rfl))⟩
 t0 := Tryz.underlying0
 a0 := Tryz.isAgg0
 z0 := Tryz.sizeOf0
 v0 := Tryz.zeroValue0
 t4 := Tryz.underlying4
 a4 := Tryz.isAgg4
 z4 := Tryz.sizeOf4
 v4 := Tryz.zeroValue4
 t23 := Tryz.underlying192
 a23 := Tryz.isAgg192
 z23 := Tryz.sizeOf192
 v23 := Tryz.zeroValue192
 t26 := Tryz.underlying9
 a26 := Tryz.isAgg9
 z26 := Tryz.sizeOf9
 v26 := Tryz.zeroValue9
 t27 := Tryz.underlying198
 a27 := Tryz.isAgg198
 z27 := Tryz.sizeOf198
 v27 := Tryz.zeroValue198
 t28 := Tryz.underlying199
 a28 := Tryz.isAgg199
 z28 := Tryz.sizeOf199
 v28 := Tryz.zeroValue199
 t33 := Tryz.underlying141
 a33 := Tryz.isAgg141
 z33 := Tryz.sizeOf141
 v33 := Tryz.zeroValue141 }
def Tryz.sorted126_ren : Go.Shelf.Ren := ⟨fun | 6 => 126 | 8 => 132 | 9 => 133 | 11 => 141 | 13 => 143 | 12 => 142 | 23 => 155 | 24 => 156 | 14 => 146 | 15 => 147 | 16 => 148 | 17 => 149 | 18 => 150 | 19 => 151 | 20 => 152 | 21 => 153 | 22 => 154 | 25 => 157 | 26 => 158 | 27 => 159 | 28 => 160 | 29 => 161 | 30 => 162 | 31 => 163 | n => n, fun | 26 => 9 | 28 => 199 | 24 => 22 | 0 => 0 | 3 => 3 | 37 => 215 | 48 => 226 | 50 => 228 | 4 => 4 | 40 => 219 | 39 => 218 | 45 => 201 | 5 => 5 | 9 => 9 | 51 => 229 | 55 => 233 | 57 => 235 | 58 => 236 | 33 => 141 | n => n, fun | n => n⟩
theorem Tryz.sorted126 : Go.Proofs.SlLaysZ.n6 Tryz.prog Tryz.sorted126_ren := {
 mixed := by kernel_rfl
 f6 := ⟨Tryz.f126.name, by decide, Tryz.func126.trans (congrArg some (by kernel_rfl))⟩
 f8 := ⟨Tryz.f132.name, by decide, Tryz.func132.trans (congrArg some (by kernel_rfl))⟩
 f11 := ⟨Tryz.f141.name, by decide, Tryz.func141.trans (congrArg some (by kernel_rfl))⟩
 t0 := Tryz.underlying0
 a0 := Tryz.isAgg0
 z0 := Tryz.sizeOf0
 v0 := Tryz.zeroValue0
 t24 := Tryz.underlying22
 a24 := Tryz.isAgg22
 z24 := Tryz.sizeOf22
 v24 := Tryz.zeroValue22
 t26 := Tryz.underlying9
 a26 := Tryz.isAgg9
 z26 := Tryz.sizeOf9
 v26 := Tryz.zeroValue9
 t28 := Tryz.underlying199
 a28 := Tryz.isAgg199
 z28 := Tryz.sizeOf199
 v28 := Tryz.zeroValue199
 i26 := by kernel_rfl }
def Tryz.sort133_ren : Go.Shelf.Ren := ⟨fun | 6 => 133 | 8 => 143 | 9 => 142 | 19 => 155 | 20 => 156 | 21 => 146 | 22 => 147 | 23 => 148 | 24 => 149 | 25 => 150 | 26 => 151 | 27 => 152 | 28 => 153 | 29 => 154 | 36 => 157 | 31 => 158 | 32 => 159 | 37 => 160 | 38 => 161 | 39 => 162 | 41 => 163 | n => n, fun | 27 => 22 | 29 => 9 | 3 => 3 | 32 => 215 | 26 => 22 | 0 => 0 | 44 => 226 | 46 => 228 | 4 => 4 | 36 => 219 | 35 => 218 | 41 => 201 | 5 => 5 | 9 => 9 | 53 => 229 | 57 => 233 | 63 => 235 | 64 => 236 | n => n, fun | n => n⟩
theorem Tryz.sort133 : Go.Proofs.SlLaysM.n6 Tryz.prog Tryz.sort133_ren := {
 mixed := by kernel_rfl
 f6 := ⟨Tryz.f133.name, by decide, Tryz.func133.trans (congrArg some (by kernel_rfl))⟩
 f8 := Tryz.func143.trans (congrArg some (by kernel_rfl))
 f9 := ⟨Tryz.f142.name, by decide, Tryz.func142.trans (congrArg some (by kernel_rfl))⟩
 f19 := Tryz.func155.trans (congrArg some (by kernel_rfl))
 f20 := Tryz.func156.trans (congrArg some (by kernel_rfl))
 f21 := ⟨Tryz.f146.name, by decide, Tryz.func146.trans (congrArg some (by kernel_rfl))⟩
 f22 := ⟨Tryz.f147.name, by decide, Tryz.func147.trans (congrArg some (by kernel_rfl))⟩
 f23 := ⟨Tryz.f148.name, by decide, Tryz.func148.trans (congrArg some (by kernel_rfl))⟩
 f24 := ⟨Tryz.f149.name, by decide, Tryz.func149.trans (congrArg some (by kernel_rfl))⟩
 f25 := ⟨Tryz.f150.name, by decide, Tryz.func150.trans (congrArg some (by kernel_rfl))⟩
 f26 := ⟨Tryz.f151.name, by decide, Tryz.func151.trans (congrArg some (by kernel_rfl))⟩
 f27 := ⟨Tryz.f152.name, by decide, Tryz.func152.trans (congrArg some (by kernel_rfl))⟩
 f28 := ⟨Tryz.f153.name, by decide, Tryz.func153.trans (congrArg some (by kernel_rfl))⟩
 f29 := ⟨Tryz.f154.name, by decide, Tryz.func154.trans (congrArg some (by kernel_rfl))⟩
 f31 := Tryz.func158.trans (congrArg some (by kernel_rfl))
 f32 := Tryz.func159.trans (congrArg some (by kernel_rfl))
 f36 := ⟨Tryz.f157.name, by decide, Tryz.func157.trans (congrArg some (by kernel_rfl))⟩
 f37 := ⟨Tryz.f160.name, by decide, Tryz.func160.trans (congrArg some (by kernel_rfl))⟩
 f38 := ⟨Tryz.f161.name, by decide, Tryz.func161.trans (congrArg some (by kernel_rfl))⟩
 f39 := ⟨Tryz.f162.name, by decide, Tryz.func162.trans (congrArg some (by kernel_rfl))⟩
 f41 := ⟨Tryz.f163.name, by decide, Tryz.func163.trans (congrArg some (by kernel_rfl))⟩
 t0 := Tryz.underlying0
 a0 := Tryz.isAgg0
 z0 := Tryz.sizeOf0
 v0 := Tryz.zeroValue0
 t3 := Tryz.underlying3
 a3 := Tryz.isAgg3
 z3 := Tryz.sizeOf3
 v3 := Tryz.zeroValue3
 t4 := Tryz.underlying4
 a4 := Tryz.isAgg4
 z4 := Tryz.sizeOf4
 v4 := Tryz.zeroValue4
 t5 := Tryz.underlying5
 a5 := Tryz.isAgg5
 z5 := Tryz.sizeOf5
 v5 := Tryz.zeroValue5
 t9 := Tryz.underlying9
 a9 := Tryz.isAgg9
 z9 := Tryz.sizeOf9
 v9 := Tryz.zeroValue9
 t26 := Tryz.underlying22
 a26 := Tryz.isAgg22
 z26 := Tryz.sizeOf22
 v26 := Tryz.zeroValue22
 t27 := Tryz.underlying22
 a27 := Tryz.isAgg22
 z27 := Tryz.sizeOf22
 v27 := Tryz.zeroValue22
 t29 := Tryz.underlying9
 a29 := Tryz.isAgg9
 z29 := Tryz.sizeOf9
 v29 := Tryz.zeroValue9
 t32 := Tryz.underlying215
 a32 := Tryz.isAgg215
 z32 := Tryz.sizeOf215
 v32 := Tryz.zeroValue215
 t35 := Tryz.underlying218
 a35 := Tryz.isAgg218
 z35 := Tryz.sizeOf218
 v35 := Tryz.zeroValue218
 t36 := Tryz.underlying219
 a36 := Tryz.isAgg219
 z36 := Tryz.sizeOf219
 v36 := Tryz.zeroValue219
 t41 := Tryz.underlying201
 a41 := Tryz.isAgg201
 z41 := Tryz.sizeOf201
 v41 := Tryz.zeroValue201
 t44 := Tryz.underlying226
 a44 := Tryz.isAgg226
 z44 := Tryz.sizeOf226
 v44 := Tryz.zeroValue226
 t46 := Tryz.underlying228
 a46 := Tryz.isAgg228
 z46 := Tryz.sizeOf228
 v46 := Tryz.zeroValue228
 t53 := Tryz.underlying229
 a53 := Tryz.isAgg229
 z53 := Tryz.sizeOf229
 v53 := Tryz.zeroValue229
 t57 := Tryz.underlying233
 a57 := Tryz.isAgg233
 z57 := Tryz.sizeOf233
 v57 := Tryz.zeroValue233
 t63 := Tryz.underlying235
 a63 := Tryz.isAgg235
 z63 := Tryz.sizeOf235
 v63 := Tryz.zeroValue235
 t64 := Tryz.underlying236
 a64 := Tryz.isAgg236
 z64 := Tryz.sizeOf236
 v64 := Tryz.zeroValue236 }
def Tryz.delf124_ren : Go.Shelf.Ren := ⟨fun | 5 => 124 | n => n, fun | 23 => 192 | 26 => 9 | 24 => 37 | 27 => 196 | 0 => 0 | 4 => 4 | n => n, fun | n => n⟩
theorem Tryz.delf124 : Go.Proofs.SlLaysDf.n5 Tryz.prog Tryz.delf124_ren := {
 mixed := by kernel_rfl
 f5 := ⟨Tryz.f124.name, by decide, Tryz.func124.trans (congrArg some (by kernel_rfl))⟩
 t0 := Tryz.underlying0
 a0 := Tryz.isAgg0
 z0 := Tryz.sizeOf0
 v0 := Tryz.zeroValue0
 t4 := Tryz.underlying4
 a4 := Tryz.isAgg4
 z4 := Tryz.sizeOf4
 v4 := Tryz.zeroValue4
 t23 := Tryz.underlying192
 a23 := Tryz.isAgg192
 z23 := Tryz.sizeOf192
 v23 := Tryz.zeroValue192
 a24 := Tryz.isAgg37
 z24 := Tryz.sizeOf37
 a26 := Tryz.isAgg9
 z26 := Tryz.sizeOf9
 t27 := Tryz.underlying196
 a27 := Tryz.isAgg196
 z27 := Tryz.sizeOf196
 v27 := Tryz.zeroValue196 }
end Go.Proofs

set_option linter.unusedVariables false
namespace Go.Proofs.YtknkdbfgfcgkiaaGreatDoor
open Go.RowKit Go.Maps Go.Deep

theorem df_both {pd : Lit → DataW Unit → Bool} {es : List (Lit × DataW Unit)} (hap : es.Pairwise (fun p q => p.1 ≠ q.1)) {k : Lit} (hk : WideAt.IsKeyLit k) :
  Maps.has (Lib.deleteFuncD pd (.map es)) k = (Maps.has (.map es) k && !pd k ((DataW.map es).atKey k .nil)) ∧ (Lib.deleteFuncD pd (.map es)).atKey k .nil = if (Maps.has (.map es) k && !pd k ((DataW.map es).atKey k .nil)) then (DataW.map es).atKey k .nil else .nil := by
 have hap' : (es.filter fun p => !pd p.1 p.2).Pairwise (fun p q => p.1 ≠ q.1) := hap.filter _
 have hno : ∀ {fs : List (Lit × DataW Unit)}, Maps.has (.map fs) k = false → (DataW.map fs).atKey k .nil = .nil := fun h => atKey_of_not_has h .nil
 cases hh : Maps.has (.map es) k
 ·have h2 : Maps.has (Lib.deleteFuncD pd (.map es)) k = false := by
   unfold Lib.deleteFuncD
   rw [has_eq] at hh ⊢
   rw [List.any_eq_false] at hh ⊢
   exact fun p hp => hh p (List.mem_filter.1 hp).1
  refine ⟨by rw [h2]; simp, ?_⟩
  simp only [Bool.false_and, Bool.false_eq_true, if_false]
  exact hno h2
 ·rw [has_eq, List.any_eq_true] at hh
  obtain ⟨p, hp, hs⟩ := hh
  have e := WideAt.sameKey_eq hs
  have hm : (k, p.2) ∈ es := by rw [← e]; exact hp
  have hat := WideAt.atKey_mem .nil hk hap hm
  rw [hat]
  cases hpd : pd k p.2
  ·have hm' : (k, p.2) ∈ es.filter fun p => !pd p.1 p.2 := List.mem_filter.2 ⟨hm, by simp [hpd]⟩
   have hat' := WideAt.atKey_mem .nil hk hap' hm'
   refine ⟨?_, ?_⟩
   ·unfold Lib.deleteFuncD
    rw [has_eq]
    simp only [Bool.not_false, Bool.and_true, List.any_eq_true]
    exact ⟨_, hm', WideAt.sameKey_self hk⟩
   ·simp only [Bool.not_false, Bool.and_true, if_true]
    exact hat'
  ·have h2 : Maps.has (Lib.deleteFuncD pd (.map es)) k = false := by
    unfold Lib.deleteFuncD
    rw [has_eq, List.any_eq_false]
    intro q hq hs'
    obtain ⟨hq1, hq2⟩ := List.mem_filter.1 hq
    have e' := WideAt.sameKey_eq hs'
    have hmq : (k, q.2) ∈ es := by rw [← e']; exact hq1
    have e2 : q.2 = p.2 := (WideAt.atKey_mem .nil hk hap hmq).symm.trans hat
    rw [e', e2, hpd] at hq2
    simp at hq2
   refine ⟨by rw [h2]; simp, ?_⟩
   simp only [Bool.not_true, Bool.and_false, Bool.false_eq_true, if_false]
   exact hno h2
def oneD : DataW Unit → Bool
 | .slice [_, .lit (.int _ n), _] _ => n == 1
 | _ => false
def oneH : Hd → Bool
 | none => false
 | some (_, n, _) => n == 1
theorem oneD_hd (o : Hd) : oneD (hdD o) = oneH o := by
 rcases o with _ | ⟨g, n, c⟩
 ·rfl
 ·show ((n : Int) == 1) = (n == 1)
  by_cases e : n = 1
  ·subst e; rfl
  ·have : ¬ (n : Int) = 1 := by omega
   rw [beq_eq_false_iff_ne.2 this, beq_eq_false_iff_ne.2 e]
/-- the lists of more than one window -/
def cutG (G : ByteArray → Hd) : ByteArray → Hd := fun s => if oneH (G s) then none else G s
theorem HdMap.cut {w w' : World} {b n : Nat} {D : DataW Unit} {G : ByteArray → Hd} (h : HdMap w b n D G) (h' : w'.ownsMap Tryz.prog 9 hdR b n (Lib.deleteFuncD (fun _ d => oneD d) D)) : HdMap w' b n (Lib.deleteFuncD (fun _ d => oneD d) D) (cutG G) := by
 obtain ⟨es, rfl, hap⟩ := h.own.tidy mapKeyed
 have both := fun s => df_both (pd := fun _ d => oneD d) hap (k := keyL s) trivial
 refine ⟨h', fun s => ?_, fun s => ?_⟩
 ·rw [(both s).2, h.there s, h.gives s, oneD_hd]
  unfold cutG
  cases hg : G s with
  | none => rfl
  | some o => cases ho : oneH (some o) <;> simp [hdD]
 ·rw [(both s).1, h.there s, h.gives s, oneD_hd]
  unfold cutG
  cases hg : G s with
  | none => rfl
  | some o => cases ho : oneH (some o) <;> simp
theorem del_says (key : Value) (o : Hd) (w : World) : Calls Tryz.prog 125 #[key, hdV o] w fun e w' => e = .returned (.bool (oneH o)) ∧ w.grownBy w' none := by
 rcases o with _ | ⟨g, n, c⟩
 ·simp only [hdV, oneH]
  go_enter Tryz.func125, Tryz.ntmps125
  go_wp2_with fail
  go_ret
  exact ⟨rfl, rfl, rfl, rfl, Nat.le_refl _, fun _ _ _ => rfl⟩
 ·simp only [hdV, oneH]
  have hn : (((n : Nat) : Int) == (1 : Int)) = (n == 1) := by
   by_cases e : n = 1
   ·subst e; rfl
   ·have : ¬ (n : Int) = 1 := by omega
    rw [beq_eq_false_iff_ne.2 this, beq_eq_false_iff_ne.2 e]
  go_enter Tryz.func125, Tryz.ntmps125
  go_wp2_with fail
  go_ret
  exact ⟨by first | rfl | rw [hn] | simp [hn], rfl, rfl, rfl, Nat.le_refl _, fun _ _ _ => rfl⟩
theorem del_any {w : World} {b n : Nat} {D : DataW Unit} {G : ByteArray → Hd} (h : HdMap w b n D G) :
  Calls Tryz.prog 124 #[.map (some b), .func (.func 125) #[] #[]] w fun e w' => e = .returned (.tuple #[]) ∧ ∃ D', HdMap w' b n D' (cutG G) ∧ w.grownBy w' (some b) := by
 refine (AnyDf.maps_DeleteFunc Tryz.delf124 mapKeyed hdR (fun _ d => oneD d) 125 #[] b n D w (enters_of Tryz.func125 (by kernel_rfl) rfl) h.own ?_).mono ?_
 ·intro W key val kl yd yp hg hk hv
  obtain ⟨o, rfl, e⟩ := hdR_inv hv
  simp only [Prod.mk.injEq] at e
  rw [show oneD yd = oneH o by rw [← oneD_hd, ← e.1]]
  exact del_says key o W
 ·rintro e w' ⟨rfl, h1, h2⟩
  exact ⟨rfl, _, h.cut h1, h2⟩
end Go.Proofs.YtknkdbfgfcgkiaaGreatDoor

set_option linter.unusedVariables false
namespace Go.Proofs.YtknkdbfgfcgkiaaGreatDoor
open Go.RowKit Go.Maps Go.Deep

def SlRow (B : Nat) (w : World) (v : Value) (vs : List Value) : Prop := w.ownsRow B 34 1 v vs.length vs
theorem SlRow.nil (B : Nat) (w : World) : SlRow B w (.slice none 0 0) [] := ⟨rfl, .inl ⟨rfl, rfl⟩⟩
theorem SlRow.slice {B : Nat} {w : World} {v : Value} {vs : List Value} (h : SlRow B w v vs) : (v = .slice none 0 0 ∧ vs = []) ∨ ∃ g c, v = .slice (some ⟨g, 0, none⟩) vs.length c ∧ vs.length ≤ c ∧ g < w.heap.size ∧ ∀ i (h : i < vs.length), w.cell? ⟨g, i, none⟩ = some vs[i] := by
 have hh : w.ownsRow B 34 1 v vs.length vs := h
 rcases h with ⟨_, ⟨rfl, h0⟩ | ⟨g, cap, cur, rfl, hB, hg, hnc, _⟩⟩
 ·exact .inl ⟨rfl, List.eq_nil_of_length_eq_zero h0⟩
 ·refine .inr ⟨g, cap, rfl, hnc, (Array.getElem?_eq_some_iff.1 hg).1, fun i hi => ?_⟩
  rw [hh.cellAt _ (by omega)]
  exact List.getElem?_eq_getElem hi
theorem SlRow.ge {B : Nat} {w : World} {v : Value} {vs : List Value} (h : SlRow B w v vs) : ∀ g, v.ownBlock = some g → B ≤ g := by
 intro g hg
 rcases h.2 with ⟨rfl, _⟩ | ⟨g', cap, cur, rfl, hB, _⟩
 ·simp [Value.ownBlock] at hg
 ·simp [Value.ownBlock] at hg; omega
theorem SlRow.lt {B : Nat} {w : World} {v : Value} {vs : List Value} (h : SlRow B w v vs) : ∀ g, v.ownBlock = some g → g < w.heap.size := by
 intro g hg
 rcases h.2 with ⟨rfl, _⟩ | ⟨g', cap, cur, rfl, hB, hh, _⟩
 ·simp [Value.ownBlock] at hg
 ·simp [Value.ownBlock] at hg
  subst hg
  exact (Array.getElem?_eq_some_iff.1 hh).1
theorem SlRow.keep {B : Nat} {w w' : World} {v : Value} {vs : List Value} (h : SlRow B w v vs) (hk : ∀ g, v.ownBlock = some g → w'.heap[g]? = w.heap[g]?) : SlRow B w' v vs := by
 rcases h with ⟨hl, h | ⟨g, cap, cur, rfl, hB, hg, hr⟩⟩
 ·exact ⟨hl, .inl h⟩
 ·exact ⟨hl, .inr ⟨g, cap, cur, rfl, hB, (hk g rfl).trans hg, hr⟩⟩
theorem SlRow.up {B : Nat} {w w' : World} {v : Value} {vs : List Value} (h : SlRow B w v vs) (hb : Below w.heap.size w w') : SlRow B w' v vs := h.keep (fun g hg => hb.block g (h.lt g hg))
theorem infoSl : (Tryz.prog.info? 34).map (fun i => (i.zero, i.size, i.bytes)) = some (some (.slice none 0 0), 1, 24) := by kernel_rfl
theorem news_sl {w : World} {g : Nat} {x : Value} (c0 : w.cell? ⟨g, 0, none⟩ = some x) : ∀ j u, ([x] : List Value)[j]? = some u → w.cell? ((⟨g, 0, none⟩ : Addr).add j) = some u := by
 intro j u hj
 match j, hj with
 | 0, hj => simp at hj; subst hj; simpa [Addr.add] using c0
/-- one more stamp -/
theorem wpList_slAppend {w : World} {ops : Array Oper} {rest : List Oper} {o : Oper} {a : Act} {Q : Exit → Act → World → Prop} (hgd : o.guard = none) (s x : Operand)
  (ho : o.op = .call { callee := .builtin .append, args := #[s, x], argTypes := #[203, 203] }) (B : Nat) (v : Value) (vs : List Value) (ya : Option Addr) (yn yc : Nat) (g : Nat) (hs : a.eval s = v) (hx : a.eval x = .slice (some ⟨g, 0, none⟩) 1 1)
  (hv : SlRow B w v vs) (c0 : w.cell? ⟨g, 0, none⟩ = some (.slice ya yn yc)) (hl : vs.length ≤ 1000000) (hB : B ≤ w.heap.size)
  (h : ∀ g' n c w', SlRow B w' (.slice (some ⟨g', 0, none⟩) n c) (vs ++ [.slice ya yn yc]) → n = vs.length + 1 → w.grownBy w' v.ownBlock → wpList Tryz.prog ops Q rest (a.put o.dst (.slice (some ⟨g', 0, none⟩) n c)) w') : wpList Tryz.prog ops Q (o :: rest) a w := by
 obtain ⟨i0, hi, hz0, hz1, hz2⟩ := info_parts1 infoSl
 refine wpList_append_lies w hgd s x 203 ho B 34 i0 _ 1 24 Tryz.underlying203 hi hz0 hz1 hz2 rfl (by decide) v vs.length vs hs hv ⟨g, 0, none⟩ 1 1 [.slice ya yn yc] hx rfl (news_sl c0) (by intro u hu; simp at hu; rw [hu]; rfl) (by decide) (by unfold maxLen; omega) (by omega) hB w.heap.size rfl ?_
 intro g' cap w' h2 h3 h4 h5
 refine h g' _ cap w' ?_ rfl h3
 unfold SlRow
 rw [List.length_append]
 exact h2
end Go.Proofs.YtknkdbfgfcgkiaaGreatDoor

set_option linter.unusedVariables false
namespace Go.Proofs.YtknkdbfgfcgkiaaGreatDoor
open Go.RowKit Go.Maps Go.Deep

def agAll (s : List MarkV) (ss : List (List MarkV)) : Bool := ss.all (agreeOut s)
theorem agAll_no {s : List MarkV} {ss : List (List MarkV)} {k : Nat} (hk : k < ss.length) (h : agreeOut s ss[k] = false) : agAll s ss = false := by
 unfold agAll
 rw [List.all_eq_false]
 exact ⟨ss[k], List.getElem_mem hk, by simp [h]⟩
theorem agAll_yes {s : List MarkV} {ss : List (List MarkV)} (h : ∀ k (hk : k < ss.length), agreeOut s ss[k] = true) : agAll s ss = true := by
 unfold agAll
 rw [List.all_eq_true]
 intro x hx
 obtain ⟨k, hk, rfl⟩ := List.getElem_of_mem hx
 exact h k hk
/-- the stamps that a row's cells have -/
def StsAt (w : World) (g : Nat) (ss : List (List MarkV)) : Prop := ∀ i (h : i < ss.length), ∃ a n c, w.cell? ⟨g, i, none⟩ = some (.slice a n c) ∧ MarkSRd w (.slice a n c) ss[i]
theorem StsAt.up {w w' : World} {g : Nat} {ss : List (List MarkV)} (h : StsAt w g ss) (hg : g < w.heap.size) (hw : Below w.heap.size w w') : StsAt w' g ss := by
 intro i hi
 obtain ⟨a, n, c, h1, h2⟩ := h i hi
 exact ⟨a, n, c, (hw.cell (by exact hg)).trans h1, h2.up hw⟩
set_option maxHeartbeats 3200000 in
theorem agreesWithAll_row (s : List MarkV) (ss : List (List MarkV)) (v : Value) (g cap : Nat) (w : World) (hs : SmallMarkS s) (hss : ∀ x ∈ ss, SmallMarkS x) (hl : ss.length ≤ 1048576) (hv : MarkSRd w v s) (hg : g < w.heap.size) (hc : StsAt w g ss) :
  Calls Tryz.prog 130 #[v, .slice (some ⟨g, 0, none⟩) ss.length cap] w fun e w' => e = .returned (.bool (agAll s ss)) ∧ Below w.heap.size w w' := by
 have HC := hide hc
 have HS := hide hss
 have HV := hide (fun (W : World) (b : Below w.heap.size w W) => hv.up b)
 obtain ⟨a, n, c, rfl⟩ := hv.form
 clear hc hss hv
 go_enter Tryz.func130, Tryz.ntmps130
 go_wp2_with fail
 go_loopw [9] (fun i wr => ∃ (k : Nat), k ≤ ss.length ∧ i = .int .i64 k ∧ Hid (∀ j (hj : j < ss.length), j < k → agreeOut s ss[j] = true) ∧ Hid (Below w.heap.size w wr)) (fun i _ => ss.length - (intOf i).toNat)
 case atStart => exact ⟨0, Nat.zero_le _, rfl, hide (fun j _ hj => absurd hj (Nat.not_lt_zero _)), Below.refl _ _⟩
 case round =>
  obtain ⟨k, hk, rfl, HN, HB⟩ := hrel
  by_cases hlt : k < ss.length
  ·obtain ⟨xa, xn, xc, c0, hx⟩ := (unhide HC).up hg (unhide HB) k hlt
   have HA := hide (implAgree_any s (.slice a n c) ss[k] (.slice xa xn xc) wr hs (unhide HS _ (List.getElem_mem hlt)) (unhide HV _ (unhide HB)) hx)
   have HNO := hide (fun h => agAll_no (s := s) hlt h)
   have HYES := hide (show agreeOut s ss[k] = true → ∀ j (hj : j < ss.length), j < k + 1 → agreeOut s ss[j] = true from fun h j hj hjk => by
    by_cases e : j = k
    ·subst e; exact h
    ·exact unhide HN j hj (by omega))
   clear hx
   cases hw : agreeOut s ss[k]
   ·rw [hw] at HA
    have HE := hide (unhide HNO hw)
    clear HYES HNO hw
    go_wp2_with fail
    refine (unhide HA).mono ?_
    rintro e w1 ⟨rfl, b1⟩
    have B1 := hide ((unhide HB).trans (b1.mono (unhide HB).size))
    clear b1 c0
    go_wp2_with fail
    go_ret
    exact ⟨ret_bool (unhide HE).symm, unhide B1⟩
   ·rw [hw] at HA
    have HY := hide (unhide HYES hw)
    clear HYES HNO hw
    go_wp2_with fail
    refine (unhide HA).mono ?_
    rintro e w1 ⟨rfl, b1⟩
    have B1 := hide ((unhide HB).trans (b1.mono (unhide HB).size))
    clear b1 c0
    go_wp2_with fail
    go_roundw
    case rel => exact ⟨k + 1, by omega, by go_num, HY, B1⟩
    case measure => simp [intOf]; omega
  ·have HE := hide (agAll_yes (fun j hj => unhide HN j hj (by omega)))
   go_wp2_with fail
   go_ret
   exact ⟨ret_bool (unhide HE).symm, unhide HB⟩
end Go.Proofs.YtknkdbfgfcgkiaaGreatDoor

set_option linter.unusedVariables false
namespace Go.Proofs.YtknkdbfgfcgkiaaGreatDoor
open Go.RowKit Go.Maps Go.Deep

def pickB (ws : List (List ItemV)) (ps : List Int) : Bool := winsB ws && (decide (ps.length = ws.length) && inB ws ps)
theorem pick_no1 {ws : List (List ItemV)} {ps : List Int} (h : winsB ws = false) : pickB ws ps = false := by simp [pickB, h]
theorem pick_no2 {ws : List (List ItemV)} {ps : List Int} (h : ps.length ≠ ws.length) : pickB ws ps = false := by simp [pickB, h]
theorem pick_no3 {ws : List (List ItemV)} {ps : List Int} (h : inB ws ps = false) : pickB ws ps = false := by simp [pickB, h]
theorem pick_yes {ws : List (List ItemV)} {ps : List Int} (h1 : winsB ws = true) (h2 : ps.length = ws.length) (h3 : inB ws ps = true) : pickB ws ps = true := by simp [pickB, h1, h2, h3]
/-- the cells of a row are the stamps of the chosen items (of the world where they were handed in) -/
def StampsTo (w : World) (ws : List (List ItemV)) (ps : List Int) (vs : List Value) : Prop := ∀ j (h : j < vs.length), ∃ a n c, vs[j] = .slice a n c ∧ MarkSRd w (.slice a n c) (stampAt ws ps j) ∧ SmallMarkS (stampAt ws ps j)
theorem stampsTo_nil (w : World) (ws : List (List ItemV)) (ps : List Int) : StampsTo w ws ps [] := fun j h => by simp at h
theorem stampsTo_snoc {w : World} {ws : List (List ItemV)} {ps : List Int} {vs : List Value} {a : Option Addr} {n c : Nat} (h : StampsTo w ws ps vs) (hm : MarkSRd w (.slice a n c) (stampAt ws ps vs.length)) (hs : SmallMarkS (stampAt ws ps vs.length)) : StampsTo w ws ps (vs ++ [.slice a n c]) := by
 intro j hj
 by_cases e : j < vs.length
 ·obtain ⟨a', n', c', h1, h2⟩ := h j e
  exact ⟨a', n', c', by rw [List.getElem_append_left e]; exact h1, h2⟩
 ·obtain rfl : j = vs.length := by simp at hj; omega
  exact ⟨a, n, c, by simp, hm, hs⟩
def RetChosen (ws : List (List ItemV)) (ps : List Int) (w : World) (e : Ending) (w' : World) : Prop :=
 (pickB ws ps = false ∧ e = .returned (.tuple #[.slice none 0 0, .bool false]) ∧ Below w.heap.size w w') ∨
 (pickB ws ps = true ∧ ∃ a n c vs, e = .returned (.tuple #[.slice a n c, .bool true]) ∧ n = ps.length ∧ Hid (SlRow w.heap.size w' (.slice a n c) vs) ∧ Hid (vs.length = ps.length) ∧ Hid (StampsTo w ws ps vs) ∧ Below w.heap.size w w')
theorem place_facts {w : World} {b off : Nat} {ws : List (List ItemV)} {ps : List Int} {i : Nat} (hs : SmallItemSS ws) (hc : WinsAt w b off ws) (hi : i < ps.length) (hl : ps.length ≤ ws.length) (hp : placeB ws ps i = true) :
  ∃ (q bi oi ni ci : Nat) (ma : Option Addr) (mn mc : Nat), ps[i] = (q : Int) ∧ q < ni ∧ ni ≤ 1048576 ∧ w.cell? ⟨b, off + i, none⟩ = some (.slice (some ⟨bi, oi, none⟩) ni ci) ∧ w.cell? ⟨bi, oi + q * 2 + 1, none⟩ = some (.slice ma mn mc) ∧ MarkSRd w (.slice ma mn mc) (stampAt ws ps i) ∧ SmallMarkS (stampAt ws ps i) ∧ bi < w.heap.size ∧ (∃ n : Int, w.cell? ⟨bi, oi + q * 2, none⟩ = some (.int .i64 n)) := by
 have hiw : i < ws.length := by omega
 unfold placeB at hp
 simp only [List.getD_eq_getElem?_getD, List.getElem?_eq_getElem hi, List.getElem?_eq_getElem hiw, Option.getD_some, Bool.and_eq_true, decide_eq_true_eq] at hp
 obtain ⟨q, hq⟩ : ∃ q : Nat, ps[i] = (q : Int) := ⟨ps[i].toNat, by omega⟩
 have hqn : q < ws[i].length := by omega
 obtain ⟨v, c, hv⟩ := hc i hiw
 have hsm := hs.2 _ (List.getElem_mem hiw)
 obtain ⟨a, cc, rfl, hin'⟩ := hv
 rcases hin' with h0 | ⟨bi, oi, rfl, hbi, hat⟩
 ·rw [h0] at hqn; simp at hqn
 obtain ⟨e0, v', e1, hm⟩ := hat q hqn
 have hst : stampAt ws ps i = ws[i][q].a1 := by
  unfold stampAt
  simp only [List.getD_eq_getElem?_getD, List.getElem?_eq_getElem hi, List.getElem?_eq_getElem hiw, Option.getD_some, hq, Int.toNat_natCast, List.getElem?_eq_getElem hqn, Option.map_some]
 obtain ⟨ma, mn, mc, rfl⟩ := hm.form
 exact ⟨q, bi, oi, ws[i].length, cc, ma, mn, mc, hq, hqn, hsm.1, c, e1, hst ▸ hm, hst ▸ (hsm.2 _ (List.getElem_mem hqn)).2, hbi, ⟨_, e0⟩⟩
set_option maxHeartbeats 6400000 in
theorem chosen_any (ws : List (List ItemV)) (v : Value) (ps : List Int) (u : Value) (w : World) (hs : SmallItemSS ws) (hsp : SmallIntS ps) (h : ItemSSRd w v ws) (hp : IntSRd w u ps) :
  Calls Tryz.prog 129 #[v, u] w fun e w' => RetChosen ws ps w e w' := by
 have HK := hide (windowsOk_any ws v w hs h)
 have hsl := hs.1
 have hpl := hsp.1
 obtain ⟨a, c, rfl, h⟩ := h
 obtain ⟨a2, c2, rfl, hp⟩ := hp
 cases hw : winsB ws
 ·rw [hw] at HK
  have HE := hide (pick_no1 (ps := ps) hw)
  clear h hp hw
  go_enter Tryz.func129, Tryz.ntmps129
  go_wp2_with fail
  refine (unhide HK).mono ?_
  rintro e w1 ⟨rfl, b1⟩
  go_wp2_with fail
  go_ret2
  exact .inl ⟨unhide HE, rfl, b1⟩
 rw [hw] at HK
 by_cases hlen : ps.length = ws.length
 ·have HL := hide hlen
  obtain ⟨h1, h6⟩ := winsB_len hw
  rcases h with rfl | ⟨b, off, rfl, hb, hc⟩
  ·simp at h1
  rcases hp with rfl | ⟨b2, off2, rfl, hb2, hpc⟩
  ·simp at hlen; omega
  have HC := hide hc
  have HP := hide hpc
  have HS := hide hs
  have HCA := hide (fun h3 => pick_yes hw hlen h3)
  rw [← hlen] at HK ⊢
  have hl6 : ps.length ≤ 6 := by omega
  have HL6 := hide hl6
  clear hc hpc hs hw hlen h1 h6 hsl hpl
  go_enter Tryz.func129, Tryz.ntmps129
  go_wp2_with fail
  refine (unhide HK).mono ?_
  rintro e w1 ⟨rfl, b1⟩
  have B1 := hide b1
  clear b1
  go_wp2_with fail
  go_loopw [6, 21] (fun o i wr => ∃ (k : Nat) (a : Option Addr) (cc : Nat) (vs : List Value), k ≤ ps.length ∧ i = .int .i64 k ∧ o = .slice a k cc ∧ Hid (SlRow w.heap.size wr (.slice a k cc) vs) ∧ Hid (vs.length = k) ∧ Hid (StampsTo w ws ps vs) ∧ Hid (∀ j, j < k → placeB ws ps j = true) ∧ Hid (Below w.heap.size w wr)) (fun _ i _ => ps.length - (intOf i).toNat)
  case atStart => exact ⟨0, none, 0, [], Nat.zero_le _, rfl, rfl, hide (SlRow.nil _ _), hide rfl, hide (stampsTo_nil _ _ _), hide (fun j hj => absurd hj (Nat.not_lt_zero _)), B1⟩
  case round =>
   obtain ⟨k, ar, cr, vs, hk, rfl, rfl, HR, HVL, HT, HN, HB⟩ := hrel
   by_cases hlt : k < ps.length
   ·have hkw : k < ws.length := by have := unhide HL; omega
    have p1 := (unhide HP).up hb2 (unhide HB) k hlt
    have HNO := hide (fun h => pick_no3 (place_no (ws := ws) hlt h))
    have HYES := hide (show placeB ws ps k = true → ∀ j, j < k + 1 → placeB ws ps j = true from fun h j hjk => by
     by_cases e : j = k
     ·subst e; exact h
     ·exact unhide HN j (by omega))
    cases hpb : placeB ws ps k
    ·obtain ⟨v, c1, hv⟩ := (unhide HC).up hb (unhide HB) k hkw
     have hwl := ((unhide HS).2 _ (List.getElem_mem hkw)).1
     have HPB := hide hpb
     have HE := hide (unhide HNO hpb)
     unfold placeB at HPB
     simp only [List.getD_eq_getElem?_getD, List.getElem?_eq_getElem hlt, List.getElem?_eq_getElem hkw, Option.getD_some] at HPB
     obtain ⟨va, vc, rfl, _⟩ := hv
     clear HNO HYES hpb HN HT HVL HR
     generalize ps[k] = p at *
     generalize ws[k].length = n at *
     by_cases h0 : p < 0
     ·go_wp2_with fail
      go_ret2
      exact .inl ⟨unhide HE, rfl, unhide HB⟩
     ·have h2 : (n : Int) ≤ p := by
       have := unhide HPB
       rw [decide_eq_true (by omega : 0 ≤ p)] at this
       simp at this
       exact this
      go_wp2_with fail
      go_ret2
      exact .inl ⟨unhide HE, rfl, unhide HB⟩
    ·have HY := hide (unhide HYES hpb)
     obtain ⟨q, bi, oi, ni, ci, ma, mn, mc, e1, hq, hni, c1, d1, hm1, hsm1, hbi, -⟩ := place_facts (unhide HS) (unhide HC) hlt (by have := unhide HL; omega) hpb
     have c1' := ((unhide HB).cell (show b < w.heap.size from hb)).trans c1
     have d1' := ((unhide HB).cell (show bi < w.heap.size from hbi)).trans d1
     have HT2 := hide (show StampsTo w ws ps (vs ++ [.slice ma mn mc]) from stampsTo_snoc (unhide HT) (by rw [unhide HVL]; exact hm1) (by rw [unhide HVL]; exact hsm1))
     rw [e1] at p1
     have R1 := hide ((unhide HR).up ((Below.refl _ _).alloc (Nat.le_refl _) (.cells #[.slice ma mn mc] 34)))
     have B1 := hide ((unhide HB).alloc (unhide HB).size (.cells #[.slice ma mn mc] 34))
     have hnew : (wr.alloc (.cells #[.slice ma mn mc] 34)).cell? ⟨wr.heap.size, 0, none⟩ = some (.slice ma mn mc) := by
      rw [World.cell?_alloc_at _ _ _ _ rfl]
      rfl
     have HC0 := hide hnew
     clear hnew HNO HYES hpb HN HT HR hm1 hsm1 c1 d1 e1
     have h0 : ¬ (q : Int) < 0 := by omega
     have h2 : ¬ (ni : Int) ≤ (q : Int) := by omega
     go_wp2_with (first
      | (at_builtin; refine wpList_slAppend rfl _ _ rfl w.heap.size (.slice ar k cr) vs ma mn mc wr.heap.size rfl rfl (unhide R1) (unhide HC0) (by have := unhide HVL; omega) (unhide B1).size ?_; intro g2 n2 c2 w2 r2 hn2 gr2; have R2 := hide r2; have HN2 := hide hn2; have B2 := hide ((unhide B1).grown gr2 (unhide B1).size (fun y hy => (unhide R1).ge y hy)); clear r2 gr2 R1 hn2)
      | fail)
     obtain rfl : n2 = k + 1 := by have := unhide HVL; have := unhide HN2; omega
     go_roundw
     case rel => exact ⟨k + 1, some ⟨g2, 0, none⟩, c2, _, by omega, by go_num, rfl, R2, hide (by have := unhide HVL; simp; omega), HT2, HY, B2⟩
     case measure => simp [intOf]; omega
   ·have HE := hide (unhide HCA (place_yes (fun j hj => unhide HN j (by omega))))
    obtain rfl : k = ps.length := by omega
    go_wp2_with fail
    go_ret2
    exact .inr ⟨unhide HE, ar, _, cr, vs, rfl, rfl, HR, HVL, HT, unhide HB⟩
 ·have HE := hide (pick_no2 hlen)
  have q1 : ((ps.length : Int) == (ws.length : Int)) = false := by simp; omega
  have q2 : ((ps.length : Int) != (ws.length : Int)) = true := by simp; omega
  have HPN := hide (fun W (b : Below w.heap.size w W) => show RetChosen ws ps w (.returned (.tuple #[.slice none 0 0, .bool false])) W from .inl ⟨unhide HE, rfl, b⟩)
  generalize ps.length = n at *
  generalize ws.length = m at *
  clear h hp hw HE hlen
  go_enter Tryz.func129, Tryz.ntmps129
  go_wp2_with fail
  refine (unhide HK).mono ?_
  rintro e w1 ⟨rfl, b1⟩
  go_wp2_with fail
  go_ret2
  exact unhide HPN _ b1
end Go.Proofs.YtknkdbfgfcgkiaaGreatDoor
