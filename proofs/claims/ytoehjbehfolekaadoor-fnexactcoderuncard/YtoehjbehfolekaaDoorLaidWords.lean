/-
  What the rows' list says of the program's tables of words: their cells hold them.
-/
import Derived.Test.YtoehjbehfolekaaDoorWords
import Derived.Test.YtoehjbehfolekaaDoorLaid
namespace Go.Proofs.YtoehjbehfolekaaDoor
open Go.RowKit Go.Maps

def wordData {H : Type} (s : ByteArray) : DataW H := .lit (.string s.data.toList)
theorem laidTail {P : Program} {x : String × DataW Unit} {rest : List (String × DataW Unit)} {W : World} (h : laidMet P (x :: rest) W) : laidMet P rest W := by
  obtain ⟨ps, ⟨g', t', cs, fuel, p, q, _, _, _, _, hq, rfl⟩, hnd, hc⟩ := h
  exact ⟨q, hq, (List.nodup_append.1 hnd).2.1, fun b off hm => hc b off (List.mem_append_right _ hm)⟩

theorem words_of_laid {W : World} {name : String} {g : Nat} {t : TypeId} {n : Nat} {ss : List ByteArray} {d : DataW Unit} {rest : List (String × DataW Unit)}
    (hg : Tryd.prog.globalNamed name = some g) (hgt : (Tryd.prog.globals[g]?).map (·.type) = some t) (hu : Tryd.prog.underlying t = some (.array n 9)) (hn : ss.length = n) (h0 : 0 < n)
    (hdat : d = .agg (ss.map wordData)) (h : laidMet Tryd.prog ((name, d) :: rest) W) : WordsIn W g ss := by
  subst hdat
  obtain ⟨ps, ⟨g', t', cs, fuel, p, q, hg', ht', hvar, hd, _, _⟩, _⟩ := h
  obtain rfl := Option.some.inj (hg.symm.trans hg')
  obtain rfl := Option.some.inj (hgt.symm.trans ht')
  have hcell := World.var?_cell hg hvar
  obtain ⟨xs, m, _, hx, hlen, hxl, hf⟩ := DataW.trod_array hu hd
  have hxs : ss.map (wordData (H := Unit)) = xs.map (·.1) := by
    have := congrArg Prod.fst hx
    simpa using this
  have key : ∀ i (hi : i < ss.length), cs.toList[i]? = some (.string ss[i]) := by
    intro i hi
    have hfi := hf i (by omega)
    rw [List.getElem?_eq_getElem (by omega), cells_s] at hfi
    have h2 : xs[i].1 = wordData ss[i] := by
      have h3 := congrArg (·[i]?) hxs
      simp only [List.getElem?_map, List.getElem?_eq_getElem hi, List.getElem?_eq_getElem (show i < xs.length by omega), Option.map_some, Option.some.injEq] at h3
      exact h3.symm
    obtain ⟨s2, e2, z2, _⟩ := DataW.trod_string Tryd.underlying9 hfi
    have e3 : cs.toList[i]? = (List.take 1 (List.drop (i * 1) cs.toList))[0]? := by
      rw [List.getElem?_take, if_pos (by omega), List.getElem?_drop]
      simp
    rw [e3, e2]
    rw [z2] at h2
    simp only [wordData, DataW.lit.injEq, Lit.string.injEq] at h2
    have hs2 : s2 = ss[i] := by
      generalize ss[i] = r at h2
      cases s2; cases r; simp_all
    simp [hs2]
  have hc' : ∀ k, W.cell? ⟨g, k, none⟩ = cs.toList[k]? := fun k => by rw [hcell k]; simp
  refine ⟨?_, fun k hk => (hc' k).trans (key k hk)⟩
  have := key 0 (by omega)
  rw [← hc'] at this
  exact lt_of_cellL this

end Go.Proofs.YtoehjbehfolekaaDoor
