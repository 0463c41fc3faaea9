/-
  The program's look whether every name has a value: names that are loaded, gathered; a closure over each, asked of the binds.
-/
import Derived.Test.YtoehjbehfolekaaDoorLoads
import Derived.Test.YtoehjbehfolekaaDoorSmall
import Derived.Deep.AppendLies
set_option linter.unusedVariables false
namespace Go.Proofs.YtoehjbehfolekaaDoor
open Go.RowKit Go.Maps Go.Deep

set_option maxHeartbeats 800000 in
theorem askName_any (w : World) (s nm : ByteArray) (v : Int) (nb : Nat) (hn : w.cell? ⟨nb, 0, none⟩ = some (.string nm)) :
    Calls Tryd.prog 39 #[.agg #[.string s, .int .i64 v], .pointer (some ⟨nb, 0, none⟩)] w fun e w' => e = .returned (.bool (decide (s = nm))) ∧ Below w.heap.size w w' := by
  have hlt : nb < w.heap.size := by
    by_cases hb : nb < w.heap.size
    · exact hb
    · exfalso
      have : w.heap[nb]? = none := Array.getElem?_eq_none (by omega)
      simp [World.cell?, this] at hn
  rw [← str_eq]
  go_enter Tryd.func39, Tryd.ntmps39
  go_wp2
  go_ret
  exact ⟨rfl, (Below.refl _ _).alloc (Nat.le_refl _) _⟩

def RetIdx (bs : List BindV) (nm : ByteArray) (e : Ending) : Prop := ∃ r : Int, e = .returned (.int .i64 r) ∧ (0 ≤ r ↔ BoundB bs nm)
set_option maxHeartbeats 1600000 in
theorem indexFunc_row (w : World) (bb off cap nb : Nat) (bs : List BindV) (nm : ByteArray) (hl40 : (bs.length : Int) ≤ 40) (hc : BindAt w bb off bs) (hbb : bb < w.heap.size) (hn : w.cell? ⟨nb, 0, none⟩ = some (.string nm)) (hnb : nb < w.heap.size) :
    Calls Tryd.prog 53 #[.slice (some ⟨bb, off, none⟩) bs.length cap, .func (.func 39) #[] #[.pointer (some ⟨nb, 0, none⟩)]] w fun e w' => RetIdx bs nm e ∧ Below w.heap.size w w' := by
  have HC := hide hc
  have HN := hide hn
  clear hc hn
  go_enter Tryd.func53, Tryd.ntmps53
  go_wp2_with fail
  go_loopw [8] (fun i wr => ∃ k : Nat, k ≤ bs.length ∧ i = .int .i64 k ∧ Hid (¬ BoundTo bs nm k) ∧ Hid (Below w.heap.size w wr)) (fun i _ => bs.length - (intOf i).toNat)
  case atStart => exact ⟨0, Nat.zero_le _, rfl, (fun ⟨j, _, hj, _⟩ => absurd hj (Nat.not_lt_zero _)), Below.refl _ _⟩
  case round =>
    obtain ⟨k, hk, rfl, HNo, HBr⟩ := hrel
    by_cases hlt : k < bs.length
    · obtain ⟨c0, c1⟩ := unhide HC k hlt
      rw [← (unhide HBr).cell (by exact hbb)] at c0 c1
      have hn' := hide (((unhide HBr).cell (p := ⟨nb, 0, none⟩) hnb).trans (unhide HN))
      have hst := hide (bound_step hlt (unhide HNo))
      have hyes := hide (fun e : bs[k].a0 = nm => (show BoundB bs nm from ⟨k, hlt, e⟩))
      generalize bs[k].a0 = s at c0 hst hyes
      generalize bs[k].a1 = v at c1
      by_cases he : s = nm
      · have hy := hide (unhide hyes he)
        have hd : decide (s = nm) = true := by simpa using he
        clear he
        go_wp2_with (first
          | (go_at_call 39; refine (askName_any _ s nm v nb (unhide hn')).mono ?_; rw [hd]; rintro e w2 ⟨rfl, hb2⟩; have HB2 := hide ((unhide HBr).trans (hb2.mono (unhide HBr).size)); clear hb2)
          | go_in)
        go_ret
        exact ⟨⟨_, rfl, fun _ => unhide hy, fun _ => by omega⟩, unhide HB2⟩
      · have hd : decide (s = nm) = false := by simpa using he
        have HNo' := hide (unhide hst he)
        clear he
        go_wp2_with (first
          | (go_at_call 39; refine (askName_any _ s nm v nb (unhide hn')).mono ?_; rw [hd]; rintro e w2 ⟨rfl, hb2⟩; have HB2 := hide ((unhide HBr).trans (hb2.mono (unhide HBr).size)); clear hb2)
          | go_in)
        go_roundw
        case rel => exact ⟨k + 1, by omega, by go_num, HNo', HB2⟩
        case measure => simp [intOf]; omega
    · have e : k = bs.length := by omega
      have HNo' := hide (show ¬ BoundB bs nm by rw [← bound_all, ← e]; exact unhide HNo)
      clear e
      go_wp2_with fail
      go_ret
      exact ⟨⟨_, rfl, fun h => absurd h (by omega), fun h => absurd h (unhide HNo')⟩, unhide HBr⟩
set_option maxHeartbeats 400000 in
theorem indexFunc_none (w : World) (a : Option Addr) (cap : Nat) (f : Value) (nm : ByteArray) :
    Calls Tryd.prog 53 #[.slice a 0 cap, f] w fun e w' => RetIdx [] nm e ∧ Below w.heap.size w w' := by
  go_enter Tryd.func53, Tryd.ntmps53
  go_wp2_with fail
  refine wp_loop_rounds 1 ?_
  rw [rounds_succ]
  go_wp2_with fail
  go_ret
  exact ⟨⟨_, rfl, fun h => absurd h (by omega), fun ⟨_, h, _⟩ => absurd h (Nat.not_lt_zero _)⟩, Below.refl _ _⟩
theorem containsFunc_any (w : World) (ab : Option Addr) (cap nb : Nat) (bs : List BindV) (nm : ByteArray) (hl40 : (bs.length : Int) ≤ 40) (hc : BindIn w ab bs) (hn : w.cell? ⟨nb, 0, none⟩ = some (.string nm)) (hnb : nb < w.heap.size) :
    Calls Tryd.prog 38 #[.slice ab bs.length cap, .func (.func 39) #[] #[.pointer (some ⟨nb, 0, none⟩)]] w fun e w' => RetYes (BoundB bs nm) e ∧ Below w.heap.size w w' := by
  have HI : Hid (Calls Tryd.prog 53 #[.slice ab bs.length cap, .func (.func 39) #[] #[.pointer (some ⟨nb, 0, none⟩)]] w fun e w' => RetIdx bs nm e ∧ Below w.heap.size w w') := by
    rcases hc with rfl | ⟨b, off, rfl, hb, hc⟩
    · exact indexFunc_none w ab cap _ nm
    · exact indexFunc_row w b off cap nb bs nm hl40 hc hb hn hnb
  clear hc hn
  go_enter Tryd.func38, Tryd.ntmps38
  go_wp2_with fail
  refine (unhide HI).mono ?_
  rintro e w1 ⟨⟨r, rfl, hr⟩, hb1⟩
  have HR := hide hr
  clear hr
  by_cases h0 : 0 ≤ r
  · have hy := hide ((unhide HR).1 h0)
    go_wp2_with fail
    go_ret
    exact ⟨.inl ⟨unhide hy, rfl⟩, hb1⟩
  · have hy := hide (fun h => h0 ((unhide HR).2 h))
    go_wp2_with fail
    go_ret
    exact ⟨.inr ⟨unhide hy, ret_bool (by simpa using h0)⟩, hb1⟩

/-- names, one behind the other -/
def NamesRow (w : World) (v : Value) (B : Nat) (ts : List ByteArray) : Prop := w.ownsRow B 9 1 v ts.length (ts.map Value.string)
theorem infoStrN : (Tryd.prog.info? 9).map (fun i => (i.zero, i.size, i.bytes)) = some (some (.string ByteArray.empty), 1, 16) := by kernel_rfl
/-- the names that the first k instructions load -/
def loadsL (ns : List InsV) (k : Nat) : List ByteArray := ((ns.take k).filter (fun x => decide (x.a0 = 3))).map (·.a2)
theorem loadsL_yes (ns : List InsV) (k : Nat) (hk : k < ns.length) (h : ns[k].a0 = 3) : loadsL ns (k + 1) = loadsL ns k ++ [ns[k].a2] := by
  unfold loadsL; rw [List.take_succ_eq_append_getElem hk, List.filter_append]; simp [h]
theorem loadsL_no (ns : List InsV) (k : Nat) (hk : k < ns.length) (h : ¬ ns[k].a0 = 3) : loadsL ns (k + 1) = loadsL ns k := by
  unfold loadsL; rw [List.take_succ_eq_append_getElem hk, List.filter_append]; simp [h]
theorem loadsL_len (ns : List InsV) (k : Nat) : (loadsL ns k).length ≤ k := by
  unfold loadsL
  rw [List.length_map]
  exact Nat.le_trans (List.length_filter_le _ _) (List.length_take_le _ _)
theorem loads_iff (ns : List InsV) (bs : List BindV) : LoadsOk ns bs ↔ ∀ t ∈ loadsL ns ns.length, BoundB bs t := by
  unfold loadsL
  rw [List.take_length]
  constructor
  · intro h t ht
    simp only [List.mem_map, List.mem_filter, decide_eq_true_eq] at ht
    obtain ⟨x, ⟨hx, h3⟩, rfl⟩ := ht
    obtain ⟨i, hi, rfl⟩ := List.getElem_of_mem hx
    exact h i hi hi h3
  · intro h i hi _ h3
    exact h _ (List.mem_map.2 ⟨ns[i], List.mem_filter.2 ⟨List.getElem_mem hi, by simpa using h3⟩, rfl⟩)
theorem news_str (w : World) (t : ByteArray) : ∀ j u, ([Value.string t] : List Value)[j]? = some u → (w.alloc (.cells #[.string t] 9)).cell? ((⟨w.heap.size, 0, none⟩ : Addr).add j) = some u := by
  intro j u hj
  match j, hj with
  | 0, hj => simp at hj; subst hj; simp [Addr.add]

def RetNames (ns : List InsV) (B : Nat) (e : Ending) (w' : World) : Prop := ∃ v, e = .returned v ∧ NamesRow w' v B (loadsL ns ns.length)
set_option maxHeartbeats 1600000 in
theorem loadedNames_row (w : World) (cb off cap : Nat) (ns : List InsV) (hl : (ns.length : Int) ≤ 4000) (hc : InsAt w cb off ns) (hcb : cb < w.heap.size) :
    Calls Tryd.prog 23 #[.slice (some ⟨cb, off, none⟩) ns.length cap] w fun e w' => RetNames ns w.heap.size e w' ∧ Below w.heap.size w w' := by
  obtain ⟨i0, hi, hz0, hz1, hz2⟩ := info_parts infoStrN
  have HC := hide hc
  clear hc
  go_enter Tryd.func23, Tryd.ntmps23
  go_wp2_with fail
  go_loopw [3, 8] (fun v i wr => ∃ k : Nat, k ≤ ns.length ∧ i = .int .i64 k ∧ Hid (NamesRow wr v w.heap.size (loadsL ns k)) ∧ Hid (Below w.heap.size w wr)) (fun _ i _ => ns.length - (intOf i).toNat)
  case atStart => exact ⟨0, Nat.zero_le _, rfl, World.ownsRow_nil _ _ _ _, Below.refl _ _⟩
  case round =>
    obtain ⟨k, hk, rfl, HR, HBr⟩ := hrel
    by_cases hlt : k < ns.length
    · obtain ⟨c0, c1, c2⟩ := unhide HC k hlt
      rw [← (unhide HBr).cell (by exact hcb)] at c0 c1 c2
      have hy := hide (loadsL_yes ns k hlt)
      have hno := hide (loadsL_no ns k hlt)
      have hlen := loadsL_len ns k
      generalize ns[k].a0 = op at c0 hy hno
      generalize ns[k].a1 = av at c1
      generalize ns[k].a2 = nm at c2 hy
      have hzr := (unhide HBr).size
      have bA := Below.alloc (Below.refl wr.heap.size wr) (Nat.le_refl _) (.cells #[.int .i64 op, .int .i64 av, .string nm] 49)
      have HBA := hide ((unhide HBr).trans (bA.mono (unhide HBr).size))
      have HRA := hide (show NamesRow (wr.alloc (.cells #[.int .i64 op, .int .i64 av, .string nm] 49)) u3 w.heap.size (loadsL ns k) from ownsRow_up (unhide HR) bA)
      clear bA
      by_cases h3 : op = 3
      · have hy' := hide (unhide hy h3)
        subst h3
        have HRB := hide (show NamesRow ((wr.alloc (.cells #[.int .i64 3, .int .i64 av, .string nm] 49)).alloc (.cells #[.string nm] 9)) u3 w.heap.size (loadsL ns k) from ownsRow_up (unhide HRA) ((Below.refl _ _).alloc (Nat.le_refl _) _))
        have HBB := hide ((unhide HBA).alloc (unhide HBA).size (.cells #[.string nm] 9))
        go_wp2_with (at_builtin; refine wpList_append_own _ rfl _ _ 54 rfl w.heap.size 9 i0 (.string ByteArray.empty) 1 16 Tryd.underlying54 hi hz0 hz1 hz2 rfl (by decide) _ _ _ rfl (unhide HRB) ⟨wr.heap.size + 1, 0, none⟩ 1 1 [.string nm] rfl rfl ?c0 (by intro u hu; simp at hu; subst hu; rfl) ?c1 ?c2 ?c3 ?_)
        case c1 => unfold maxLen; omega
        case c2 => omega
        case c3 => omega
        intro v' w2 hown' hgrow _
        have HR2 := hide (show NamesRow w2 v' w.heap.size (loadsL ns (k + 1)) by
          unfold NamesRow
          rw [unhide hy']
          simpa using hown')
        have HB2 := hide ((unhide HBB).grown hgrow (by simp; omega) (ownBlock_ge (unhide HR)))
        obtain ⟨ao', n', cap', rfl⟩ : ∃ ao n cap, v' = .slice ao n cap := by
          rcases hown'.2 with ⟨hv, _⟩ | ⟨g, cap, cur, hv, _⟩
          · exact ⟨_, _, _, hv⟩
          · exact ⟨_, _, _, hv⟩
        clear hown' hgrow
        go_wp2
        go_roundw
        case rel => exact ⟨k + 1, by omega, by go_num, HR2, HB2⟩
        case measure => simp [intOf]; omega
      · have h3' : (op == 3) = false := by simpa using h3
        have hno' := hide (unhide hno h3)
        have HR2 := hide (show NamesRow (wr.alloc (.cells #[.int .i64 op, .int .i64 av, .string nm] 49)) u3 w.heap.size (loadsL ns (k + 1)) by rw [unhide hno']; exact unhide HRA)
        clear h3
        go_wp2_with fail
        go_roundw
        case rel => exact ⟨k + 1, by omega, by go_num, HR2, HBA⟩
        case measure => simp [intOf]; omega
    · have e : k = ns.length := by omega
      have HR' := hide (show NamesRow wr u3 w.heap.size (loadsL ns ns.length) by have := unhide HR; rw [e] at this; exact this)
      clear e
      go_wp2_with fail
      go_ret
      exact ⟨⟨_, rfl, unhide HR'⟩, unhide HBr⟩

set_option maxHeartbeats 1600000 in
theorem allBound_any (w : World) (v : Value) (B : Nat) (ts : List ByteArray) (ab : Option Addr) (capb : Nat) (bs : List BindV) (hl : (ts.length : Int) ≤ 4000) (hl40 : (bs.length : Int) ≤ 40) (hr : NamesRow w v B ts) (hb : BindIn w ab bs) :
    Calls Tryd.prog 22 #[v, .slice ab bs.length capb] w fun e w' => RetYes (∀ t ∈ ts, BoundB bs t) e ∧ Below w.heap.size w w' := by
  have hmf : ∀ (fn : Fn) (first cap : Array Value) (w : World), (Instr.makeFunc fn first cap).run Tryd.prog w = .ok (.func fn first cap) w := fun _ _ _ _ => rfl
  have HB := hide hb
  rcases hr.2 with ⟨rfl, h0⟩ | ⟨gn, cap, cur, rfl, hgB, hgh, _⟩
  · have hts : ts = [] := List.eq_nil_of_length_eq_zero h0
    subst hts
    clear hr hb
    go_enter Tryd.func22, Tryd.ntmps22
    go_wp2_with fail
    refine wp_loop_rounds 1 ?_
    rw [rounds_succ]
    go_wp2_with fail
    go_ret
    exact ⟨.inl ⟨fun t h => (by cases h), rfl⟩, Below.refl _ _⟩
  · have hgl : gn < w.heap.size := (Array.getElem?_eq_some_iff.1 hgh).1
    have HC : Hid (∀ i (h : i < ts.length), w.cell? ⟨gn, i, none⟩ = some (.string ts[i])) := hide (fun i h => by
      rw [hr.cellAt i (by omega), List.getElem?_map, List.getElem?_eq_getElem h]; rfl)
    clear hr hb hgh
    go_enter Tryd.func22, Tryd.ntmps22
    go_wp2_with fail
    go_loopw [9] (fun i wr => ∃ k : Nat, k ≤ ts.length ∧ i = .int .i64 k ∧ Hid (∀ j (h : j < ts.length), j < k → BoundB bs ts[j]) ∧ Hid (Below w.heap.size w wr)) (fun i _ => ts.length - (intOf i).toNat)
    case atStart => exact ⟨0, Nat.zero_le _, rfl, fun j _ hj => absurd hj (Nat.not_lt_zero _), Below.refl _ _⟩
    case round =>
      obtain ⟨k, hk, rfl, HY, HBr⟩ := hrel
      by_cases hlt : k < ts.length
      · have c0 := unhide HC k hlt
        rw [← (unhide HBr).cell (by exact hgl)] at c0
        have hnext := hide (fun hb : BoundB bs ts[k] => (show ∀ j (h : j < ts.length), j < k + 1 → BoundB bs ts[j] from fun j h hj => by
          by_cases e : j = k
          · subst e; exact hb
          · exact unhide HY j h (by omega)))
        have hbad := hide (fun hb : ¬ BoundB bs ts[k] => (show ¬ ∀ t ∈ ts, BoundB bs t from fun h => hb (h _ (List.getElem_mem hlt))))
        generalize ts[k] = nm at c0 hnext hbad
        have bA := Below.alloc (Below.refl wr.heap.size wr) (Nat.le_refl _) (.cells #[.string nm] 9)
        have HBA := hide ((unhide HBr).trans (bA.mono (unhide HBr).size))
        have HD := hide (containsFunc_any (wr.alloc (.cells #[.string nm] 9)) ab capb wr.heap.size bs nm hl40 ((unhide HB).below (unhide HBA)) (World.cell?_alloc_at _ _ _ _ rfl) (by simp))
        clear bA
        go_wp2_with fail
        refine (unhide HD).mono ?_
        rintro e w2 ⟨hd, hb2⟩
        have HB2 := hide ((unhide HBA).trans (hb2.mono (unhide HBA).size))
        clear hb2 HD
        rcases hd with ⟨hb, rfl⟩ | ⟨hb, rfl⟩
        · have HY' := hide (unhide hnext hb)
          go_wp2_with fail
          go_roundw
          case rel => exact ⟨k + 1, by omega, by go_num, HY', HB2⟩
          case measure => simp [intOf]; omega
        · have HF := hide (unhide hbad hb)
          go_wp2_with fail
          go_ret
          exact ⟨.inr ⟨unhide HF, rfl⟩, unhide HB2⟩
      · have HY' := hide (show ∀ t ∈ ts, BoundB bs t from fun t ht => by
          obtain ⟨j, hj, rfl⟩ := List.getElem_of_mem ht
          exact unhide HY j hj (by omega))
        go_wp2_with fail
        go_ret
        exact ⟨.inl ⟨unhide HY', rfl⟩, unhide HBr⟩

end Go.Proofs.YtoehjbehfolekaaDoor
