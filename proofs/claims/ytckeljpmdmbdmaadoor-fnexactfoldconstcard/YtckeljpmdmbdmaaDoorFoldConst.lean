/-
  FoldConst of both sides.
-/
import Derived.Test.YtckeljpmdmbdmaaDoorConstOf
set_option linter.unusedVariables false
namespace Go.Proofs.YtckeljpmdmbdmaaDoor
open Go.RowKit Go.Maps Go.Deep

/-- the same by the list of nodes -/
def constL : List NodeV → Option Int
  | [] => none
  | x :: rest => if x.kind = 1 then some x.num else if x.kind = 3 then (match rest with | y :: _ => if y.kind = 1 ∧ ¬ y.num = 0 then some (-y.num) else none | [] => none) else none
theorem const_list (x : NodeV) (l : BT NodeV) : constT x l = constL (x :: fl l) := by
  cases l <;> simp [constT, constL, fl]
def RetConst (ns : List NodeV) (e : Ending) : Prop := (OkTree ns ∧ e = .returned (constRet (constL ns))) ∨ (¬ OkTree ns ∧ e = .returned (constRet none))
theorem retConst_same {ns : List NodeV} {e e' : Ending} (h : RetConst ns e) (h' : RetConst ns e') : ∃ (n : Int) (q : Bool), e = .returned (.tuple #[.int .i64 n, .bool q]) ∧ e' = .returned (.tuple #[.int .i64 n, .bool q]) := by
  rcases h with ⟨a, rfl⟩ | ⟨a, rfl⟩ <;> rcases h' with ⟨b, rfl⟩ | ⟨b, rfl⟩
  · exact ⟨_, _, rfl, rfl⟩
  · exact absurd a b
  · exact absurd b a
  · exact ⟨_, _, rfl, rfl⟩

set_option maxHeartbeats 1600000 in
theorem implConst_any (w : World) (b off cap : Nat) (ns : List NodeV) (hl : ns.length ≤ 1048576) (hc : NodesAt w b off ns) (hb : b < w.heap.size) (hs : NamesOk ns) (hsh : ShapesIn w) :
    Calls Tryd.prog 9 #[.slice (some ⟨b, off, none⟩) ns.length cap] w fun e w' => RetConst ns e ∧ Below w.heap.size w w' := by
  have HC := hide hc
  have HSH := hide hsh
  clear hc hsh
  go_enter Tryd.func9, Tryd.ntmps9
  go_wp2_with fail
  refine (treeOf_any w b off cap ns hl (unhide HC) hb hs (unhide HSH)).mono ?_
  rintro e w1 ⟨⟨x, l, v, ws, hok, rfl, hfs, hnode⟩ | ⟨hno, rfl⟩, hb1⟩
  · have hC := hide (constOf_any w1 _ x l ws v hfs hnode (fun n hn => hok.own n (by rw [hok.eq]; simp [hn])))
    have hE := hide (show constT x l = constL ns by rw [hok.eq]; exact const_list x l)
    have HO := hide (show OkTree ns from ⟨x, l, hok⟩)
    have HB1 := hide hb1
    obtain ⟨tv, uv, rfl⟩ := hnode.iface
    clear hfs hnode hok hb1
    go_wp2_with fail
    refine (unhide hC).mono ?_
    rintro e w2 ⟨he, hb2⟩
    obtain rfl := unhide he
    rw [unhide hE]
    generalize hcl : constL ns = cl
    have HCL := hide hcl
    clear hcl he hE hC
    unfold constRet
    go_wp2_with fail
    go_ret2
    exact ⟨.inl ⟨unhide HO, by rw [unhide HCL]; rfl⟩, (unhide HB1).trans (hb2.mono (unhide HB1).size)⟩
  · have HN := hide hno
    clear hno
    go_wp2_with fail
    go_ret2
    exact ⟨.inr ⟨unhide HN, rfl⟩, hb1⟩

theorem ok_two {ns : List NodeV} {x : NodeV} {l : BT NodeV} (h : OkAt ns x l) (hk : x.kind = 3) : ∃ y rest, ns = x :: y :: rest := by
  have h1 := own_parts (h.own x (by rw [h.eq]; simp))
  have h2 : x.kids = 1 := by rw [h1.2.2, hk]; rfl
  have h3 := h.kids
  cases l with
  | nil => simp [cnt] at h3; omega
  | node b o y m r => exact ⟨y, fl m ++ fl r, by rw [h.eq]; simp only [fl]⟩

set_option maxHeartbeats 1600000 in
theorem specConst_any (w : World) (b off cap : Nat) (ns : List NodeV) (hl : ns.length ≤ 1048576) (hc : NodesAt w b off ns) (hb : b < w.heap.size) (hs : NamesOk ns) :
    Calls Tryd.prog 7 #[.slice (some ⟨b, off, none⟩) ns.length cap] w fun e w' => RetConst ns e ∧ Below w.heap.size w w' := by
  have HC := hide hc
  have HS := hide hs
  clear hc hs
  go_enter Tryd.func7, Tryd.ntmps7
  go_wp2_with fail
  refine (specOk_any w b off cap ns hl (unhide HC) hb (unhide HS)).mono ?_
  rintro e w1 ⟨⟨r, rfl, hr⟩, hb1⟩
  cases r with
  | false =>
    have HN := hide (show ¬ OkTree ns from fun h => by simpa using hr.2 h)
    clear hr
    go_wp2_with fail
    go_ret2
    exact ⟨.inr ⟨unhide HN, rfl⟩, hb1⟩
  | true =>
    obtain ⟨x, l, hok⟩ := hr.1 rfl
    clear hr
    have HO := hide (show OkTree ns from ⟨x, l, hok⟩)
    have h1 : 1 ≤ ns.length := by rw [hok.eq]; simp
    have hx : ns[0] = x := by simp [hok.eq]
    obtain ⟨c0, c1, c2, c3⟩ := unhide HC 0 (by omega)
    rw [hx] at c0 c1 c2 c3
    rw [← hb1.cell (by exact hb)] at c0 c1
    simp only [Nat.zero_mul, Nat.add_zero] at c0 c1
    clear c2 c3 hx
    have HB1 := hide hb1
    by_cases hk1 : x.kind = 1
    · have hcl := hide (show constL ns = some x.num by rw [hok.eq]; simp [constL, hk1])
      rw [hk1] at c0
      clear hok
      go_wp2_with fail
      go_ret2
      exact ⟨.inl ⟨unhide HO, by rw [unhide hcl]; rfl⟩, unhide HB1⟩
    · have e1 : (x.kind == 1) = false := by simpa using hk1
      by_cases hk3 : x.kind = 3
      · obtain ⟨y, rest, hns⟩ := ok_two hok hk3
        have h2 : 2 ≤ ns.length := by rw [hns]; simp
        have hy : ns[1] = y := by simp [hns]
        obtain ⟨d0, d1, d2, d3⟩ := unhide HC 1 (by omega)
        rw [hy] at d0 d1 d2 d3
        rw [← hb1.cell (by exact hb)] at d0 d1
        simp only [Nat.one_mul] at d0 d1
        have hoy := hok.own y (by rw [hns]; simp)
        have hcl := hide (show constL ns = if y.kind = 1 ∧ ¬ y.num = 0 then some (-y.num) else none by rw [hns]; simp [constL, hk3])
        rw [hk3] at c0
        clear hok hns hy d2 d3 e1 hk1 hk3 hb1
        by_cases hyk : y.kind = 1
        · obtain ⟨n0, n1⟩ := own_num hoy hyk
          rw [hyk] at d0
          by_cases hz : y.num = 0
          · rw [hz] at d1
            rw [if_neg (by omega)] at hcl
            clear hoy hyk hz
            go_wp2_with fail
            go_ret2
            exact ⟨.inl ⟨unhide HO, by rw [unhide hcl]; rfl⟩, unhide HB1⟩
          · have e0 : (y.num != 0) = true := by simpa using hz
            rw [if_pos ⟨hyk, hz⟩] at hcl
            clear hoy hyk hz
            go_wp2_with fail
            go_ret2
            exact ⟨.inl ⟨unhide HO, by rw [unhide hcl]; rfl⟩, unhide HB1⟩
        · have e1 : (y.kind == 1) = false := by simpa using hyk
          rw [if_neg (by omega)] at hcl
          clear hoy hyk
          go_wp2_with fail
          go_ret2
          exact ⟨.inl ⟨unhide HO, by rw [unhide hcl]; rfl⟩, unhide HB1⟩
      · have e3 : (x.kind == 3) = false := by simpa using hk3
        have hcl := hide (show constL ns = none by rw [hok.eq]; simp [constL, hk1, hk3])
        clear hok hk1 hk3
        go_wp2_with fail
        go_ret2
        exact ⟨.inl ⟨unhide HO, by rw [unhide hcl]; rfl⟩, unhide HB1⟩

end Go.Proofs.YtckeljpmdmbdmaaDoor
