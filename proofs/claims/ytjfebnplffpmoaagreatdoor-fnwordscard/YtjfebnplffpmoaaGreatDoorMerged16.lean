/-
  What the lexer makes of bytes that are known: mathematics alone.
-/
/-
  The words of each kind of node are read as the node; all of a tree. Mathematics alone.
-/
import Derived.Test.YtjfebnplffpmoaaGreatDoorMerged15
import Derived.Test.YtjfebnplffpmoaaGreatDoorBodyM
set_option linter.unusedVariables false
namespace Go.Proofs.YtjfebnplffpmoaaGreatDoor
open Go.RowKit Go.Maps Go.Deep

/-- from a place on the lexer reads these words and stands at another -/
def Lx (S : ByteArray) (k : Nat) (ts : List Tok) (k' : Nat) : Prop := ∃ ws : List WordV, ws.map tokW = ts ∧ lexR S k = (lexR S k').pre ws
theorem Lx.refl (S : ByteArray) (k : Nat) : Lx S k [] k := ⟨[], rfl, (LRes.pre_nil _).symm⟩
theorem Lx.trans {S : ByteArray} {k k1 k2 : Nat} {ts us : List Tok} (h : Lx S k ts k1) (g : Lx S k1 us k2) : Lx S k (ts ++ us) k2 := by
  obtain ⟨ws, h1, h2⟩ := h
  obtain ⟨vs, g1, g2⟩ := g
  refine ⟨ws ++ vs, by rw [List.map_append, h1, g1], ?_⟩
  rw [h2, g2]
  cases lexR S k2 <;> simp [LRes.pre]
/-- these bytes stand from a place on, to the end -/
def AtB (S : ByteArray) (k : Nat) (l : List UInt8) : Prop := S.data.toList.drop k = l ∧ k ≤ S.size
theorem AtB.cons {S : ByteArray} {k : Nat} {b : UInt8} {r : List UInt8} (h : AtB S k (b :: r)) : byteAt S k = (b.toNat : Int) ∧ k < S.size ∧ AtB S (k + 1) r := by
  obtain ⟨h, hk⟩ := h
  have hlt : k < S.size := by
    rcases Nat.lt_or_ge k S.size with q | q
    · exact q
    · have : k = S.size := by omega
      subst this
      rw [drop_all] at h
      cases h
  rw [byte_get S k hlt] at h
  obtain ⟨h1, h2⟩ := List.cons.inj h
  exact ⟨by unfold byteAt; rw [h1], hlt, h2, hlt⟩
theorem AtB.app {S : ByteArray} {k : Nat} {l r : List UInt8} (h : AtB S k (l ++ r)) : AtB S (k + l.length) r := by
  induction l generalizing k with
  | nil => simpa using h
  | cons b l ih =>
    have := ih (k := k + 1) h.cons.2.2
    rw [show k + (b :: l).length = k + 1 + l.length by simp; omega]
    exact this
theorem AtB.each {S : ByteArray} {k : Nat} {l r : List UInt8} (h : AtB S k (l ++ r)) : ∀ i, k ≤ i → i < k + l.length → ∃ b ∈ l, byteAt S i = (b.toNat : Int) := by
  induction l generalizing k with
  | nil => intro i h1 h2; simp at h2; omega
  | cons b l ih =>
    intro i h1 h2
    by_cases e : i = k
    · subst e
      exact ⟨b, by simp, h.cons.1⟩
    · obtain ⟨c, hc, e⟩ := ih (k := k + 1) h.cons.2.2 i (by omega) (by simp at h2; omega)
      exact ⟨c, by simp [hc], e⟩
theorem AtB.ext {S : ByteArray} {k : Nat} {l r : List UInt8} (h : AtB S k (l ++ r)) : S.extract k (k + l.length) = ⟨l.toArray⟩ := by
  have : (S.extract k (k + l.length)).data.toList = l := by
    rw [ext_lst, h.1]
    simp
  cases hE : S.extract k (k + l.length) with
  | mk d =>
    rw [hE] at this
    have h2 : d.toList = l := this
    have h3 : d = l.toArray := by rw [← h2]
    rw [h3]
theorem AtB.size {S : ByteArray} {k : Nat} {l r : List UInt8} (h : AtB S k (l ++ r)) : k + l.length ≤ S.size := h.app.2
theorem lx_blank {S : ByteArray} {k : Nat} {r : List UInt8} (h : AtB S k (32 :: r)) : Lx S k [] (k + 1) := by
  obtain ⟨h1, h2, _⟩ := h.cons
  refine ⟨[], rfl, ?_⟩
  rw [LRes.pre_nil, lexR, dif_pos h2, if_pos (by rw [h1]; rfl)]
/-- one word that is read whole -/
theorem lx_word {S : ByteArray} {k e : Nat} {w : WordV} (hk : k < S.size) (hb : byteAt S k ≠ 32) (hw : wordAt S k = .word w e) (he : k < e) : Lx S k [tokW w] e := by
  refine ⟨[w], rfl, ?_⟩
  rw [lexR, dif_pos hk, if_neg hb, hw]
  simp only
  rw [show max e (k + 1) = e by omega]
  cases lexR S e <;> rfl
def Stop (r : List UInt8) : Prop := ∀ b, r.head? = some b → letB (b.toNat : Int) = false ∧ digB (b.toNat : Int) = false
theorem stop_nil : Stop [] := fun b h => by cases h
theorem stop_cons {b : UInt8} {r : List UInt8} (h1 : letB (b.toNat : Int) = false) (h2 : digB (b.toNat : Int) = false) : Stop (b :: r) := fun c h => by
  obtain rfl : b = c := by simpa using h
  exact ⟨h1, h2⟩
theorem stop_run {S : ByteArray} {k : Nat} {r : List UInt8} (h : AtB S k r) (hs : Stop r) (ls : Bool) : k = S.size ∨ (digB (byteAt S k) || (ls && letB (byteAt S k))) = false := by
  cases r with
  | nil =>
    left
    have h1 := h.1
    have h2 := h.2
    rcases Nat.lt_or_ge k S.size with q | q
    · rw [byte_get S k q] at h1; cases h1
    · omega
  | cons b r =>
    right
    obtain ⟨q1, q2⟩ := hs b rfl
    rw [h.cons.1, q1, q2]
    simp
theorem lx_name {S : ByteArray} {k : Nat} {b : UInt8} {l r : List UInt8} (h : AtB S k ((b :: l) ++ r)) (hs : Stop r) (h0 : letB (b.toNat : Int) = true) (ha : ∀ c ∈ b :: l, letB (c.toNat : Int) = true ∨ digB (c.toNat : Int) = true) (hl : (b :: l).length ≤ 8) :
    Lx S k [(if isKeyB ⟨(b :: l).toArray⟩ then 3 else 2, ⟨(b :: l).toArray⟩)] (k + (b :: l).length) := by
  have hb := h.cons.1
  have hk := h.cons.2.1
  have hd : digB (byteAt S k) = false := by rw [hb]; unfold letB at h0; unfold digB; simp at h0 ⊢; omega
  have hr : runEnd S true k = k + (b :: l).length := by
    refine run_is S true _ h.size (stop_run h.app hs true) (b :: l).length k rfl fun i h1 h2 => ?_
    obtain ⟨c, hc, e⟩ := h.each i h1 h2
    rw [e]
    rcases ha c hc with q | q
    · rw [q]; simp
    · rw [q]; simp
  have hw : wordAt S k = .word ⟨if isKeyB ⟨(b :: l).toArray⟩ then 3 else 2, ⟨(b :: l).toArray⟩, k⟩ (k + (b :: l).length) := by
    unfold wordAt
    rw [if_neg (by rw [hd]; simp), if_pos (by rw [hb]; exact h0), hr, h.ext]
    rw [if_neg (by show ¬ 8 < (b :: l).toArray.size; simp at hl ⊢; omega)]
  exact lx_word hk (by rw [hb]; unfold letB at h0; simp at h0; omega) hw (by simp)
theorem lx_num {S : ByteArray} {k : Nat} {b : UInt8} {l r : List UInt8} (h : AtB S k ((b :: l) ++ r)) (hs : Stop r) (ha : ∀ c ∈ b :: l, digB (c.toNat : Int) = true) (hl : (b :: l).length ≤ 18) (h0 : l = [] ∨ b ≠ 48) :
    Lx S k [(1, ⟨(b :: l).toArray⟩)] (k + (b :: l).length) := by
  have hb := h.cons.1
  have hk := h.cons.2.1
  have hd0 := ha b (by simp)
  have hr : runEnd S false k = k + (b :: l).length := by
    refine run_is S false _ h.size (stop_run h.app hs false) (b :: l).length k rfl fun i h1 h2 => ?_
    obtain ⟨c, hc, e⟩ := h.each i h1 h2
    rw [e, ha c hc]; rfl
  have hw : wordAt S k = .word ⟨1, ⟨(b :: l).toArray⟩, k⟩ (k + (b :: l).length) := by
    unfold wordAt
    rw [if_pos (by rw [hb]; exact hd0), hr, h.ext]
    rw [if_neg ?_]
    rintro (q | ⟨q1, q2⟩)
    · have : (⟨(b :: l).toArray⟩ : ByteArray).size = (b :: l).length := by simp [ByteArray.size]
      omega
    · have e2 : (⟨(b :: l).toArray⟩ : ByteArray).size = (b :: l).length := by simp [ByteArray.size]
      rcases h0 with rfl | h0
      · simp at e2; omega
      · rw [hb] at q1
        exact h0 (UInt8.toNat_inj.1 (by have : b.toNat = 48 := by exact_mod_cast q1
                                        rw [this]; rfl))
  exact lx_word hk (by rw [hb]; unfold digB at hd0; simp at hd0; omega) hw (by simp)
/-- a sign, of which no longer one begins there -/
theorem lx_sign {S : ByteArray} {k : Nat} {b : UInt8} {l r : List UInt8} (h : AtB S k ((b :: l) ++ r)) (hp : signPreL ((b :: l) ++ r) = b :: l) (h1 : digB (b.toNat : Int) = false) (h2 : letB (b.toNat : Int) = false) (h3 : b ≠ 32) :
    Lx S k [(4, ⟨(b :: l).toArray⟩)] (k + (b :: l).length) := by
  have hb := h.cons.1
  have hk := h.cons.2.1
  have ht : tailL S k = (b :: l) ++ r := by rw [tail_lst]; exact h.1
  have hw : wordAt S k = .word ⟨4, ⟨(b :: l).toArray⟩, k⟩ (k + (b :: l).length) := by
    unfold wordAt
    rw [if_neg (by rw [hb, h1]; simp), if_neg (by rw [hb, h2]; simp), ht, hp]
    rw [if_neg (by simp)]
  refine lx_word hk ?_ hw (by simp)
  rw [hb]
  intro e
  exact h3 (UInt8.toNat_inj.1 (by have : b.toNat = 32 := by exact_mod_cast e
                                  rw [this]; rfl))
end Go.Proofs.YtjfebnplffpmoaaGreatDoor

set_option linter.unusedVariables false
namespace Go.Proofs.YtjfebnplffpmoaaGreatDoor
open Go.RowKit Go.Maps Go.Deep

theorem num_dec {n : Int} (h : 0 ≤ n) : numTextV (decN n) = n := by
  unfold numTextV decN
  show ((numTextV.decVal (Lib.decDigits n.toNat) : Nat) : Int) = n
  rw [digits_val]
  omega
theorem all_num {n : Int} (h0 : 0 ≤ n) : AllK 7 [(1, decN n)] (node0 1 n ⟨#[]⟩) :=
  all_ahead (atom_ahead (fun ws k rest ha => by
    obtain ⟨⟨w, hw, q0, q1⟩, _⟩ := AtK.head (ts := rest) ha
    have := ok_num hw q0
    rw [q1, num_dec h0] at this
    exact this) (hd_num _ _ _ (by decide)).2) (hd_num _ _ _ (by decide)).1
theorem all_name (nm : ByteArray) : AllK 7 [(2, nm)] (node0 2 0 nm) :=
  all_ahead (atom_ahead (fun ws k rest ha => by
    obtain ⟨⟨w, hw, q0, q1⟩, _⟩ := AtK.head (ts := rest) ha
    have := ok_name hw q0
    rw [q1] at this
    exact this) (hd_num _ _ _ (by decide)).2) (hd_num _ _ _ (by decide)).1
theorem hd_lit {s : ByteArray} {k : Int} (ts : List Tok) (hk : 3 ≤ k) (h1 : s ≠ kIf) (h2 : s ≠ kLet) (h3 : s ≠ kRep) : Hd1 ((k, s) :: ts) := by
  have e : txtK ((k, s) :: ts) = s := if_pos hk
  exact ⟨by simp, by rw [e]; exact h1, by rw [e]; exact h2, by rw [e]; exact h3⟩
theorem hd7_lit {s : ByteArray} {k : Int} (ts : List Tok) (hk : 3 ≤ k) (h1 : s ≠ sSub) (h2 : s ≠ kNot) : Hd7 ((k, s) :: ts) := by
  have e : txtK ((k, s) :: ts) = s := if_pos hk
  exact ⟨by simp, by rw [e]; exact h1, by rw [e]; exact h2⟩
theorem all_neg {y : NodeV} {ts : List Tok} {t : TreeV} (h : AllK (levelN y.kind) ts t) : AllK 6 (sg sSub :: wrapK 6 y ts) (node1 3 t) := by
  obtain ⟨lv, hl, A⟩ := wrap_all (least := 6) (by omega) h
  generalize wrapK 6 y ts = w at *
  refine all_ahead (fun ws n rest ha => ?_) (hd_lit _ (by decide) (by decide) (by decide) (by decide))
  obtain ⟨_, a1⟩ := AtK.head (ts := w ++ rest) ha
  have e : n + (sg sSub :: w).length = n + 1 + w.length := by simp; omega
  rw [e]
  exact ok_neg (by rw [ha.txt]; rfl) (A.ahead hl ws _ rest a1)
theorem all_not {y : NodeV} {ts : List Tok} {t : TreeV} (h : AllK (levelN y.kind) ts t) : AllK 6 (tk kNot :: wrapK 6 y ts) (node1 4 t) := by
  obtain ⟨lv, hl, A⟩ := wrap_all (least := 6) (by omega) h
  generalize wrapK 6 y ts = w at *
  refine all_ahead (fun ws n rest ha => ?_) (hd_lit _ (by decide) (by decide) (by decide) (by decide))
  obtain ⟨_, a1⟩ := AtK.head (ts := w ++ rest) ha
  have e : n + (tk kNot :: w).length = n + 1 + w.length := by simp; omega
  rw [e]
  exact ok_not (by rw [ha.txt]; rfl) (A.ahead hl ws _ rest a1)
theorem no_shut (ts : List Tok) : NoS 1 ((4, sShut) :: ts) := noS_lit _ _ _ (by decide) (by decide) (by decide) (by decide) (by decide) (by decide)
theorem all_abs {s : List Tok} {t : TreeV} (h : ExprK s t) : AllK 7 (tk kAbs :: sg sOpen :: (s ++ [sg sShut])) (node1 20 t) := by
  refine all_ahead (atom_ahead (fun ws n rest ha => ?_) (hd7_lit _ (by decide) (by decide) (by decide))) (hd_lit _ (by decide) (by decide) (by decide) (by decide))
  have ha' : AtK ws n ((3, kAbs) :: (4, sOpen) :: (s ++ ((4, sShut) :: rest))) := by simpa [sg, tk] using ha
  obtain ⟨⟨w, hw, q0, q1⟩, a1⟩ := ha'.head
  obtain ⟨_, a2⟩ := a1.head
  have hx := h ws _ _ a2 (no_shut _)
  have ho := ok_abs hw (by omega) q1 (by rw [a1.txt]; rfl) hx (by rw [a2.app.txt]; rfl)
  have e : n + (tk kAbs :: sg sOpen :: (s ++ [sg sShut])).length = n + 1 + 1 + s.length + 1 := by simp; omega
  rw [e]; exact ho
theorem all_pair {s t : List Tok} {a b : TreeV} {kd : Int} {key : ByteArray} (hk : (kd = 18 ∧ key = kMin) ∨ (kd = 19 ∧ key = kMax)) (ha : ExprK s a) (hb : ExprK t b) : AllK 7 (tk key :: sg sOpen :: (s ++ sg sComma :: (t ++ [sg sShut]))) (node2 kd ⟨#[]⟩ a b) := by
  have h1 : Hd7 (tk key :: sg sOpen :: (s ++ sg sComma :: (t ++ [sg sShut]))) := by
    rcases hk with ⟨_, rfl⟩ | ⟨_, rfl⟩
    · exact hd7_lit _ (by decide) (by decide) (by decide)
    · exact hd7_lit _ (by decide) (by decide) (by decide)
  have h2 : Hd1 (tk key :: sg sOpen :: (s ++ sg sComma :: (t ++ [sg sShut]))) := by
    rcases hk with ⟨_, rfl⟩ | ⟨_, rfl⟩
    · exact hd_lit _ (by decide) (by decide) (by decide) (by decide)
    · exact hd_lit _ (by decide) (by decide) (by decide) (by decide)
  refine all_ahead (atom_ahead (fun ws n rest hat => ?_) h1) h2
  have ha' : AtK ws n ((3, key) :: (4, sOpen) :: (s ++ ((4, sComma) :: (t ++ ((4, sShut) :: rest))))) := by simpa [sg, tk] using hat
  obtain ⟨⟨w, hw, q0, q1⟩, a1⟩ := ha'.head
  obtain ⟨_, a2⟩ := a1.head
  have hx := ha ws _ _ a2 (noS_lit _ _ _ (by decide) (by decide) (by decide) (by decide) (by decide) (by decide))
  obtain ⟨_, a3⟩ := a2.app.head
  have hy := hb ws _ _ a3 (no_shut _)
  have ho := ok_pair hw (by omega) (by rw [q1]; rcases hk with ⟨_, h⟩ | ⟨_, h⟩; exact .inl h; exact .inr h) (by rw [a1.txt]; rfl) hx (by rw [a2.app.txt]; rfl) hy (by rw [a3.app.txt]; rfl)
  have e : n + (tk key :: sg sOpen :: (s ++ sg sComma :: (t ++ [sg sShut]))).length = n + 1 + 1 + s.length + 1 + t.length + 1 := by simp; omega
  have ek : (if w.a1 = kMin then (18 : Int) else 19) = kd := by
    rw [q1]
    rcases hk with ⟨h, h'⟩ | ⟨h, h'⟩
    · rw [h', h]; rfl
    · rw [h', h]; decide
  rw [ek] at ho
  rw [e]; exact ho
theorem sign_facts {kd : Int} (h : 5 ≤ kd ∧ kd ≤ 17) : ∃ L : Nat, levelN kd = (L : Int) ∧ 1 ≤ L ∧ L ≤ 5 ∧ kindL L (signN kd) = kd ∧ (∀ M, M ≤ 5 → L + 1 ≤ M → kindL M (signN kd) = 0) ∧ firstN kd = (if L = 3 then 4 else (L : Int)) := by
  obtain rfl | rfl | rfl | rfl | rfl | rfl | rfl | rfl | rfl | rfl | rfl | rfl | rfl : kd = 5 ∨ kd = 6 ∨ kd = 7 ∨ kd = 8 ∨ kd = 9 ∨ kd = 10 ∨ kd = 11 ∨ kd = 12 ∨ kd = 13 ∨ kd = 14 ∨ kd = 15 ∨ kd = 16 ∨ kd = 17 := by omega
  · exact ⟨5, by decide, by decide, by decide, by decide, by decide, by decide⟩
  · exact ⟨5, by decide, by decide, by decide, by decide, by decide, by decide⟩
  · exact ⟨5, by decide, by decide, by decide, by decide, by decide, by decide⟩
  · exact ⟨4, by decide, by decide, by decide, by decide, by decide, by decide⟩
  · exact ⟨4, by decide, by decide, by decide, by decide, by decide, by decide⟩
  · exact ⟨3, by decide, by decide, by decide, by decide, by decide, by decide⟩
  · exact ⟨3, by decide, by decide, by decide, by decide, by decide, by decide⟩
  · exact ⟨3, by decide, by decide, by decide, by decide, by decide, by decide⟩
  · exact ⟨3, by decide, by decide, by decide, by decide, by decide, by decide⟩
  · exact ⟨3, by decide, by decide, by decide, by decide, by decide, by decide⟩
  · exact ⟨3, by decide, by decide, by decide, by decide, by decide, by decide⟩
  · exact ⟨2, by decide, by decide, by decide, by decide, by decide, by decide⟩
  · exact ⟨1, by decide, by decide, by decide, by decide, by decide, by decide⟩
theorem all_sign {kd : Int} {y z : NodeV} {s t : List Tok} {a b : TreeV} (hk : 5 ≤ kd ∧ kd ≤ 17) (ha : AllK (levelN y.kind) s a) (hb : AllK (levelN z.kind) t b) :
    AllK (levelN kd) (wrapK (firstN kd) y s ++ signK kd :: wrapK (levelN kd + 1) z t) (node2 kd ⟨#[]⟩ a b) := by
  obtain ⟨L, e, h1, h5, hkd, hno, hf⟩ := sign_facts hk
  obtain ⟨la, hla, A⟩ := wrap_all (least := firstN kd) (by rw [hf]; split <;> omega) ha
  obtain ⟨lb, hlb, Bq⟩ := wrap_all (least := levelN kd + 1) (by omega) hb
  generalize wrapK (firstN kd) y s = wa at *
  generalize wrapK (levelN kd + 1) z t = wb at *
  have hz : kd ≠ 0 := by omega
  have h3k : 3 ≤ (if kd = 16 ∨ kd = 17 then (3 : Int) else 4) := by split <;> omega
  have hnx : ∀ ts : List Tok, NoS (L + 1) (signK kd :: ts) := fun ts => noS_of hno h3k
  have htx : ∀ ts : List Tok, txtK (signK kd :: ts) = signN kd := fun ts => if_pos h3k
  have hd : Hd1 (wa ++ signK kd :: wb) := hd_app (A.hd (by rw [hf] at hla; split at hla <;> omega))
  by_cases e3 : L = 3
  · subst e3
    rw [if_pos rfl] at hf
    have e' : levelN kd = 3 := e
    rw [e']
    refine all_three (fun ws n rest hat hn => ?_) hd
    have hat' : AtK ws n (wa ++ (signK kd :: (wb ++ rest))) := by simpa using hat
    have o1 := A.lev 4 (by omega) (by omega) (by rw [hf] at hla; omega) ws n _ hat' (hnx _)
    have a2 := hat'.app
    obtain ⟨_, a3⟩ := AtK.head (k := (signK kd).1) (s := (signK kd).2) a2
    have o2 := Bq.lev 4 (by omega) (by omega) (by omega) ws _ rest a3 (hn.mono (by omega))
    have o3 := loop_cmp (a := a) (show kindL 3 (txt ws (n + wa.length)) = kd by rw [a2.txt, htx]; exact hkd) hz o2
    have o4 := ok_down (lv := 3) (by omega) o1 o3
    have el : n + (wa ++ signK kd :: wb).length = n + wa.length + 1 + wb.length := by simp; omega
    rw [el]; exact o4
  · rw [if_neg e3] at hf
    refine all_chain e h1 h5 (fun ws n rest t' k' hat hn ho => ?_) hd
    have hat' : AtK ws n (wa ++ (signK kd :: (wb ++ rest))) := by simpa using hat
    have a2 := hat'.app
    obtain ⟨_, a3⟩ := AtK.head (k := (signK kd).1) (s := (signK kd).2) a2
    have o2 := Bq.lev (L + 1) (by omega) (by omega) (by push_cast; omega) ws _ rest a3 hn
    have el : n + (wa ++ signK kd :: wb).length = n + wa.length + 1 + wb.length := by simp; omega
    rw [el] at ho
    have o3 := loop_go (a := a) e3 (show kindL L (txt ws (n + wa.length)) = kd by rw [a2.txt, htx]; exact hkd) hz o2 ho
    exact A.chain L h1 h5 e3 (by rw [hf] at hla; omega) ws n _ t' k' hat' (hnx _) o3
theorem all_if {s t u : List Tok} {a b c : TreeV} (ha : ExprK s a) (hb : ExprK t b) (hc : ExprK u c) : AllK 0 (tk kIf :: (s ++ tk kThen :: (t ++ tk kElse :: u))) (node3 21 ⟨#[]⟩ a b c) := by
  refine all_expr fun ws n rest hat hn => ?_
  have hat' : AtK ws n ((3, kIf) :: (s ++ ((3, kThen) :: (t ++ ((3, kElse) :: (u ++ rest)))))) := by simpa [tk] using hat
  obtain ⟨_, a1⟩ := hat'.head
  have o1 := ha ws _ _ a1 (noS_lit _ _ _ (by decide) (by decide) (by decide) (by decide) (by decide) (by decide))
  obtain ⟨_, a2⟩ := a1.app.head
  have o2 := hb ws _ _ a2 (noS_lit _ _ _ (by decide) (by decide) (by decide) (by decide) (by decide) (by decide))
  obtain ⟨_, a3⟩ := a2.app.head
  have o3 := hc ws _ _ a3 hn
  have o := ok_if (by rw [hat'.txt]; rfl) o1 (by rw [a1.app.txt]; rfl) o2 (by rw [a2.app.txt]; rfl) o3
  have e : n + (tk kIf :: (s ++ tk kThen :: (t ++ tk kElse :: u))).length = n + 1 + s.length + 1 + t.length + 1 + u.length := by simp; omega
  rw [e]; exact o
theorem all_let {nm : ByteArray} {s t : List Tok} {a b : TreeV} (ha : ExprK s a) (hb : ExprK t b) : AllK 0 (tk kLet :: (2, nm) :: sg sEq :: (s ++ tk kIn :: t)) (node2 22 nm a b) := by
  refine all_expr fun ws n rest hat hn => ?_
  have hat' : AtK ws n ((3, kLet) :: (2, nm) :: (4, sEq) :: (s ++ ((3, kIn) :: (t ++ rest)))) := by simpa [tk, sg] using hat
  obtain ⟨_, a1⟩ := hat'.head
  obtain ⟨⟨w, hw, q0, q1⟩, a2⟩ := a1.head
  obtain ⟨_, a3⟩ := a2.head
  have o1 := ha ws _ _ a3 (noS_lit _ _ _ (by decide) (by decide) (by decide) (by decide) (by decide) (by decide))
  obtain ⟨_, a4⟩ := a3.app.head
  have o2 := hb ws _ _ a4 hn
  have o := ok_let (by rw [hat'.txt]; rfl) hw q0 (by rw [a2.txt]; rfl) o1 (by rw [a3.app.txt]; rfl) o2
  rw [q1] at o
  have e : n + (tk kLet :: (2, nm) :: sg sEq :: (s ++ tk kIn :: t)).length = n + 1 + 1 + 1 + s.length + 1 + t.length := by simp; omega
  rw [e]; exact o
theorem all_rep {nm : ByteArray} {s t u : List Tok} {a b c : TreeV} (ha : ExprK s a) (hb : ExprK t b) (hc : ExprK u c) : AllK 0 (tk kRep :: (s ++ tk kAs :: (2, nm) :: tk kFrom :: (t ++ tk kBy :: u))) (node3 23 nm a b c) := by
  refine all_expr fun ws n rest hat hn => ?_
  have hat' : AtK ws n ((3, kRep) :: (s ++ ((3, kAs) :: (2, nm) :: (3, kFrom) :: (t ++ ((3, kBy) :: (u ++ rest)))))) := by simpa [tk] using hat
  obtain ⟨_, a1⟩ := hat'.head
  have o1 := ha ws _ _ a1 (noS_lit _ _ _ (by decide) (by decide) (by decide) (by decide) (by decide) (by decide))
  obtain ⟨_, a2⟩ := a1.app.head
  obtain ⟨⟨w, hw, q0, q1⟩, a3⟩ := a2.head
  obtain ⟨_, a4⟩ := a3.head
  have o2 := hb ws _ _ a4 (noS_lit _ _ _ (by decide) (by decide) (by decide) (by decide) (by decide) (by decide))
  obtain ⟨_, a5⟩ := a4.app.head
  have o3 := hc ws _ _ a5 hn
  have o := ok_rep (by rw [hat'.txt]; rfl) o1 (by rw [a1.app.txt]; rfl) hw q0 (by rw [a3.txt]; rfl) o2 (by rw [a4.app.txt]; rfl) o3
  rw [q1] at o
  have e : n + (tk kRep :: (s ++ tk kAs :: (2, nm) :: tk kFrom :: (t ++ tk kBy :: u))).length = n + 1 + s.length + 1 + 1 + 1 + t.length + 1 + u.length := by simp; omega
  rw [e]; exact o
end Go.Proofs.YtjfebnplffpmoaaGreatDoor
