/-
  The words of a text, put together with blanks, are cut into the same words, and read as the same tree: mathematics alone.
-/
import Derived.Test.YtjfebnplffpmoaaGreatDoorMerged18
import Derived.Test.YtjfebnplffpmoaaGreatDoorMerged17
import Derived.Test.YtjfebnplffpmoaaGreatDoorMerged21
set_option linter.unusedVariables false
namespace Go.Proofs.YtjfebnplffpmoaaGreatDoor
open Go.RowKit Go.Maps Go.Deep

theorem txt_tok {ws us : List WordV} (h : ws.map tokW = us.map tokW) (n : Nat) : txt ws n = txt us n := by
  have e : (ws.map tokW)[n]? = (us.map tokW)[n]? := by rw [h]
  rw [List.getElem?_map, List.getElem?_map] at e
  unfold txt
  cases h1 : ws[n]? with
  | none => cases h2 : us[n]? with
    | none => rfl
    | some y => rw [h1, h2] at e; cases e
  | some x => cases h2 : us[n]? with
    | none => rw [h1, h2] at e; cases e
    | some y =>
      rw [h1, h2] at e
      simp only [Option.map_some, Option.some.injEq, tokW, Prod.mk.injEq] at e
      simp only [e.1, e.2]
theorem must_tok {ws us : List WordV} (h : ws.map tokW = us.map tokW) {s : ByteArray} {n : Nat} {F F' : Nat → PRes} (hF : ∀ k, F k = F' k) : must ws s n F = must us s n F' := by
  unfold must
  rw [txt_tok h, hF]
theorem name_tok {ws us : List WordV} (h : ws.map tokW = us.map tokW) {n : Nat} {F F' : ByteArray → Nat → PRes} (hF : ∀ s k, F s k = F' s k) : mustName ws n F = mustName us n F' := by
  have e : (ws.map tokW)[n]? = (us.map tokW)[n]? := by rw [h]
  rw [List.getElem?_map, List.getElem?_map] at e
  unfold mustName
  cases h1 : ws[n]? with
  | none => cases h2 : us[n]? with
    | none => rfl
    | some y => rw [h1, h2] at e; cases e
  | some x => cases h2 : us[n]? with
    | none => rw [h1, h2] at e; cases e
    | some y =>
      rw [h1, h2] at e
      simp only [Option.map_some, Option.some.injEq, tokW, Prod.mk.injEq] at e
      simp only [e.1, e.2, hF]
theorem then_tok {r r' : PRes} {F F' : TreeV → Nat → PRes} (h : r = r') (hF : ∀ t k, F t k = F' t k) : r.then F = r'.then F' := by
  subst h
  have : F = F' := funext fun t => funext fun k => hF t k
  rw [this]
theorem parse_tok {ws us : List WordV} (h : ws.map tokW = us.map tokW) : ∀ f m n, parse ws f m n = parse us f m n := by
  intro f
  induction f with
  | zero => intro m n; rw [parse, parse]
  | succ f ih =>
    intro m n
    cases m with
    | expr =>
      rw [parse.eq_2, parse.eq_2, txt_tok h]
      split
      · exact then_tok (ih _ _) fun a n1 => must_tok h fun n2 => then_tok (ih _ _) fun b n3 => must_tok h fun n4 => then_tok (ih _ _) fun c n5 => rfl
      split
      · exact name_tok h fun nm n1 => must_tok h fun n2 => then_tok (ih _ _) fun a n3 => must_tok h fun n4 => then_tok (ih _ _) fun b n5 => rfl
      split
      · exact then_tok (ih _ _) fun a n1 => must_tok h fun n2 => name_tok h fun nm n3 => must_tok h fun n4 => then_tok (ih _ _) fun b n5 => must_tok h fun n6 => then_tok (ih _ _) fun c n7 => rfl
      exact ih _ _
    | level lv =>
      rw [parse.eq_3, parse.eq_3]
      split
      · exact ih _ _
      · exact then_tok (ih _ _) fun a n1 => ih _ _
    | loop lv a =>
      rw [parse.eq_4, parse.eq_4, txt_tok h]
      split
      · rfl
      · refine then_tok (ih _ _) fun b n1 => ?_
        split
        · rfl
        · exact ih _ _
    | ahead =>
      rw [parse.eq_5, parse.eq_5, txt_tok h]
      split
      · exact then_tok (ih _ _) fun a n1 => rfl
      split
      · exact then_tok (ih _ _) fun a n1 => rfl
      exact ih _ _
    | atom =>
      have e : (ws.map tokW)[n]? = (us.map tokW)[n]? := by rw [h]
      rw [List.getElem?_map, List.getElem?_map] at e
      rw [parse.eq_6, parse.eq_6]
      cases h1 : ws[n]? with
      | none => cases h2 : us[n]? with
        | none => rfl
        | some y => rw [h1, h2] at e; cases e
      | some x => cases h2 : us[n]? with
        | none => rw [h1, h2] at e; cases e
        | some y =>
          rw [h1, h2] at e
          simp only [Option.map_some, Option.some.injEq, tokW, Prod.mk.injEq] at e
          simp only [e.1, e.2]
          split
          · rfl
          split
          · rfl
          split
          · exact must_tok h fun n1 => then_tok (ih _ _) fun a n2 => must_tok h fun n3 => then_tok (ih _ _) fun b n4 => must_tok h fun n5 => rfl
          split
          · exact must_tok h fun n1 => then_tok (ih _ _) fun a n2 => must_tok h fun n3 => rfl
          split
          · exact then_tok (ih _ _) fun a n2 => must_tok h fun n3 => rfl
          rfl
/-- texts of the same words are read as the same tree -/
theorem tree_tok {t s : ByteArray} (ht : bwCode t = 0) (hs : bwCode s = 0) (h : (bwWords t).map tokW = (bwWords s).map tokW) : (trRes t).code = (trRes s).code ∧ (trRes t).nodes = (trRes s).nodes := by
  have hl : (bwWords t).length = (bwWords s).length := by have := congrArg List.length h; simpa using this
  have hf : fuelT (bwWords t) = fuelT (bwWords s) := by unfold fuelT; rw [hl]
  have hp := parse_tok h (fuelT (bwWords t)) .expr 0
  unfold trRes
  rw [if_neg (by simpa using ht), if_neg (by simpa using hs), hp, hf, hl]
  cases parse (bwWords s) (fuelT (bwWords s)) .expr 0 with
  | out => exact ⟨rfl, rfl⟩
  | bad k => exact ⟨rfl, rfl⟩
  | ok x k =>
    simp only
    split
    · exact ⟨rfl, rfl⟩
    split
    · exact ⟨rfl, rfl⟩
    split
    · exact ⟨rfl, rfl⟩
    exact ⟨rfl, rfl⟩
theorem bl_cons {a : ByteArray} (h : 1 ≤ a.size) : ∃ b l, bl a = b :: l ∧ a = ⟨(b :: l).toArray⟩ := by
  have hl : (bl a).length = a.size := by unfold bl; rw [Array.length_toList]; rfl
  cases hq : bl a with
  | nil => rw [hq] at hl; simp at hl; omega
  | cons b l =>
    refine ⟨b, l, rfl, ?_⟩
    rw [← hq]
    unfold bl
    cases a with
    | mk d => simp
theorem sgn_lex {p : List UInt8} (hp : isSgnL p = true) : LexP Blank p [(4, ⟨p.toArray⟩)] := by
  have hm : p ∈ signLs := by
    unfold isSgnL at hp
    rw [List.any_eq_true] at hp
    obtain ⟨g, hg, e⟩ := hp
    have : g = p := by simpa using e
    rw [← this]; exact hg
  have key : ∀ g ∈ signLs, ∀ r, signPreL (g ++ 32 :: r) = g := by
    intro g hg r
    simp only [signLs, List.mem_cons, List.not_mem_nil, or_false] at hg
    rcases hg with rfl | rfl | rfl | rfl | rfl | rfl | rfl | rfl | rfl | rfl | rfl | rfl | rfl | rfl <;> rfl
  have hd : ∀ g ∈ signLs, ∃ b l, g = b :: l ∧ digB (b.toNat : Int) = false ∧ letB (b.toNat : Int) = false ∧ b ≠ 32 := by
    intro g hg
    simp only [signLs, List.mem_cons, List.not_mem_nil, or_false] at hg
    rcases hg with rfl | rfl | rfl | rfl | rfl | rfl | rfl | rfl | rfl | rfl | rfl | rfl | rfl | rfl <;> exact ⟨_, _, rfl, by decide, by decide, by decide⟩
  obtain ⟨b, l, rfl, h1, h2, h3⟩ := hd p hm
  intro S k r ha hr
  obtain ⟨r', rfl⟩ := hr
  exact lx_sign ha (key _ hm r') h1 h2 h3
/-- where a word stands, and that it is cut off again where a blank stands behind it -/
structure WordB (s : ByteArray) (x : WordV) : Prop where
  pos : ∃ k : Nat, x.a2 = (k : Int) ∧ k + x.a1.size ≤ s.size ∧ s.extract k (k + x.a1.size) = x.a1
  one : 1 ≤ x.a1.size
  lex : LexP Blank (bl x.a1) [tokW x]
theorem word_b {s : ByteArray} {k n : Nat} {x : WordV} (hk : k < s.size) (h : wordAt s k = .word x n) : WordB s x := by
  have hg := word_good hk h
  unfold wordAt at h
  split at h
  · rename_i hd
    split at h
    · cases h
    · rename_i hno
      injection h with h1 h2
      subst h1 h2
      have hz := ext_sz s k (runEnd s false k) (by omega) hg.2.1
      have he : k + (s.extract k (runEnd s false k)).size = runEnd s false k := by omega
      refine ⟨⟨k, rfl, by show k + (s.extract k (runEnd s false k)).size ≤ s.size; omega, by show s.extract k (k + (s.extract k (runEnd s false k)).size) = _; rw [he]⟩, by show 1 ≤ (s.extract k (runEnd s false k)).size; omega, ?_⟩
      have hb0 := ext_byte s k (runEnd s false k) hg.1 hg.2.1
      obtain ⟨b, l, e1, e2⟩ := bl_cons (a := s.extract k (runEnd s false k)) (by omega)
      have hall : ∀ c ∈ b :: l, digB (c.toNat : Int) = true := fun c hc => by
        rw [← e1] at hc
        obtain ⟨i, q1, q2, rfl⟩ := ext_mem s k _ hg.2.1 c hc
        have hp := run_all s false _ k rfl i q1 q2
        simp only [Bool.false_and, Bool.or_false] at hp
        exact hp
      have hbb : byteAt (s.extract k (runEnd s false k)) 0 = (b.toNat : Int) := by
        rw [e2]
        rfl
      have hlen : (s.extract k (runEnd s false k)).size = (b :: l).length := by
        rw [← e1]; unfold bl; rw [Array.length_toList]; rfl
      show LexP Blank (bl (s.extract k (runEnd s false k))) [(1, s.extract k (runEnd s false k))]
      rw [e1, e2]
      intro S j r ha hr
      obtain ⟨r', rfl⟩ := hr
      refine lx_num ha (stop_blank r') hall (by omega) ?_
      cases l with
      | nil => exact .inl rfl
      | cons c l =>
        right
        rintro rfl
        refine hno (.inr ⟨?_, by rw [hlen]; simp⟩)
        rw [← hb0, hbb]
        rfl
  split at h
  · rename_i hl
    split at h
    · cases h
    · rename_i h8
      injection h with h1 h2
      subst h1 h2
      have hz := ext_sz s k (runEnd s true k) (by omega) hg.2.1
      have he : k + (s.extract k (runEnd s true k)).size = runEnd s true k := by omega
      refine ⟨⟨k, rfl, by show k + (s.extract k (runEnd s true k)).size ≤ s.size; omega, by show s.extract k (k + (s.extract k (runEnd s true k)).size) = _; rw [he]⟩, by show 1 ≤ (s.extract k (runEnd s true k)).size; omega, ?_⟩
      have hb0 := ext_byte s k (runEnd s true k) hg.1 hg.2.1
      obtain ⟨b, l, e1, e2⟩ := bl_cons (a := s.extract k (runEnd s true k)) (by omega)
      have hall : ∀ c ∈ b :: l, letB (c.toNat : Int) = true ∨ digB (c.toNat : Int) = true := fun c hc => by
        rw [← e1] at hc
        obtain ⟨i, q1, q2, rfl⟩ := ext_mem s k _ hg.2.1 c hc
        have hp := run_all s true _ k rfl i q1 q2
        simp only [Bool.true_and, Bool.or_eq_true] at hp
        exact hp.symm
      have hbb : byteAt (s.extract k (runEnd s true k)) 0 = (b.toNat : Int) := by
        rw [e2]
        rfl
      have hlen : (s.extract k (runEnd s true k)).size = (b :: l).length := by
        rw [← e1]; unfold bl; rw [Array.length_toList]; rfl
      show LexP Blank (bl (s.extract k (runEnd s true k))) [(if isKeyB (s.extract k (runEnd s true k)) then 3 else 2, s.extract k (runEnd s true k))]
      rw [e1, e2]
      intro S j r ha hr
      obtain ⟨r', rfl⟩ := hr
      exact lx_name ha (stop_blank r') (by rw [← hbb, hb0]; exact hl) hall (by omega)
  split at h
  · cases h
  · rename_i hne
    injection h with h1 h2
    subst h1 h2
    have hsg := sign_pre _ hne
    have hp1 : 1 ≤ (signPreL (tailL s k)).length := by
      cases hq : signPreL (tailL s k) with
      | nil => exact absurd hq hne
      | cons _ _ => simp
    have hsz : (⟨(signPreL (tailL s k)).toArray⟩ : ByteArray).size = (signPreL (tailL s k)).length := by simp [ByteArray.size]
    have hg2 := hg.2.1
    refine ⟨⟨k, rfl, by show k + (⟨(signPreL (tailL s k)).toArray⟩ : ByteArray).size ≤ s.size; omega, ?_⟩, by show 1 ≤ (⟨(signPreL (tailL s k)).toArray⟩ : ByteArray).size; omega, ?_⟩
    · show s.extract k (k + (⟨(signPreL (tailL s k)).toArray⟩ : ByteArray).size) = ⟨(signPreL (tailL s k)).toArray⟩
      rw [hsz]
      have hpre : signPreL (tailL s k) <+: tailL s k := by
        unfold signPreL
        cases hq : (signLs.find? fun g => g.isPrefixOf (tailL s k)) with
        | none => exact List.nil_prefix
        | some g => exact List.isPrefixOf_iff_prefix.1 (by simpa using List.find?_some hq)
      have h3 := ext_lst s k (k + (signPreL (tailL s k)).length)
      rw [← tail_lst] at h3
      generalize signPreL (tailL s k) = p at hpre h3 ⊢
      obtain ⟨r, hr⟩ := hpre
      rw [← hr, show k + p.length - k = p.length by omega, List.take_left] at h3
      generalize s.extract k (k + p.length) = y at *
      cases y with
      | mk d =>
        have : d = p.toArray := by rw [← h3]
        rw [this]
    · show LexP Blank (signPreL (tailL s k)) [(4, ⟨(signPreL (tailL s k)).toArray⟩)]
      exact sgn_lex hsg
theorem lex_b (s : ByteArray) : ∀ n k ws, s.size - k = n → lexR s k = .ok ws → ∀ x ∈ ws, WordB s x := by
  intro n
  induction n using Nat.strongRecOn with
  | ind n ih =>
    intro k ws hn h
    by_cases hk : k < s.size
    · rw [lexR, dif_pos hk] at h
      split at h
      · exact ih (s.size - (k + 1)) (by omega) (k + 1) ws rfl h
      · split at h
        · cases h
        · rename_i x e hw
          have g1 := (word_good hk hw).1
          cases hq : lexR s (max e (k + 1)) with
          | bad c a => rw [hq] at h; cases h
          | ok us =>
            rw [hq] at h
            injection h with h
            subst h
            intro y hy
            rcases List.mem_cons.1 hy with rfl | hy
            · exact word_b hk hw
            · exact ih (s.size - max e (k + 1)) (by omega) (max e (k + 1)) us rfl hq y hy
    · rw [lexR, dif_neg hk] at h
      injection h with h
      subst h
      simp
theorem bw_b (t : ByteArray) : ∀ x ∈ bwWords t, WordB t x := by
  unfold bwWords
  split
  · simp
  · cases hl : lexR t 0 with
    | bad c a => simp
    | ok ws => exact lex_b t _ 0 ws rfl hl
/-- the words with a blank behind each -/
def joinT : List WordV → ByteArray
  | [] => ⟨#[]⟩
  | x :: ws => x.a1 ++ ⟨#[32]⟩ ++ joinT ws
theorem joinT_snoc (ws : List WordV) (x : WordV) : joinT (ws ++ [x]) = joinT ws ++ x.a1 ++ ⟨#[32]⟩ := by
  induction ws with
  | nil => show x.a1 ++ ⟨#[32]⟩ ++ ByteArray.empty = ByteArray.empty ++ x.a1 ++ ⟨#[32]⟩; simp
  | cons y ws ih => simp only [List.cons_append, joinT, ih, ByteArray.append_assoc]
theorem joinT_size (ws : List WordV) (M : Nat) (h : ∀ x ∈ ws, x.a1.size ≤ M) : (joinT ws).size ≤ ws.length * (M + 1) := by
  induction ws with
  | nil => exact Nat.zero_le _
  | cons x ws ih =>
    have h1 := ih (fun y hy => h y (by simp [hy]))
    have h2 := h x (by simp)
    simp only [joinT, ByteArray.size_append, List.length_cons]
    rw [Nat.succ_mul]
    have : (⟨#[32]⟩ : ByteArray).size = 1 := rfl
    omega
theorem join_lex (ws : List WordV) (h : ∀ x ∈ ws, LexP Blank (bl x.a1) [tokW x]) : LexP Any (bl (joinT ws)) (ws.map tokW) := by
  induction ws with
  | nil => exact fun S k r ha _ => Lx.refl S k
  | cons x ws ih =>
    have h1 : LexP Any (bl x.a1 ++ [32]) ([tokW x] ++ []) := (h x (by simp)).seq p_blank (fun r _ => ⟨r, rfl⟩)
    have h2 := h1.seq (ih (fun y hy => h y (by simp [hy]))) (any_of _)
    have e : bl ⟨#[32]⟩ = [32] := rfl
    simpa [joinT, bl_app, e] using h2
/-- put together with blanks the words are cut into the same words -/
theorem words_back (t : ByteArray) (hs : (joinT (bwWords t)).size ≤ 1500) : bwCode (joinT (bwWords t)) = 0 ∧ (bwWords (joinT (bwWords t))).map tokW = (bwWords t).map tokW := by
  have T := join_lex (bwWords t) (fun x hx => (bw_b t x hx).lex)
  generalize bwWords t = us at *
  have hat : AtB (joinT us) 0 (bl (joinT us) ++ []) := ⟨by rw [List.drop_zero, List.append_nil]; rfl, Nat.zero_le _⟩
  obtain ⟨ws, h1, h2⟩ := T (joinT us) 0 [] hat trivial
  have hsz : (bl (joinT us)).length = (joinT us).size := by unfold bl; rw [Array.length_toList]; rfl
  rw [Nat.zero_add, hsz, lex_end (joinT us) (joinT us).size (by omega)] at h2
  have h3 : lexR (joinT us) 0 = .ok ws := by rw [h2]; simp [LRes.pre]
  obtain ⟨b1, b2, _⟩ := bw_ok (by omega) h3
  exact ⟨b2, by rw [b1, h1]⟩
end Go.Proofs.YtjfebnplffpmoaaGreatDoor
