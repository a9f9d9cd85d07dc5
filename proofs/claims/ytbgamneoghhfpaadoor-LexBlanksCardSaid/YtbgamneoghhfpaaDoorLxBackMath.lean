/- What the words of a text's lines are; the text of lines is read as the same lines. No Go in sight. -/
import Derived.Test.YtbgamneoghhfpaaDoorLxTextMath
namespace Go.Proofs.YtbgamneoghhfpaaDoor.Lx

/-! Words and lines, plainly. -/
def joinF : List Word → Bs
  | [] => []
  | [x] => x.2.data.toList
  | x :: y :: r => x.2.data.toList ++ 32 :: joinF (y :: r)
def textF : List Line → Bs
  | [] => []
  | z :: r => joinF z.2 ++ 10 :: textF r
theorem joinF_snoc : ∀ (l : List Word) (x : Word), joinF (l ++ [x]) = joinF l ++ (if l.length = 0 then [] else [32]) ++ x.2.data.toList
  | [], x => by simp [joinF]
  | [y], x => by simp [joinF]
  | y :: z :: r, x => by
    have := joinF_snoc (z :: r) x
    simp only [List.cons_append, joinF] at this ⊢
    rw [this]; simp
theorem textF_snoc : ∀ (l : List Line) (z : Line), textF (l ++ [z]) = textF l ++ joinF z.2 ++ [10]
  | [], z => by simp [textF]
  | y :: r, z => by
    have := textF_snoc r z
    simp only [List.cons_append, textF] at this ⊢
    rw [this]; simp
theorem take_succW {l : List Word} {k : Nat} (h : k < l.length) : l.take (k + 1) = l.take k ++ [nthW l k] := by
  rw [List.take_add_one, List.getElem?_eq_getElem h, nthW_lt h]; rfl
theorem take_succL {l : List Line} {k : Nat} (h : k < l.length) : l.take (k + 1) = l.take k ++ [nthL l k] := by
  rw [List.take_add_one, List.getElem?_eq_getElem h, nthL_lt h]; rfl
theorem joinTo_take (ws : List Word) : ∀ k, k ≤ ws.length → joinTo ws k = joinF (ws.take k)
  | 0, _ => by simp [joinTo, joinF]
  | k + 1, h => by
    rw [joinTo_succ, joinTo_take ws k (by omega), take_succW (by omega), joinF_snoc, List.length_take, Nat.min_eq_left (by omega)]
theorem joinTo_all (ws : List Word) : joinTo ws ws.length = joinF ws := by rw [joinTo_take ws _ (Nat.le_refl _), List.take_length]
theorem textTo_take (ls : List Line) : ∀ k, k ≤ ls.length → textTo ls k = textF (ls.take k)
  | 0, _ => by simp [textTo, textF]
  | k + 1, h => by
    rw [textTo_succ, textTo_take ls k (by omega), take_succL (by omega), textF_snoc, joinTo_all]
theorem textS_F (ls : List Line) : textS ls = textF ls := by unfold textS; rw [textTo_take ls _ (Nat.le_refl _), List.take_length]

/-! What a run leaves. -/
structure Fin (l : Bs) (cols : List Nat) : Prop where
  part : ∀ c ∈ cols, c < re l c
  apart : cols.Pairwise fun c d => re l c < d

theorem re_gt {l : Bs} {c : Nat} {b : UInt8} (hb : l[c]? = some b) (hp : partB b = true) : c < re l c :=
  re_next (Nat.le_refl _) (re_ge l c) hb hp

theorem step_fin {most : Nat} {l : Bs} {i : Nat} {c : UInt8} {st st' : St} (hc : l[i]? = some c) (hI : Inv most l i st) (hF : Fin l st.cols) (h : stepS most c i st = .inr st') :
    Inv most l (i + 1) st' ∧ Fin l st'.cols := by
  unfold stepS at h
  split at h
  · cases h
  · rename_i hb
    split at h
    · rename_i hs
      injection h with h; subst h
      exact ⟨hI.skip hc hs, hF⟩
    · rename_i hs
      have hb' : badB c = false := by simpa using hb
      have hs' : (st.rem || decide ((c.toNat : Int) = 35) || decide ((c.toNat : Int) = 32)) = false := by simpa using hs
      rw [Bool.or_eq_false_iff, Bool.or_eq_false_iff] at hs'
      obtain ⟨⟨s1, s2⟩, s3⟩ := hs'
      have hp := part_of hb' s2 s3
      split at h
      · rename_i hi
        injection h with h; subst h
        exact ⟨hI.more hc hp hi, hF⟩
      · rename_i hi
        split at h
        · cases h
        · rename_i hm
          injection h with h; subst h
          have hi' : st.inw = false := by simpa using hi
          refine ⟨hI.new hc hp hi' s1 (by omega), ?_, ?_⟩
          · intro d hd
            rcases List.mem_append.1 hd with hd | hd
            · exact hF.part d hd
            · rw [List.mem_singleton] at hd; subst hd; exact re_gt hc hp
          · refine List.pairwise_append.2 ⟨hF.apart, List.pairwise_singleton _ _, fun d hd x hx => ?_⟩
            rw [List.mem_singleton] at hx; subst hx
            have h1 := hI.out hi' d hd
            rcases Nat.lt_or_ge (re l d) x with h2 | h2
            · exact h2
            · have e : re l d = x := by omega
              have := tw_out (l.drop d) c (by rw [List.getElem?_drop]; rw [show d + tw (l.drop d) = x from e]; exact hc)
              rw [hp] at this; cases this
theorem run_fin {most : Nat} {l : Bs} : ∀ (m i : Nat) (st st' : St), l.length - i = m → i ≤ l.length → Inv most l i st → Fin l st.cols → runS most (l.drop i) i st = .inr st' → Inv most l l.length st' ∧ Fin l st'.cols
  | 0, i, st, st', hm, hi, hI, hF, h => by
    rw [runS_end (by omega)] at h
    injection h with h; subst h
    obtain rfl : i = l.length := by omega
    exact ⟨hI, hF⟩
  | m + 1, i, st, st', hm, hi, hI, hF, h => by
    have hlt : i < l.length := by omega
    have hc : l[i]? = some l[i] := List.getElem?_eq_getElem hlt
    rw [runS_at hc] at h
    cases hs : stepS most l[i] i st with
    | inl e => rw [hs] at h; cases h
    | inr s2 =>
      rw [hs] at h
      obtain ⟨a, b⟩ := step_fin hc hI hF hs
      exact run_fin m (i + 1) s2 st' (by omega) (by omega) a b h
theorem line_fin {most : Nat} {l : Bs} {st : St} (h : lineS most l = .inr st) : Inv most l l.length st ∧ Fin l st.cols :=
  run_fin (l.length - 0) 0 st0 st rfl (Nat.zero_le _) (Inv.start most l) ⟨fun c h => (by cases h), List.Pairwise.nil⟩ (by rw [List.drop_zero]; exact h)

/-- A word is not empty and has no blank. -/
def wfW (x : Word) : Prop := 0 < x.2.size ∧ ∀ b ∈ x.2.data.toList, partB b = true
def wfL (z : Line) : Prop := 0 < z.2.length ∧ z.2.length ≤ 40 ∧ ∀ x ∈ z.2, wfW x
def sumW : List Word → Nat
  | [] => 0
  | x :: r => x.2.size + 1 + sumW r
theorem joinF_len : ∀ ws : List Word, ws ≠ [] → (joinF ws).length + 1 = sumW ws
  | [], h => absurd rfl h
  | [x], _ => by simp [joinF, sumW]
  | x :: y :: r, _ => by
    have := joinF_len (y :: r) (by simp)
    simp only [joinF, sumW, List.length_append, List.length_cons] at this ⊢
    have h2 : x.2.data.toList.length = x.2.size := by simp
    omega
theorem ext_list (p : ByteArray) (a b : Nat) : (p.extract a b).data.toList = (p.data.toList.take b).drop a := by
  rw [ByteArray.data_extract, Array.toList_extract]
  simp [List.take_drop]
  by_cases h : a ≤ b
  · rw [show a + (b - a) = b by omega]
  · rw [List.drop_eq_nil_of_le (by simp; omega), List.drop_eq_nil_of_le (by simp; omega)]
theorem word_wf {p : ByteArray} {c : Nat} (hc : c < re p.data.toList c) (hle : re p.data.toList c ≤ p.size) : wfW (c + 1, p.extract c (re p.data.toList c)) := by
  constructor
  · simp; omega
  · intro b hb
    show partB b = true
    have hb' : b ∈ (p.extract c (re p.data.toList c)).data.toList := hb
    rw [ext_list] at hb'
    obtain ⟨j, hj⟩ := List.mem_iff_getElem?.1 hb'
    rw [List.getElem?_drop, List.getElem?_take] at hj
    split at hj
    · rename_i hlt
      exact tw_in (p.data.toList.drop c) j b (by unfold re at hlt; omega) (by rw [List.getElem?_drop]; exact hj)
    · cases hj
theorem sum_cols {p : ByteArray} : ∀ (cols : List Nat) (m : Nat), (∀ c ∈ cols, m ≤ c ∧ c < re p.data.toList c ∧ re p.data.toList c ≤ p.size) → cols.Pairwise (fun c d => re p.data.toList c < d) → cols ≠ [] → sumW (wordsB p cols) ≤ p.size + 1 - m
  | [], m, _, _, h => absurd rfl h
  | [c], m, h, _, _ => by
    have := h c (by simp)
    simp [wordsB, sumW]; omega
  | c :: d :: r, m, h, hp, _ => by
    have h1 := h c (by simp)
    rw [List.pairwise_cons] at hp
    have ih := sum_cols (p := p) (d :: r) (re p.data.toList c + 1) (fun x hx => ⟨hp.1 x hx, (h x (by simp [List.mem_cons.1 hx])).2⟩) hp.2 (by simp)
    have hd := h d (by simp)
    have hd2 := hp.1 d (by simp)
    have e : sumW (wordsB p (c :: d :: r)) = (p.extract c (re p.data.toList c)).size + 1 + sumW (wordsB p (d :: r)) := rfl
    rw [e]
    simp; omega
theorem line_good {most : Nat} {p : ByteArray} {st : St} (h : lineS most p.data.toList = .inr st) :
    (∀ x ∈ wordsB p st.cols, wfW x) ∧ (wordsB p st.cols).length ≤ most ∧ (st.cols.length ≠ 0 → (joinF (wordsB p st.cols)).length ≤ p.size) := by
  obtain ⟨hI, hF⟩ := line_fin h
  have hl : p.data.toList.length = p.size := by simp
  have hle : ∀ c ∈ st.cols, re p.data.toList c ≤ p.size := fun c hc => by
    have := re_le (l := p.data.toList) (c := c) (by have := hI.lt c hc; omega)
    omega
  refine ⟨fun x hx => ?_, ?_, fun h0 => ?_⟩
  · obtain ⟨c, hc, rfl⟩ := List.mem_map.1 hx
    exact word_wf (hF.part c hc) (hle c hc)
  · simp [wordsB]; exact hI.most
  · have hne : st.cols ≠ [] := fun e => h0 (by rw [e]; rfl)
    have h1 := sum_cols (p := p) st.cols 0 (fun c hc => ⟨Nat.zero_le _, hF.part c hc, hle c hc⟩) hF.apart hne
    have h2 := joinF_len (wordsB p st.cols) (by unfold wordsB; simpa using hne)
    omega

def sumP : List ByteArray → Nat
  | [] => 0
  | p :: r => p.size + 1 + sumP r
theorem linesS_three (p : ByteArray) (r : List ByteArray) (n : Nat) (out : List Line) : linesS (p :: r) n out = match lineS (if out.length = 2000 then 0 else 40) p.data.toList with
    | .inl (c, e) => .inl (n, c, e)
    | .inr st => linesS r (n + 1) (if st.cols.length = 0 then out else out ++ [(n, wordsB p st.cols)]) := rfl
theorem lines_good : ∀ (ps : List ByteArray) (n : Nat) (out ls : List Line), linesS ps n out = .inr ls → out.length ≤ 2000 → (∀ z ∈ out, wfL z) →
    ls.length ≤ 2000 ∧ (∀ z ∈ ls, wfL z) ∧ (textF ls).length ≤ (textF out).length + sumP ps
  | [], n, out, ls, h, hl, hw => by
    injection h with h; subst h
    exact ⟨hl, hw, by simp [sumP]⟩
  | p :: r, n, out, ls, h, hl, hw => by
    rw [linesS_three] at h
    cases hs : lineS (if out.length = 2000 then 0 else 40) p.data.toList with
    | inl e => rw [hs] at h; cases h
    | inr st =>
      rw [hs] at h
      obtain ⟨g1, g2, g3⟩ := line_good hs
      by_cases h0 : st.cols.length = 0
      · have h' : linesS r (n + 1) out = .inr ls := by simpa [h0] using h
        obtain ⟨i1, i2, i3⟩ := lines_good r (n + 1) out ls h' hl hw
        exact ⟨i1, i2, by simp only [sumP]; omega⟩
      · have h' : linesS r (n + 1) (out ++ [(n, wordsB p st.cols)]) = .inr ls := by simpa [h0] using h
        have hlen : (wordsB p st.cols).length = st.cols.length := by simp [wordsB]
        have h2000 : out.length ≠ 2000 := by
          intro e; rw [if_pos e] at g2; omega
        rw [if_neg h2000] at g2
        have g4 := g3 h0
        obtain ⟨i1, i2, i3⟩ := lines_good r (n + 1) _ ls h' (by simp; omega) (fun z hz => by
          rcases List.mem_append.1 hz with hz | hz
          · exact hw z hz
          · rw [List.mem_singleton] at hz; subst hz
            exact ⟨by rw [hlen]; omega, g2, g1⟩)
        refine ⟨i1, i2, ?_⟩
        rw [textF_snoc] at i3
        simp only [sumP, List.length_append, List.length_cons, List.length_nil] at i3 ⊢
        omega
theorem mk_size (l : Bs) : (mk l).size = l.length := by simp [mk, ByteArray.size]
theorem sumP_pieces : ∀ l : Bs, sumP (pieces l) = l.length + 1
  | [] => by simp [pieces, cut, sumP, mk_size]
  | c :: r => by
    have ih := sumP_pieces r
    unfold pieces at ih ⊢
    rw [cut]
    split
    · simp only [List.map_cons, sumP, mk_size, List.length_nil, List.length_cons]; omega
    · cases hc : cut 10 r with
      | nil => rw [hc] at ih; simp [sumP] at ih
      | cons q ps =>
        rw [hc] at ih
        simp only [List.map_cons, sumP, mk_size, List.length_cons] at ih ⊢
        omega
theorem lex_good {s : ByteArray} {ls : List Line} (h : lexS s = .inr ls) : ls.length ≤ 2000 ∧ (∀ z ∈ ls, wfL z) ∧ (textS ls).length ≤ s.size + 1 := by
  unfold lexS at h
  split at h
  · cases h
  · obtain ⟨h1, h2, h3⟩ := lines_good _ _ _ _ h (by simp) (fun z hz => by cases hz)
    rw [sumP_pieces] at h3
    refine ⟨h1, h2, ?_⟩
    rw [textS_F]
    simpa [textF] using h3
theorem lex_err {s : ByteArray} {a c x : Nat} (h : lexS s = .inl (a, c, x)) : x ≠ 0 := by
  unfold lexS at h
  split at h
  · injection h with h; simp at h; omega
  · have : ∀ (ps : List ByteArray) (n : Nat) (out : List Line), linesS ps n out = .inl (a, c, x) → x ≠ 0 := by
      intro ps
      induction ps with
      | nil => intro n out h; cases h
      | cons p r ih =>
        intro n out h
        rw [linesS_three] at h
        cases hs : lineS (if out.length = 2000 then 0 else 40) p.data.toList with
        | inl e =>
          rw [hs] at h
          obtain ⟨e1, e2⟩ := e
          have h' : (n, e1, e2) = (a, c, x) := Sum.inl.inj h
          simp only [Prod.mk.injEq] at h'
          have := run_err _ _ _ _ _ hs
          omega
        | inr st =>
          rw [hs] at h
          exact ih _ _ h
    exact this _ _ _ h

/-! The other way: the text of good lines is read as the same lines. -/
theorem cut_join (a : Bs) (r : Bs) (h : ∀ b ∈ a, b ≠ 10) : cut 10 (a ++ 10 :: r) = a :: cut 10 r := by
  induction a with
  | nil => simp [cut]
  | cons c a ih =>
    have hc : (c == 10) = false := by simpa using h c (by simp)
    rw [List.cons_append, cut, hc, ih (fun b hb => h b (by simp [hb]))]
    rfl
theorem part_not10 {b : UInt8} (h : partB b = true) : b ≠ 10 := by
  intro e; subst e; revert h; decide
theorem joinF_not10 : ∀ ws : List Word, (∀ x ∈ ws, wfW x) → ∀ b ∈ joinF ws, b ≠ 10
  | [], _, b, hb => by cases hb
  | [x], h, b, hb => part_not10 ((h x (by simp)).2 b hb)
  | x :: y :: r, h, b, hb => by
    rw [joinF, List.mem_append, List.mem_cons] at hb
    rcases hb with hb | hb | hb
    · exact part_not10 ((h x (by simp)).2 b hb)
    · subst hb; decide
    · exact joinF_not10 (y :: r) (fun z hz => h z (by simp [List.mem_cons.1 hz])) b hb
theorem cut_textF : ∀ ls : List Line, (∀ z ∈ ls, wfL z) → cut 10 (textF ls) = ls.map (fun z => joinF z.2) ++ [[]]
  | [], _ => rfl
  | z :: r, h => by
    rw [textF, cut_join _ _ (joinF_not10 z.2 (h z (by simp)).2.2), cut_textF r (fun x hx => h x (by simp [hx]))]
    rfl

/-- A run over bytes of a word, within it. -/
theorem run_in {most : Nat} : ∀ (x r : Bs) (i : Nat) (cols : List Nat), (∀ b ∈ x, partB b = true) →
    runS most (x ++ r) i ⟨cols, true, false⟩ = runS most r (i + x.length) ⟨cols, true, false⟩
  | [], r, i, cols, _ => by simp
  | c :: x, r, i, cols, h => by
    have hp := h c (by simp)
    have hs : stepS most c i ⟨cols, true, false⟩ = .inr ⟨cols, true, false⟩ := by
      unfold partB at hp
      simp at hp
      unfold stepS badB
      rw [if_neg (by simp; omega), if_neg (by simp; omega), if_pos rfl]
    rw [List.cons_append, runS_cons, hs]
    show runS most (x ++ r) (i + 1) _ = _
    rw [run_in x r (i + 1) cols (fun b hb => h b (by simp [hb])), List.length_cons, show i + 1 + x.length = i + (x.length + 1) by omega]
theorem run_word {most : Nat} (x r : Bs) (i : Nat) (cols : List Nat) (h : ∀ b ∈ x, partB b = true) (hne : 0 < x.length) (hm : cols.length < most) :
    runS most (x ++ r) i ⟨cols, false, false⟩ = runS most r (i + x.length) ⟨cols ++ [i], true, false⟩ := by
  match x, hne with
  | c :: x, _ =>
    have hp := h c (by simp)
    have hs : stepS most c i ⟨cols, false, false⟩ = .inr ⟨cols ++ [i], true, false⟩ := by
      unfold partB at hp
      simp at hp
      unfold stepS badB
      rw [if_neg (by simp; omega), if_neg (by simp; omega), if_neg (by simp), if_neg (by show ¬ most ≤ cols.length; omega)]
    rw [List.cons_append, runS_cons, hs]
    show runS most (x ++ r) (i + 1) _ = _
    rw [run_in x r (i + 1) _ (fun b hb => h b (by simp [hb])), List.length_cons, show i + 1 + x.length = i + (x.length + 1) by omega]
theorem run_blank {most : Nat} (r : Bs) (i : Nat) (cols : List Nat) : runS most (32 :: r) i ⟨cols, true, false⟩ = runS most r (i + 1) ⟨cols, false, false⟩ := by
  have hs : stepS most 32 i ⟨cols, true, false⟩ = .inr ⟨cols, false, false⟩ := by
    unfold stepS
    rw [if_neg (by decide), if_pos (by simp)]
    rfl
  rw [runS_cons, hs]
/-- Where the words of joined words begin. -/
def colsF : List Word → Nat → List Nat
  | [], _ => []
  | x :: r, i => i :: colsF r (i + x.2.size + 1)
theorem size_len (p : ByteArray) : p.data.toList.length = p.size := by simp
theorem run_join {most : Nat} : ∀ (ws : List Word) (i : Nat) (cols : List Nat), ws ≠ [] → (∀ x ∈ ws, wfW x) → cols.length + ws.length ≤ most →
    runS most (joinF ws) i ⟨cols, false, false⟩ = .inr ⟨cols ++ colsF ws i, true, false⟩
  | [], _, _, h, _, _ => absurd rfl h
  | [x], i, cols, _, h, hm => by
    have hx := h x (by simp)
    have e := run_word (most := most) x.2.data.toList [] i cols hx.2 (by rw [size_len]; exact hx.1) (by simp at hm; omega)
    rw [List.append_nil] at e
    rw [joinF, e, runS_nil]; rfl
  | x :: y :: r, i, cols, _, h, hm => by
    have hx := h x (by simp)
    rw [joinF, run_word (most := most) x.2.data.toList _ i cols hx.2 (by rw [size_len]; exact hx.1) (by simp at hm; omega), run_blank,
      run_join (y :: r) _ _ (by simp) (fun z hz => h z (by simp [List.mem_cons.1 hz])) (by simp at hm ⊢; omega), size_len]
    simp [colsF]
theorem tw_app : ∀ (x r : Bs), (∀ b ∈ x, partB b = true) → tw (x ++ r) = x.length + tw r
  | [], r, _ => by simp
  | c :: x, r, h => by
    rw [List.cons_append, tw, if_pos (h c (by simp)), tw_app x r (fun b hb => h b (by simp [hb])), List.length_cons]; omega
theorem tw_join (x : Word) (r : List Word) (hx : wfW x) : tw (joinF (x :: r)) = x.2.size ∧ (joinF (x :: r)).take x.2.size = x.2.data.toList := by
  have hl := size_len x.2
  cases r with
  | nil =>
    have e := tw_app x.2.data.toList [] hx.2
    rw [List.append_nil] at e
    rw [joinF, e]
    refine ⟨by rw [hl]; rfl, ?_⟩
    rw [← hl, List.take_length]
  | cons y r =>
    rw [joinF, tw_app _ _ hx.2]
    refine ⟨by rw [hl]; rfl, ?_⟩
    rw [← hl, List.take_left]
/-- The words' texts at those places are the words' texts. -/
theorem cols_texts (p : ByteArray) : ∀ (ws : List Word) (i : Nat) (pre : Bs), p.data.toList = pre ++ joinF ws → pre.length = i → (∀ x ∈ ws, wfW x) →
    (colsF ws i).map (fun c => p.extract c (re p.data.toList c)) = ws.map (·.2)
  | [], _, _, _, _, _ => rfl
  | x :: r, i, pre, hp, hi, h => by
    have hx := h x (by simp)
    obtain ⟨t1, t2⟩ := tw_join x r hx
    have hd : p.data.toList.drop i = joinF (x :: r) := by rw [hp, ← hi, List.drop_left]
    have hre : re p.data.toList i = i + x.2.size := by unfold re; rw [hd, t1]
    have hex : p.extract i (re p.data.toList i) = x.2 := by
      have e : (p.extract i (re p.data.toList i)).data.toList = x.2.data.toList := by
        rw [ext_list, hre, List.drop_take, hd, Nat.add_sub_cancel_left, t2]
      exact ByteArray.ext (Array.ext' e)
    rw [colsF, List.map_cons, List.map_cons, hex]
    congr 1
    cases r with
    | nil => rfl
    | cons y r =>
      refine cols_texts p (y :: r) _ (pre ++ x.2.data.toList ++ [32]) ?_ ?_ (fun z hz => h z (by simp [List.mem_cons.1 hz]))
      · rw [hp, joinF]; simp
      · simp; omega
theorem line_join (ws : List Word) (h1 : 0 < ws.length) (h2 : ws.length ≤ 40) (h3 : ∀ x ∈ ws, wfW x) : lineS 40 (joinF ws) = .inr ⟨colsF ws 0, true, false⟩ := by
  have hne : ws ≠ [] := by intro e; rw [e] at h1; simp at h1
  unfold lineS st0
  rw [run_join ws 0 [] hne h3 (by simpa using h2)]; rfl
theorem colsF_len : ∀ (ws : List Word) (i : Nat), (colsF ws i).length = ws.length
  | [], _ => rfl
  | x :: r, i => by rw [colsF, List.length_cons, List.length_cons, colsF_len r]

/-- The lines, read again. -/
def relines : List Line → Nat → List Line
  | [], _ => []
  | z :: r, n => (n, wordsB (mk (joinF z.2)) (colsF z.2 0)) :: relines r (n + 1)
theorem mk_list' (l : Bs) : (mk l).data.toList = l := by simp [mk]
theorem lines_join : ∀ (ls : List Line) (n : Nat) (out : List Line), (∀ z ∈ ls, wfL z) → out.length + ls.length ≤ 2000 →
    linesS ((ls.map fun z => joinF z.2).map mk ++ [mk []]) n out = .inr (out ++ relines ls n)
  | [], n, out, _, _ => by
    show linesS [mk []] n out = _
    rw [linesS_three, mk_list']
    show linesS [] (n + 1) (if st0.cols.length = 0 then out else _) = _
    rw [relines, List.append_nil]; rfl
  | z :: r, n, out, h, hl => by
    obtain ⟨h1, h2, h3⟩ := h z (by simp)
    simp only [List.length_cons] at hl
    show linesS (mk (joinF z.2) :: ((r.map fun z => joinF z.2).map mk ++ [mk []])) n out = _
    rw [linesS_three, mk_list', if_neg (by omega), line_join z.2 h1 h2 h3]
    show linesS _ (n + 1) (if (colsF z.2 0).length = 0 then out else _) = _
    rw [if_neg (by rw [colsF_len]; omega), lines_join r (n + 1) _ (fun x hx => h x (by simp [hx])) (by simp; omega), relines]
    simp
theorem relines_len : ∀ (ls : List Line) (n : Nat), (relines ls n).length = ls.length
  | [], _ => rfl
  | z :: r, n => by rw [relines, List.length_cons, List.length_cons, relines_len r]
def wtexts (ws : List Word) : List ByteArray := ws.map (·.2)
theorem re_texts (z : Line) (h : wfL z) : wtexts (wordsB (mk (joinF z.2)) (colsF z.2 0)) = wtexts z.2 := by
  unfold wtexts wordsB
  rw [List.map_map]
  exact cols_texts (mk (joinF z.2)) z.2 0 [] (by rw [mk_list']; rfl) rfl h.2.2
theorem relines_get : ∀ (ls : List Line) (n k : Nat), (∀ z ∈ ls, wfL z) → k < ls.length → (nthL (relines ls n) k).1 = n + k ∧ wtexts (nthL (relines ls n) k).2 = wtexts (nthL ls k).2
  | [], _, k, _, h => by simp at h
  | z :: r, n, 0, h, _ => ⟨rfl, re_texts z (h z (by simp))⟩
  | z :: r, n, k + 1, h, hk => by
    have := relines_get r (n + 1) k (fun x hx => h x (by simp [hx])) (by simpa using hk)
    refine ⟨?_, this.2⟩
    have e : (nthL (relines (z :: r) n) (k + 1)).1 = (nthL (relines r (n + 1)) k).1 := rfl
    rw [e, this.1]; omega
theorem joinF_texts : ∀ (a b : List Word), wtexts a = wtexts b → joinF a = joinF b
  | [], [], _ => rfl
  | [], y :: b, h => by simp [wtexts] at h
  | x :: a, [], h => by simp [wtexts] at h
  | [x], [y], h => by simp [wtexts] at h; simp [joinF, h]
  | [x], y :: y2 :: b, h => by simp [wtexts] at h
  | x :: x2 :: a, [y], h => by simp [wtexts] at h
  | x :: x2 :: a, y :: y2 :: b, h => by
    have h' : x.2 = y.2 ∧ wtexts (x2 :: a) = wtexts (y2 :: b) := by
      unfold wtexts at h ⊢
      rw [List.map_cons, List.map_cons (l := y2 :: b)] at h
      injection h with h1 h2
      exact ⟨h1, h2⟩
    rw [joinF, joinF, h'.1, joinF_texts (x2 :: a) (y2 :: b) h'.2]
theorem relines_text : ∀ (ls : List Line) (n : Nat), (∀ z ∈ ls, wfL z) → textF (relines ls n) = textF ls
  | [], _, _ => rfl
  | z :: r, n, h => by
    rw [relines, textF, textF, relines_text r (n + 1) (fun x hx => h x (by simp [hx])), joinF_texts _ _ (re_texts z (h z (by simp)))]
/-- The text of lines that were read is read as the same lines. -/
theorem lex_back {ls : List Line} (h1 : ls.length ≤ 2000) (h2 : ∀ z ∈ ls, wfL z) (h3 : (textS ls).length ≤ 65536) : lexS (mk (textS ls)) = .inr (relines ls 1) := by
  unfold lexS
  rw [if_neg (by rw [mk_size]; omega), mk_list', textS_F]
  unfold pieces
  rw [cut_textF ls h2, List.map_append]
  exact lines_join ls 1 [] h2 (by simpa using h1)
theorem wtexts_len {a b : List Word} (h : wtexts a = wtexts b) : a.length = b.length := by
  have := congrArg List.length h
  simpa [wtexts] using this
theorem wtexts_get {a b : List Word} (h : wtexts a = wtexts b) {k : Nat} (hk : k < a.length) : (nthW a k).2 = (nthW b k).2 := by
  have hl := wtexts_len h
  have e : (wtexts a)[k]? = (wtexts b)[k]? := by rw [h]
  unfold wtexts at e
  rw [List.getElem?_map, List.getElem?_map, List.getElem?_eq_getElem hk, List.getElem?_eq_getElem (by omega)] at e
  rw [nthW_lt hk, nthW_lt (by omega)]
  simpa using e
end Go.Proofs.YtbgamneoghhfpaaDoor.Lx
