/- Blanks ahead of a line, behind it, and something behind a sharp sign, change no word. No Go in sight. -/
import Derived.Test.YtbgamneoghhfpaaDoorLxBackMath
namespace Go.Proofs.YtbgamneoghhfpaaDoor.Lx

def okB (c : UInt8) : Bool := decide (32 ≤ (c.toNat : Int)) && decide ((c.toNat : Int) ≤ 126) && !decide ((c.toNat : Int) = 35)
def noteB (c : UInt8) : Bool := decide (32 ≤ (c.toNat : Int)) && decide ((c.toNat : Int) ≤ 126)

def sh (a : Nat) (st : St) : St := ⟨st.cols.map (· + a), st.inw, st.rem⟩
def shR (a : Nat) : Sum (Nat × Nat) St → Sum (Nat × Nat) St
  | .inl (c, e) => .inl (c + a, e)
  | .inr st => .inr (sh a st)
theorem step_sh (most : Nat) (c : UInt8) (i a : Nat) (st : St) : stepS most c (i + a) (sh a st) = shR a (stepS most c i st) := by
  unfold stepS sh
  simp only [List.length_map]
  split
  · show Sum.inl (i + a + 1, 3) = Sum.inl (i + 1 + a, 3)
    rw [show i + a + 1 = i + 1 + a by omega]
  · split
    · rfl
    · split
      · rfl
      · split
        · show Sum.inl (i + a + 1, 4) = Sum.inl (i + 1 + a, 4)
          rw [show i + a + 1 = i + 1 + a by omega]
        · show Sum.inr _ = Sum.inr (sh a _)
          unfold sh
          simp
theorem run_sh (most a : Nat) : ∀ (x : Bs) (i : Nat) (st : St), runS most x (i + a) (sh a st) = shR a (runS most x i st)
  | [], i, st => rfl
  | c :: x, i, st => by
    rw [runS_cons, runS_cons, step_sh]
    cases stepS most c i st with
    | inl e => rfl
    | inr s2 =>
      show runS most x (i + a + 1) (sh a s2) = shR a (runS most x (i + 1) s2)
      rw [show i + a + 1 = i + 1 + a by omega]
      exact run_sh most a x (i + 1) s2
theorem run_app (most : Nat) : ∀ (x y : Bs) (i : Nat) (st : St), runS most (x ++ y) i st = match runS most x i st with
    | .inl e => .inl e
    | .inr st' => runS most y (i + x.length) st'
  | [], y, i, st => by rw [runS_nil]; rfl
  | c :: x, y, i, st => by
    rw [List.cons_append, runS_cons, runS_cons]
    cases stepS most c i st with
    | inl e => rfl
    | inr s2 =>
      show runS most (x ++ y) (i + 1) s2 = _
      rw [run_app most x y (i + 1) s2]
      show (match runS most x (i + 1) s2 with | .inl e => Sum.inl e | .inr st' => runS most y (i + 1 + x.length) st') = match runS most x (i + 1) s2 with | .inl e => Sum.inl e | .inr st' => runS most y (i + (c :: x).length) st'
      rw [List.length_cons, show i + 1 + x.length = i + (x.length + 1) by omega]
theorem step_blank (most i : Nat) (cols : List Nat) (b : Bool) : stepS most 32 i ⟨cols, b, false⟩ = .inr ⟨cols, false, false⟩ := by
  unfold stepS
  rw [if_neg (by decide), if_pos (by simp)]
  rfl
theorem run_blanks (most : Nat) : ∀ (k i : Nat) (cols : List Nat) (b : Bool), ∃ b2, runS most (List.replicate k 32) i ⟨cols, b, false⟩ = .inr ⟨cols, b2, false⟩ ∧ (b = false → b2 = false)
  | 0, i, cols, b => ⟨b, rfl, id⟩
  | k + 1, i, cols, b => by
    obtain ⟨b2, h, h2⟩ := run_blanks most k (i + 1) cols false
    refine ⟨b2, ?_, fun _ => h2 rfl⟩
    rw [List.replicate_succ, runS_cons, step_blank]
    exact h
theorem run_note (most : Nat) : ∀ (x : Bs) (i : Nat) (cols : List Nat), (∀ c ∈ x, noteB c = true) → runS most x i ⟨cols, false, true⟩ = .inr ⟨cols, false, true⟩
  | [], _, _, _ => rfl
  | c :: x, i, cols, h => by
    have hc := h c (by simp)
    have hs : stepS most c i ⟨cols, false, true⟩ = .inr ⟨cols, false, true⟩ := by
      unfold noteB at hc
      simp at hc
      unfold stepS badB
      rw [if_neg (by simp; omega), if_pos (by simp)]
      rfl
    rw [runS_cons, hs]
    exact run_note most x (i + 1) cols (fun d hd => h d (by simp [hd]))
theorem run_tail (most k i : Nat) (n : Bs) (cols : List Nat) (b : Bool) (h : ∀ c ∈ n, noteB c = true) :
    runS most (List.replicate k 32 ++ 35 :: n) i ⟨cols, b, false⟩ = .inr ⟨cols, false, true⟩ := by
  obtain ⟨b2, e, _⟩ := run_blanks most k i cols b
  rw [run_app, e]
  show runS most (35 :: n) _ ⟨cols, b2, false⟩ = _
  have hs : ∀ j, stepS most 35 j ⟨cols, b2, false⟩ = .inr ⟨cols, false, true⟩ := by
    intro j
    unfold stepS
    rw [if_neg (by decide), if_pos (by simp)]
    rfl
  rw [runS_cons, hs]
  exact run_note most n _ cols h
theorem run_rem (most : Nat) : ∀ (x : Bs) (i : Nat) (st st' : St), (∀ c ∈ x, okB c = true) → st.rem = false → runS most x i st = .inr st' → st'.rem = false
  | [], i, st, st', _, hr, h => by
    rw [runS_nil] at h
    injection h with h; subst h; exact hr
  | c :: x, i, st, st', hx, hr, h => by
    rw [runS_cons] at h
    cases hs : stepS most c i st with
    | inl e => rw [hs] at h; cases h
    | inr s2 =>
      rw [hs] at h
      refine run_rem most x (i + 1) s2 st' (fun d hd => hx d (by simp [hd])) ?_ h
      have hc := hx c (by simp)
      unfold okB at hc
      simp at hc
      unfold stepS at hs
      split at hs
      · cases hs
      · split at hs
        · injection hs with hs; subst hs
          simp [hr]; omega
        · split at hs
          · injection hs with hs; subst hs; exact hr
          · split at hs
            · cases hs
            · injection hs with hs; subst hs; exact hr

/-- The longer line. -/
def longF (a b : Nat) (n s : Bs) : Bs := List.replicate a 32 ++ (s ++ (List.replicate b 32 ++ 35 :: n))
theorem line_long (most a b : Nat) (n s : Bs) (hs : ∀ c ∈ s, okB c = true) (hn : ∀ c ∈ n, noteB c = true) :
    lineS most (longF a b n s) = match lineS most s with
      | .inl (c, e) => .inl (c + a, e)
      | .inr st => .inr ⟨st.cols.map (· + a), false, true⟩ := by
  unfold lineS longF
  obtain ⟨b2, e, hb⟩ := run_blanks most a 0 [] false
  have hb2 := hb rfl
  subst hb2
  rw [run_app, show st0 = ⟨[], false, false⟩ from rfl, e]
  show runS most (s ++ _) (0 + (List.replicate a 32).length) ⟨[], false, false⟩ = _
  rw [List.length_replicate, run_app]
  have h1 := run_sh most a s 0 st0
  rw [show sh a st0 = ⟨[], false, false⟩ from rfl] at h1
  rw [h1]
  cases hr : runS most s 0 st0 with
  | inl x =>
    obtain ⟨c, x⟩ := x
    rw [show (⟨[], false, false⟩ : St) = st0 from rfl, hr]
    rfl
  | inr st =>
    have hrem := run_rem most s 0 st0 st hs rfl hr
    rw [show (⟨[], false, false⟩ : St) = st0 from rfl, hr]
    obtain ⟨cols, inw, rem⟩ := st
    simp only at hrem
    subst hrem
    exact run_tail most b _ n _ inw hn

theorem tw_stop : ∀ (x y : Bs), tw y = 0 → tw (x ++ y) = tw x
  | [], y, h => by rw [List.nil_append, h]; rfl
  | c :: x, y, h => by
    rw [List.cons_append, tw, tw, tw_stop x y h]
theorem tw_tail (b : Nat) (n : Bs) : tw (List.replicate b 32 ++ 35 :: n) = 0 := by
  cases b with
  | zero => rfl
  | succ b => rfl
theorem drop_len (x y : Bs) (n : Nat) : (x ++ y).drop (x.length + n) = y.drop n := by
  rw [List.drop_append, List.drop_eq_nil_of_le (by omega), Nat.add_sub_cancel_left]; rfl
theorem take_len (x y : Bs) (n : Nat) : (x ++ y).take (x.length + n) = x ++ y.take n := by
  rw [List.take_append, List.take_of_length_le (by omega), Nat.add_sub_cancel_left]
theorem re_long (a b c : Nat) (n s : Bs) (hc : c ≤ s.length) : re (longF a b n s) (c + a) = re s c + a := by
  unfold re longF
  rw [show c + a = (List.replicate a (32 : UInt8)).length + c by simp; omega, drop_len, List.drop_append_of_le_length hc, tw_stop _ _ (tw_tail b n)]
  simp; omega
theorem ext_long (a b c d : Nat) (n s : Bs) (hd : d ≤ s.length) : (mk (longF a b n s)).extract (c + a) (d + a) = (mk s).extract c d := by
  have e : ((mk (longF a b n s)).extract (c + a) (d + a)).data.toList = ((mk s).extract c d).data.toList := by
    rw [ext_list, ext_list, mk_list', mk_list']
    unfold longF
    rw [show d + a = (List.replicate a (32 : UInt8)).length + d by simp; omega, show c + a = (List.replicate a (32 : UInt8)).length + c by simp; omega, take_len, drop_len, List.take_append_of_le_length hd]
  exact ByteArray.ext (Array.ext' e)
theorem words_long {most a b : Nat} {n s : Bs} {st : St} (h : lineS most s = .inr st) :
    wtexts (wordsB (mk (longF a b n s)) (st.cols.map (· + a))) = wtexts (wordsB (mk s) st.cols) := by
  obtain ⟨hI, hF⟩ := line_fin h
  unfold wtexts wordsB
  rw [List.map_map, List.map_map, List.map_map]
  refine List.map_congr_left fun c hc => ?_
  have hlt := hI.lt c hc
  show (mk (longF a b n s)).extract (c + a) (re (mk (longF a b n s)).data.toList (c + a)) = (mk s).extract c (re (mk s).data.toList c)
  rw [mk_list', mk_list', re_long a b c n s (by omega), ext_long a b c _ n s (re_le (by omega))]

/-- Two results with the same words. -/
def ltexts (ls : List Line) : List (List ByteArray) := ls.map fun z => wtexts z.2
def Sim (R R' : Sum (Nat × Nat × Nat) (List Line)) : Prop :=
  (∃ n c c' e, R = .inl (n, c, e) ∧ R' = .inl (n, c', e)) ∨ ∃ ls ls', R = .inr ls ∧ R' = .inr ls' ∧ ltexts ls = ltexts ls'
theorem ltexts_len {ls ls' : List Line} (h : ltexts ls = ltexts ls') : ls.length = ls'.length := by
  have := congrArg List.length h
  simpa [ltexts] using this
theorem textF_texts : ∀ (ls ls' : List Line), ltexts ls = ltexts ls' → textF ls = textF ls'
  | [], [], _ => rfl
  | [], y :: b, h => by simp [ltexts] at h
  | x :: a, [], h => by simp [ltexts] at h
  | x :: a, y :: b, h => by
    unfold ltexts at h
    rw [List.map_cons, List.map_cons] at h
    injection h with h1 h2
    rw [textF, textF, joinF_texts _ _ h1, textF_texts a b h2]
theorem lines_sim (a b : Nat) (n : Bs) (hn : ∀ c ∈ n, noteB c = true) : ∀ (ss : List Bs) (k : Nat) (out out' : List Line), (∀ s ∈ ss, ∀ c ∈ s, okB c = true) → ltexts out = ltexts out' →
    Sim (linesS (ss.map mk ++ [mk []]) k out) (linesS ((ss.map (longF a b n)).map mk ++ [mk []]) k out')
  | [], k, out, out', _, h => by
    have e : ∀ o : List Line, linesS [mk []] k o = .inr o := by
      intro o
      rw [linesS_three, mk_list']
      rfl
    exact .inr ⟨out, out', e out, e out', h⟩
  | s :: r, k, out, out', hs, h => by
    have hl := ltexts_len h
    show Sim (linesS (mk s :: (r.map mk ++ [mk []])) k out) (linesS (mk (longF a b n s) :: ((r.map (longF a b n)).map mk ++ [mk []])) k out')
    rw [linesS_three, linesS_three, mk_list', mk_list', ← hl, line_long _ a b n s (hs s (by simp)) hn]
    cases hr : lineS (if out.length = 2000 then 0 else 40) s with
    | inl e =>
      obtain ⟨c, e⟩ := e
      exact .inl ⟨k, c, c + a, e, rfl, rfl⟩
    | inr st =>
      have hw := words_long (a := a) (b := b) (n := n) hr
      by_cases h0 : st.cols.length = 0
      · have := lines_sim a b n hn r (k + 1) out out' (fun x hx => hs x (by simp [hx])) h
        simpa [h0] using this
      · have := lines_sim a b n hn r (k + 1) (out ++ [(k, wordsB (mk s) st.cols)]) (out' ++ [(k, wordsB (mk (longF a b n s)) (st.cols.map (· + a)))]) (fun x hx => hs x (by simp [hx])) (by
          unfold ltexts at h ⊢
          rw [List.map_append, List.map_append, h, List.map_singleton, List.map_singleton, hw])
        simpa [h0] using this

/-- Lines, one behind the other. -/
def catF : List Bs → Bs
  | [] => []
  | s :: r => s ++ 10 :: catF r
theorem cut_catF : ∀ ss : List Bs, (∀ s ∈ ss, ∀ c ∈ s, c ≠ 10) → cut 10 (catF ss) = ss ++ [[]]
  | [], _ => rfl
  | s :: r, h => by
    rw [catF, cut_join _ _ (h s (by simp)), cut_catF r (fun x hx => h x (by simp [hx]))]
    rfl
theorem catF_snoc : ∀ (ss : List Bs) (s : Bs), catF (ss ++ [s]) = catF ss ++ (s ++ [10])
  | [], s => by simp [catF]
  | x :: r, s => by simp [catF, catF_snoc r s]
theorem catF_len (m : Nat) : ∀ ss : List Bs, (∀ s ∈ ss, s.length ≤ m) → (catF ss).length ≤ ss.length * (m + 1)
  | [], _ => by simp [catF]
  | s :: r, h => by
    have h1 := h s (by simp)
    have h2 := catF_len m r (fun x hx => h x (by simp [hx]))
    rw [catF, List.length_append, List.length_cons, List.length_cons, Nat.succ_mul]
    omega
theorem ok_not10 {c : UInt8} (h : okB c = true) : c ≠ 10 := by intro e; subst e; revert h; decide
theorem note_not10 {c : UInt8} (h : noteB c = true) : c ≠ 10 := by intro e; subst e; revert h; decide
theorem long_not10 {a b : Nat} {n s : Bs} (hs : ∀ c ∈ s, okB c = true) (hn : ∀ c ∈ n, noteB c = true) : ∀ c ∈ longF a b n s, c ≠ 10 := by
  intro c hc
  unfold longF at hc
  simp only [List.mem_append, List.mem_cons, List.mem_replicate] at hc
  rcases hc with ⟨_, e⟩ | hc | ⟨_, e⟩ | e | hc
  · rw [e]; decide
  · exact ok_not10 (hs c hc)
  · rw [e]; decide
  · rw [e]; decide
  · exact note_not10 (hn c hc)
/-- Plain lines and longer ones are read alike. -/
theorem lex_sim {a b : Nat} {n : Bs} {ss : List Bs} (ha : a < 5) (hb : b < 5) (hn : ∀ c ∈ n, noteB c = true) (hnl : n.length ≤ 200) (hss : ss.length ≤ 100) (hs : ∀ s ∈ ss, s.length ≤ 200 ∧ ∀ c ∈ s, okB c = true) :
    Sim (lexS (mk (catF ss))) (lexS (mk (catF (ss.map (longF a b n))))) := by
  have h1 := catF_len 200 ss (fun s h => (hs s h).1)
  have h2 := catF_len 410 (ss.map (longF a b n)) (fun t ht => by
    obtain ⟨s, h, rfl⟩ := List.mem_map.1 ht
    have := (hs s h).1
    unfold longF; simp; omega)
  rw [List.length_map] at h2
  unfold lexS
  rw [if_neg (by rw [mk_size]; omega), if_neg (by rw [mk_size]; omega), mk_list', mk_list']
  unfold pieces
  rw [cut_catF ss (fun s h c hc => ok_not10 ((hs s h).2 c hc)), cut_catF _ (fun t ht => by
    obtain ⟨s, h, rfl⟩ := List.mem_map.1 ht
    exact long_not10 (hs s h).2 hn), List.map_append, List.map_append]
  exact lines_sim a b n hn ss 1 [] [] (fun s h => (hs s h).2) rfl
end Go.Proofs.YtbgamneoghhfpaaDoor.Lx
