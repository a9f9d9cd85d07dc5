/- The order of a heap: what up, down, and taking the first one make of it. -/
import Derived.Test.YtnapkgnbkkilgaaHpMath
namespace Go.Proofs.Ytnapkgnbkkilgaa.Hp

/-- a stands ahead of b. -/
def Lt (sc : List Nat) (a b : Nat) : Prop := at' sc b < at' sc a ∨ (at' sc a = at' sc b ∧ a < b)

theorem aheadB_iff (s t a b : Nat) : aheadB s t a b = true ↔ (t < s ∨ (s = t ∧ a < b)) := by
  unfold aheadB
  split
  · simp; omega
  · simp; omega
theorem aheadR_iff (sc row : List Nat) (p q : Nat) : aheadR sc row p q = true ↔ Lt sc (at' row p) (at' row q) := aheadB_iff _ _ _ _

theorem Lt.asymm {sc : List Nat} {a b : Nat} (h : Lt sc a b) : ¬ Lt sc b a := by unfold Lt at *; omega
theorem Lt.ntrans {sc : List Nat} {a b c : Nat} (h : ¬ Lt sc a b) (k : ¬ Lt sc b c) : ¬ Lt sc a c := by unfold Lt at *; omega
theorem fun_lt {sc : List Nat} {a b c : Nat} (h : Lt sc a b) (k : Lt sc b c) : Lt sc a c := by unfold Lt at *; omega
theorem Lt.irrefl (sc : List Nat) (a : Nat) : ¬ Lt sc a a := by unfold Lt; omega
theorem Lt.total {sc : List Nat} {a b : Nat} (h : ¬ Lt sc a b) : a = b ∨ Lt sc b a := by unfold Lt at *; omega

/-- The atom at the place k, from 1 on. -/
def el (row : List Nat) (k : Nat) : Nat := at' row (k - 1)

theorem at_set {l : List Nat} {p q x : Nat} (hp : p < l.length) : at' (l.set p x) q = if q = p then x else at' l q := by
  unfold at'
  by_cases h : q = p
  · subst h; rw [if_pos rfl]; simp [List.getD_eq_getElem?_getD, hp]
  · rw [if_neg h]; simp [List.getD_eq_getElem?_getD, List.getElem?_set_ne (Ne.symm h)]

theorem el_swap {row : List Nat} {i j k : Nat} (hi : 1 ≤ i) (hj : 1 ≤ j) (hk : 1 ≤ k) (hi2 : i ≤ row.length) (hj2 : j ≤ row.length) :
    el (swR row (i - 1) (j - 1)) k = if k = j then el row i else if k = i then el row j else el row k := by
  unfold el swR
  rw [at_set (by simp; omega), at_set (by omega)]
  by_cases h1 : k = j
  · rw [if_pos (by omega), if_pos h1]
  · rw [if_neg (by omega), if_neg h1]
    by_cases h2 : k = i
    · rw [if_pos (by omega), if_pos h2]
    · rw [if_neg (by omega), if_neg h2]

/-- No one stands ahead of the one at half its place. -/
def Ord (sc row : List Nat) : Prop := ∀ k, 2 ≤ k → k ≤ row.length → ¬ Lt sc (el row k) (el row (k / 2))

def UpInv (sc row : List Nat) (k : Nat) : Prop :=
  (∀ c, 2 ≤ c → c ≤ row.length → c ≠ k → ¬ Lt sc (el row c) (el row (c / 2))) ∧ (∀ c, 2 ≤ c → c ≤ row.length → c / 2 = k → 2 ≤ k → ¬ Lt sc (el row c) (el row (k / 2)))

theorem upF_ord (sc : List Nat) : ∀ (k : Nat) (row pl : List Nat), 1 ≤ k → k ≤ row.length → UpInv sc row k → Ord sc (upF sc row pl k).1 := by
  intro k
  induction k using Nat.strongRecOn with
  | _ k ih =>
    intro row pl h1 h2 ⟨hA, hB⟩
    rw [upF]
    by_cases h : 1 < k ∧ aheadR sc row (k - 1) (k / 2 - 1) = true
    · rw [dif_pos h]
      obtain ⟨hk, hl⟩ := h
      rw [aheadR_iff] at hl
      have hlt : Lt sc (el row k) (el row (k / 2)) := hl
      have E : ∀ c, 1 ≤ c → el (swR row (k - 1) (k / 2 - 1)) c = if c = k / 2 then el row k else if c = k then el row (k / 2) else el row c :=
        fun c hc => el_swap h1 (by omega) hc h2 (by omega)
      refine ih (k / 2) (by omega) _ _ (by omega) (by rw [swR_length]; omega) ⟨?_, ?_⟩
      · intro c c1 c2 c3
        rw [swR_length] at c2
        rw [E c (by omega), E (c / 2) (by omega), if_neg c3]
        by_cases e1 : c = k
        · subst e1
          rw [if_pos rfl, if_pos rfl]
          exact hlt.asymm
        · rw [if_neg e1]
          by_cases e2 : c / 2 = k / 2
          · rw [if_pos e2]
            intro hc
            have h3 := hA c c1 c2 e1
            rw [e2] at h3
            exact Lt.ntrans (a := el row c) (b := el row (k / 2)) (c := el row k) h3 hlt.asymm hc
          · rw [if_neg e2]
            by_cases e3 : c / 2 = k
            · rw [if_pos e3]
              exact hB c c1 c2 e3 (by omega)
            · rw [if_neg e3]
              exact hA c c1 c2 e1
      · intro c c1 c2 c3 c4
        rw [swR_length] at c2
        rw [E c (by omega), E (k / 2 / 2) (by omega), if_neg (by omega), if_neg (by omega : ¬ k / 2 / 2 = k / 2), if_neg (by omega : ¬ k / 2 / 2 = k)]
        have h4 := hA (k / 2) (by omega) (by omega) (by omega)
        by_cases e1 : c = k
        · rw [if_pos e1]; exact h4
        · rw [if_neg e1]
          have h3 := hA c c1 c2 e1
          rw [c3] at h3
          exact Lt.ntrans h3 h4
    · rw [dif_neg h]
      intro c c1 c2
      by_cases e1 : c = k
      · subst e1
        intro hl
        exact h ⟨by omega, (aheadR_iff _ _ _ _).2 hl⟩
      · exact hA c c1 c2 e1

theorem next1_is (sc row : List Nat) (k : Nat) : (next1 sc row k = k ∧ (2 * k ≤ row.length → ¬ Lt sc (el row (2 * k)) (el row k))) ∨ (next1 sc row k = 2 * k ∧ 2 * k ≤ row.length ∧ Lt sc (el row (2 * k)) (el row k)) := by
  unfold next1
  split
  · rename_i h; exact .inr ⟨rfl, h.1, (aheadR_iff _ _ _ _).1 h.2⟩
  · rename_i h; exact .inl ⟨rfl, fun hl hlt => h ⟨hl, (aheadR_iff _ _ _ _).2 hlt⟩⟩

theorem next2_is (sc row : List Nat) (k : Nat) :
    (next2 sc row k = k ∧ ∀ c, c / 2 = k → c ≤ row.length → ¬ Lt sc (el row c) (el row k)) ∨
    (next2 sc row k / 2 = k ∧ next2 sc row k ≤ row.length ∧ Lt sc (el row (next2 sc row k)) (el row k) ∧ ∀ c, c / 2 = k → c ≤ row.length → ¬ Lt sc (el row c) (el row (next2 sc row k))) := by
  have hn := next1_is sc row k
  unfold next2
  by_cases h : 2 * k + 1 ≤ row.length ∧ aheadR sc row (2 * k) (next1 sc row k - 1) = true
  · rw [if_pos h]
    obtain ⟨hl, ha⟩ := h
    have ha' : Lt sc (el row (2 * k + 1)) (el row (next1 sc row k)) := (aheadR_iff _ _ _ _).1 ha
    right
    rcases hn with ⟨e, h1⟩ | ⟨e, h1, h2⟩
    · rw [e] at ha'
      refine ⟨by omega, hl, ha', fun c hc hcl => ?_⟩
      rcases (show c = 2 * k ∨ c = 2 * k + 1 by omega) with rfl | rfl
      · exact Lt.ntrans (h1 hcl) ha'.asymm
      · exact Lt.irrefl _ _
    · rw [e] at ha'
      refine ⟨by omega, hl, fun_lt ha' h2, fun c hc hcl => ?_⟩
      rcases (show c = 2 * k ∨ c = 2 * k + 1 by omega) with rfl | rfl
      · exact ha'.asymm
      · exact Lt.irrefl _ _
  · rw [if_neg h]
    have h' : 2 * k + 1 ≤ row.length → ¬ Lt sc (el row (2 * k + 1)) (el row (next1 sc row k)) := fun hl hlt => h ⟨hl, (aheadR_iff _ _ _ _).2 hlt⟩
    rcases hn with ⟨e, h1⟩ | ⟨e, h1, h2⟩
    · rw [e] at h' ⊢
      refine .inl ⟨rfl, fun c hc hcl => ?_⟩
      rcases (show c = 2 * k ∨ c = 2 * k + 1 by omega) with rfl | rfl
      · exact h1 hcl
      · exact h' hcl
    · rw [e] at h' ⊢
      refine .inr ⟨by omega, h1, h2, fun c hc hcl => ?_⟩
      rcases (show c = 2 * k ∨ c = 2 * k + 1 by omega) with rfl | rfl
      · exact Lt.irrefl _ _
      · exact h' hcl

def DownInv (sc row : List Nat) (k : Nat) : Prop :=
  (∀ c, 2 ≤ c → c ≤ row.length → c / 2 ≠ k → ¬ Lt sc (el row c) (el row (c / 2))) ∧ (∀ c, 2 ≤ c → c ≤ row.length → c / 2 = k → 2 ≤ k → ¬ Lt sc (el row c) (el row (k / 2)))

theorem downF_ord (sc : List Nat) : ∀ (n k : Nat) (row pl : List Nat), row.length + 1 - k ≤ n → 1 ≤ k → DownInv sc row k → Ord sc (downF sc row pl k).1 := by
  intro n
  induction n with
  | zero =>
    intro k row pl hn h1 ⟨hA, _⟩
    have e : next2 sc row k = k := by
      have := next2_le sc row k
      rcases next2_is sc row k with ⟨e, _⟩ | ⟨e, _⟩ <;> omega
    rw [downF, dif_pos e]
    intro c c1 c2
    have c3 : c ≤ row.length := c2
    exact hA c c1 c3 (by omega)
  | succ n ih =>
    intro k row pl hn h1 ⟨hA, hB⟩
    rw [downF]
    rcases next2_is sc row k with ⟨e, hk⟩ | ⟨e, hml, hlt, hk⟩
    · rw [dif_pos e]
      intro c c1 c2
      by_cases e1 : c / 2 = k
      · rw [e1]; exact hk c e1 c2
      · exact hA c c1 c2 e1
    · generalize next2 sc row k = m at *
      rw [dif_neg (by omega)]
      have E : ∀ c, 1 ≤ c → el (swR row (k - 1) (m - 1)) c = if c = m then el row k else if c = k then el row m else el row c :=
        fun c hc => el_swap h1 (by omega) hc (by omega) hml
      refine ih m _ _ (by rw [swR_length]; omega) (by omega) ⟨?_, ?_⟩
      · intro c c1 c2 c3
        rw [swR_length] at c2
        rw [E c (by omega), E (c / 2) (by omega), if_neg c3]
        by_cases e1 : c = m
        · subst e1
          rw [if_pos rfl, if_pos e]
          exact hlt.asymm
        · rw [if_neg e1]
          by_cases e2 : c = k
          · subst e2
            rw [if_pos rfl, if_neg (by omega : ¬ c / 2 = c)]
            exact hB m (by omega) hml e c1
          · rw [if_neg e2]
            by_cases e3 : c / 2 = k
            · rw [if_pos e3]; exact hk c e3 c2
            · rw [if_neg e3]; exact hA c c1 c2 e3
      · intro c c1 c2 c3 c4
        rw [swR_length] at c2
        rw [E c (by omega), E (m / 2) (by omega), if_neg (by omega), if_neg (by omega : ¬ c = k), if_neg (by omega : ¬ m / 2 = m), if_pos e]
        have := hA c c1 c2 (by omega)
        rw [c3] at this
        exact this

/-! What stays under exchanges. -/
theorem upF_ind {sc : List Nat} {C : List Nat → List Nat → Prop} (hsw : ∀ row pl p q, p < row.length → q < row.length → C row pl → C (swR row p q) (swP row pl p q)) :
    ∀ (k : Nat) (row pl : List Nat), k ≤ row.length → C row pl → C (upF sc row pl k).1 (upF sc row pl k).2 := by
  intro k
  induction k using Nat.strongRecOn with
  | _ k ih =>
    intro row pl hk hC
    rw [upF]
    by_cases h : 1 < k ∧ aheadR sc row (k - 1) (k / 2 - 1) = true
    · rw [dif_pos h]
      exact ih (k / 2) (by omega) _ _ (by rw [swR_length]; omega) (hsw _ _ _ _ (by omega) (by omega) hC)
    · rw [dif_neg h]; exact hC

theorem downF_ind {sc : List Nat} {C : List Nat → List Nat → Prop} (hsw : ∀ row pl p q, p < row.length → q < row.length → C row pl → C (swR row p q) (swP row pl p q)) :
    ∀ (n k : Nat) (row pl : List Nat), row.length + 1 - k ≤ n → 1 ≤ k → C row pl → C (downF sc row pl k).1 (downF sc row pl k).2 := by
  intro n
  induction n with
  | zero =>
    intro k row pl hn h1 hC
    have e : next2 sc row k = k := by have := next2_le sc row k; omega
    rw [downF, dif_pos e]
    exact hC
  | succ n ih =>
    intro k row pl hn h1 hC
    rw [downF]
    by_cases e : next2 sc row k = k
    · rw [dif_pos e]; exact hC
    · rw [dif_neg e]
      have := next2_le sc row k
      exact ih _ _ _ (by rw [swR_length]; omega) (by omega) (hsw _ _ _ _ (by omega) (by omega) hC)

/-- The places are those of the row; of others there is none. -/
def Pla (sc row pl : List Nat) : Prop :=
  pl.length = sc.length ∧ (∀ p, p < row.length → at' pl (at' row p) = p + 1) ∧ (∀ a, a < sc.length → a ∉ row → at' pl a = 0)

theorem Pla.swap {sc row pl : List Nat} {p q : Nat} (h : Pla sc row pl) (hv : Valid sc row) (hp : p < row.length) (hq : q < row.length) : Pla sc (swR row p q) (swP row pl p q) := by
  obtain ⟨h1, h2, h3⟩ := h
  have la := hv.at_lt hp
  have lb := hv.at_lt hq
  have E : ∀ r, at' (swR row p q) r = if r = q then at' row p else if r = p then at' row q else at' row r := by
    intro r
    unfold swR
    rw [at_set (by simp; omega), at_set (by omega)]
  have F : ∀ a, at' (swP row pl p q) a = if a = at' row q then p + 1 else if a = at' row p then q + 1 else at' pl a := by
    intro a
    unfold swP
    rw [at_set (by simp; omega), at_set (by omega)]
  refine ⟨by rw [swP_length, h1], ?_, ?_⟩
  · intro r hr
    rw [swR_length] at hr
    rw [F, E]
    by_cases e1 : r = q
    · subst e1
      rw [if_pos rfl]
      by_cases e2 : p = r
      · subst e2; rw [if_pos rfl]
      · rw [if_neg (hv.at_ne hp hr e2), if_pos rfl]
    · rw [if_neg e1]
      by_cases e2 : r = p
      · subst e2; rw [if_pos rfl, if_pos rfl]
      · rw [if_neg e2, if_neg (hv.at_ne hr hq e1), if_neg (hv.at_ne hr hp e2)]
        exact h2 r hr
  · intro a ha hn
    have hn' : a ∉ row := fun hm => hn ((swR_perm hp hq).mem_iff.2 hm)
    rw [F, if_neg (fun e => hn' (by rw [e]; exact at_mem hq)), if_neg (fun e => hn' (by rw [e]; exact at_mem hp))]
    exact h3 a ha hn'

/-- All that a heap keeps. -/
structure Inv (sc row pl : List Nat) : Prop where
  valid : Valid sc row
  pla : Pla sc row pl
  ord : Ord sc row

/-- Of another heap with the same atoms. -/
def Same (sc row row' pl' : List Nat) : Prop := row'.Perm row ∧ Valid sc row' ∧ Pla sc row' pl'

theorem Same.swap {sc row row' pl' : List Nat} {p q : Nat} (h : Same sc row row' pl') (hp : p < row'.length) (hq : q < row'.length) : Same sc row (swR row' p q) (swP row' pl' p q) :=
  ⟨(swR_perm hp hq).trans h.1, h.2.1.swap hp hq, h.2.2.swap h.2.1 hp hq⟩

theorem up_same {sc row pl : List Nat} (hv : Valid sc row) (hp : Pla sc row pl) {k : Nat} (hk : k ≤ row.length) : Same sc row (upF sc row pl k).1 (upF sc row pl k).2 :=
  upF_ind (C := Same sc row) (fun _ _ _ _ h1 h2 h => h.swap h1 h2) k row pl hk ⟨List.Perm.refl _, hv, hp⟩
theorem down_same {sc row pl : List Nat} (hv : Valid sc row) (hp : Pla sc row pl) {k : Nat} (hk : 1 ≤ k) : Same sc row (downF sc row pl k).1 (downF sc row pl k).2 :=
  downF_ind (C := Same sc row) (fun _ _ _ _ h1 h2 h => h.swap h1 h2) _ k row pl (Nat.le_refl _) hk ⟨List.Perm.refl _, hv, hp⟩

/-- The first one stands ahead of all others. -/
theorem Ord.first {sc row : List Nat} (h : Ord sc row) : ∀ k, 1 ≤ k → k ≤ row.length → ¬ Lt sc (el row k) (el row 1) := by
  intro k
  induction k using Nat.strongRecOn with
  | _ k ih =>
    intro h1 h2
    by_cases e : k = 1
    · subst e; exact Lt.irrefl _ _
    · exact Lt.ntrans (h k (by omega) h2) (ih (k / 2) (by omega) (by omega) (by omega))

theorem Inv.first {sc row pl : List Nat} (h : Inv sc row pl) (x : Nat) (hx : x ∈ row) : ¬ Lt sc x (at' row 0) := by
  obtain ⟨p, hp, e⟩ := List.getElem_of_mem hx
  have := h.ord.first (p + 1) (by omega) (by omega)
  unfold el at this
  have e2 := at_get hp
  rw [List.getElem?_eq_getElem hp, e] at e2
  simp only [Nat.add_sub_cancel, Nat.sub_self] at this
  rw [← Option.some.inj e2] at this
  exact this

end Go.Proofs.Ytnapkgnbkkilgaa.Hp
