/- More on neighbours that are the same; settings of variants meet no two values. -/
import Derived.Test.YtbdceeecngibmaaVaBothMath
import Derived.Test.YtbdceeecngibmaaVaLegal
namespace Go.Proofs.Ytbdceeecngibmaa.Va

theorem dd_ne_nil : ∀ l : List Set1, l ≠ [] → ∃ h t, dd l = h :: t
  | [], h => absurd rfl h
  | x :: r, _ => by
    obtain ⟨t, e⟩ := dd_head x r
    exact ⟨x, t, e⟩
theorem dd_two (x y : Set1) : dd [x, y] = if eqT x y then [x] else [x, y] := by
  by_cases e : eqT x y = true
  · rw [dd_pos (t := []) (dd_nil rfl) e, if_pos e, eqT_iff.1 e]
  · rw [dd_neg (t := []) (dd_nil rfl) e, if_neg e]
theorem dd_snoc : ∀ (l : List Set1) (x y : Set1), dd (l ++ [x, y]) = if eqT x y then dd (l ++ [x]) else dd (l ++ [x]) ++ [y]
  | [], x, y => by
    rw [List.nil_append, List.nil_append, dd_two, dd_nil rfl]; rfl
  | z :: r, x, y => by
    have ih := dd_snoc r x y
    obtain ⟨h, t, e⟩ := dd_ne_nil (r ++ [x]) (by simp)
    rw [List.cons_append, List.cons_append]
    by_cases exy : eqT x y = true
    · rw [if_pos exy] at ih ⊢
      rw [e] at ih
      by_cases ez : eqT z h = true
      · rw [dd_pos ih ez, dd_pos e ez]
      · rw [dd_neg ih ez, dd_neg e ez]
    · rw [if_neg exy] at ih ⊢
      rw [e, List.cons_append] at ih
      by_cases ez : eqT z h = true
      · rw [dd_pos ih ez, dd_pos e ez, List.cons_append]
      · rw [dd_neg ih ez, dd_neg e ez, List.cons_append, List.cons_append]
theorem dd_take {l : List Set1} {m : Nat} (hm : m + 1 < l.length) : dd (l.take (m + 2)) = if eqT (nthT l m) (nthT l (m + 1)) then dd (l.take (m + 1)) else dd (l.take (m + 1)) ++ [nthT l (m + 1)] := by
  have e1 : l.take (m + 1) = l.take m ++ [nthT l m] := by rw [List.take_succ_eq_append_getElem (by omega), nthT_lt (by omega)]
  have e2 : l.take (m + 2) = l.take m ++ [nthT l m, nthT l (m + 1)] := by
    rw [List.take_succ_eq_append_getElem hm, e1, ← nthT_lt hm]; simp
  rw [e2, dd_snoc, e1]
theorem dd_len_le : ∀ l : List Set1, (dd l).length ≤ l.length
  | [] => Nat.le_refl _
  | x :: r => by
    have ih := dd_len_le r
    cases h : dd r with
    | nil => rw [dd_nil h]; simp
    | cons y t =>
      rw [h] at ih
      by_cases e : eqT x y = true
      · rw [dd_pos h e]; simp at ih ⊢; omega
      · rw [dd_neg h e]; simp at ih ⊢; omega

theorem legal_names {l : List Var} {s : List Set1} (h : legalB l s = true) : s.map (·.1) = l.map (·.1) := by
  unfold legalB at h
  rw [Bool.and_eq_true] at h
  have hl : l.length = s.length := by simpa using h.1
  have hp := List.all_eq_true.1 h.2
  apply List.ext_getElem (by simp [hl])
  intro i h1 h2
  simp at h1 h2
  have := hp i (List.mem_range.2 h2)
  unfold legalP at this
  rw [Bool.and_eq_true] at this
  have e := eqS_iff.1 this.1
  rw [nthT_lt h1] at e
  simp only [List.getElem_map]
  rw [← e]
  unfold nthV
  simp [List.getElem?_eq_getElem h2]
theorem no_two {l : List Var} {s a b : List Set1} (hm : mayB l = true) (hl : legalB l s = true) (ha : meetsB s a = true) (hb : meetsB s b = true) : ¬ Cf a b := by
  rintro ⟨x, hx, y, hy, e, n⟩
  have hn : (s.map (·.1)).Nodup := by
    rw [legal_names hl]
    have := names_nodup hm l.length (Nat.le_refl _)
    rwa [List.take_length] at this
  have h1 := hasT_iff.1 (List.all_eq_true.1 ha x hx)
  have h2 := hasT_iff.1 (List.all_eq_true.1 hb y hy)
  have := nodup_snd hn h1 h2 e
  exact n (by rw [this])
end Go.Proofs.Ytbdceeecngibmaa.Va
