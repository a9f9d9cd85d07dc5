/- Plain mathematics of versions: a version behind another one's parts. -/
import Derived.Test.YtdijkekglaimfaaGreatDoorVerMath2
namespace Go.Proofs.YtdijkekglaimfaaGreatDoor.Ver

theorem cut_append (b : UInt8) (r : Bs) : ∀ l : Bs, cut b (l ++ b :: r) = cut b l ++ cut b r
  | [] => by
    rw [List.nil_append]
    simp [cut]
  | c :: l => by
    have ih := cut_append b r l
    rw [List.cons_append, cut, cut]
    by_cases h : (c == b) = true
    · rw [if_pos h, if_pos h, ih]; rfl
    · rw [if_neg h, if_neg h, ih]
      cases hc : cut b l with
      | nil => exact absurd hc (cut_ne b l)
      | cons p ps => rfl

theorem cps_append (x y : List Bs) : ∀ h : List Bs, cmpParts (h ++ x) (h ++ y) = cmpParts x y
  | [] => rfl
  | p :: h => by
    rw [List.cons_append, List.cons_append, cps_zero (by exact cp_eq.2 rfl)]
    exact cps_append x y h

theorem may_tail {h a : Bs} (hm : may (h ++ 46 :: a) = true) : may a = true := by
  unfold may at hm ⊢
  simp only [Bool.and_eq_true, decide_eq_true_eq] at hm ⊢
  obtain ⟨⟨h1, h2⟩, h3⟩ := hm
  rw [cut_append] at h2 h3
  rw [List.length_append] at h1 h2
  rw [List.all_append, Bool.and_eq_true] at h3
  exact ⟨⟨by simp at h1; omega, by omega⟩, h3.2⟩

theorem compare_tails {h a b : Bs} (ha : may (h ++ 46 :: a) = true) (hb : may (h ++ 46 :: b) = true) : compare (h ++ 46 :: a) (h ++ 46 :: b) = compare a b := by
  rw [cmp_both ha hb, cut_append, cut_append, cps_append, cmp_both (may_tail ha) (may_tail hb)]

/-- A version behind another one's parts: how it stands to it says its first new part's rank. -/
theorem compare_more {a r : Bs} (ha : may a = true) (hm : may (a ++ 46 :: r) = true) : compare (a ++ 46 :: r) a = cmpPart (hd (cut 46 r)) [] := by
  rw [cmp_both hm ha, cut_append]
  have h := cps_append (cut 46 r) [] (cut 46 a)
  rw [List.append_nil] at h
  rw [h]
  have hp := may_parts (may_tail hm)
  cases hc : cut 46 r with
  | nil => exact absurd hc (cut_ne 46 r)
  | cons p ps =>
    rw [hc] at hp
    exact cps_part (fun e => hp p (by simp) (cp_eq.1 e))

theorem part_first {p : Bs} (hp : part p = true) (h : cmpPart p [] ≠ -1) : digits p = true := by
  cases hw : word p with
  | false => exact part_not_word hp hw
  | true =>
    exfalso; apply h
    rw [cp_rank (by rw [rank_word hw, rank_nil]; omega), rank_word hw, rank_nil]; rfl

theorem digits_more {p : Bs} (hp : digits p = true) : cmpPart p [] = 1 := by
  have := (rank_digits hp).1
  rw [cp_rank (by rw [this, rank_nil]; omega), this, rank_nil]; rfl

theorem cut_none (b : UInt8) : ∀ l : Bs, (∀ c ∈ l, (c == b) = false) → cut b l = [l]
  | [], _ => rfl
  | c :: l, h => by
    rw [cut, if_neg (by rw [h c (by simp)]; simp), cut_none b l (fun d hd => h d (by simp [hd]))]

theorem cut_digits {p : Bs} (hp : digits p = true) : cut 46 p = [p] := by
  refine cut_none 46 p fun c hc => ?_
  unfold digits at hp
  rw [Bool.and_eq_true, List.all_eq_true] at hp
  have h := hp.1 c hc
  rw [beq_eq_false_iff_ne]
  rintro rfl
  revert h; decide

theorem may_first {r : Bs} (h : may r = true) : part (hd (cut 46 r)) = true := by
  unfold may at h
  simp only [Bool.and_eq_true] at h
  cases hc : cut 46 r with
  | nil => exact absurd hc (cut_ne 46 r)
  | cons p ps => rw [hc] at h; simp at h; exact h.2.1

/-- Behind a version a part that stands not ahead of the end is a number. -/
theorem around_low {a r : Bs} (ha : may a = true) (hm : may (a ++ 46 :: r) = true) (h : compare (a ++ 46 :: r) a ≠ -1) : digits (hd (cut 46 r)) = true := by
  rw [compare_more ha hm] at h
  exact part_first (may_first (may_tail hm)) h
theorem around_high {a r : Bs} (ha : may a = true) (hm : may (a ++ 46 :: r) = true) (hr : digits r = true) : compare (a ++ 46 :: r) a = 1 := by
  rw [compare_more ha hm, cut_digits hr]
  exact digits_more hr

end Go.Proofs.YtdijkekglaimfaaGreatDoor.Ver
