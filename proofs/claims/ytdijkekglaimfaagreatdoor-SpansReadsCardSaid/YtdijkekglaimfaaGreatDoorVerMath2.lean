/- Plain mathematics: the document's 'before' and 'less', and what the row of versions is. -/
import Derived.Test.YtdijkekglaimfaaGreatDoorVerMath
import Derived.Lib.Strings
import GoSem.Op.String
namespace Go.Proofs.YtdijkekglaimfaaGreatDoor.Ver

theorem part_ne {p : Bs} (h : part p = true) : p ≠ [] := by
  rintro rfl; simp [part, word, number, digits] at h
theorem rank_word {p : Bs} (h : word p = true) : rank p = 0 := by
  unfold rank
  have : p.isEmpty = false := by unfold word at h; simp at h; simpa using h.2
  rw [this, h]; rfl
theorem word_not_digits {p : Bs} (h : word p = true) : digits p = false := by
  cases p with
  | nil => simp [word] at h
  | cons c r =>
    simp [word, letB] at h
    simp only [digits, List.all_cons, digB]
    have : decide ((c.toNat : Int) ≤ 57) = false := by simp; omega
    simp; omega
theorem number_digits {p : Bs} (h : number p = true) : digits p = true := by
  unfold number at h; simp only [Bool.and_eq_true] at h; exact h.1.1
theorem part_not_word {p : Bs} (h : part p = true) (hw : word p = false) : digits p = true := by
  unfold part at h; rw [hw, Bool.false_or] at h; exact number_digits h
theorem rank_digits {p : Bs} (h : digits p = true) : rank p = 2 ∧ word p = false := by
  have hw : word p = false := by
    cases e : word p with
    | false => rfl
    | true => rw [word_not_digits e] at h; exact absurd h (by simp)
  refine ⟨?_, hw⟩
  unfold rank
  have : p.isEmpty = false := by unfold digits at h; simp at h; simpa using h.2
  rw [this, hw]; rfl

theorem less_bytes : ∀ a b : Bs, Op.bytesLess a b = decide (Lib.compareBytes a b = -1)
  | [], [] => rfl
  | [], _ :: _ => rfl
  | _ :: _, [] => rfl
  | a :: as, b :: bs => by
    have ih := less_bytes as bs
    simp only [Op.bytesLess, Lib.compareBytes]
    by_cases h : a < b
    · simp [h]
    · by_cases h2 : b < a
      · have : ¬ a = b := by rintro rfl; exact h h2
        simp [h, h2, this]
      · have : a = b := by
          apply UInt8.toNat_inj.1
          rw [UInt8.lt_iff_toNat_lt] at h h2; omega
        subst this
        simp [h, ih]

/-- The document's 'before'. -/
def before (a b : Bs) : Bool :=
  if a = b then false else if a = [] then digits b else if b = [] then word a
  else if word a ≠ word b then word a else if digits a = true ∧ a.length ≠ b.length then decide (a.length < b.length) else Op.bytesLess a b
/-- A part, or an end. -/
def pe (p : Bs) : Prop := p = [] ∨ part p = true

theorem rank_nil : rank [] = 1 := rfl
theorem before_eq {a b : Bs} (ha : pe a) (hb : pe b) : before a b = decide (cmpPart a b = -1) := by
  unfold before
  by_cases h : a = b
  · rw [if_pos h, cp_eq.2 h]; rfl
  rw [if_neg h]
  by_cases h1 : a = []
  · rw [if_pos h1]; subst h1
    have hb' : part b = true := hb.resolve_left (fun e => h e.symm)
    cases hw : word b with
    | true => rw [word_not_digits hw, cp_rank (by rw [rank_nil, rank_word hw]; omega), rank_nil, rank_word hw]; rfl
    | false =>
      have hd := part_not_word hb' hw
      rw [hd, cp_rank (by rw [rank_nil, (rank_digits hd).1]; omega), rank_nil, (rank_digits hd).1]; rfl
  rw [if_neg h1]
  have ha' : part a = true := ha.resolve_left h1
  by_cases h2 : b = []
  · rw [if_pos h2]; subst h2
    cases hw : word a with
    | true => rw [cp_rank (by rw [rank_nil, rank_word hw]; omega), rank_nil, rank_word hw]; rfl
    | false =>
      have hd := part_not_word ha' hw
      rw [cp_rank (by rw [rank_nil, (rank_digits hd).1]; omega), rank_nil, (rank_digits hd).1]; rfl
  rw [if_neg h2]
  have hb' : part b = true := hb.resolve_left h2
  cases hwa : word a with
  | true =>
    cases hwb : word b with
    | true =>
      rw [if_neg (by simp), if_neg (by rw [word_not_digits hwa]; simp), less_bytes, cp_bytes (by rw [rank_word hwa, rank_word hwb]) (by rw [rank_word hwa]; omega)]
    | false =>
      have hd := part_not_word hb' hwb
      rw [if_pos (by simp), cp_rank (by rw [rank_word hwa, (rank_digits hd).1]; omega), rank_word hwa, (rank_digits hd).1]; rfl
  | false =>
    have hda := part_not_word ha' hwa
    cases hwb : word b with
    | true =>
      rw [if_pos (by simp), cp_rank (by rw [rank_word hwb, (rank_digits hda).1]; omega), rank_word hwb, (rank_digits hda).1]; rfl
    | false =>
      have hdb := part_not_word hb' hwb
      rw [if_neg (by simp)]
      have hr : rank a = rank b := by rw [(rank_digits hda).1, (rank_digits hdb).1]
      by_cases hl : a.length = b.length
      · rw [if_neg (fun c => c.2 hl), less_bytes, cp_bytes hr (fun c => c.2 hl)]
      · rw [if_pos ⟨hda, hl⟩, cp_len hr ⟨(rank_digits hda).1, hl⟩, decide_eq_decide, ci_lt]; omega

/-! ### Versions. -/
theorem may_parts {a : Bs} (h : may a = true) : ∀ p ∈ cut 46 a, p ≠ [] := by
  intro p hp
  unfold may at h
  simp only [Bool.and_eq_true, List.all_eq_true] at h
  exact part_ne (h.2 p hp)
theorem cmp_both {a b : Bs} (h : may a = true) (h2 : may b = true) : compare a b = cmpParts (cut 46 a) (cut 46 b) := by unfold compare; rw [h, h2]; rfl
theorem cmp_none {a b : Bs} (h : (may a && may b) = false) : compare a b = mayI a - mayI b := by unfold compare; rw [h]; rfl
theorem mayI_true {a : Bs} (h : may a = true) : mayI a = 1 := by unfold mayI; rw [if_pos h]
theorem mayI_false {a : Bs} (h : may a = false) : mayI a = 0 := by unfold mayI; rw [if_neg (by simp [h])]

theorem compare_anti (a b : Bs) : compare b a = - compare a b := by
  cases ha : may a with
  | false => rw [cmp_none (a := b) (b := a) (by rw [ha]; simp), cmp_none (by rw [ha]; rfl)]; omega
  | true => cases hb : may b with
    | false => rw [cmp_none (a := b) (b := a) (by rw [hb]; simp), cmp_none (a := a) (b := b) (by rw [hb]; simp)]; omega
    | true => rw [cmp_both ha hb, cmp_both hb ha]; exact cps_anti _ _ (may_parts ha) (may_parts hb)
theorem compare_range (a b : Bs) : compare a b = -1 ∨ compare a b = 0 ∨ compare a b = 1 := by
  cases ha : may a with
  | false =>
    rw [cmp_none (by rw [ha]; rfl), mayI_false ha]
    cases hb : may b with
    | false => rw [mayI_false hb]; omega
    | true => rw [mayI_true hb]; omega
  | true => cases hb : may b with
    | false => rw [cmp_none (a := a) (b := b) (by rw [hb]; simp), mayI_true ha, mayI_false hb]; omega
    | true => rw [cmp_both ha hb]; exact cps_range _ _
theorem compare_trans (a b c : Bs) (h1 : compare a b ≤ 0) (h2 : compare b c ≤ 0) : compare a c ≤ 0 := by
  cases ha : may a with
  | false =>
    rw [cmp_none (by rw [ha]; rfl), mayI_false ha]
    cases hc : may c with
    | false => rw [mayI_false hc]; omega
    | true => rw [mayI_true hc]; omega
  | true => cases hb : may b with
    | false => rw [cmp_none (a := a) (b := b) (by rw [hb]; simp), mayI_true ha, mayI_false hb] at h1; omega
    | true => cases hc : may c with
      | false => rw [cmp_none (a := b) (b := c) (by rw [hc]; simp), mayI_true hb, mayI_false hc] at h2; omega
      | true =>
        rw [cmp_both ha hb] at h1; rw [cmp_both hb hc] at h2; rw [cmp_both ha hc]
        exact cps_trans _ _ _ (may_parts hb) (may_parts hc) h1 h2
/-- A text is its parts, put together. -/
def join (b : UInt8) : List Bs → Bs
  | [] => []
  | [p] => p
  | p :: q :: r => p ++ b :: join b (q :: r)
theorem join_cut (b : UInt8) : ∀ l : Bs, join b (cut b l) = l
  | [] => rfl
  | c :: r => by
    have ih := join_cut b r
    have hne := cut_ne b r
    rw [cut]
    by_cases h : c == b
    · rw [if_pos h]
      cases hc : cut b r with
      | nil => exact absurd hc hne
      | cons p ps =>
        rw [join, ← hc, ih]
        have : c = b := by simpa using h
        simp [this]
    · rw [if_neg h]
      cases hc : cut b r with
      | nil => exact absurd hc hne
      | cons p ps =>
        rw [hc] at ih
        simp only
        cases ps with
        | nil => simp only [join] at ih ⊢; rw [ih]
        | cons q qs => simp only [join] at ih ⊢; rw [List.cons_append, ih]
theorem compare_eq {a b : Bs} (h : compare a b = 0) : a = b ∨ (may a = false ∧ may b = false) := by
  cases ha : may a with
  | false =>
    rw [cmp_none (by rw [ha]; rfl), mayI_false ha] at h
    cases hb : may b with
    | false => exact .inr ⟨rfl, rfl⟩
    | true => rw [mayI_true hb] at h; omega
  | true => cases hb : may b with
    | false => rw [cmp_none (a := a) (b := b) (by rw [hb]; simp), mayI_true ha, mayI_false hb] at h; omega
    | true =>
      rw [cmp_both ha hb] at h
      left
      rw [← join_cut 46 a, ← join_cut 46 b, cps_eq _ _ (may_parts ha) (may_parts hb) h]
theorem compare_self (a : Bs) : compare a a = 0 := by
  cases ha : may a with
  | false => rw [cmp_none (by rw [ha]; rfl)]; omega
  | true => rw [cmp_both ha ha]; exact cps_self _
theorem compare_eq_trans {a b c : Bs} (h1 : compare a b = 0) (h2 : compare b c = 0) : compare a c = 0 := by
  have h3 := compare_trans a b c (by omega) (by omega)
  have h4 := compare_trans c b a (by have := compare_anti b c; omega) (by have := compare_anti a b; omega)
  have := compare_anti a c
  omega

end Go.Proofs.YtdijkekglaimfaaGreatDoor.Ver
