/- What a row of operations builds holds just where what was said does. -/
import Derived.Test.YtiomocmceccmbaaCnOut
namespace Go.Proofs.Ytiomocmceccmbaa.Cn
open Go.RowKit

/-- Literals: no zero, not the least number, and within the machine's. -/
def LitI (x : Int) : Prop := IsLit x ∧ -9223372036854775808 ≤ x ∧ x ≤ 9223372036854775807

theorem so_neg {x : Int} {bs : List Bool} (h : IsLit x) (hx : -9223372036854775808 ≤ x ∧ x ≤ 9223372036854775807) : soB (ng x) bs = !soB x bs := by
  obtain ⟨h1, h2⟩ := h
  have hn : ng x = -x := ng_of (by omega) (by omega)
  have h3 : IsLit (-x) := ⟨by omega, by omega⟩
  have h4 : IsLit x := ⟨h1, h2⟩
  have ha : atomB (-x) bs = atomB x bs := by unfold atomB; rw [Int.natAbs_neg]
  rw [hn]
  unfold soB litB
  rw [decide_eq_true h3, decide_eq_true h4, ha]
  by_cases hp : 0 < x
  · rw [decide_eq_true hp, decide_eq_false (show ¬ (0 < -x) by omega)]
    cases atomB x bs <;> rfl
  · rw [decide_eq_false hp, decide_eq_true (show 0 < -x by omega)]
    cases atomB x bs <;> rfl
theorem lit_ng {x : Int} (hx : -9223372036854775808 ≤ x ∧ x ≤ 9223372036854775807) : litB (ng x) = litB x := by
  have key : IsLit (ng x) ↔ IsLit x := by
    by_cases hm : x = -9223372036854775808
    · have h2 : ng x = -9223372036854775808 := by unfold ng wrap64; omega
      rw [h2, hm]
    · have h2 : ng x = -x := ng_of (by omega) (by omega)
      rw [h2]
      constructor
      · intro h; obtain ⟨a, b⟩ := h; exact ⟨fun e => a (by omega), fun e => hm e⟩
      · intro h; obtain ⟨a, b⟩ := h; exact ⟨fun e => a (by omega), fun e => by omega⟩
  unfold litB
  by_cases h : IsLit x
  · rw [decide_eq_true h, decide_eq_true (key.2 h)]
  · rw [decide_eq_false h, decide_eq_false (fun k => h (key.1 k))]
theorem litB_is {x : Int} (h : litB x = true) : IsLit x := by simpa [litB] using h

def cso (bs : List Bool) (c : List Int) : Bool := c.any fun x => soB x bs
def lits (c : List Int) : Bool := c.all litB

theorem cso_bad {c : List Int} {bs : List Bool} (h : Bad c) (hl : lits c = true) (hi : ∀ x ∈ c, -9223372036854775808 ≤ x ∧ x ≤ 9223372036854775807) : cso bs c = true := by
  unfold lits litB at hl
  rw [List.all_eq_true] at hl
  obtain ⟨x, hx, hb⟩ := h
  have hxl : IsLit x := by simpa using hl x hx
  rcases hb with hb | hb
  · exact absurd hxl hb
  · have hn := so_neg (bs := bs) hxl (hi x hx)
    rw [ng_of (by have := hi x hx; have := hxl.2; omega) (by have := hi x hx; omega)] at hn
    unfold cso
    rw [List.any_eq_true]
    cases h1 : soB x bs with
    | true => exact ⟨x, hx, h1⟩
    | false => exact ⟨-x, hb, by rw [hn, h1]; rfl⟩
theorem cso_good {c f : List Int} {bs : List Bool} (h : Good c f) : cso bs f = cso bs c := by
  unfold cso
  rw [Bool.eq_iff_iff, List.any_eq_true, List.any_eq_true]
  exact ⟨fun ⟨x, hx, e⟩ => ⟨x, (h.same x).1 hx, e⟩, fun ⟨x, hx, e⟩ => ⟨x, (h.same x).2 hx, e⟩⟩
theorem lits_good {c f : List Int} (h : Good c f) : lits c = true := by
  unfold lits litB
  rw [List.all_eq_true]
  exact fun x hx => by simpa using h.lits x hx

theorem holds_snoc (ls : List (List Int)) (f : List Int) (bs : List Bool) : holdsB (ls ++ [f]) bs = (holdsB ls bs && cso bs f) := by
  unfold holdsB cso; rw [List.all_append]; simp

def InI (c : List Int) : Prop := ∀ x ∈ c, -9223372036854775808 ≤ x ∧ x ≤ 9223372036854775807

theorem AddS.holds {c : List Int} {ls ls' : List (List Int)} {bad bad' : Bool} (h : AddS c ls bad ls' bad') (hi : InI c) (bs : List Bool) : bad' = (bad || !lits c) ∧ (lits c = true → holdsB ls' bs = (holdsB ls bs && cso bs c)) := by
  rcases h with ⟨h1, rfl, rfl⟩ | ⟨f, h1, rfl, rfl⟩
  · exact ⟨rfl, fun hl => by rw [cso_bad h1 hl hi, Bool.and_true]⟩
  · exact ⟨by rw [lits_good h1]; simp, fun _ => by rw [holds_snoc, cso_good h1]⟩

theorem Adds.holds : ∀ {P : List (List Int)} {ls ls' : List (List Int)} {bad bad' : Bool}, Adds P ls bad ls' bad' → (∀ c ∈ P, InI c) → ∀ bs : List Bool, bad' = (bad || !P.all lits) ∧ (P.all lits = true → holdsB ls' bs = (holdsB ls bs && P.all (cso bs)))
  | [], _, _, _, _, h, _, _ => by obtain ⟨rfl, rfl⟩ := h; simp
  | c :: P, _, _, _, _, ⟨m, b, h1, h2⟩, hi, bs => by
    obtain ⟨e1, e2⟩ := h1.holds (hi c (by simp)) bs
    obtain ⟨e3, e4⟩ := h2.holds (fun d hd => hi d (by simp [hd])) bs
    refine ⟨by rw [e3, e1, List.all_cons]; cases lits c <;> simp, fun hl => ?_⟩
    rw [List.all_cons, Bool.and_eq_true] at hl
    rw [e4 hl.2, e2 hl.1, List.all_cons, Bool.and_assoc]

theorem soN_cons (y : Int) (r : List Int) (bs : List Bool) : soN (y :: r) bs = (if soB y bs then 1 else 0) + soN r bs := by
  unfold soN; rw [List.filter_cons]
  by_cases h : soB y bs = true <;> simp [h]; omega
theorem soN_pos (zs : List Int) (bs : List Bool) : cso bs zs = decide (0 < soN zs bs) := by
  induction zs with
  | nil => rfl
  | cons y r ih =>
    rw [soN_cons]; unfold cso at ih ⊢; rw [List.any_cons, ih]
    cases h : soB y bs
    · simp
    · simp; omega
theorem soN_all (zs : List Int) (bs : List Bool) : (zs.all fun y => soB y bs) = decide (soN zs bs = zs.length) := by
  induction zs with
  | nil => rfl
  | cons y r ih =>
    rw [soN_cons, List.all_cons, ih, List.length_cons]
    have := soN_le r bs
    cases h : soB y bs
    · simp; omega
    · simp; omega
theorem prs_all {zs : List Int} {p : List Int → Bool} : (prs zs zs.length).all p = true ↔ zs.Pairwise fun a b => p [ng a, ng b] = true := by
  rw [pairwise_nthI, List.all_eq_true]
  unfold prs prAt
  constructor
  · intro h i j hij hj
    refine h _ (List.mem_flatMap.2 ⟨i, List.mem_range.2 (by omega), List.mem_map.2 ⟨j, ?_, rfl⟩⟩)
    rw [List.mem_range'_1]; omega
  · intro h c hc
    obtain ⟨i, hi, hc⟩ := List.mem_flatMap.1 hc
    obtain ⟨j, hj, rfl⟩ := List.mem_map.1 hc
    rw [List.mem_range'_1] at hj
    rw [List.mem_range] at hi
    exact h i j (by omega) (by omega)
theorem soN_two {zs : List Int} {bs : List Bool} : zs.Pairwise (fun a b => ¬ (soB a bs = true ∧ soB b bs = true)) ↔ soN zs bs < 2 := by
  induction zs with
  | nil => simp [soN]
  | cons y r ih =>
    rw [List.pairwise_cons, ih, soN_cons]
    have hp := soN_pos r bs
    unfold cso at hp
    cases h : soB y bs
    · simp
    · simp only [true_and, if_true]
      constructor
      · rintro ⟨h1, _⟩
        have : (r.any fun x => soB x bs) = false := by
          rw [List.any_eq_false]; exact h1
        rw [this] at hp
        have := of_decide_eq_false hp.symm
        omega
      · intro h1
        refine ⟨?_, by omega⟩
        have h2 : soN r bs = 0 := by omega
        rw [h2] at hp
        rw [show decide (0 < 0) = false by rfl, List.any_eq_false] at hp
        exact hp
theorem pairs_so {zs : List Int} {bs : List Bool} (hi : InI zs) (hl : (prs zs zs.length).all lits = true) : (prs zs zs.length).all (cso bs) = decide (soN zs bs < 2) := by
  rw [Bool.eq_iff_iff, prs_all, decide_eq_true_iff, ← soN_two]
  rw [prs_all] at hl
  rw [pairwise_nthI] at hl ⊢
  rw [pairwise_nthI]
  have key : ∀ i j, i < j → j < zs.length → (cso bs [ng (nthI zs i), ng (nthI zs j)] = true ↔ ¬ (soB (nthI zs i) bs = true ∧ soB (nthI zs j) bs = true)) := by
    intro i j hij hj
    have h := hl i j hij hj
    have b1 := hi _ (nthI_mem (show i < zs.length by omega))
    have b2 := hi _ (nthI_mem hj)
    unfold lits at h
    simp only [List.all_cons, List.all_nil, Bool.and_true, Bool.and_eq_true] at h
    rw [lit_ng b1, lit_ng b2] at h
    unfold cso
    simp only [List.any_cons, List.any_nil, Bool.or_false]
    rw [so_neg (litB_is h.1) b1, so_neg (litB_is h.2) b2]
    cases soB (nthI zs i) bs <;> cases soB (nthI zs j) bs <;> simp
  exact ⟨fun h i j hij hj => (key i j hij hj).1 (h i j hij hj), fun h i j hij hj => (key i j hij hj).2 (h i j hij hj)⟩

theorem all_map {α : Type} (l : List Int) (f : Int → α) (p : α → Bool) : (l.map f).all p = l.all fun y => p (f y) := by rw [List.all_map]; rfl

theorem any_ng {zs : List Int} {bs : List Bool} (hi : InI zs) (hl : zs.all litB = true) : cso bs (zs.map ng) = !(zs.all fun y => soB y bs) := by
  induction zs with
  | nil => rfl
  | cons y r ih =>
    rw [List.all_cons, Bool.and_eq_true] at hl
    have := ih (fun x hx => hi x (by simp [hx])) hl.2
    unfold cso at this ⊢
    rw [List.map_cons, List.any_cons, this, so_neg (litB_is hl.1) (hi y (by simp)), List.all_cons]
    cases soB y bs <;> simp

theorem op_means {kd x : Int} {zs : List Int} {bs : List Bool} (hi : InI zs) (hx : -9223372036854775808 ≤ x ∧ x ≤ 9223372036854775807) (hl : (opP kd x zs).all lits = true) : (opP kd x zs).all (cso bs) = meansB kd x zs bs := by
  unfold opP meansB at *
  by_cases k0 : kd = 0
  · simp only [k0, if_true, List.all_cons, List.all_nil, Bool.and_true]; exact soN_pos zs bs
  rw [if_neg k0] at hl ⊢
  rw [if_neg k0]
  by_cases k1 : kd = 1
  · rw [if_pos k1] at hl ⊢
    rw [if_pos k1]; exact pairs_so hi hl
  rw [if_neg k1] at hl ⊢
  rw [if_neg k1]
  by_cases k2 : kd = 2
  · rw [if_pos k2] at hl ⊢
    rw [if_pos k2]
    rw [List.all_cons, Bool.and_eq_true] at hl
    rw [List.all_cons, pairs_so hi hl.2, soN_pos, Bool.eq_iff_iff]
    simp; omega
  rw [if_neg k2] at hl ⊢
  rw [if_neg k2]
  by_cases k3 : kd = 3
  · rw [if_pos k3] at hl ⊢
    rw [if_pos k3]
    unfold allP at hl ⊢
    rw [List.all_append, Bool.and_eq_true, all_map] at hl
    obtain ⟨_, h2⟩ := hl
    simp only [List.all_cons, List.all_nil, Bool.and_true, lits, Bool.and_eq_true] at h2
    have hlx := litB_is h2.1
    have hlz : zs.all litB = true := by
      rw [List.all_eq_true]; intro y hy
      have h3 := h2.2
      rw [List.all_eq_true] at h3
      rw [← lit_ng (hi y hy)]; exact h3 _ (List.mem_map.2 ⟨y, hy, rfl⟩)
    rw [List.all_append, all_map, ← soN_all]
    simp only [List.all_cons, List.all_nil, Bool.and_true]
    have e1 : (zs.all fun y => cso bs [ng x, y]) = (!soB x bs || zs.all fun y => soB y bs) := by
      rw [Bool.eq_iff_iff, List.all_eq_true]
      unfold cso
      simp only [List.any_cons, List.any_nil, Bool.or_false, so_neg hlx hx]
      cases soB x bs <;> simp
    have e2 : cso bs (x :: zs.map ng) = (soB x bs || !(zs.all fun y => soB y bs)) := by
      have := any_ng (bs := bs) hi hlz
      unfold cso at this ⊢
      rw [List.any_cons, this]
    rw [e1, e2]
    cases soB x bs <;> cases (zs.all fun y => soB y bs) <;> rfl
  · rw [if_neg k3] at hl ⊢
    rw [if_neg k3]
    unfold anyP at hl ⊢
    rw [List.all_cons, Bool.and_eq_true, all_map] at hl
    obtain ⟨h1, _⟩ := hl
    simp only [lits, List.all_cons, Bool.and_eq_true] at h1
    rw [lit_ng hx] at h1
    have hlx := litB_is h1.1
    rw [List.all_cons, all_map, ← soN_pos]
    have e1 : (zs.all fun y => cso bs [ng y, x]) = (soB x bs || !cso bs zs) := by
      rw [Bool.eq_iff_iff, List.all_eq_true]
      constructor
      · intro h
        cases hx1 : soB x bs with
        | true => rfl
        | false =>
          rw [Bool.false_or, Bool.not_eq_true']
          unfold cso; rw [List.any_eq_false]
          intro y hy hs
          have h3 := h y hy
          unfold cso at h3
          have hly := List.all_eq_true.1 h1.2 y hy
          simp [so_neg (litB_is hly) (hi y hy), hs, hx1] at h3
      · intro h y hy
        unfold cso
        have hly := List.all_eq_true.1 h1.2 y hy
        simp only [List.any_cons, List.any_nil, Bool.or_false, so_neg (litB_is hly) (hi y hy)]
        cases hx1 : soB x bs with
        | true => simp
        | false =>
          rw [hx1, Bool.false_or, Bool.not_eq_true'] at h
          unfold cso at h
          have := List.any_eq_false.1 h y hy
          simp at this
          simp [this]
    have e2 : cso bs (ng x :: zs) = (!soB x bs || cso bs zs) := by
      unfold cso; rw [List.any_cons, so_neg hlx hx]
    rw [e1, e2]
    cases soB x bs <;> cases cso bs zs <;> rfl

end Go.Proofs.Ytiomocmceccmbaa.Cn
