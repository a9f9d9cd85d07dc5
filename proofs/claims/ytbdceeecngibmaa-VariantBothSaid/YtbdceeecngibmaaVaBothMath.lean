/- Two wishes put together. No Go in sight. -/
import Derived.Test.YtbdceeecngibmaaVaSame
import Derived.Test.YtbdceeecngibmaaVaWishE
import Derived.Test.YtbdceeecngibmaaVaManyMath
import Derived.Sort.Walk0
namespace Go.Proofs.Ytbdceeecngibmaa.Va

theorem eqT_iff {a b : Set1} : eqT a b = true ↔ a = b := by
  unfold eqT
  rw [Bool.and_eq_true, eqS_iff, eqS_iff]
  exact ⟨fun ⟨h1, h2⟩ => Prod.ext h1 h2, fun h => by rw [h]; exact ⟨rfl, rfl⟩⟩
theorem ltS_iff {a b : ByteArray} : ltS a b = true ↔ a.toList < b.toList := by
  unfold ltS; rw [Go.Proofs.bytesLess_eq]; simp
theorem toList_inj {a b : ByteArray} (h : a.toList = b.toList) : a = b := eqS_iff.1 (by unfold eqS; simp [h])
theorem ltS_irrefl (a : ByteArray) : ltS a a = false := by
  cases h : ltS a a with
  | false => rfl
  | true => exact absurd (ltS_iff.1 h) (List.lt_irrefl _)
theorem ltS_trans {a b c : ByteArray} (h : ltS a b = true) (k : ltS b c = true) : ltS a c = true :=
  ltS_iff.2 (List.lt_trans (ltS_iff.1 h) (ltS_iff.1 k))
theorem ltS_tri {a b : ByteArray} (h : ltS a b = false) (k : ltS b a = false) : a = b := by
  refine toList_inj (List.le_antisymm ?_ ?_)
  · intro hh; rw [ltS_iff.2 hh] at k; cases k
  · intro hh; rw [ltS_iff.2 hh] at h; cases h

/-- Neighbours that are the same: one of them. -/
def dd : List Set1 → List Set1
  | [] => []
  | x :: r => match dd r with
    | [] => [x]
    | y :: t => if eqT x y then y :: t else x :: y :: t
theorem dd_nil {x : Set1} {r : List Set1} (h : dd r = []) : dd (x :: r) = [x] := by
  rw [dd, h]
theorem dd_pos {x y : Set1} {r t : List Set1} (h : dd r = y :: t) (e : eqT x y = true) : dd (x :: r) = y :: t := by
  rw [dd, h]; simp [e]
theorem dd_neg {x y : Set1} {r t : List Set1} (h : dd r = y :: t) (e : ¬ eqT x y = true) : dd (x :: r) = x :: y :: t := by
  rw [dd, h]; simp [e]
theorem dd_mem : ∀ (l : List Set1) (z : Set1), z ∈ dd l ↔ z ∈ l
  | [], z => by simp [dd]
  | x :: r, z => by
    have ih := dd_mem r z
    cases h : dd r with
    | nil =>
      rw [h] at ih
      rw [dd_nil h]
      simp only [List.mem_cons, List.not_mem_nil, or_false, false_iff] at ih ⊢
      simp [ih]
    | cons y t =>
      rw [h] at ih
      by_cases e : eqT x y = true
      · rw [dd_pos h e]
        have := eqT_iff.1 e
        subst this
        simp only [List.mem_cons] at ih ⊢
        constructor
        · intro hh; exact .inr (ih.1 hh)
        · rintro (hh | hh)
          · exact .inl hh
          · exact ih.2 hh
      · rw [dd_neg h e]
        simp only [List.mem_cons] at ih ⊢
        rw [← ih]
theorem dd_ne : ∀ l : List Set1, ∀ i x y, (dd l)[i]? = some x → (dd l)[i + 1]? = some y → x ≠ y
  | [], i, x, y, h, _ => by simp [dd] at h
  | z :: r, i, x, y, h, k => by
    have ih := dd_ne r
    cases hd : dd r with
    | nil =>
      rw [dd_nil hd] at h k
      simp at k
    | cons y0 t =>
      rw [hd] at ih
      by_cases e : eqT z y0 = true
      · rw [dd_pos hd e] at h k
        exact ih i x y h k
      · rw [dd_neg hd e] at h k
        cases i with
        | zero =>
          simp at h k
          subst h; subst k
          intro hh
          exact e (eqT_iff.2 hh)
        | succ i =>
          simp only [List.getElem?_cons_succ] at h k
          exact ih i x y h k
/-- Names never fall. -/
def Rise (l : List Set1) : Prop := ∀ i x y, l[i]? = some x → l[i + 1]? = some y → ltS y.1 x.1 = false
theorem dd_head (x : Set1) (r : List Set1) : ∃ t, dd (x :: r) = x :: t := by
  cases h : dd r with
  | nil => exact ⟨[], dd_nil h⟩
  | cons y t =>
    by_cases e : eqT x y = true
    · exact ⟨t, by rw [dd_pos h e, eqT_iff.1 e]⟩
    · exact ⟨y :: t, dd_neg h e⟩
theorem dd_rise : ∀ l : List Set1, Rise l → Rise (dd l)
  | [], _ => by intro i x y h; simp [dd] at h
  | z :: r, hr => by
    have hr' : Rise r := fun i x y h k => hr (i + 1) x y (by simpa using h) (by simpa using k)
    have ih := dd_rise r hr'
    intro i x y h k
    cases r with
    | nil =>
      rw [dd_nil rfl] at k
      simp at k
    | cons r0 r1 =>
      obtain ⟨t, hd⟩ := dd_head r0 r1
      rw [hd] at ih
      by_cases e : eqT z r0 = true
      · rw [dd_pos hd e] at h k
        exact ih i x y h k
      · rw [dd_neg hd e] at h k
        cases i with
        | zero =>
          simp at h k
          subst h; subst k
          exact hr 0 z r0 rfl rfl
        | succ i =>
          simp only [List.getElem?_cons_succ] at h k
          exact ih i x y h k

def goodT (x : Set1) : Prop := nameB x.1.data.toList = true ∧ valB x.2.data.toList = true
def SP (l : List Set1) : Prop := l.Pairwise fun x y => ltS x.1 y.1 = true
theorem sp_of : ∀ l : List Set1, (∀ i x y, l[i]? = some x → l[i + 1]? = some y → ltS x.1 y.1 = true) → SP l
  | [], _ => List.Pairwise.nil
  | [x], _ => List.pairwise_singleton _ _
  | x :: y :: r, h => by
    have ih : SP (y :: r) := sp_of (y :: r) (fun i a b h1 h2 => h (i + 1) a b (by simpa using h1) (by simpa using h2))
    have hxy := h 0 x y rfl rfl
    refine List.pairwise_cons.2 ⟨fun z hz => ?_, ih⟩
    rcases List.mem_cons.1 hz with e | hz
    · subst e; exact hxy
    · exact ltS_trans hxy ((List.pairwise_cons.1 ih).1 z hz)
theorem sp_at : ∀ l : List Set1, SP l → ∀ i x y, l[i]? = some x → l[i + 1]? = some y → ltS x.1 y.1 = true
  | [], _, i, x, y, h, _ => by simp at h
  | z :: r, hs, 0, x, y, h, k => by
    simp at h k
    subst h
    exact (List.pairwise_cons.1 hs).1 y (List.mem_of_getElem? k)
  | z :: r, hs, i + 1, x, y, h, k => sp_at r (List.pairwise_cons.1 hs).2 i x y (by simpa using h) (by simpa using k)
theorem sp_inj : ∀ l : List Set1, SP l → ∀ x ∈ l, ∀ y ∈ l, x.1 = y.1 → x = y
  | [], _, x, hx, _, _, _ => by cases hx
  | z :: r, hs, x, hx, y, hy, e => by
    obtain ⟨h1, h2⟩ := List.pairwise_cons.1 hs
    rcases List.mem_cons.1 hx with ex | hx
    · rcases List.mem_cons.1 hy with ey | hy
      · rw [ex, ey]
      · have := h1 y hy
        rw [← ex, e, ltS_irrefl] at this; cases this
    · rcases List.mem_cons.1 hy with ey | hy
      · have := h1 x hx
        rw [← ey, e, ltS_irrefl] at this; cases this
      · exact sp_inj r h2 x hx y hy e
theorem sp_eq : ∀ l m : List Set1, SP l → SP m → (∀ z, z ∈ l ↔ z ∈ m) → l = m
  | [], [], _, _, _ => rfl
  | [], y :: m, _, _, h => by have := (h y).2 (by simp); cases this
  | x :: l, [], _, _, h => by have := (h x).1 (by simp); cases this
  | x :: l, y :: m, hs, hm, h => by
    obtain ⟨h1, h2⟩ := List.pairwise_cons.1 hs
    obtain ⟨k1, k2⟩ := List.pairwise_cons.1 hm
    have exy : x = y := by
      rcases List.mem_cons.1 ((h x).1 (by simp)) with e | hx
      · exact e
      · rcases List.mem_cons.1 ((h y).2 (by simp)) with e | hy
        · exact e.symm
        · have := ltS_trans (h1 y hy) (k1 x hx)
          rw [ltS_irrefl] at this; cases this
    subst exy
    rw [sp_eq l m h2 k2 fun z => ?_]
    constructor
    · intro hz
      rcases List.mem_cons.1 ((h z).1 (by simp [hz])) with e | hz'
      · have := h1 z hz
        rw [e, ltS_irrefl] at this; cases this
      · exact hz'
    · intro hz
      rcases List.mem_cons.1 ((h z).2 (by simp [hz])) with e | hz'
      · have := k1 z hz
        rw [e, ltS_irrefl] at this; cases this
      · exact hz'
theorem get_nthT {l : List Set1} {i : Nat} {x : Set1} (h : l[i]? = some x) : nthT l i = x ∧ i < l.length := by
  obtain ⟨hi, e⟩ := List.getElem?_eq_some_iff.1 h
  exact ⟨by rw [nthT_lt hi, e], hi⟩
theorem wish_iff {l : List Set1} : wishB l = true ↔ (∀ x ∈ l, goodT x) ∧ SP l := by
  constructor
  · intro h
    have hp : ∀ j, j < l.length → wishP l j = true := fun j hj => List.all_eq_true.1 h j (List.mem_range.2 hj)
    refine ⟨fun x hx => ?_, sp_of l fun i x y h1 h2 => ?_⟩
    · obtain ⟨i, hi⟩ := List.mem_iff_getElem?.1 hx
      obtain ⟨e, hlt⟩ := get_nthT hi
      have := hp i hlt
      unfold wishP at this
      rw [e] at this
      simp only [Bool.and_eq_true] at this
      exact ⟨this.1.1, this.1.2⟩
    · obtain ⟨e1, _⟩ := get_nthT h1
      obtain ⟨e2, hlt⟩ := get_nthT h2
      have := hp (i + 1) hlt
      unfold wishP at this
      rw [Nat.add_sub_cancel, e1, e2] at this
      simp only [Bool.and_eq_true] at this
      simpa using this.2
  · rintro ⟨h1, h2⟩
    refine wish_yes fun j hj => ?_
    have hg : l[j]? = some (nthT l j) := by rw [List.getElem?_eq_getElem hj, nthT_lt hj]
    obtain ⟨g1, g2⟩ := h1 _ (List.mem_of_getElem? hg)
    unfold wishP
    rw [g1, g2]
    cases j with
    | zero => rfl
    | succ j =>
      have hj' : j < l.length := by omega
      have hg' : l[j]? = some (nthT l j) := by rw [List.getElem?_eq_getElem hj', nthT_lt hj']
      have := sp_at l h2 j _ _ hg' hg
      rw [Nat.add_sub_cancel, this]
      simp

/-- Of one name there are two values. -/
def Cf (a b : List Set1) : Prop := ∃ x ∈ a, ∃ y ∈ b, x.1 = y.1 ∧ x.2 ≠ y.2
theorem cf_comm {a b : List Set1} (h : Cf a b) : Cf b a := by
  obtain ⟨x, hx, y, hy, e, n⟩ := h
  exact ⟨y, hy, x, hx, e.symm, fun h => n h.symm⟩
theorem both_iff {a b l : List Set1} (ha : wishB a = true) (hb : wishB b = true) (hm : ∀ z, z ∈ l ↔ z ∈ a ∨ z ∈ b) (hr : Rise l) : wishB (dd l) = true ↔ ¬ Cf a b := by
  obtain ⟨ga, sa⟩ := wish_iff.1 ha
  obtain ⟨gb, sb⟩ := wish_iff.1 hb
  constructor
  · rintro h ⟨x, hx, y, hy, e, n⟩
    have := sp_inj _ (wish_iff.1 h).2 x ((dd_mem l x).2 ((hm x).2 (.inl hx))) y ((dd_mem l y).2 ((hm y).2 (.inr hy))) e
    exact n (by rw [this])
  · intro hc
    refine wish_iff.2 ⟨fun x hx => ?_, sp_of _ fun i x y h1 h2 => ?_⟩
    · rcases (hm x).1 ((dd_mem l x).1 hx) with h | h
      · exact ga x h
      · exact gb x h
    · cases hlt : ltS x.1 y.1 with
      | true => rfl
      | false =>
        exfalso
        have en := ltS_tri hlt (dd_rise l hr i x y h1 h2)
        have hne := dd_ne l i x y h1 h2
        have hx := (hm x).1 ((dd_mem l x).1 (List.mem_of_getElem? h1))
        have hy := (hm y).1 ((dd_mem l y).1 (List.mem_of_getElem? h2))
        have hv : x.2 ≠ y.2 := fun e => hne (Prod.ext en e)
        rcases hx with hx | hx <;> rcases hy with hy | hy
        · exact hne (sp_inj a sa x hx y hy en)
        · exact hc ⟨x, hx, y, hy, en, hv⟩
        · exact hc ⟨y, hy, x, hx, en.symm, fun e => hv e.symm⟩
        · exact hne (sp_inj b sb x hx y hy en)
/-- Both ways round the same. -/
theorem both_same {a b l m : List Set1} (ha : wishB a = true) (hb : wishB b = true) (hl : ∀ z, z ∈ l ↔ z ∈ a ∨ z ∈ b) (hm : ∀ z, z ∈ m ↔ z ∈ b ∨ z ∈ a) (rl : Rise l) (rm : Rise m) :
    wishB (dd l) = wishB (dd m) ∧ (wishB (dd l) = true → dd l = dd m) := by
  have h1 := both_iff ha hb hl rl
  have h2 := both_iff hb ha hm rm
  have hE : wishB (dd l) = true ↔ wishB (dd m) = true := by
    rw [h1, h2]
    exact ⟨fun h c => h (cf_comm c), fun h c => h (cf_comm c)⟩
  refine ⟨Bool.eq_iff_iff.2 hE, fun h => ?_⟩
  refine sp_eq _ _ (wish_iff.1 h).2 (wish_iff.1 (hE.1 h)).2 fun z => ?_
  rw [dd_mem, dd_mem, hl, hm]
  exact Or.comm
theorem both_meets {a b l : List Set1} (s : List Set1) (hl : ∀ z, z ∈ l ↔ z ∈ a ∨ z ∈ b) : meetsB s (dd l) = (meetsB s a && meetsB s b) := by
  rw [Bool.eq_iff_iff]
  unfold meetsB
  rw [Bool.and_eq_true, List.all_eq_true, List.all_eq_true, List.all_eq_true]
  constructor
  · intro h
    exact ⟨fun x hx => h x ((dd_mem l x).2 ((hl x).2 (.inl hx))), fun x hx => h x ((dd_mem l x).2 ((hl x).2 (.inr hx)))⟩
  · rintro ⟨h1, h2⟩ x hx
    rcases (hl x).1 ((dd_mem l x).1 hx) with h | h
    · exact h1 x h
    · exact h2 x h
end Go.Proofs.Ytbdceeecngibmaa.Va
