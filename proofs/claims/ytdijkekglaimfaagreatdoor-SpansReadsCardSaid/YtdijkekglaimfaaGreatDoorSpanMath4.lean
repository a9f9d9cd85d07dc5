/- What two spans have in common: the document's way to say it; what is in it. -/
import Derived.Test.YtdijkekglaimfaaGreatDoorSpan11
namespace Go.Proofs.YtdijkekglaimfaaGreatDoor.Ver

theorem empty_of {s : ByteArray} (h : s.data.toList.isEmpty = true) : s = ⟨#[]⟩ := ba_ext (by rw [List.isEmpty_iff.1 h])

theorem mlo_1 {a b : ByteArray} (h : b.data.toList = []) : mlo a b = a := by
  unfold mlo lowR
  rw [h]
  cases he : a.data.toList.isEmpty with
  | true => rw [if_pos (Bool.true_or _), empty_of (s := a) he, empty_of (s := b) (by rw [h]; rfl)]
  | false => rw [if_neg (by simp)]
theorem mlo_2 {a b : ByteArray} (h : a.data.toList = []) : mlo a b = b := by
  unfold mlo lowR; rw [h]; rfl
theorem mlo_3 {a b : ByteArray} (hb : b.data.toList.isEmpty = false) (h : less a.data.toList b.data.toList = true) : mlo a b = b := by
  unfold less at h
  rw [decide_eq_true_eq] at h
  unfold mlo lowR
  rw [h, hb, if_pos (by simp)]
theorem mlo_4 {a b : ByteArray} (ha : a.data.toList.isEmpty = false) (hb : b.data.toList.isEmpty = false) (hm : may a.data.toList = true) (h : less a.data.toList b.data.toList = false) : mlo a b = a := by
  unfold less at h
  rw [decide_eq_false_iff_not] at h
  unfold mlo lowR
  rw [ha, hb]
  by_cases h0 : compare a.data.toList b.data.toList ≤ 0
  · have : compare a.data.toList b.data.toList = 0 := by have := compare_range a.data.toList b.data.toList; omega
    rcases compare_eq this with e | e
    · rw [if_pos (by simp [h0]), ba_ext e]
    · rw [hm] at e; cases e.1
  · rw [if_neg (by simp [h0])]
theorem mhi_1 {a b : ByteArray} (h : b.data.toList = []) : mhi a b = a := by
  unfold mhi highR
  rw [h]
  cases he : a.data.toList.isEmpty with
  | true => rw [if_pos (Bool.true_or _), empty_of (s := a) he, empty_of (s := b) (by rw [h]; rfl)]
  | false => rw [if_neg (by simp)]
theorem mhi_2 {a b : ByteArray} (h : a.data.toList = []) : mhi a b = b := by
  unfold mhi highR; rw [h]; rfl
theorem mhi_3 {a b : ByteArray} (hb : b.data.toList.isEmpty = false) (h : less b.data.toList a.data.toList = true) : mhi a b = b := by
  unfold less at h
  rw [decide_eq_true_eq] at h
  have := compare_anti b.data.toList a.data.toList
  unfold mhi highR
  rw [hb, if_pos (by rw [decide_eq_true (by omega)]; simp)]
theorem mhi_4 {a b : ByteArray} (ha : a.data.toList.isEmpty = false) (hb : b.data.toList.isEmpty = false) (hm : may a.data.toList = true) (h : less b.data.toList a.data.toList = false) : mhi a b = a := by
  unfold less at h
  rw [decide_eq_false_iff_not] at h
  have h2 := compare_anti b.data.toList a.data.toList
  unfold mhi highR
  rw [ha, hb]
  by_cases h0 : 0 ≤ compare a.data.toList b.data.toList
  · have : compare a.data.toList b.data.toList = 0 := by have := compare_range a.data.toList b.data.toList; omega
    rcases compare_eq this with e | e
    · rw [if_pos (by simp [h0]), ba_ext e]
    · rw [hm] at e; cases e.1
  · rw [if_neg (by simp [h0])]

theorem lowR_total {a b : Bs} (h : lowR a b = false) : lowR b a = true := by
  unfold lowR at *
  rw [Bool.or_eq_false_iff] at h
  have h2 := compare_anti a b
  cases hb : b.isEmpty with
  | true => rfl
  | false =>
    rw [hb] at h
    have h3 := h.2
    simp at h3
    rw [h.1, decide_eq_true (by omega)]; rfl
theorem highR_total {a b : Bs} (h : highR a b = false) : highR b a = true := by
  unfold highR at *
  rw [Bool.or_eq_false_iff] at h
  have h2 := compare_anti a b
  cases hb : b.isEmpty with
  | true => rfl
  | false =>
    rw [hb] at h
    have h3 := h.2
    simp at h3
    rw [h.1, decide_eq_true (by omega)]; rfl

theorem mlo_low (a b : ByteArray) (v : Bs) : lowR (mlo a b).data.toList v = (lowR a.data.toList v && lowR b.data.toList v) := by
  unfold mlo
  cases h : lowR a.data.toList b.data.toList with
  | true =>
    rw [if_pos rfl, Bool.eq_iff_iff, Bool.and_eq_true]
    exact ⟨fun h2 => ⟨lowR_trans h h2, h2⟩, fun h2 => h2.2⟩
  | false =>
    rw [if_neg (by simp), Bool.eq_iff_iff, Bool.and_eq_true]
    exact ⟨fun h2 => ⟨h2, lowR_trans (lowR_total h) h2⟩, fun h2 => h2.1⟩
theorem mhi_high (a b : ByteArray) (v : Bs) : highR (mhi a b).data.toList v = (highR a.data.toList v && highR b.data.toList v) := by
  unfold mhi
  cases h : highR a.data.toList b.data.toList with
  | true =>
    rw [if_pos rfl, Bool.eq_iff_iff, Bool.and_eq_true]
    exact ⟨fun h2 => ⟨highR_trans h h2, h2⟩, fun h2 => h2.2⟩
  | false =>
    rw [if_neg (by simp), Bool.eq_iff_iff, Bool.and_eq_true]
    exact ⟨fun h2 => ⟨h2, highR_trans (highR_total h) h2⟩, fun h2 => h2.1⟩

theorem reach_may {lo hi v : Bs} (hl : (lo.isEmpty || may lo) = true) (hh : (hi.isEmpty || may hi) = true) (h1 : lowR lo v = true) (h2 : highR hi v = true) : smay lo hi = true := by
  unfold smay
  rw [hl, hh]
  unfold lowR at h1
  unfold highR at h2
  cases el : lo.isEmpty with
  | true => rfl
  | false =>
    cases eh : hi.isEmpty with
    | true => rfl
    | false =>
      rw [el] at h1; rw [eh] at h2
      simp at h1 h2
      have h3 := compare_anti hi v
      have := compare_trans lo v hi h1.2 (by omega)
      simp [this]

theorem meets_has {alo ahi blo bhi lo hi : ByteArray} {b : Bool} (h : smeet alo ahi blo bhi = (lo, hi, b)) (v : Bs) :
    (b && shas lo.data.toList hi.data.toList v) = (shas alo.data.toList ahi.data.toList v && shas blo.data.toList bhi.data.toList v) := by
  unfold smeet at h
  unfold shas
  cases ha : smay alo.data.toList ahi.data.toList with
  | false => rw [ha] at h; injection h with h1 h2; injection h2 with h2 h3; subst h3; simp
  | true =>
    cases hb : smay blo.data.toList bhi.data.toList with
    | false => rw [ha, hb] at h; injection h with h1 h2; injection h2 with h2 h3; subst h3; simp
    | true =>
      rw [ha, hb] at h
      cases hs : smay (mlo alo blo).data.toList (mhi ahi bhi).data.toList with
      | true =>
        rw [hs, if_pos (by rfl)] at h
        injection h with h1 h2; injection h2 with h2 h3; subst h1; subst h2; subst h3
        rw [hs, mlo_low, mhi_high]
        cases may v <;> cases lowR alo.data.toList v <;> cases lowR blo.data.toList v <;> cases highR ahi.data.toList v <;> cases highR bhi.data.toList v <;> rfl
      | false =>
        rw [hs, if_neg (by simp)] at h
        injection h with h1 h2; injection h2 with h2 h3; subst h3
        rw [Bool.false_and]
        symm
        rw [Bool.eq_false_iff]
        intro hc
        simp only [Bool.and_eq_true] at hc
        have hl : lowR (mlo alo blo).data.toList v = true := by rw [mlo_low, hc.1.1.2, hc.2.1.2]; rfl
        have hh : highR (mhi ahi bhi).data.toList v = true := by rw [mhi_high, hc.1.2, hc.2.2]; rfl
        have b1 : ((mlo alo blo).data.toList.isEmpty || may (mlo alo blo).data.toList) = true := by
          unfold mlo; split
          · exact (smay_bounds hb).1
          · exact (smay_bounds ha).1
        have b2 : ((mhi ahi bhi).data.toList.isEmpty || may (mhi ahi bhi).data.toList) = true := by
          unfold mhi; split
          · exact (smay_bounds hb).2
          · exact (smay_bounds ha).2
        rw [reach_may b1 b2 hl hh] at hs
        cases hs

end Go.Proofs.YtdijkekglaimfaaGreatDoor.Ver
