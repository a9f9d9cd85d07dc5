/- The least span of two. -/
import Derived.Test.YtdijkekglaimfaaGreatDoorSpanMath4
namespace Go.Proofs.YtdijkekglaimfaaGreatDoor.Ver

def jlo (alo blo : ByteArray) : ByteArray := if lowR blo.data.toList alo.data.toList = true then blo else alo
def jhi (ahi bhi : ByteArray) : ByteArray := if highR bhi.data.toList ahi.data.toList = true then bhi else ahi
def sjoin (alo ahi blo bhi : ByteArray) : ByteArray × ByteArray :=
  if (smay alo.data.toList ahi.data.toList && smay blo.data.toList bhi.data.toList) = true then (jlo alo blo, jhi ahi bhi) else (⟨#[]⟩, ⟨#[]⟩)

theorem jlo_both (a b : ByteArray) : lowR (jlo a b).data.toList a.data.toList = true ∧ lowR (jlo a b).data.toList b.data.toList = true := by
  unfold jlo
  cases h : lowR b.data.toList a.data.toList with
  | true => rw [if_pos rfl]; exact ⟨h, lowR_self _⟩
  | false => rw [if_neg (by simp)]; exact ⟨lowR_self _, lowR_total h⟩
theorem jhi_both (a b : ByteArray) : highR (jhi a b).data.toList a.data.toList = true ∧ highR (jhi a b).data.toList b.data.toList = true := by
  unfold jhi
  cases h : highR b.data.toList a.data.toList with
  | true => rw [if_pos rfl]; exact ⟨h, highR_self _⟩
  | false => rw [if_neg (by simp)]; exact ⟨highR_self _, highR_total h⟩

theorem join_may {alo ahi blo bhi : ByteArray} (ha : smay alo.data.toList ahi.data.toList = true) (hb : smay blo.data.toList bhi.data.toList = true) :
    smay (jlo alo blo).data.toList (jhi ahi bhi).data.toList = true := by
  have b1 : ((jlo alo blo).data.toList.isEmpty || may (jlo alo blo).data.toList) = true := by
    unfold jlo; split
    · exact (smay_bounds hb).1
    · exact (smay_bounds ha).1
  have b2 : ((jhi ahi bhi).data.toList.isEmpty || may (jhi ahi bhi).data.toList) = true := by
    unfold jhi; split
    · exact (smay_bounds hb).2
    · exact (smay_bounds ha).2
  have l := (jlo_both alo blo).1
  have h := (jhi_both ahi bhi).1
  unfold smay at ha ⊢
  rw [b1, b2]
  unfold lowR at l
  unfold highR at h
  cases el : (jlo alo blo).data.toList.isEmpty with
  | true => rfl
  | false =>
    cases eh : (jhi ahi bhi).data.toList.isEmpty with
    | true => rfl
    | false =>
      rw [el] at l; rw [eh] at h
      simp only [Bool.false_or, Bool.and_eq_true, Bool.not_eq_true', decide_eq_true_eq] at l h
      rw [l.1, h.1] at ha
      simp only [Bool.false_or, Bool.and_eq_true, decide_eq_true_eq] at ha
      have a1 := compare_anti (jhi ahi bhi).data.toList ahi.data.toList
      have t1 := compare_trans (jlo alo blo).data.toList alo.data.toList ahi.data.toList l.2 ha.2
      have t2 := compare_trans (jlo alo blo).data.toList ahi.data.toList (jhi ahi bhi).data.toList t1 (by omega)
      simp [t2]

theorem join_within {alo ahi blo bhi : ByteArray} (ha : smay alo.data.toList ahi.data.toList = true) (hb : smay blo.data.toList bhi.data.toList = true) :
    swithin alo.data.toList ahi.data.toList (jlo alo blo).data.toList (jhi ahi bhi).data.toList = true ∧
    swithin blo.data.toList bhi.data.toList (jlo alo blo).data.toList (jhi ahi bhi).data.toList = true := by
  unfold swithin
  rw [ha, hb, join_may ha hb, (jlo_both alo blo).1, (jlo_both alo blo).2, (jhi_both ahi bhi).1, (jhi_both ahi bhi).2]
  exact ⟨rfl, rfl⟩

theorem join_least {alo ahi blo bhi clo chi : ByteArray} (h1 : swithin alo.data.toList ahi.data.toList clo.data.toList chi.data.toList = true)
    (h2 : swithin blo.data.toList bhi.data.toList clo.data.toList chi.data.toList = true) :
    swithin (jlo alo blo).data.toList (jhi ahi bhi).data.toList clo.data.toList chi.data.toList = true := by
  unfold swithin at h1 h2 ⊢
  simp only [Bool.and_eq_true] at h1 h2 ⊢
  refine ⟨⟨⟨join_may h1.1.1.1 h2.1.1.1, h1.1.1.2⟩, ?_⟩, ?_⟩
  · unfold jlo; split
    · exact h2.1.2
    · exact h1.1.2
  · unfold jhi; split
    · exact h2.2
    · exact h1.2

end Go.Proofs.YtdijkekglaimfaaGreatDoor.Ver
