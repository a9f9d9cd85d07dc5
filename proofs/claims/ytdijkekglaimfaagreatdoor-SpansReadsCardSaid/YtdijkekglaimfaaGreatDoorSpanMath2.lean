/- A version holds no colon; what a span's text is, is read. -/
import Derived.Test.YtdijkekglaimfaaGreatDoorSpan6
namespace Go.Proofs.YtdijkekglaimfaaGreatDoor.Ver

theorem mem_cut (b : UInt8) : ∀ (l : Bs) (c : UInt8), c ∈ l → c = b ∨ ∃ p ∈ cut b l, c ∈ p
  | [], c, h => by simp at h
  | d :: r, c, h => by
    rw [cut]
    by_cases hd : (d == b) = true
    · rw [if_pos hd]
      rcases List.mem_cons.1 h with rfl | h
      · exact .inl (by simpa using hd)
      · rcases mem_cut b r c h with e | ⟨p, hp, hc⟩
        · exact .inl e
        · exact .inr ⟨p, by simp [hp], hc⟩
    · rw [if_neg hd]
      cases hr : cut b r with
      | nil => exact absurd hr (cut_ne b r)
      | cons q qs =>
        rcases List.mem_cons.1 h with rfl | h
        · exact .inr ⟨c :: q, by simp, by simp⟩
        · rcases mem_cut b r c h with e | ⟨p, hp, hc⟩
          · exact .inl e
          · rw [hr] at hp
            rcases List.mem_cons.1 hp with rfl | hp
            · exact .inr ⟨d :: p, by simp, by simp [hc]⟩
            · exact .inr ⟨p, by simp [hp], hc⟩

theorem part_no58 {p : Bs} (h : part p = true) : ∀ c ∈ p, c ≠ 58 := by
  rintro c hc rfl
  unfold part at h
  rw [Bool.or_eq_true] at h
  rcases h with h | h
  · unfold word at h
    rw [Bool.and_eq_true, List.all_eq_true] at h
    exact absurd (h.1 58 hc) (by decide)
  · have h2 := number_digits h
    unfold digits at h2
    rw [Bool.and_eq_true, List.all_eq_true] at h2
    exact absurd (h2.1 58 hc) (by decide)

theorem may_no58 {l : Bs} (h : may l = true) : ∀ c ∈ l, c ≠ 58 := by
  intro c hc
  rcases mem_cut 46 l c hc with rfl | ⟨p, hp, hc⟩
  · decide
  · unfold may at h
    rw [Bool.and_eq_true, List.all_eq_true] at h
    exact part_no58 (h.2 p hp) c hc

theorem ib_none (c : UInt8) : ∀ l : Bs, (∀ d ∈ l, d ≠ c) → Lib.indexByte l c = -1
  | [], _ => rfl
  | d :: l, h => by
    rw [Lib.indexByte, if_neg (by simpa using h d (by simp)), ib_none c l (fun e he => h e (by simp [he]))]; rfl
theorem ib_at (c : UInt8) (r : Bs) : ∀ l : Bs, (∀ d ∈ l, d ≠ c) → Lib.indexByte (l ++ c :: r) c = l.length
  | [], _ => by rw [List.nil_append, Lib.indexByte, if_pos (by simp)]; rfl
  | d :: l, h => by
    rw [List.cons_append, Lib.indexByte, if_neg (by simpa using h d (by simp)), ib_at c r l (fun e he => h e (by simp [he]))]
    rw [if_neg (by rw [beq_iff_eq]; omega)]
    simp

theorem bound_no58 {l : Bs} (h : (l.isEmpty || may l) = true) : ∀ c ∈ l, c ≠ 58 := by
  rw [Bool.or_eq_true] at h
  rcases h with h | h
  · intro c hc; rw [List.isEmpty_iff] at h; rw [h] at hc; simp at hc
  · exact may_no58 h

theorem smay_bounds {lo hi : Bs} (h : smay lo hi = true) : (lo.isEmpty || may lo) = true ∧ (hi.isEmpty || may hi) = true := by
  unfold smay at h
  rw [Bool.and_eq_true, Bool.and_eq_true] at h
  exact ⟨h.1.1, h.1.2⟩

theorem ba_ext {a b : ByteArray} (h : a.data.toList = b.data.toList) : a = b := by rw [← mk_toList a, ← mk_toList b, h]

theorem glue_lo (lo hi : ByteArray) : (lo ++ ⟨#[58]⟩ ++ hi).extract 0 lo.size = lo := by
  apply ba_ext
  simp [ByteArray.data_extract, ByteArray.data_append]
theorem glue_hi (lo hi : ByteArray) : (lo ++ ⟨#[58]⟩ ++ hi).extract (lo.size + 1) (lo ++ ⟨#[58]⟩ ++ hi).size = hi := by
  apply ba_ext
  simp [ByteArray.data_extract, ByteArray.data_append]
  have hs : ((⟨#[58]⟩ : ByteArray)).size = 1 := rfl
  have hl : lo.data.toList.length = lo.size := size_toList lo
  have hh : hi.data.toList.length = hi.size := size_toList hi
  rw [hs, List.drop_of_length_le (by simp [hl]), List.take_nil, List.nil_append, List.take_of_length_le (by omega)]

theorem sread_text {lo hi : ByteArray} (h : smay lo.data.toList hi.data.toList = true) : sread (rtext lo hi) = (lo, hi, true) := by
  obtain ⟨b1, b2⟩ := smay_bounds h
  have n1 := bound_no58 b1
  unfold rtext sread
  by_cases he : lo.data.toList.isEmpty = false ∧ lo = hi
  · rw [if_pos he]
    have hi1 : Lib.indexB lo ⟨#[58]⟩ = -1 := by
      show Lib.index _ [58] = -1
      rw [index_one]; exact ib_none 58 _ n1
    rw [if_pos hi1, if_pos (by obtain ⟨e, rfl⟩ := he; rw [stext_may h]; unfold rtext; rw [if_pos ⟨e, rfl⟩])]
    rw [he.2]
  · rw [if_neg he]
    have hi1 : Lib.indexB (lo ++ ⟨#[58]⟩ ++ hi) ⟨#[58]⟩ = lo.size := by
      show Lib.index (lo ++ ⟨#[58]⟩ ++ hi).data.toList [58] = lo.size
      rw [index_one]
      have e : (lo ++ ⟨#[58]⟩ ++ hi).data.toList = lo.data.toList ++ 58 :: hi.data.toList := by simp [ByteArray.data_append]
      rw [e, ib_at 58 _ _ n1]; rfl
    rw [if_neg (by rw [hi1]; omega), hi1, Int.toNat_natCast, glue_lo, glue_hi, stext_may h]
    unfold rtext
    rw [if_neg he, if_pos rfl]

end Go.Proofs.YtdijkekglaimfaaGreatDoor.Ver
