/- A version holds no colon; what a span's text is, is read. -/
import Derived.Test.YtaahdhpljlkfjaaGreatZg20
namespace Go.Proofs.YtaahdhpljlkfjaaGreat.Ver

theorem mem_cut (b : UInt8) : ∀ (l : Bs) (c : UInt8), c ∈ l → c = b ∨ ∃ p ∈ cut b l, c ∈ p
  | [], c, h => by simp at h
  | d :: r, c, h => by
    rw [cut]
    by_cases hd : (d == b) = true
    · rw [if_pos hd]
      rcases List.mem_cons.1 h with rfl | h
      · exact .inl (by simpa using hd)
      · rcases mem_cut b r c h with e | ⟨p, hp, hc⟩
        · exact .inl e
        · exact .inr ⟨p, by simp [hp], hc⟩
    · rw [if_neg hd]
      cases hr : cut b r with
      | nil => exact absurd hr (cut_ne b r)
      | cons q qs =>
        rcases List.mem_cons.1 h with rfl | h
        · exact .inr ⟨c :: q, by simp, by simp⟩
        · rcases mem_cut b r c h with e | ⟨p, hp, hc⟩
          · exact .inl e
          · rw [hr] at hp
            rcases List.mem_cons.1 hp with rfl | hp
            · exact .inr ⟨d :: p, by simp, by simp [hc]⟩
            · exact .inr ⟨p, by simp [hp], hc⟩

theorem part_no58 {p : Bs} (h : part p = true) : ∀ c ∈ p, c ≠ 58 := by
  rintro c hc rfl
  unfold part at h
  rw [Bool.or_eq_true] at h
  rcases h with h | h
  · unfold word at h
    rw [Bool.and_eq_true, List.all_eq_true] at h
    exact absurd (h.1 58 hc) (by decide)
  · have h2 := number_digits h
    unfold digits at h2
    rw [Bool.and_eq_true, List.all_eq_true] at h2
    exact absurd (h2.1 58 hc) (by decide)

theorem may_no58 {l : Bs} (h : may l = true) : ∀ c ∈ l, c ≠ 58 := by
  intro c hc
  rcases mem_cut 46 l c hc with rfl | ⟨p, hp, hc⟩
  · decide
  · unfold may at h
    rw [Bool.and_eq_true, List.all_eq_true] at h
    exact part_no58 (h.2 p hp) c hc

theorem ib_none (c : UInt8) : ∀ l : Bs, (∀ d ∈ l, d ≠ c) → Lib.indexByte l c = -1
  | [], _ => rfl
  | d :: l, h => by
    rw [Lib.indexByte, if_neg (by simpa using h d (by simp)), ib_none c l (fun e he => h e (by simp [he]))]; rfl
theorem ib_at (c : UInt8) (r : Bs) : ∀ l : Bs, (∀ d ∈ l, d ≠ c) → Lib.indexByte (l ++ c :: r) c = l.length
  | [], _ => by rw [List.nil_append, Lib.indexByte, if_pos (by simp)]; rfl
  | d :: l, h => by
    rw [List.cons_append, Lib.indexByte, if_neg (by simpa using h d (by simp)), ib_at c r l (fun e he => h e (by simp [he]))]
    rw [if_neg (by rw [beq_iff_eq]; omega)]
    simp

theorem bound_no58 {l : Bs} (h : (l.isEmpty || may l) = true) : ∀ c ∈ l, c ≠ 58 := by
  rw [Bool.or_eq_true] at h
  rcases h with h | h
  · intro c hc; rw [List.isEmpty_iff] at h; rw [h] at hc; simp at hc
  · exact may_no58 h

theorem smay_bounds {lo hi : Bs} (h : smay lo hi = true) : (lo.isEmpty || may lo) = true ∧ (hi.isEmpty || may hi) = true := by
  unfold smay at h
  rw [Bool.and_eq_true, Bool.and_eq_true] at h
  exact ⟨h.1.1, h.1.2⟩

theorem ba_ext {a b : ByteArray} (h : a.data.toList = b.data.toList) : a = b := by rw [← mk_toList a, ← mk_toList b, h]

theorem glue_lo (lo hi : ByteArray) : (lo ++ ⟨#[58]⟩ ++ hi).extract 0 lo.size = lo := by
  apply ba_ext
  simp [ByteArray.data_extract, ByteArray.data_append]
theorem glue_hi (lo hi : ByteArray) : (lo ++ ⟨#[58]⟩ ++ hi).extract (lo.size + 1) (lo ++ ⟨#[58]⟩ ++ hi).size = hi := by
  apply ba_ext
  simp [ByteArray.data_extract, ByteArray.data_append]
  have hs : ((⟨#[58]⟩ : ByteArray)).size = 1 := rfl
  have hl : lo.data.toList.length = lo.size := size_toList lo
  have hh : hi.data.toList.length = hi.size := size_toList hi
  rw [hs, List.drop_of_length_le (by simp [hl]), List.take_nil, List.nil_append, List.take_of_length_le (by omega)]

theorem sread_text {lo hi : ByteArray} (h : smay lo.data.toList hi.data.toList = true) : sread (rtext lo hi) = (lo, hi, true) := by
  obtain ⟨b1, b2⟩ := smay_bounds h
  have n1 := bound_no58 b1
  unfold rtext sread
  by_cases he : lo.data.toList.isEmpty = false ∧ lo = hi
  · rw [if_pos he]
    have hi1 : Lib.indexB lo ⟨#[58]⟩ = -1 := by
      show Lib.index _ [58] = -1
      rw [index_one]; exact ib_none 58 _ n1
    rw [if_pos hi1, if_pos (by obtain ⟨e, rfl⟩ := he; rw [stext_may h]; unfold rtext; rw [if_pos ⟨e, rfl⟩])]
    rw [he.2]
  · rw [if_neg he]
    have hi1 : Lib.indexB (lo ++ ⟨#[58]⟩ ++ hi) ⟨#[58]⟩ = lo.size := by
      show Lib.index (lo ++ ⟨#[58]⟩ ++ hi).data.toList [58] = lo.size
      rw [index_one]
      have e : (lo ++ ⟨#[58]⟩ ++ hi).data.toList = lo.data.toList ++ 58 :: hi.data.toList := by simp [ByteArray.data_append]
      rw [e, ib_at 58 _ _ n1]; rfl
    rw [if_neg (by rw [hi1]; omega), hi1, Int.toNat_natCast, glue_lo, glue_hi, stext_may h]
    unfold rtext
    rw [if_neg he, if_pos rfl]

end Go.Proofs.YtaahdhpljlkfjaaGreat.Ver

/- What is read is what the document reads. -/
namespace Go.Proofs.YtaahdhpljlkfjaaGreat.Ver

theorem empty_glue_ne (hi : ByteArray) (lo : ByteArray) : lo ++ ⟨#[58]⟩ ++ hi ≠ ByteArray.empty := by
  intro e
  have := congrArg ByteArray.size e
  rw [ByteArray.size_append, ByteArray.size_append] at this
  have hs : ((⟨#[58]⟩ : ByteArray)).size = 1 := rfl
  have h0 : ByteArray.empty.size = 0 := rfl
  omega

theorem smay_self (l : Bs) : smay l l = (l.isEmpty || may l) := by
  unfold smay
  rw [compare_self]
  cases l.isEmpty <;> cases may l <;> rfl

theorem stext_self_may {t : ByteArray} (h : may t.data.toList = true) : stext t t = t := by
  have hs : smay t.data.toList t.data.toList = true := by rw [smay_self, h, Bool.or_true]
  have he : t.data.toList.isEmpty = false := by
    cases hc : t.data.toList with
    | nil => exact absurd hc (may_ne h)
    | cons a b => rfl
  rw [stext_may hs]; unfold rtext; rw [if_pos ⟨he, rfl⟩]

theorem stext_self_not {t : ByteArray} (h : may t.data.toList = false) : stext t t ≠ t := by
  intro e
  by_cases he : t.data.toList.isEmpty = true
  · have ht : t = ByteArray.empty := ba_ext (by rw [List.isEmpty_iff.1 he]; rfl)
    subst ht
    have hs : smay ByteArray.empty.data.toList ByteArray.empty.data.toList = true := by rw [smay_self, he]; rfl
    rw [stext_may hs] at e; unfold rtext at e
    rw [if_neg (by rw [he]; simp)] at e
    exact empty_glue_ne _ _ e
  · have hs : smay t.data.toList t.data.toList = false := by rw [smay_self, h, Bool.not_eq_true _ |>.mp he]; rfl
    rw [stext_not hs] at e
    rw [← e] at he
    exact he rfl

/-- A span's text, if it may be: no more than one colon. -/
theorem smay_cut {lo hi : Bs} (h : smay lo hi = true) : cut 58 hi = [hi] :=
  cut_none 58 hi fun c hc => by
    have := bound_no58 (smay_bounds h).2 c hc
    simpa using this

theorem rtext_ne {lo hi : ByteArray} : rtext lo hi = lo ++ ⟨#[58]⟩ ++ hi ∨ (lo.data.toList.isEmpty = false ∧ lo = hi ∧ rtext lo hi = lo) := by
  unfold rtext; split
  · rename_i h; exact .inr ⟨h.1, h.2, rfl⟩
  · exact .inl rfl

def swithin (alo ahi blo bhi : Bs) : Bool := smay alo ahi && smay blo bhi && lowR blo alo && highR bhi ahi

theorem lowR_trans {a b c : Bs} (h1 : lowR a b = true) (h2 : lowR b c = true) : lowR a c = true := by
  unfold lowR at *
  simp only [Bool.or_eq_true, Bool.and_eq_true, decide_eq_true_eq, Bool.not_eq_true'] at *
  rcases h1 with h1 | ⟨hb, h1⟩
  · exact .inl h1
  · rcases h2 with h2 | ⟨hc, h2⟩
    · rw [h2] at hb; cases hb
    · exact .inr ⟨hc, compare_trans a b c h1 h2⟩
theorem highR_trans {a b c : Bs} (h1 : highR a b = true) (h2 : highR b c = true) : highR a c = true := by
  unfold highR at *
  simp only [Bool.or_eq_true, Bool.and_eq_true, decide_eq_true_eq, Bool.not_eq_true'] at *
  rcases h1 with h1 | ⟨hb, h1⟩
  · exact .inl h1
  · rcases h2 with h2 | ⟨hc, h2⟩
    · rw [h2] at hb; cases hb
    · refine .inr ⟨hc, ?_⟩
      have e1 := compare_anti a b
      have e2 := compare_anti b c
      have e3 := compare_anti a c
      have := compare_trans c b a (by omega) (by omega)
      omega
theorem lowR_self (a : Bs) : lowR a a = true := by
  unfold lowR; rw [compare_self]; cases a.isEmpty <;> rfl
theorem highR_self (a : Bs) : highR a a = true := by
  unfold highR; rw [compare_self]; cases a.isEmpty <;> rfl

theorem swithin_has {alo ahi blo bhi v : Bs} (h : swithin alo ahi blo bhi = true) (hv : shas alo ahi v = true) : shas blo bhi v = true := by
  unfold swithin at h
  unfold shas at hv ⊢
  simp only [Bool.and_eq_true] at *
  exact ⟨⟨⟨h.1.1.2, hv.1.1.2⟩, lowR_trans h.1.2 hv.1.2⟩, highR_trans h.2 hv.2⟩
theorem swithin_all {alo ahi : Bs} (h : smay alo ahi = true) : swithin alo ahi [] [] = true := by
  unfold swithin; rw [h]; rfl
theorem swithin_self {alo ahi : Bs} (h : smay alo ahi = true) : swithin alo ahi alo ahi = true := by
  unfold swithin; rw [h, lowR_self, highR_self]; rfl

theorem shas_one {v w : Bs} (hv : v ≠ []) (h : smay v v = true) : shas v v w = decide (v = w) := by
  have hm : may v = true := by
    have := (smay_bounds h).1
    rw [Bool.or_eq_true, List.isEmpty_iff] at this
    exact this.resolve_left hv
  have he : v.isEmpty = false := by cases v with | nil => exact absurd rfl hv | cons a b => rfl
  unfold shas lowR highR
  rw [h, he]
  by_cases e : v = w
  · subst e; rw [hm, he, compare_self]; simp
  · rw [decide_eq_false e]
    cases hw : may w with
    | false => rfl
    | true =>
      have r : compare v w ≠ 0 := fun c => by
        rcases compare_eq c with c | c
        · exact e c
        · rw [hm] at c; cases c.1
      rcases compare_range v w with c | c | c
      · rw [c]; simp
      · exact absurd c r
      · rw [c]; simp

end Go.Proofs.YtaahdhpljlkfjaaGreat.Ver

/- span.Within; SpanOnes. -/
namespace Go.Proofs.YtaahdhpljlkfjaaGreat.Ver
open Go.RowKit

/-- Two structs of two texts, each in a block of its own. -/
theorem two_new (w : World) (alo ahi blo bhi : ByteArray) (T : TypeId) :
    Below w.heap.size w ((w.alloc (.cells #[.string alo, .string ahi] T)).alloc (.cells #[.string blo, .string bhi] T)) ∧
    Pair ((w.alloc (.cells #[.string alo, .string ahi] T)).alloc (.cells #[.string blo, .string bhi] T)) w.heap.size alo ahi ∧
    Pair ((w.alloc (.cells #[.string alo, .string ahi] T)).alloc (.cells #[.string blo, .string bhi] T)) (w.heap.size + 1) blo bhi := by
  have h1 := below_new w (.cells #[.string alo, .string ahi] T)
  have h2 := below_new (w.alloc (.cells #[.string alo, .string ahi] T)) (.cells #[.string blo, .string bhi] T)
  have p2 := pair_new (w.alloc (.cells #[.string alo, .string ahi] T)) blo bhi T
  have e : (w.alloc (.cells #[.string alo, .string ahi] T)).heap.size = w.heap.size + 1 := by simp
  refine ⟨h1.trans (h2.mono h1.size), (pair_new w alo ahi T).below h2, ?_⟩
  rwa [e] at p2

end Go.Proofs.YtaahdhpljlkfjaaGreat.Ver
