/- What is read is what the document reads. -/
import Derived.Test.YtdijkekglaimfaaGreatDoorSpanMath2
namespace Go.Proofs.YtdijkekglaimfaaGreatDoor.Ver

theorem empty_glue_ne (hi : ByteArray) (lo : ByteArray) : lo ++ ⟨#[58]⟩ ++ hi ≠ ByteArray.empty := by
  intro e
  have := congrArg ByteArray.size e
  rw [ByteArray.size_append, ByteArray.size_append] at this
  have hs : ((⟨#[58]⟩ : ByteArray)).size = 1 := rfl
  have h0 : ByteArray.empty.size = 0 := rfl
  omega

theorem smay_self (l : Bs) : smay l l = (l.isEmpty || may l) := by
  unfold smay
  rw [compare_self]
  cases l.isEmpty <;> cases may l <;> rfl

theorem stext_self_may {t : ByteArray} (h : may t.data.toList = true) : stext t t = t := by
  have hs : smay t.data.toList t.data.toList = true := by rw [smay_self, h, Bool.or_true]
  have he : t.data.toList.isEmpty = false := by
    cases hc : t.data.toList with
    | nil => exact absurd hc (may_ne h)
    | cons a b => rfl
  rw [stext_may hs]; unfold rtext; rw [if_pos ⟨he, rfl⟩]

theorem stext_self_not {t : ByteArray} (h : may t.data.toList = false) : stext t t ≠ t := by
  intro e
  by_cases he : t.data.toList.isEmpty = true
  · have ht : t = ByteArray.empty := ba_ext (by rw [List.isEmpty_iff.1 he]; rfl)
    subst ht
    have hs : smay ByteArray.empty.data.toList ByteArray.empty.data.toList = true := by rw [smay_self, he]; rfl
    rw [stext_may hs] at e; unfold rtext at e
    rw [if_neg (by rw [he]; simp)] at e
    exact empty_glue_ne _ _ e
  · have hs : smay t.data.toList t.data.toList = false := by rw [smay_self, h, Bool.not_eq_true _ |>.mp he]; rfl
    rw [stext_not hs] at e
    rw [← e] at he
    exact he rfl

/-- A span's text, if it may be: no more than one colon. -/
theorem smay_cut {lo hi : Bs} (h : smay lo hi = true) : cut 58 hi = [hi] :=
  cut_none 58 hi fun c hc => by
    have := bound_no58 (smay_bounds h).2 c hc
    simpa using this

theorem rtext_ne {lo hi : ByteArray} : rtext lo hi = lo ++ ⟨#[58]⟩ ++ hi ∨ (lo.data.toList.isEmpty = false ∧ lo = hi ∧ rtext lo hi = lo) := by
  unfold rtext; split
  · rename_i h; exact .inr ⟨h.1, h.2, rfl⟩
  · exact .inl rfl

def swithin (alo ahi blo bhi : Bs) : Bool := smay alo ahi && smay blo bhi && lowR blo alo && highR bhi ahi

theorem lowR_trans {a b c : Bs} (h1 : lowR a b = true) (h2 : lowR b c = true) : lowR a c = true := by
  unfold lowR at *
  simp only [Bool.or_eq_true, Bool.and_eq_true, decide_eq_true_eq, Bool.not_eq_true'] at *
  rcases h1 with h1 | ⟨hb, h1⟩
  · exact .inl h1
  · rcases h2 with h2 | ⟨hc, h2⟩
    · rw [h2] at hb; cases hb
    · exact .inr ⟨hc, compare_trans a b c h1 h2⟩
theorem highR_trans {a b c : Bs} (h1 : highR a b = true) (h2 : highR b c = true) : highR a c = true := by
  unfold highR at *
  simp only [Bool.or_eq_true, Bool.and_eq_true, decide_eq_true_eq, Bool.not_eq_true'] at *
  rcases h1 with h1 | ⟨hb, h1⟩
  · exact .inl h1
  · rcases h2 with h2 | ⟨hc, h2⟩
    · rw [h2] at hb; cases hb
    · refine .inr ⟨hc, ?_⟩
      have e1 := compare_anti a b
      have e2 := compare_anti b c
      have e3 := compare_anti a c
      have := compare_trans c b a (by omega) (by omega)
      omega
theorem lowR_self (a : Bs) : lowR a a = true := by
  unfold lowR; rw [compare_self]; cases a.isEmpty <;> rfl
theorem highR_self (a : Bs) : highR a a = true := by
  unfold highR; rw [compare_self]; cases a.isEmpty <;> rfl

theorem swithin_has {alo ahi blo bhi v : Bs} (h : swithin alo ahi blo bhi = true) (hv : shas alo ahi v = true) : shas blo bhi v = true := by
  unfold swithin at h
  unfold shas at hv ⊢
  simp only [Bool.and_eq_true] at *
  exact ⟨⟨⟨h.1.1.2, hv.1.1.2⟩, lowR_trans h.1.2 hv.1.2⟩, highR_trans h.2 hv.2⟩
theorem swithin_all {alo ahi : Bs} (h : smay alo ahi = true) : swithin alo ahi [] [] = true := by
  unfold swithin; rw [h]; rfl
theorem swithin_self {alo ahi : Bs} (h : smay alo ahi = true) : swithin alo ahi alo ahi = true := by
  unfold swithin; rw [h, lowR_self, highR_self]; rfl

theorem shas_one {v w : Bs} (hv : v ≠ []) (h : smay v v = true) : shas v v w = decide (v = w) := by
  have hm : may v = true := by
    have := (smay_bounds h).1
    rw [Bool.or_eq_true, List.isEmpty_iff] at this
    exact this.resolve_left hv
  have he : v.isEmpty = false := by cases v with | nil => exact absurd rfl hv | cons a b => rfl
  unfold shas lowR highR
  rw [h, he]
  by_cases e : v = w
  · subst e; rw [hm, he, compare_self]; simp
  · rw [decide_eq_false e]
    cases hw : may w with
    | false => rfl
    | true =>
      have r : compare v w ≠ 0 := fun c => by
        rcases compare_eq c with c | c
        · exact e c
        · rw [hm] at c; cases c.1
      rcases compare_range v w with c | c | c
      · rw [c]; simp
      · exact absurd c r
      · rw [c]; simp

end Go.Proofs.YtdijkekglaimfaaGreatDoor.Ver
