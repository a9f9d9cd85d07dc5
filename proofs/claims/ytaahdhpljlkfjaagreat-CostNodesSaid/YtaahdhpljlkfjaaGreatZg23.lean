/- What two spans have in common: the document's way to say it; what is in it. -/
import Derived.Test.YtaahdhpljlkfjaaGreatZg22
namespace Go.Proofs.YtaahdhpljlkfjaaGreat.Ver

theorem empty_of {s : ByteArray} (h : s.data.toList.isEmpty = true) : s = ⟨#[]⟩ := ba_ext (by rw [List.isEmpty_iff.1 h])

theorem mlo_1 {a b : ByteArray} (h : b.data.toList = []) : mlo a b = a := by
  unfold mlo lowR
  rw [h]
  cases he : a.data.toList.isEmpty with
  | true => rw [if_pos (Bool.true_or _), empty_of (s := a) he, empty_of (s := b) (by rw [h]; rfl)]
  | false => rw [if_neg (by simp)]
theorem mlo_2 {a b : ByteArray} (h : a.data.toList = []) : mlo a b = b := by
  unfold mlo lowR; rw [h]; rfl
theorem mlo_3 {a b : ByteArray} (hb : b.data.toList.isEmpty = false) (h : less a.data.toList b.data.toList = true) : mlo a b = b := by
  unfold less at h
  rw [decide_eq_true_eq] at h
  unfold mlo lowR
  rw [h, hb, if_pos (by simp)]
theorem mlo_4 {a b : ByteArray} (ha : a.data.toList.isEmpty = false) (hb : b.data.toList.isEmpty = false) (hm : may a.data.toList = true) (h : less a.data.toList b.data.toList = false) : mlo a b = a := by
  unfold less at h
  rw [decide_eq_false_iff_not] at h
  unfold mlo lowR
  rw [ha, hb]
  by_cases h0 : compare a.data.toList b.data.toList ≤ 0
  · have : compare a.data.toList b.data.toList = 0 := by have := compare_range a.data.toList b.data.toList; omega
    rcases compare_eq this with e | e
    · rw [if_pos (by simp [h0]), ba_ext e]
    · rw [hm] at e; cases e.1
  · rw [if_neg (by simp [h0])]
theorem mhi_1 {a b : ByteArray} (h : b.data.toList = []) : mhi a b = a := by
  unfold mhi highR
  rw [h]
  cases he : a.data.toList.isEmpty with
  | true => rw [if_pos (Bool.true_or _), empty_of (s := a) he, empty_of (s := b) (by rw [h]; rfl)]
  | false => rw [if_neg (by simp)]
theorem mhi_2 {a b : ByteArray} (h : a.data.toList = []) : mhi a b = b := by
  unfold mhi highR; rw [h]; rfl
theorem mhi_3 {a b : ByteArray} (hb : b.data.toList.isEmpty = false) (h : less b.data.toList a.data.toList = true) : mhi a b = b := by
  unfold less at h
  rw [decide_eq_true_eq] at h
  have := compare_anti b.data.toList a.data.toList
  unfold mhi highR
  rw [hb, if_pos (by rw [decide_eq_true (by omega)]; simp)]
theorem mhi_4 {a b : ByteArray} (ha : a.data.toList.isEmpty = false) (hb : b.data.toList.isEmpty = false) (hm : may a.data.toList = true) (h : less b.data.toList a.data.toList = false) : mhi a b = a := by
  unfold less at h
  rw [decide_eq_false_iff_not] at h
  have h2 := compare_anti b.data.toList a.data.toList
  unfold mhi highR
  rw [ha, hb]
  by_cases h0 : 0 ≤ compare a.data.toList b.data.toList
  · have : compare a.data.toList b.data.toList = 0 := by have := compare_range a.data.toList b.data.toList; omega
    rcases compare_eq this with e | e
    · rw [if_pos (by simp [h0]), ba_ext e]
    · rw [hm] at e; cases e.1
  · rw [if_neg (by simp [h0])]

theorem lowR_total {a b : Bs} (h : lowR a b = false) : lowR b a = true := by
  unfold lowR at *
  rw [Bool.or_eq_false_iff] at h
  have h2 := compare_anti a b
  cases hb : b.isEmpty with
  | true => rfl
  | false =>
    rw [hb] at h
    have h3 := h.2
    simp at h3
    rw [h.1, decide_eq_true (by omega)]; rfl
theorem highR_total {a b : Bs} (h : highR a b = false) : highR b a = true := by
  unfold highR at *
  rw [Bool.or_eq_false_iff] at h
  have h2 := compare_anti a b
  cases hb : b.isEmpty with
  | true => rfl
  | false =>
    rw [hb] at h
    have h3 := h.2
    simp at h3
    rw [h.1, decide_eq_true (by omega)]; rfl

theorem mlo_low (a b : ByteArray) (v : Bs) : lowR (mlo a b).data.toList v = (lowR a.data.toList v && lowR b.data.toList v) := by
  unfold mlo
  cases h : lowR a.data.toList b.data.toList with
  | true =>
    rw [if_pos rfl, Bool.eq_iff_iff, Bool.and_eq_true]
    exact ⟨fun h2 => ⟨lowR_trans h h2, h2⟩, fun h2 => h2.2⟩
  | false =>
    rw [if_neg (by simp), Bool.eq_iff_iff, Bool.and_eq_true]
    exact ⟨fun h2 => ⟨h2, lowR_trans (lowR_total h) h2⟩, fun h2 => h2.1⟩
theorem mhi_high (a b : ByteArray) (v : Bs) : highR (mhi a b).data.toList v = (highR a.data.toList v && highR b.data.toList v) := by
  unfold mhi
  cases h : highR a.data.toList b.data.toList with
  | true =>
    rw [if_pos rfl, Bool.eq_iff_iff, Bool.and_eq_true]
    exact ⟨fun h2 => ⟨highR_trans h h2, h2⟩, fun h2 => h2.2⟩
  | false =>
    rw [if_neg (by simp), Bool.eq_iff_iff, Bool.and_eq_true]
    exact ⟨fun h2 => ⟨h2, highR_trans (highR_total h) h2⟩, fun h2 => h2.1⟩

theorem reach_may {lo hi v : Bs} (hl : (lo.isEmpty || may lo) = true) (hh : (hi.isEmpty || may hi) = true) (h1 : lowR lo v = true) (h2 : highR hi v = true) : smay lo hi = true := by
  unfold smay
  rw [hl, hh]
  unfold lowR at h1
  unfold highR at h2
  cases el : lo.isEmpty with
  | true => rfl
  | false =>
    cases eh : hi.isEmpty with
    | true => rfl
    | false =>
      rw [el] at h1; rw [eh] at h2
      simp at h1 h2
      have h3 := compare_anti hi v
      have := compare_trans lo v hi h1.2 (by omega)
      simp [this]

theorem meets_has {alo ahi blo bhi lo hi : ByteArray} {b : Bool} (h : smeet alo ahi blo bhi = (lo, hi, b)) (v : Bs) :
    (b && shas lo.data.toList hi.data.toList v) = (shas alo.data.toList ahi.data.toList v && shas blo.data.toList bhi.data.toList v) := by
  unfold smeet at h
  unfold shas
  cases ha : smay alo.data.toList ahi.data.toList with
  | false => rw [ha] at h; injection h with h1 h2; injection h2 with h2 h3; subst h3; simp
  | true =>
    cases hb : smay blo.data.toList bhi.data.toList with
    | false => rw [ha, hb] at h; injection h with h1 h2; injection h2 with h2 h3; subst h3; simp
    | true =>
      rw [ha, hb] at h
      cases hs : smay (mlo alo blo).data.toList (mhi ahi bhi).data.toList with
      | true =>
        rw [hs, if_pos (by rfl)] at h
        injection h with h1 h2; injection h2 with h2 h3; subst h1; subst h2; subst h3
        rw [hs, mlo_low, mhi_high]
        cases may v <;> cases lowR alo.data.toList v <;> cases lowR blo.data.toList v <;> cases highR ahi.data.toList v <;> cases highR bhi.data.toList v <;> rfl
      | false =>
        rw [hs, if_neg (by simp)] at h
        injection h with h1 h2; injection h2 with h2 h3; subst h3
        rw [Bool.false_and]
        symm
        rw [Bool.eq_false_iff]
        intro hc
        simp only [Bool.and_eq_true] at hc
        have hl : lowR (mlo alo blo).data.toList v = true := by rw [mlo_low, hc.1.1.2, hc.2.1.2]; rfl
        have hh : highR (mhi ahi bhi).data.toList v = true := by rw [mhi_high, hc.1.2, hc.2.2]; rfl
        have b1 : ((mlo alo blo).data.toList.isEmpty || may (mlo alo blo).data.toList) = true := by
          unfold mlo; split
          · exact (smay_bounds hb).1
          · exact (smay_bounds ha).1
        have b2 : ((mhi ahi bhi).data.toList.isEmpty || may (mhi ahi bhi).data.toList) = true := by
          unfold mhi; split
          · exact (smay_bounds hb).2
          · exact (smay_bounds ha).2
        rw [reach_may b1 b2 hl hh] at hs
        cases hs

end Go.Proofs.YtaahdhpljlkfjaaGreat.Ver

/- The least span of two. -/
namespace Go.Proofs.YtaahdhpljlkfjaaGreat.Ver

def jlo (alo blo : ByteArray) : ByteArray := if lowR blo.data.toList alo.data.toList = true then blo else alo
def jhi (ahi bhi : ByteArray) : ByteArray := if highR bhi.data.toList ahi.data.toList = true then bhi else ahi
def sjoin (alo ahi blo bhi : ByteArray) : ByteArray × ByteArray :=
  if (smay alo.data.toList ahi.data.toList && smay blo.data.toList bhi.data.toList) = true then (jlo alo blo, jhi ahi bhi) else (⟨#[]⟩, ⟨#[]⟩)

theorem jlo_both (a b : ByteArray) : lowR (jlo a b).data.toList a.data.toList = true ∧ lowR (jlo a b).data.toList b.data.toList = true := by
  unfold jlo
  cases h : lowR b.data.toList a.data.toList with
  | true => rw [if_pos rfl]; exact ⟨h, lowR_self _⟩
  | false => rw [if_neg (by simp)]; exact ⟨lowR_self _, lowR_total h⟩
theorem jhi_both (a b : ByteArray) : highR (jhi a b).data.toList a.data.toList = true ∧ highR (jhi a b).data.toList b.data.toList = true := by
  unfold jhi
  cases h : highR b.data.toList a.data.toList with
  | true => rw [if_pos rfl]; exact ⟨h, highR_self _⟩
  | false => rw [if_neg (by simp)]; exact ⟨highR_self _, highR_total h⟩

theorem join_may {alo ahi blo bhi : ByteArray} (ha : smay alo.data.toList ahi.data.toList = true) (hb : smay blo.data.toList bhi.data.toList = true) :
    smay (jlo alo blo).data.toList (jhi ahi bhi).data.toList = true := by
  have b1 : ((jlo alo blo).data.toList.isEmpty || may (jlo alo blo).data.toList) = true := by
    unfold jlo; split
    · exact (smay_bounds hb).1
    · exact (smay_bounds ha).1
  have b2 : ((jhi ahi bhi).data.toList.isEmpty || may (jhi ahi bhi).data.toList) = true := by
    unfold jhi; split
    · exact (smay_bounds hb).2
    · exact (smay_bounds ha).2
  have l := (jlo_both alo blo).1
  have h := (jhi_both ahi bhi).1
  unfold smay at ha ⊢
  rw [b1, b2]
  unfold lowR at l
  unfold highR at h
  cases el : (jlo alo blo).data.toList.isEmpty with
  | true => rfl
  | false =>
    cases eh : (jhi ahi bhi).data.toList.isEmpty with
    | true => rfl
    | false =>
      rw [el] at l; rw [eh] at h
      simp only [Bool.false_or, Bool.and_eq_true, Bool.not_eq_true', decide_eq_true_eq] at l h
      rw [l.1, h.1] at ha
      simp only [Bool.false_or, Bool.and_eq_true, decide_eq_true_eq] at ha
      have a1 := compare_anti (jhi ahi bhi).data.toList ahi.data.toList
      have t1 := compare_trans (jlo alo blo).data.toList alo.data.toList ahi.data.toList l.2 ha.2
      have t2 := compare_trans (jlo alo blo).data.toList ahi.data.toList (jhi ahi bhi).data.toList t1 (by omega)
      simp [t2]

theorem join_within {alo ahi blo bhi : ByteArray} (ha : smay alo.data.toList ahi.data.toList = true) (hb : smay blo.data.toList bhi.data.toList = true) :
    swithin alo.data.toList ahi.data.toList (jlo alo blo).data.toList (jhi ahi bhi).data.toList = true ∧
    swithin blo.data.toList bhi.data.toList (jlo alo blo).data.toList (jhi ahi bhi).data.toList = true := by
  unfold swithin
  rw [ha, hb, join_may ha hb, (jlo_both alo blo).1, (jlo_both alo blo).2, (jhi_both ahi bhi).1, (jhi_both ahi bhi).2]
  exact ⟨rfl, rfl⟩

theorem join_least {alo ahi blo bhi clo chi : ByteArray} (h1 : swithin alo.data.toList ahi.data.toList clo.data.toList chi.data.toList = true)
    (h2 : swithin blo.data.toList bhi.data.toList clo.data.toList chi.data.toList = true) :
    swithin (jlo alo blo).data.toList (jhi ahi bhi).data.toList clo.data.toList chi.data.toList = true := by
  unfold swithin at h1 h2 ⊢
  simp only [Bool.and_eq_true] at h1 h2 ⊢
  refine ⟨⟨⟨join_may h1.1.1.1 h2.1.1.1, h1.1.1.2⟩, ?_⟩, ?_⟩
  · unfold jlo; split
    · exact h2.1.2
    · exact h1.1.2
  · unfold jhi; split
    · exact h2.2
    · exact h1.2

end Go.Proofs.YtaahdhpljlkfjaaGreat.Ver

/- Rows of spans, put together until no two meet: plain mathematics, over any spans that have points. What comes out is one row alone, whichever way it was come by. -/
namespace Go.Proofs.YtaahdhpljlkfjaaGreat.Ss

/-- Spans with points. `low a b`: the first one's bound below doesn't stand behind the second one's. -/
structure Sp (S P : Type) where
  ok : S → Prop
  mem : S → P → Prop
  meets : S → S → Bool
  join : S → S → S
  low : S → S → Bool
  meets_iff : ∀ {a b}, ok a → ok b → (meets a b = true ↔ ∃ p, mem a p ∧ mem b p)
  ok_join : ∀ {a b}, ok a → ok b → meets a b = true → ok (join a b)
  mem_join : ∀ {a b}, ok a → ok b → meets a b = true → ∀ p, mem (join a b) p ↔ mem a p ∨ mem b p
  ext : ∀ {a b}, ok a → ok b → (∀ p, mem a p ↔ mem b p) → a = b
  some_mem : ∀ {a}, ok a → ∃ p, mem a p
  low_refl : ∀ a, low a a = true
  low_total : ∀ {a b}, ok a → ok b → low a b = false → low b a = true
  low_trans : ∀ {a b c}, ok a → ok b → ok c → low a b = true → low b c = true → low a c = true
  low_same : ∀ {a b}, ok a → ok b → low a b = true → low b a = true → meets a b = true
  low_join : ∀ {a b}, ok a → ok b → meets a b = true → low a b = true → low a (join a b) = true ∧ low (join a b) a = true
  far : ∀ {a b c}, ok a → ok b → ok c → low a b = true → low b c = true → meets a b = false → meets a c = false

section
variable {S P : Type} (K : Sp S P)

def Sp.Closed (F : List S) (X : P → Prop) : Prop := ∀ s ∈ F, ∀ a b, K.mem s a → K.mem s b → X a → X b
def Sp.Cov (F : List S) (p : P) : Prop := ∃ s ∈ F, K.mem s p
/-- Two rows bind the same points together. -/
def Sp.Same (F G : List S) : Prop := (∀ X, K.Closed F X ↔ K.Closed G X) ∧ ∀ p, K.Cov F p ↔ K.Cov G p
def Sp.Apart (a b : S) : Prop := K.meets a b = false
def Sp.Oks (F : List S) : Prop := ∀ s ∈ F, K.ok s
/-- A row in its form. -/
structure Sp.Row (F : List S) : Prop where
  oks : K.Oks F
  apart : F.Pairwise K.Apart
  rising : F.Pairwise fun a b => K.low a b = true
/-- The form of a row. -/
structure Sp.Canon (F m : List S) : Prop where
  row : K.Row m
  same : K.Same F m

variable {K}
theorem Sp.Same.refl (F : List S) : K.Same F F := ⟨fun _ => Iff.rfl, fun _ => Iff.rfl⟩
theorem Sp.Same.symm {F G : List S} (h : K.Same F G) : K.Same G F := ⟨fun X => (h.1 X).symm, fun p => (h.2 p).symm⟩
theorem Sp.Same.trans {F G H : List S} (h : K.Same F G) (h' : K.Same G H) : K.Same F H := ⟨fun X => (h.1 X).trans (h'.1 X), fun p => (h.2 p).trans (h'.2 p)⟩
theorem Sp.Same.of_mem {F G : List S} (h : ∀ s, s ∈ F ↔ s ∈ G) : K.Same F G :=
  ⟨fun _ => ⟨fun hc s hs => hc s ((h s).2 hs), fun hc s hs => hc s ((h s).1 hs)⟩, fun _ => ⟨fun ⟨s, hs, hp⟩ => ⟨s, (h s).1 hs, hp⟩, fun ⟨s, hs, hp⟩ => ⟨s, (h s).2 hs, hp⟩⟩⟩
theorem Sp.Same.nil {F : List S} (ho : K.Oks F) (h : K.Same F []) : F = [] := by
  cases F with
  | nil => rfl
  | cons s F =>
    obtain ⟨p, hp⟩ := K.some_mem (ho s (by simp))
    obtain ⟨_, h0, _⟩ := (h.2 p).1 ⟨s, by simp, hp⟩
    cases h0
/-- Two that meet are put together. -/
theorem Sp.Same.merge {s t : S} {r : List S} (hs : K.ok s) (ht : K.ok t) (hm : K.meets s t = true) : K.Same (s :: t :: r) (K.join s t :: r) := by
  obtain ⟨m, m1, m2⟩ := (K.meets_iff hs ht).1 hm
  have hj := K.mem_join hs ht hm
  refine ⟨fun X => ⟨fun hc u hu a b ha hb hX => ?_, fun hc u hu a b ha hb hX => ?_⟩, fun p => ⟨fun ⟨u, hu, hp⟩ => ?_, fun ⟨u, hu, hp⟩ => ?_⟩⟩
  · rcases List.mem_cons.1 hu with rfl | hu
    · have c1 := hc s (by simp)
      have c2 := hc t (by simp)
      have hXm : X m := by
        rcases (hj a).1 ha with ha | ha
        · exact c1 a m ha m1 hX
        · exact c2 a m ha m2 hX
      rcases (hj b).1 hb with hb | hb
      · exact c1 m b m1 hb hXm
      · exact c2 m b m2 hb hXm
    · exact hc u (by simp [hu]) a b ha hb hX
  · have c := hc (K.join s t) (by simp)
    rcases List.mem_cons.1 hu with rfl | hu
    · exact c a b ((hj a).2 (.inl ha)) ((hj b).2 (.inl hb)) hX
    · rcases List.mem_cons.1 hu with rfl | hu
      · exact c a b ((hj a).2 (.inr ha)) ((hj b).2 (.inr hb)) hX
      · exact hc u (by simp [hu]) a b ha hb hX
  · rcases List.mem_cons.1 hu with rfl | hu
    · exact ⟨_, by simp, (hj p).2 (.inl hp)⟩
    · rcases List.mem_cons.1 hu with rfl | hu
      · exact ⟨_, by simp, (hj p).2 (.inr hp)⟩
      · exact ⟨u, by simp [hu], hp⟩
  · rcases List.mem_cons.1 hu with rfl | hu
    · rcases (hj p).1 hp with hp | hp
      · exact ⟨s, by simp, hp⟩
      · exact ⟨t, by simp, hp⟩
    · exact ⟨u, by simp [hu], hp⟩
theorem Sp.meets_symm {a b : S} (ha : K.ok a) (hb : K.ok b) : K.meets a b = K.meets b a := by
  rw [Bool.eq_iff_iff, K.meets_iff ha hb, K.meets_iff hb ha]
  exact ⟨fun ⟨p, h1, h2⟩ => ⟨p, h2, h1⟩, fun ⟨p, h1, h2⟩ => ⟨p, h2, h1⟩⟩
theorem Sp.apart_of {F : List S} (ho : K.Oks F) (h : F.Pairwise K.Apart) : ∀ {s t : S}, s ∈ F → t ∈ F → s ≠ t → K.meets s t = false := by
  induction F with
  | nil => intro s t hs; cases hs
  | cons x F ih =>
    intro s t hs ht hne
    rw [List.pairwise_cons] at h
    have ho' : K.Oks F := fun u hu => ho u (by simp [hu])
    rcases List.mem_cons.1 hs with hs1 | hs1
    · rcases List.mem_cons.1 ht with ht1 | ht1
      · exact absurd (hs1.trans ht1.symm) hne
      · rw [hs1]; exact h.1 t ht1
    · rcases List.mem_cons.1 ht with ht1 | ht1
      · rw [Sp.meets_symm (ho s hs) (ho t ht), ht1]; exact h.1 s hs1
      · exact ih ho' h.2 hs1 ht1 hne
/-- Of a row whose spans don't meet each one's points are closed. -/
theorem Sp.closed_one {F : List S} (ho : K.Oks F) (h : F.Pairwise K.Apart) {s : S} (hs : s ∈ F) : K.Closed F (K.mem s) := fun t ht a b ha hb hX => by
  by_cases e : s = t
  · subst e; exact hb
  · have := Sp.apart_of ho h hs ht e
    have h2 := (K.meets_iff (ho s hs) (ho t ht)).2 ⟨a, hX, ha⟩
    rw [this] at h2; cases h2
theorem Sp.sub {F G : List S} (hf : K.Oks F) (hg : K.Oks G) (f : F.Pairwise K.Apart) (g : G.Pairwise K.Apart) (h : K.Same F G) : ∀ s ∈ F, s ∈ G := fun s hs => by
  obtain ⟨p, hp⟩ := K.some_mem (hf s hs)
  obtain ⟨t, ht, htp⟩ := (h.2 p).1 ⟨s, hs, hp⟩
  have c1 : K.Closed G (K.mem s) := (h.1 _).1 (Sp.closed_one hf f hs)
  have c2 : K.Closed F (K.mem t) := (h.1 _).2 (Sp.closed_one hg g ht)
  have e : s = t := K.ext (hf s hs) (hg t ht) fun q => ⟨fun hq => c2 s hs p q hp hq htp, fun hq => c1 t ht p q htp hq hp⟩
  rw [e]; exact ht
/-- Rows that rise are the same if they have the same in them. -/
theorem Sp.row_ext : ∀ {F G : List S}, K.Row F → K.Row G → (∀ s, s ∈ F ↔ s ∈ G) → F = G
  | [], [], _, _, _ => rfl
  | [], t :: G, _, _, h => absurd ((h t).2 (by simp)) (by simp)
  | s :: F, [], _, _, h => absurd ((h s).1 (by simp)) (by simp)
  | s :: F, t :: G, hF, hG, h => by
    have f1 := List.pairwise_cons.1 hF.apart
    have f2 := List.pairwise_cons.1 hF.rising
    have g1 := List.pairwise_cons.1 hG.apart
    have g2 := List.pairwise_cons.1 hG.rising
    have okS : ∀ {u}, u ∈ s :: F → K.ok u := fun hu => hF.oks _ hu
    have okT : ∀ {u}, u ∈ t :: G → K.ok u := fun hu => hG.oks _ hu
    have e : s = t := by
      have h1 := (h s).1 (by simp)
      have h2 := (h t).2 (by simp)
      rcases List.mem_cons.1 h1 with e | h1
      · exact e
      · rcases List.mem_cons.1 h2 with e | h2
        · exact e.symm
        · exfalso
          have a1 := f2.1 t h2
          have a2 := g2.1 s h1
          have a3 := K.low_same (okS (by simp)) (okT (by simp)) a1 a2
          have a4 : K.meets s t = false := f1.1 t h2
          rw [a4] at a3; cases a3
    subst e
    have nin : ∀ {L : List S}, K.Oks (s :: L) → (∀ u ∈ L, K.Apart s u) → s ∉ L := fun ho hL hs => by
      have h1 : K.meets s s = false := hL s hs
      have h2 := K.low_same (ho s (by simp)) (ho s (by simp)) (K.low_refl s) (K.low_refl s)
      rw [h1] at h2; cases h2
    rw [Sp.row_ext (F := F) (G := G) ⟨fun u hu => hF.oks u (by simp [hu]), f1.2, f2.2⟩ ⟨fun u hu => hG.oks u (by simp [hu]), g1.2, g2.2⟩ (fun u => ?_)]
    have hu := h u
    have n1 := nin hF.oks f1.1
    have n2 := nin hG.oks g1.1
    constructor
    · intro hm
      rcases List.mem_cons.1 (hu.1 (by simp [hm])) with e | h'
      · subst e; exact absurd hm n1
      · exact h'
    · intro hm
      rcases List.mem_cons.1 (hu.2 (by simp [hm])) with e | h'
      · subst e; exact absurd hm n2
      · exact h'
/-- There is one form alone. -/
theorem Sp.Canon.unique {F G m n : List S} (hm : K.Canon F m) (hn : K.Canon G n) (h : K.Same F G) : m = n := by
  have hs : K.Same m n := (hm.same.symm.trans h).trans hn.same
  exact Sp.row_ext hm.row hn.row fun s => ⟨Sp.sub hm.row.oks hn.row.oks hm.row.apart hn.row.apart hs s, Sp.sub hn.row.oks hm.row.oks hn.row.apart hm.row.apart hs.symm s⟩
theorem Sp.Row.canon {m : List S} (h : K.Row m) : K.Canon m m := ⟨h, .refl m⟩
theorem Sp.Canon.same_of {F G m : List S} (h : K.Canon F m) (hs : K.Same G F) : K.Canon G m := ⟨h.row, hs.trans h.same⟩

/-! Neighbours of a row that rises are put together. -/
def Sp.put (K : Sp S P) (out : List S) (x : S) : List S := match out.getLast? with
  | none => [x]
  | some y => if K.meets y x = true then out.dropLast ++ [K.join y x] else out ++ [x]
theorem Sp.put_nil (x : S) : K.put [] x = [x] := rfl
theorem Sp.put_join {o : List S} {y x : S} (h : K.meets y x = true) : K.put (o ++ [y]) x = o ++ [K.join y x] := by simp [Sp.put, h]
theorem Sp.put_new {o : List S} {y x : S} (h : K.meets y x = false) : K.put (o ++ [y]) x = o ++ [y] ++ [x] := by simp [Sp.put, h]
structure Sp.Half (K : Sp S P) (F out l : List S) : Prop where
  row : K.Row out
  oks : K.Oks l
  rising : l.Pairwise fun a b => K.low a b = true
  low : ∀ a ∈ out, ∀ b ∈ l, K.low a b = true
  same : K.Same F (out ++ l)
theorem Sp.Half.start {l : List S} (ho : K.Oks l) (h : l.Pairwise fun a b => K.low a b = true) : K.Half l [] l :=
  ⟨⟨fun s hs => (by cases hs), .nil, .nil⟩, ho, h, fun a ha => (by cases ha), .refl _⟩
theorem Sp.Half.step {F out l : List S} {x : S} (h : K.Half F out (x :: l)) : K.Half F (K.put out x) l := by
  have hx : K.ok x := h.oks x (by simp)
  have hp := List.pairwise_cons.1 h.rising
  have ho : K.Oks l := fun s hs => h.oks s (by simp [hs])
  rcases List.eq_nil_or_concat out with rfl | ⟨o, y, rfl⟩
  · rw [Sp.put_nil]
    exact ⟨⟨fun s hs => by rw [List.mem_singleton.1 hs]; exact hx, by simp, by simp⟩, ho, hp.2, fun a ha b hb => by rw [List.mem_singleton.1 ha]; exact hp.1 b hb, h.same⟩
  rw [List.concat_eq_append] at h ⊢
  have r1 := List.pairwise_append.1 h.row.apart
  have r2 := List.pairwise_append.1 h.row.rising
  have hy : K.ok y := h.row.oks y (by simp)
  have hyx : K.low y x = true := h.low y (by simp) x (by simp)
  have hoo : K.Oks o := fun s hs => h.row.oks s (by simp [hs])
  cases hm : K.meets y x with
  | true =>
    rw [Sp.put_join hm]
    have hj := K.ok_join hy hx hm
    obtain ⟨j1, j2⟩ := K.low_join hy hx hm hyx
    refine ⟨⟨fun s hs => ?_, ?_, ?_⟩, ho, hp.2, fun a ha b hb => ?_, ?_⟩
    · rcases List.mem_append.1 hs with hs | hs
      · exact hoo s hs
      · rw [List.mem_singleton.1 hs]; exact hj
    · refine List.pairwise_append.2 ⟨r1.1, by simp, fun a ha b hb => ?_⟩
      rw [List.mem_singleton.1 hb]
      exact K.far (hoo a ha) hy hj (r2.2.2 a ha y (by simp)) j1 (r1.2.2 a ha y (by simp))
    · refine List.pairwise_append.2 ⟨r2.1, by simp, fun a ha b hb => ?_⟩
      rw [List.mem_singleton.1 hb]
      exact K.low_trans (hoo a ha) hy hj (r2.2.2 a ha y (by simp)) j1
    · rcases List.mem_append.1 ha with ha | ha
      · exact h.low a (by simp [ha]) b (by simp [hb])
      · rw [List.mem_singleton.1 ha]
        exact K.low_trans hj hy (ho b hb) j2 (h.low y (by simp) b (by simp [hb]))
    · refine h.same.trans (Sp.Same.trans (.of_mem (G := y :: x :: (o ++ l)) fun s => ?_) ((Sp.Same.merge hy hx hm).trans (.of_mem fun s => ?_)))
      · simp only [List.mem_append, List.mem_cons, List.not_mem_nil, or_false]
        constructor <;> intro hh
        · rcases hh with (hh | hh) | hh | hh <;> simp [hh]
        · rcases hh with hh | hh | hh | hh <;> simp [hh]
      · simp only [List.mem_append, List.mem_cons, List.not_mem_nil, or_false]
        constructor <;> intro hh
        · rcases hh with hh | hh | hh <;> simp [hh]
        · rcases hh with (hh | hh) | hh <;> simp [hh]
  | false =>
    rw [Sp.put_new hm]
    refine ⟨⟨fun s hs => ?_, ?_, ?_⟩, ho, hp.2, fun a ha b hb => ?_, by simpa using h.same⟩
    · rcases List.mem_append.1 hs with hs | hs
      · exact h.row.oks s hs
      · rw [List.mem_singleton.1 hs]; exact hx
    · refine List.pairwise_append.2 ⟨h.row.apart, by simp, fun a ha b hb => ?_⟩
      rw [List.mem_singleton.1 hb]
      rcases List.mem_append.1 ha with ha | ha
      · exact K.far (hoo a ha) hy hx (r2.2.2 a ha y (by simp)) hyx (r1.2.2 a ha y (by simp))
      · rw [List.mem_singleton.1 ha]; exact hm
    · refine List.pairwise_append.2 ⟨h.row.rising, by simp, fun a ha b hb => ?_⟩
      rw [List.mem_singleton.1 hb]
      exact h.low a ha x (by simp)
    · rcases List.mem_append.1 ha with ha | ha
      · exact h.low a ha b (by simp [hb])
      · rw [List.mem_singleton.1 ha]; exact hp.1 b hb
/-- Sorted, and put together, a row is in its form. -/
theorem Sp.Half.done {F out : List S} (h : K.Half F out []) : K.Canon F out := ⟨h.row, by simpa using h.same⟩
theorem Sp.Half.fold {F : List S} : ∀ {l out : List S}, K.Half F out l → K.Canon F (l.foldl K.put out)
  | [], _, h => h.done
  | x :: l, out, h => by
    rw [List.foldl_cons]
    exact Sp.Half.fold (l := l) (out := K.put out x) h.step

/-! One that is laid in where it stands. -/
theorem Sp.Row.lay {o r : List S} {x : S} (h : K.Row (o ++ r)) (hx : K.ok x) (ha : ∀ s ∈ o ++ r, K.meets s x = false) (h1 : ∀ s ∈ o, K.low s x = true) (h2 : ∀ s ∈ r, K.low x s = true) : K.Row (o ++ x :: r) := by
  have a1 := List.pairwise_append.1 h.apart
  have a2 := List.pairwise_append.1 h.rising
  have ok1 : K.Oks (o ++ r) := h.oks
  refine ⟨fun s hs => ?_, List.pairwise_append.2 ⟨a1.1, List.pairwise_cons.2 ⟨fun s hs => ?_, a1.2.1⟩, fun s hs t ht => ?_⟩, List.pairwise_append.2 ⟨a2.1, List.pairwise_cons.2 ⟨h2, a2.2.1⟩, fun s hs t ht => ?_⟩⟩
  · rcases List.mem_append.1 hs with hs | hs
    · exact ok1 s (by simp [hs])
    · rcases List.mem_cons.1 hs with rfl | hs
      · exact hx
      · exact ok1 s (by simp [hs])
  · unfold Sp.Apart
    rw [Sp.meets_symm hx (ok1 s (by simp [hs]))]
    exact ha s (by simp [hs])
  · rcases List.mem_cons.1 ht with rfl | ht
    · exact ha s (by simp [hs])
    · exact a1.2.2 s hs t ht
  · rcases List.mem_cons.1 ht with rfl | ht
    · exact h1 s hs
    · exact a2.2.2 s hs t ht
end
end Go.Proofs.YtaahdhpljlkfjaaGreat.Ss
