/- span.Join; SpanJoins. -/
import Derived.Test.YtgncikkfkmiejaaSpanMath5
import Derived.Test.YtgncikkfkmiejaaSpan5
namespace Go.Proofs.Ytgncikkfkmiejaa.Ver
open Go.RowKit

set_option maxHeartbeats 4000000 in
theorem join_is (alo ahi blo bhi lo hi : ByteArray) (h : sjoin alo ahi blo bhi = (lo, hi)) (w : World) :
    Calls Try.prog 22 #[.agg #[.string alo, .string ahi], .agg #[.string blo, .string bhi]] w fun e w' => e = .returned (.agg #[.string lo, .string hi]) ∧ Below w.heap.size w w' := by
  obtain ⟨hb0, p0_0, p1_0, p2_0⟩ := three_new w alo ahi blo bhi 23
  cases ha : smay alo.data.toList ahi.data.toList with
  | false =>
    have h : ((⟨#[]⟩ : ByteArray), (⟨#[]⟩ : ByteArray)) = (lo, hi) := by rw [← h]; unfold sjoin; rw [ha]; rfl
    injection h with h1 h2; subst h1; subst h2
    have Ha := Lib.hid ha
    clear ha
    go_enter Try.func22, Try.ntmps22
    go_wp2_with fail
    refine (spanMay_is alo ahi _ Ha.out _).mono ?_
    rintro e w1 ⟨rfl, h1⟩
    have hb1 := hb0.trans (h1.mono hb0.size)
    have p0_1 := p0_0.below h1
    have c0_1 := p0_1.1
    have d0_1 := p0_1.2.1
    have f0_1 := p0_1.2.2.1
    have g0_1 := p0_1.2.2.2
    have p1_1 := p1_0.below h1
    have c1_1 := p1_1.1
    have d1_1 := p1_1.2.1
    have f1_1 := p1_1.2.2.1
    have g1_1 := p1_1.2.2.2
    have p2_1 := p2_0.below h1
    have c2_1 := p2_1.1
    have d2_1 := p2_1.2.1
    have f2_1 := p2_1.2.2.1
    have g2_1 := p2_1.2.2.2
    go_wp2
    refine bodyPost_ret (v := .agg #[.string (⟨#[]⟩), .string (⟨#[]⟩)]) (by simp [results, Try.results22, go_sem, c2_1, d2_1, World.cell?_setCell_same']) rfl ⟨rfl, (hb1.setCell (p := ⟨w.heap.size + 2, 0, none⟩) (Nat.le_add_right _ _) _).setCell (p := ⟨w.heap.size + 2, 1, none⟩) (Nat.le_add_right _ _) _⟩
  | true =>
  cases hb : smay blo.data.toList bhi.data.toList with
  | false =>
    have h : ((⟨#[]⟩ : ByteArray), (⟨#[]⟩ : ByteArray)) = (lo, hi) := by rw [← h]; unfold sjoin; rw [ha, hb]; rfl
    injection h with h1 h2; subst h1; subst h2
    have Ha := Lib.hid ha
    have Hb := Lib.hid hb
    clear ha hb
    go_enter Try.func22, Try.ntmps22
    go_wp2_with fail
    refine (spanMay_is alo ahi _ Ha.out _).mono ?_
    rintro e w1 ⟨rfl, h1⟩
    have hb1 := hb0.trans (h1.mono hb0.size)
    have p0_1 := p0_0.below h1
    have c0_1 := p0_1.1
    have d0_1 := p0_1.2.1
    have f0_1 := p0_1.2.2.1
    have g0_1 := p0_1.2.2.2
    have p1_1 := p1_0.below h1
    have c1_1 := p1_1.1
    have d1_1 := p1_1.2.1
    have f1_1 := p1_1.2.2.1
    have g1_1 := p1_1.2.2.2
    have p2_1 := p2_0.below h1
    have c2_1 := p2_1.1
    have d2_1 := p2_1.2.1
    have f2_1 := p2_1.2.2.1
    have g2_1 := p2_1.2.2.2
    go_wp2_with fail
    refine (spanMay_is blo bhi _ Hb.out _).mono ?_
    rintro e w2 ⟨rfl, h2⟩
    have hb2 := hb1.trans (h2.mono hb1.size)
    have p0_2 := p0_1.below h2
    have c0_2 := p0_2.1
    have d0_2 := p0_2.2.1
    have f0_2 := p0_2.2.2.1
    have g0_2 := p0_2.2.2.2
    have p1_2 := p1_1.below h2
    have c1_2 := p1_2.1
    have d1_2 := p1_2.2.1
    have f1_2 := p1_2.2.2.1
    have g1_2 := p1_2.2.2.2
    have p2_2 := p2_1.below h2
    have c2_2 := p2_2.1
    have d2_2 := p2_2.2.1
    have f2_2 := p2_2.2.2.1
    have g2_2 := p2_2.2.2.2
    go_wp2
    refine bodyPost_ret (v := .agg #[.string (⟨#[]⟩), .string (⟨#[]⟩)]) (by simp [results, Try.results22, go_sem, c2_2, d2_2, World.cell?_setCell_same']) rfl ⟨rfl, (hb2.setCell (p := ⟨w.heap.size + 2, 0, none⟩) (Nat.le_add_right _ _) _).setCell (p := ⟨w.heap.size + 2, 1, none⟩) (Nat.le_add_right _ _) _⟩
  | true =>
  have hm : (jlo alo blo, jhi ahi bhi) = (lo, hi) := by
    rw [← h]; unfold sjoin; rw [ha, hb]; rfl
  have Ha := Lib.hid ha
  have Hb := Lib.hid hb
  clear ha hb h
  cases hl : lowR blo.data.toList alo.data.toList with
  | false =>
    have el : jlo alo blo = alo := by unfold jlo; rw [hl]; rfl
    cases hh : highR bhi.data.toList ahi.data.toList with
    | false =>
      have eh : jhi ahi bhi = ahi := by unfold jhi; rw [hh]; rfl
      rw [el, eh] at hm
      have HL := Lib.hid hl
      have HH := Lib.hid hh
      clear hl hh el eh
      injection hm with h1 h2; subst h1; subst h2
      go_enter Try.func22, Try.ntmps22
      go_wp2_with fail
      refine (spanMay_is alo ahi _ Ha.out _).mono ?_
      rintro e w1 ⟨rfl, h1⟩
      have hb1 := hb0.trans (h1.mono hb0.size)
      have p0_1 := p0_0.below h1
      have c0_1 := p0_1.1
      have d0_1 := p0_1.2.1
      have f0_1 := p0_1.2.2.1
      have g0_1 := p0_1.2.2.2
      have p1_1 := p1_0.below h1
      have c1_1 := p1_1.1
      have d1_1 := p1_1.2.1
      have f1_1 := p1_1.2.2.1
      have g1_1 := p1_1.2.2.2
      have p2_1 := p2_0.below h1
      have c2_1 := p2_1.1
      have d2_1 := p2_1.2.1
      have f2_1 := p2_1.2.2.1
      have g2_1 := p2_1.2.2.2
      go_wp2_with fail
      refine (spanMay_is blo bhi _ Hb.out _).mono ?_
      rintro e w2 ⟨rfl, h2⟩
      have hb2 := hb1.trans (h2.mono hb1.size)
      have p0_2 := p0_1.below h2
      have c0_2 := p0_2.1
      have d0_2 := p0_2.2.1
      have f0_2 := p0_2.2.2.1
      have g0_2 := p0_2.2.2.2
      have p1_2 := p1_1.below h2
      have c1_2 := p1_2.1
      have d1_2 := p1_2.2.1
      have f1_2 := p1_2.2.2.1
      have g1_2 := p1_2.2.2.2
      have p2_2 := p2_1.below h2
      have c2_2 := p2_2.1
      have d2_2 := p2_2.2.1
      have f2_2 := p2_2.2.2.1
      have g2_2 := p2_2.2.2.2
      have lt0 := World.block_lt_of_cell? _ _ p0_2.1
      have lt1 := World.block_lt_of_cell? _ _ p1_2.1
      have lt2 := World.block_lt_of_cell? _ _ p2_2.1
      have le3 := hb2.size
      have hb2 := hb2.alloc hb2.size (.cells #[.string (alo), .string (ahi)] 23)
      have p0_2 := p0_2.below (below_new _ (.cells #[.string (alo), .string (ahi)] 23))
      have p1_2 := p1_2.below (below_new _ (.cells #[.string (alo), .string (ahi)] 23))
      have p2_2 := p2_2.below (below_new _ (.cells #[.string (alo), .string (ahi)] 23))
      have p3_2 := pair_new w2 (alo) (ahi) 23
      go_wp2_with fail
      refine (lowR_is blo alo _ HL.out _).mono ?_
      rintro e w3 ⟨rfl, h3⟩
      have hb3 := hb2.trans (h3.mono hb2.size)
      have p0_3 := p0_2.below h3
      have c0_3 := p0_3.1
      have d0_3 := p0_3.2.1
      have f0_3 := p0_3.2.2.1
      have g0_3 := p0_3.2.2.2
      have p1_3 := p1_2.below h3
      have c1_3 := p1_3.1
      have d1_3 := p1_3.2.1
      have f1_3 := p1_3.2.2.1
      have g1_3 := p1_3.2.2.2
      have p2_3 := p2_2.below h3
      have c2_3 := p2_3.1
      have d2_3 := p2_3.2.1
      have f2_3 := p2_3.2.2.1
      have g2_3 := p2_3.2.2.2
      have p3_3 := p3_2.below h3
      have c3_3 := p3_3.1
      have d3_3 := p3_3.2.1
      have f3_3 := p3_3.2.2.1
      have g3_3 := p3_3.2.2.2
      go_wp2_with fail
      refine (highR_is bhi ahi _ HH.out _).mono ?_
      rintro e w4 ⟨rfl, h4⟩
      have hb4 := hb3.trans (h4.mono hb3.size)
      have p0_4 := p0_3.below h4
      have c0_4 := p0_4.1
      have d0_4 := p0_4.2.1
      have f0_4 := p0_4.2.2.1
      have g0_4 := p0_4.2.2.2
      have p1_4 := p1_3.below h4
      have c1_4 := p1_4.1
      have d1_4 := p1_4.2.1
      have f1_4 := p1_4.2.2.1
      have g1_4 := p1_4.2.2.2
      have p2_4 := p2_3.below h4
      have c2_4 := p2_4.1
      have d2_4 := p2_4.2.1
      have f2_4 := p2_4.2.2.1
      have g2_4 := p2_4.2.2.2
      have p3_4 := p3_3.below h4
      have c3_4 := p3_4.1
      have d3_4 := p3_4.2.1
      have f3_4 := p3_4.2.2.1
      have g3_4 := p3_4.2.2.2
      go_wp2
      refine bodyPost_ret (v := .agg #[.string (alo), .string (ahi)]) (by simp [results, Try.results22, go_sem, c2_4, d2_4, World.cell?_setCell_same']) rfl ⟨rfl, (hb4.setCell (p := ⟨w.heap.size + 2, 0, none⟩) (Nat.le_add_right _ _) _).setCell (p := ⟨w.heap.size + 2, 1, none⟩) (Nat.le_add_right _ _) _⟩
    | true =>
      have eh : jhi ahi bhi = bhi := by unfold jhi; rw [hh]; rfl
      rw [el, eh] at hm
      have HL := Lib.hid hl
      have HH := Lib.hid hh
      clear hl hh el eh
      injection hm with h1 h2; subst h1; subst h2
      go_enter Try.func22, Try.ntmps22
      go_wp2_with fail
      refine (spanMay_is alo ahi _ Ha.out _).mono ?_
      rintro e w1 ⟨rfl, h1⟩
      have hb1 := hb0.trans (h1.mono hb0.size)
      have p0_1 := p0_0.below h1
      have c0_1 := p0_1.1
      have d0_1 := p0_1.2.1
      have f0_1 := p0_1.2.2.1
      have g0_1 := p0_1.2.2.2
      have p1_1 := p1_0.below h1
      have c1_1 := p1_1.1
      have d1_1 := p1_1.2.1
      have f1_1 := p1_1.2.2.1
      have g1_1 := p1_1.2.2.2
      have p2_1 := p2_0.below h1
      have c2_1 := p2_1.1
      have d2_1 := p2_1.2.1
      have f2_1 := p2_1.2.2.1
      have g2_1 := p2_1.2.2.2
      go_wp2_with fail
      refine (spanMay_is blo bhi _ Hb.out _).mono ?_
      rintro e w2 ⟨rfl, h2⟩
      have hb2 := hb1.trans (h2.mono hb1.size)
      have p0_2 := p0_1.below h2
      have c0_2 := p0_2.1
      have d0_2 := p0_2.2.1
      have f0_2 := p0_2.2.2.1
      have g0_2 := p0_2.2.2.2
      have p1_2 := p1_1.below h2
      have c1_2 := p1_2.1
      have d1_2 := p1_2.2.1
      have f1_2 := p1_2.2.2.1
      have g1_2 := p1_2.2.2.2
      have p2_2 := p2_1.below h2
      have c2_2 := p2_2.1
      have d2_2 := p2_2.2.1
      have f2_2 := p2_2.2.2.1
      have g2_2 := p2_2.2.2.2
      have lt0 := World.block_lt_of_cell? _ _ p0_2.1
      have lt1 := World.block_lt_of_cell? _ _ p1_2.1
      have lt2 := World.block_lt_of_cell? _ _ p2_2.1
      have le3 := hb2.size
      have hb2 := hb2.alloc hb2.size (.cells #[.string (alo), .string (ahi)] 23)
      have p0_2 := p0_2.below (below_new _ (.cells #[.string (alo), .string (ahi)] 23))
      have p1_2 := p1_2.below (below_new _ (.cells #[.string (alo), .string (ahi)] 23))
      have p2_2 := p2_2.below (below_new _ (.cells #[.string (alo), .string (ahi)] 23))
      have p3_2 := pair_new w2 (alo) (ahi) 23
      go_wp2_with fail
      refine (lowR_is blo alo _ HL.out _).mono ?_
      rintro e w3 ⟨rfl, h3⟩
      have hb3 := hb2.trans (h3.mono hb2.size)
      have p0_3 := p0_2.below h3
      have c0_3 := p0_3.1
      have d0_3 := p0_3.2.1
      have f0_3 := p0_3.2.2.1
      have g0_3 := p0_3.2.2.2
      have p1_3 := p1_2.below h3
      have c1_3 := p1_3.1
      have d1_3 := p1_3.2.1
      have f1_3 := p1_3.2.2.1
      have g1_3 := p1_3.2.2.2
      have p2_3 := p2_2.below h3
      have c2_3 := p2_3.1
      have d2_3 := p2_3.2.1
      have f2_3 := p2_3.2.2.1
      have g2_3 := p2_3.2.2.2
      have p3_3 := p3_2.below h3
      have c3_3 := p3_3.1
      have d3_3 := p3_3.2.1
      have f3_3 := p3_3.2.2.1
      have g3_3 := p3_3.2.2.2
      go_wp2_with fail
      refine (highR_is bhi ahi _ HH.out _).mono ?_
      rintro e w4 ⟨rfl, h4⟩
      have hb4 := hb3.trans (h4.mono hb3.size)
      have p0_4 := p0_3.below h4
      have c0_4 := p0_4.1
      have d0_4 := p0_4.2.1
      have f0_4 := p0_4.2.2.1
      have g0_4 := p0_4.2.2.2
      have p1_4 := p1_3.below h4
      have c1_4 := p1_4.1
      have d1_4 := p1_4.2.1
      have f1_4 := p1_4.2.2.1
      have g1_4 := p1_4.2.2.2
      have p2_4 := p2_3.below h4
      have c2_4 := p2_4.1
      have d2_4 := p2_4.2.1
      have f2_4 := p2_4.2.2.1
      have g2_4 := p2_4.2.2.2
      have p3_4 := p3_3.below h4
      have c3_4 := p3_4.1
      have d3_4 := p3_4.2.1
      have f3_4 := p3_4.2.2.1
      have g3_4 := p3_4.2.2.2
      have hb4 := hb4.setCell (p := ⟨w2.heap.size, 1, none⟩) le3 (.string bhi)
      have p0_4 := p0_4.other (Nat.ne_of_lt lt0) 1 (.string bhi)
      have p1_4 := p1_4.other (Nat.ne_of_lt lt1) 1 (.string bhi)
      have p2_4 := p2_4.other (Nat.ne_of_lt lt2) 1 (.string bhi)
      have p3_4 := p3_4.set1 bhi
      have c0_4 := p0_4.1
      have d0_4 := p0_4.2.1
      have f0_4 := p0_4.2.2.1
      have g0_4 := p0_4.2.2.2
      have c1_4 := p1_4.1
      have d1_4 := p1_4.2.1
      have f1_4 := p1_4.2.2.1
      have g1_4 := p1_4.2.2.2
      have c2_4 := p2_4.1
      have d2_4 := p2_4.2.1
      have f2_4 := p2_4.2.2.1
      have g2_4 := p2_4.2.2.2
      have c3_4 := p3_4.1
      have d3_4 := p3_4.2.1
      have f3_4 := p3_4.2.2.1
      have g3_4 := p3_4.2.2.2
      go_wp2
      refine bodyPost_ret (v := .agg #[.string (alo), .string (bhi)]) (by simp [results, Try.results22, go_sem, c2_4, d2_4, World.cell?_setCell_same']) rfl ⟨rfl, (hb4.setCell (p := ⟨w.heap.size + 2, 0, none⟩) (Nat.le_add_right _ _) _).setCell (p := ⟨w.heap.size + 2, 1, none⟩) (Nat.le_add_right _ _) _⟩
  | true =>
    have el : jlo alo blo = blo := by unfold jlo; rw [hl]; rfl
    cases hh : highR bhi.data.toList ahi.data.toList with
    | false =>
      have eh : jhi ahi bhi = ahi := by unfold jhi; rw [hh]; rfl
      rw [el, eh] at hm
      have HL := Lib.hid hl
      have HH := Lib.hid hh
      clear hl hh el eh
      injection hm with h1 h2; subst h1; subst h2
      go_enter Try.func22, Try.ntmps22
      go_wp2_with fail
      refine (spanMay_is alo ahi _ Ha.out _).mono ?_
      rintro e w1 ⟨rfl, h1⟩
      have hb1 := hb0.trans (h1.mono hb0.size)
      have p0_1 := p0_0.below h1
      have c0_1 := p0_1.1
      have d0_1 := p0_1.2.1
      have f0_1 := p0_1.2.2.1
      have g0_1 := p0_1.2.2.2
      have p1_1 := p1_0.below h1
      have c1_1 := p1_1.1
      have d1_1 := p1_1.2.1
      have f1_1 := p1_1.2.2.1
      have g1_1 := p1_1.2.2.2
      have p2_1 := p2_0.below h1
      have c2_1 := p2_1.1
      have d2_1 := p2_1.2.1
      have f2_1 := p2_1.2.2.1
      have g2_1 := p2_1.2.2.2
      go_wp2_with fail
      refine (spanMay_is blo bhi _ Hb.out _).mono ?_
      rintro e w2 ⟨rfl, h2⟩
      have hb2 := hb1.trans (h2.mono hb1.size)
      have p0_2 := p0_1.below h2
      have c0_2 := p0_2.1
      have d0_2 := p0_2.2.1
      have f0_2 := p0_2.2.2.1
      have g0_2 := p0_2.2.2.2
      have p1_2 := p1_1.below h2
      have c1_2 := p1_2.1
      have d1_2 := p1_2.2.1
      have f1_2 := p1_2.2.2.1
      have g1_2 := p1_2.2.2.2
      have p2_2 := p2_1.below h2
      have c2_2 := p2_2.1
      have d2_2 := p2_2.2.1
      have f2_2 := p2_2.2.2.1
      have g2_2 := p2_2.2.2.2
      have lt0 := World.block_lt_of_cell? _ _ p0_2.1
      have lt1 := World.block_lt_of_cell? _ _ p1_2.1
      have lt2 := World.block_lt_of_cell? _ _ p2_2.1
      have le3 := hb2.size
      have hb2 := hb2.alloc hb2.size (.cells #[.string (alo), .string (ahi)] 23)
      have p0_2 := p0_2.below (below_new _ (.cells #[.string (alo), .string (ahi)] 23))
      have p1_2 := p1_2.below (below_new _ (.cells #[.string (alo), .string (ahi)] 23))
      have p2_2 := p2_2.below (below_new _ (.cells #[.string (alo), .string (ahi)] 23))
      have p3_2 := pair_new w2 (alo) (ahi) 23
      go_wp2_with fail
      refine (lowR_is blo alo _ HL.out _).mono ?_
      rintro e w3 ⟨rfl, h3⟩
      have hb3 := hb2.trans (h3.mono hb2.size)
      have p0_3 := p0_2.below h3
      have c0_3 := p0_3.1
      have d0_3 := p0_3.2.1
      have f0_3 := p0_3.2.2.1
      have g0_3 := p0_3.2.2.2
      have p1_3 := p1_2.below h3
      have c1_3 := p1_3.1
      have d1_3 := p1_3.2.1
      have f1_3 := p1_3.2.2.1
      have g1_3 := p1_3.2.2.2
      have p2_3 := p2_2.below h3
      have c2_3 := p2_3.1
      have d2_3 := p2_3.2.1
      have f2_3 := p2_3.2.2.1
      have g2_3 := p2_3.2.2.2
      have p3_3 := p3_2.below h3
      have c3_3 := p3_3.1
      have d3_3 := p3_3.2.1
      have f3_3 := p3_3.2.2.1
      have g3_3 := p3_3.2.2.2
      have hb3 := hb3.setCell (p := ⟨w2.heap.size, 0, none⟩) le3 (.string blo)
      have p0_3 := p0_3.other (Nat.ne_of_lt lt0) 0 (.string blo)
      have p1_3 := p1_3.other (Nat.ne_of_lt lt1) 0 (.string blo)
      have p2_3 := p2_3.other (Nat.ne_of_lt lt2) 0 (.string blo)
      have p3_3 := p3_3.set0 blo
      have c0_3 := p0_3.1
      have d0_3 := p0_3.2.1
      have f0_3 := p0_3.2.2.1
      have g0_3 := p0_3.2.2.2
      have c1_3 := p1_3.1
      have d1_3 := p1_3.2.1
      have f1_3 := p1_3.2.2.1
      have g1_3 := p1_3.2.2.2
      have c2_3 := p2_3.1
      have d2_3 := p2_3.2.1
      have f2_3 := p2_3.2.2.1
      have g2_3 := p2_3.2.2.2
      have c3_3 := p3_3.1
      have d3_3 := p3_3.2.1
      have f3_3 := p3_3.2.2.1
      have g3_3 := p3_3.2.2.2
      go_wp2_with fail
      refine (highR_is bhi ahi _ HH.out _).mono ?_
      rintro e w4 ⟨rfl, h4⟩
      have hb4 := hb3.trans (h4.mono hb3.size)
      have p0_4 := p0_3.below h4
      have c0_4 := p0_4.1
      have d0_4 := p0_4.2.1
      have f0_4 := p0_4.2.2.1
      have g0_4 := p0_4.2.2.2
      have p1_4 := p1_3.below h4
      have c1_4 := p1_4.1
      have d1_4 := p1_4.2.1
      have f1_4 := p1_4.2.2.1
      have g1_4 := p1_4.2.2.2
      have p2_4 := p2_3.below h4
      have c2_4 := p2_4.1
      have d2_4 := p2_4.2.1
      have f2_4 := p2_4.2.2.1
      have g2_4 := p2_4.2.2.2
      have p3_4 := p3_3.below h4
      have c3_4 := p3_4.1
      have d3_4 := p3_4.2.1
      have f3_4 := p3_4.2.2.1
      have g3_4 := p3_4.2.2.2
      go_wp2
      refine bodyPost_ret (v := .agg #[.string (blo), .string (ahi)]) (by simp [results, Try.results22, go_sem, c2_4, d2_4, World.cell?_setCell_same']) rfl ⟨rfl, (hb4.setCell (p := ⟨w.heap.size + 2, 0, none⟩) (Nat.le_add_right _ _) _).setCell (p := ⟨w.heap.size + 2, 1, none⟩) (Nat.le_add_right _ _) _⟩
    | true =>
      have eh : jhi ahi bhi = bhi := by unfold jhi; rw [hh]; rfl
      rw [el, eh] at hm
      have HL := Lib.hid hl
      have HH := Lib.hid hh
      clear hl hh el eh
      injection hm with h1 h2; subst h1; subst h2
      go_enter Try.func22, Try.ntmps22
      go_wp2_with fail
      refine (spanMay_is alo ahi _ Ha.out _).mono ?_
      rintro e w1 ⟨rfl, h1⟩
      have hb1 := hb0.trans (h1.mono hb0.size)
      have p0_1 := p0_0.below h1
      have c0_1 := p0_1.1
      have d0_1 := p0_1.2.1
      have f0_1 := p0_1.2.2.1
      have g0_1 := p0_1.2.2.2
      have p1_1 := p1_0.below h1
      have c1_1 := p1_1.1
      have d1_1 := p1_1.2.1
      have f1_1 := p1_1.2.2.1
      have g1_1 := p1_1.2.2.2
      have p2_1 := p2_0.below h1
      have c2_1 := p2_1.1
      have d2_1 := p2_1.2.1
      have f2_1 := p2_1.2.2.1
      have g2_1 := p2_1.2.2.2
      go_wp2_with fail
      refine (spanMay_is blo bhi _ Hb.out _).mono ?_
      rintro e w2 ⟨rfl, h2⟩
      have hb2 := hb1.trans (h2.mono hb1.size)
      have p0_2 := p0_1.below h2
      have c0_2 := p0_2.1
      have d0_2 := p0_2.2.1
      have f0_2 := p0_2.2.2.1
      have g0_2 := p0_2.2.2.2
      have p1_2 := p1_1.below h2
      have c1_2 := p1_2.1
      have d1_2 := p1_2.2.1
      have f1_2 := p1_2.2.2.1
      have g1_2 := p1_2.2.2.2
      have p2_2 := p2_1.below h2
      have c2_2 := p2_2.1
      have d2_2 := p2_2.2.1
      have f2_2 := p2_2.2.2.1
      have g2_2 := p2_2.2.2.2
      have lt0 := World.block_lt_of_cell? _ _ p0_2.1
      have lt1 := World.block_lt_of_cell? _ _ p1_2.1
      have lt2 := World.block_lt_of_cell? _ _ p2_2.1
      have le3 := hb2.size
      have hb2 := hb2.alloc hb2.size (.cells #[.string (alo), .string (ahi)] 23)
      have p0_2 := p0_2.below (below_new _ (.cells #[.string (alo), .string (ahi)] 23))
      have p1_2 := p1_2.below (below_new _ (.cells #[.string (alo), .string (ahi)] 23))
      have p2_2 := p2_2.below (below_new _ (.cells #[.string (alo), .string (ahi)] 23))
      have p3_2 := pair_new w2 (alo) (ahi) 23
      go_wp2_with fail
      refine (lowR_is blo alo _ HL.out _).mono ?_
      rintro e w3 ⟨rfl, h3⟩
      have hb3 := hb2.trans (h3.mono hb2.size)
      have p0_3 := p0_2.below h3
      have c0_3 := p0_3.1
      have d0_3 := p0_3.2.1
      have f0_3 := p0_3.2.2.1
      have g0_3 := p0_3.2.2.2
      have p1_3 := p1_2.below h3
      have c1_3 := p1_3.1
      have d1_3 := p1_3.2.1
      have f1_3 := p1_3.2.2.1
      have g1_3 := p1_3.2.2.2
      have p2_3 := p2_2.below h3
      have c2_3 := p2_3.1
      have d2_3 := p2_3.2.1
      have f2_3 := p2_3.2.2.1
      have g2_3 := p2_3.2.2.2
      have p3_3 := p3_2.below h3
      have c3_3 := p3_3.1
      have d3_3 := p3_3.2.1
      have f3_3 := p3_3.2.2.1
      have g3_3 := p3_3.2.2.2
      have hb3 := hb3.setCell (p := ⟨w2.heap.size, 0, none⟩) le3 (.string blo)
      have p0_3 := p0_3.other (Nat.ne_of_lt lt0) 0 (.string blo)
      have p1_3 := p1_3.other (Nat.ne_of_lt lt1) 0 (.string blo)
      have p2_3 := p2_3.other (Nat.ne_of_lt lt2) 0 (.string blo)
      have p3_3 := p3_3.set0 blo
      have c0_3 := p0_3.1
      have d0_3 := p0_3.2.1
      have f0_3 := p0_3.2.2.1
      have g0_3 := p0_3.2.2.2
      have c1_3 := p1_3.1
      have d1_3 := p1_3.2.1
      have f1_3 := p1_3.2.2.1
      have g1_3 := p1_3.2.2.2
      have c2_3 := p2_3.1
      have d2_3 := p2_3.2.1
      have f2_3 := p2_3.2.2.1
      have g2_3 := p2_3.2.2.2
      have c3_3 := p3_3.1
      have d3_3 := p3_3.2.1
      have f3_3 := p3_3.2.2.1
      have g3_3 := p3_3.2.2.2
      go_wp2_with fail
      refine (highR_is bhi ahi _ HH.out _).mono ?_
      rintro e w4 ⟨rfl, h4⟩
      have hb4 := hb3.trans (h4.mono hb3.size)
      have p0_4 := p0_3.below h4
      have c0_4 := p0_4.1
      have d0_4 := p0_4.2.1
      have f0_4 := p0_4.2.2.1
      have g0_4 := p0_4.2.2.2
      have p1_4 := p1_3.below h4
      have c1_4 := p1_4.1
      have d1_4 := p1_4.2.1
      have f1_4 := p1_4.2.2.1
      have g1_4 := p1_4.2.2.2
      have p2_4 := p2_3.below h4
      have c2_4 := p2_4.1
      have d2_4 := p2_4.2.1
      have f2_4 := p2_4.2.2.1
      have g2_4 := p2_4.2.2.2
      have p3_4 := p3_3.below h4
      have c3_4 := p3_4.1
      have d3_4 := p3_4.2.1
      have f3_4 := p3_4.2.2.1
      have g3_4 := p3_4.2.2.2
      have hb4 := hb4.setCell (p := ⟨w2.heap.size, 1, none⟩) le3 (.string bhi)
      have p0_4 := p0_4.other (Nat.ne_of_lt lt0) 1 (.string bhi)
      have p1_4 := p1_4.other (Nat.ne_of_lt lt1) 1 (.string bhi)
      have p2_4 := p2_4.other (Nat.ne_of_lt lt2) 1 (.string bhi)
      have p3_4 := p3_4.set1 bhi
      have c0_4 := p0_4.1
      have d0_4 := p0_4.2.1
      have f0_4 := p0_4.2.2.1
      have g0_4 := p0_4.2.2.2
      have c1_4 := p1_4.1
      have d1_4 := p1_4.2.1
      have f1_4 := p1_4.2.2.1
      have g1_4 := p1_4.2.2.2
      have c2_4 := p2_4.1
      have d2_4 := p2_4.2.1
      have f2_4 := p2_4.2.2.1
      have g2_4 := p2_4.2.2.2
      have c3_4 := p3_4.1
      have d3_4 := p3_4.2.1
      have f3_4 := p3_4.2.2.1
      have g3_4 := p3_4.2.2.2
      go_wp2
      refine bodyPost_ret (v := .agg #[.string (blo), .string (bhi)]) (by simp [results, Try.results22, go_sem, c2_4, d2_4, World.cell?_setCell_same']) rfl ⟨rfl, (hb4.setCell (p := ⟨w.heap.size + 2, 0, none⟩) (Nat.le_add_right _ _) _).setCell (p := ⟨w.heap.size + 2, 1, none⟩) (Nat.le_add_right _ _) _⟩

theorem three_new' (w : World) (alo ahi blo bhi clo chi : ByteArray) (T : TypeId) :
    Below w.heap.size w (((w.alloc (.cells #[.string alo, .string ahi] T)).alloc (.cells #[.string blo, .string bhi] T)).alloc (.cells #[.string clo, .string chi] T)) ∧
    Pair (((w.alloc (.cells #[.string alo, .string ahi] T)).alloc (.cells #[.string blo, .string bhi] T)).alloc (.cells #[.string clo, .string chi] T)) w.heap.size alo ahi ∧
    Pair (((w.alloc (.cells #[.string alo, .string ahi] T)).alloc (.cells #[.string blo, .string bhi] T)).alloc (.cells #[.string clo, .string chi] T)) (w.heap.size + 1) blo bhi ∧
    Pair (((w.alloc (.cells #[.string alo, .string ahi] T)).alloc (.cells #[.string blo, .string bhi] T)).alloc (.cells #[.string clo, .string chi] T)) (w.heap.size + 2) clo chi := by
  obtain ⟨h1, p1, p2⟩ := two_new w alo ahi blo bhi T
  have h2 := below_new ((w.alloc (.cells #[.string alo, .string ahi] T)).alloc (.cells #[.string blo, .string bhi] T)) (.cells #[.string clo, .string chi] T)
  have p3 := pair_new ((w.alloc (.cells #[.string alo, .string ahi] T)).alloc (.cells #[.string blo, .string bhi] T)) clo chi T
  have e : ((w.alloc (.cells #[.string alo, .string ahi] T)).alloc (.cells #[.string blo, .string bhi] T)).heap.size = w.heap.size + 2 := by simp
  rw [e] at p3
  exact ⟨h1.trans (h2.mono h1.size), p1.below h2, p2.below h2, p3⟩

set_option maxHeartbeats 8000000 in
theorem spanJoins_any (alo ahi blo bhi clo chi : ByteArray) (v : ByteArray) (_hv : v.size ≤ maxLen) (w : World) :
    Calls Try.prog 7 #[.agg #[.string alo, .string ahi], .agg #[.string blo, .string bhi], .agg #[.string clo, .string chi], .string v] w fun e w' => e = .returned (.bool true) ∧ Below w.heap.size w w' := by
  obtain ⟨hb0, p0_0, p1_0, p2_0⟩ := three_new' w alo ahi blo bhi clo chi 23
  go_enter Try.func7, Try.ntmps7
  go_wp2_with fail
  refine (sgreat_is alo ahi _).mono ?_
  rintro e w1 ⟨rfl | ⟨rfl, _, _⟩, h1⟩
  · skip
    have hb1 := hb0.trans (h1.mono hb0.size)
    have p0_1 := p0_0.below h1
    have c0_1 := p0_1.1
    have d0_1 := p0_1.2.1
    have f0_1 := p0_1.2.2.1
    have g0_1 := p0_1.2.2.2
    have p1_1 := p1_0.below h1
    have c1_1 := p1_1.1
    have d1_1 := p1_1.2.1
    have f1_1 := p1_1.2.2.1
    have g1_1 := p1_1.2.2.2
    have p2_1 := p2_0.below h1
    have c2_1 := p2_1.1
    have d2_1 := p2_1.2.1
    have f2_1 := p2_1.2.2.1
    have g2_1 := p2_1.2.2.2
    go_wp2_with fail
    refine (fixed_any _).mono ?_
    rintro e w2 ⟨rfl, h2⟩
    have hb2 := hb1.trans (h2.mono hb1.size)
    have p0_2 := p0_1.below h2
    have c0_2 := p0_2.1
    have d0_2 := p0_2.2.1
    have f0_2 := p0_2.2.2.1
    have g0_2 := p0_2.2.2.2
    have p1_2 := p1_1.below h2
    have c1_2 := p1_2.1
    have d1_2 := p1_2.2.1
    have f1_2 := p1_2.2.2.1
    have g1_2 := p1_2.2.2.2
    have p2_2 := p2_1.below h2
    have c2_2 := p2_2.1
    have d2_2 := p2_2.2.1
    have f2_2 := p2_2.2.2.1
    have g2_2 := p2_2.2.2.2
    go_wp2
    go_ret
    exact ⟨rfl, hb2⟩
  have hb1 := hb0.trans (h1.mono hb0.size)
  have p0_1 := p0_0.below h1
  have c0_1 := p0_1.1
  have d0_1 := p0_1.2.1
  have f0_1 := p0_1.2.2.1
  have g0_1 := p0_1.2.2.2
  have p1_1 := p1_0.below h1
  have c1_1 := p1_1.1
  have d1_1 := p1_1.2.1
  have f1_1 := p1_1.2.2.1
  have g1_1 := p1_1.2.2.2
  have p2_1 := p2_0.below h1
  have c2_1 := p2_1.1
  have d2_1 := p2_1.2.1
  have f2_1 := p2_1.2.2.1
  have g2_1 := p2_1.2.2.2
  go_wp2_with fail
  refine (sgreat_is blo bhi _).mono ?_
  rintro e w2 ⟨rfl | ⟨rfl, _, _⟩, h2⟩
  · skip
    have hb2 := hb1.trans (h2.mono hb1.size)
    have p0_2 := p0_1.below h2
    have c0_2 := p0_2.1
    have d0_2 := p0_2.2.1
    have f0_2 := p0_2.2.2.1
    have g0_2 := p0_2.2.2.2
    have p1_2 := p1_1.below h2
    have c1_2 := p1_2.1
    have d1_2 := p1_2.2.1
    have f1_2 := p1_2.2.2.1
    have g1_2 := p1_2.2.2.2
    have p2_2 := p2_1.below h2
    have c2_2 := p2_2.1
    have d2_2 := p2_2.2.1
    have f2_2 := p2_2.2.2.1
    have g2_2 := p2_2.2.2.2
    go_wp2_with fail
    refine (fixed_any _).mono ?_
    rintro e w3 ⟨rfl, h3⟩
    have hb3 := hb2.trans (h3.mono hb2.size)
    have p0_3 := p0_2.below h3
    have c0_3 := p0_3.1
    have d0_3 := p0_3.2.1
    have f0_3 := p0_3.2.2.1
    have g0_3 := p0_3.2.2.2
    have p1_3 := p1_2.below h3
    have c1_3 := p1_3.1
    have d1_3 := p1_3.2.1
    have f1_3 := p1_3.2.2.1
    have g1_3 := p1_3.2.2.2
    have p2_3 := p2_2.below h3
    have c2_3 := p2_3.1
    have d2_3 := p2_3.2.1
    have f2_3 := p2_3.2.2.1
    have g2_3 := p2_3.2.2.2
    go_wp2
    go_ret
    exact ⟨rfl, hb3⟩
  have hb2 := hb1.trans (h2.mono hb1.size)
  have p0_2 := p0_1.below h2
  have c0_2 := p0_2.1
  have d0_2 := p0_2.2.1
  have f0_2 := p0_2.2.2.1
  have g0_2 := p0_2.2.2.2
  have p1_2 := p1_1.below h2
  have c1_2 := p1_2.1
  have d1_2 := p1_2.2.1
  have f1_2 := p1_2.2.2.1
  have g1_2 := p1_2.2.2.2
  have p2_2 := p2_1.below h2
  have c2_2 := p2_2.1
  have d2_2 := p2_2.2.1
  have f2_2 := p2_2.2.2.1
  have g2_2 := p2_2.2.2.2
  go_wp2_with fail
  refine (sgreat_is clo chi _).mono ?_
  rintro e w3 ⟨rfl | ⟨rfl, _, _⟩, h3⟩
  · skip
    have hb3 := hb2.trans (h3.mono hb2.size)
    have p0_3 := p0_2.below h3
    have c0_3 := p0_3.1
    have d0_3 := p0_3.2.1
    have f0_3 := p0_3.2.2.1
    have g0_3 := p0_3.2.2.2
    have p1_3 := p1_2.below h3
    have c1_3 := p1_3.1
    have d1_3 := p1_3.2.1
    have f1_3 := p1_3.2.2.1
    have g1_3 := p1_3.2.2.2
    have p2_3 := p2_2.below h3
    have c2_3 := p2_3.1
    have d2_3 := p2_3.2.1
    have f2_3 := p2_3.2.2.1
    have g2_3 := p2_3.2.2.2
    go_wp2_with fail
    refine (fixed_any _).mono ?_
    rintro e w4 ⟨rfl, h4⟩
    have hb4 := hb3.trans (h4.mono hb3.size)
    have p0_4 := p0_3.below h4
    have c0_4 := p0_4.1
    have d0_4 := p0_4.2.1
    have f0_4 := p0_4.2.2.1
    have g0_4 := p0_4.2.2.2
    have p1_4 := p1_3.below h4
    have c1_4 := p1_4.1
    have d1_4 := p1_4.2.1
    have f1_4 := p1_4.2.2.1
    have g1_4 := p1_4.2.2.2
    have p2_4 := p2_3.below h4
    have c2_4 := p2_4.1
    have d2_4 := p2_4.2.1
    have f2_4 := p2_4.2.2.1
    have g2_4 := p2_4.2.2.2
    go_wp2
    go_ret
    exact ⟨rfl, hb4⟩
  have hb3 := hb2.trans (h3.mono hb2.size)
  have p0_3 := p0_2.below h3
  have c0_3 := p0_3.1
  have d0_3 := p0_3.2.1
  have f0_3 := p0_3.2.2.1
  have g0_3 := p0_3.2.2.2
  have p1_3 := p1_2.below h3
  have c1_3 := p1_3.1
  have d1_3 := p1_3.2.1
  have f1_3 := p1_3.2.2.1
  have g1_3 := p1_3.2.2.2
  have p2_3 := p2_2.below h3
  have c2_3 := p2_3.1
  have d2_3 := p2_3.2.1
  have f2_3 := p2_3.2.2.1
  have g2_3 := p2_3.2.2.2
  by_cases h3 : 3000 < v.size
  · have g1 : (3000 : Int) < v.size := by omega
    clear h3
    go_wp2_with fail
    refine (fixed_any _).mono ?_
    rintro e w4 ⟨rfl, h4⟩
    have hb4 := hb3.trans (h4.mono hb3.size)
    have p0_4 := p0_3.below h4
    have c0_4 := p0_4.1
    have d0_4 := p0_4.2.1
    have f0_4 := p0_4.2.2.1
    have g0_4 := p0_4.2.2.2
    have p1_4 := p1_3.below h4
    have c1_4 := p1_4.1
    have d1_4 := p1_4.2.1
    have f1_4 := p1_4.2.2.1
    have g1_4 := p1_4.2.2.2
    have p2_4 := p2_3.below h4
    have c2_4 := p2_4.1
    have d2_4 := p2_4.2.1
    have f2_4 := p2_4.2.2.1
    have g2_4 := p2_4.2.2.2
    go_wp2
    go_ret
    exact ⟨rfl, hb4⟩
  have g1 : ¬ (3000 : Int) < v.size := by omega
  clear h3
  obtain ⟨lo, hi, hm⟩ : ∃ lo hi, sjoin alo ahi blo bhi = (lo, hi) := ⟨_, _, rfl⟩
  have Hm := Lib.hid hm
  go_wp2_with fail
  refine (join_is alo ahi blo bhi _ _ Hm.out _).mono ?_
  rintro e w4 ⟨rfl, h4⟩
  have hb4 := hb3.trans (h4.mono hb3.size)
  have p0_4 := p0_3.below h4
  have c0_4 := p0_4.1
  have d0_4 := p0_4.2.1
  have f0_4 := p0_4.2.2.1
  have g0_4 := p0_4.2.2.2
  have p1_4 := p1_3.below h4
  have c1_4 := p1_4.1
  have d1_4 := p1_4.2.1
  have f1_4 := p1_4.2.2.1
  have g1_4 := p1_4.2.2.2
  have p2_4 := p2_3.below h4
  have c2_4 := p2_4.1
  have d2_4 := p2_4.2.1
  have f2_4 := p2_4.2.2.1
  have g2_4 := p2_4.2.2.2
  have lt0 := World.block_lt_of_cell? _ _ p0_4.1
  have lt1 := World.block_lt_of_cell? _ _ p1_4.1
  have lt2 := World.block_lt_of_cell? _ _ p2_4.1
  have le3 := hb4.size
  have hb4 := hb4.alloc hb4.size (.cells #[.string (lo), .string (hi)] 23)
  have p0_4 := p0_4.below (below_new _ (.cells #[.string (lo), .string (hi)] 23))
  have p1_4 := p1_4.below (below_new _ (.cells #[.string (lo), .string (hi)] 23))
  have p2_4 := p2_4.below (below_new _ (.cells #[.string (lo), .string (hi)] 23))
  have p3_4 := pair_new w4 (lo) (hi) 23
  cases hma : smay alo.data.toList ahi.data.toList with
  | false =>
    have hz : lo = ⟨#[]⟩ ∧ hi = ⟨#[]⟩ := by unfold sjoin at hm; rw [hma] at hm; injection hm with h1 h2; exact ⟨h1.symm, h2.symm⟩
    obtain ⟨rfl, rfl⟩ := hz
    have Hma := Lib.hid hma
    clear hma hm
    go_wp2_with fail
    refine (refSMay_is alo ahi _ Hma.out _).mono ?_
    rintro e w5 ⟨rfl, h5⟩
    have hb5 := hb4.trans (h5.mono hb4.size)
    have p0_5 := p0_4.below h5
    have c0_5 := p0_5.1
    have d0_5 := p0_5.2.1
    have f0_5 := p0_5.2.2.1
    have g0_5 := p0_5.2.2.2
    have p1_5 := p1_4.below h5
    have c1_5 := p1_5.1
    have d1_5 := p1_5.2.1
    have f1_5 := p1_5.2.2.1
    have g1_5 := p1_5.2.2.2
    have p2_5 := p2_4.below h5
    have c2_5 := p2_5.1
    have d2_5 := p2_5.2.1
    have f2_5 := p2_5.2.2.1
    have g2_5 := p2_5.2.2.2
    have p3_5 := p3_4.below h5
    have c3_5 := p3_5.1
    have d3_5 := p3_5.2.1
    have f3_5 := p3_5.2.2.1
    have g3_5 := p3_5.2.2.2
    go_wp2_with fail
    refine (fixed_any _).mono ?_
    rintro e w6 ⟨rfl, h6⟩
    have hb6 := hb5.trans (h6.mono hb5.size)
    have p0_6 := p0_5.below h6
    have c0_6 := p0_6.1
    have d0_6 := p0_6.2.1
    have f0_6 := p0_6.2.2.1
    have g0_6 := p0_6.2.2.2
    have p1_6 := p1_5.below h6
    have c1_6 := p1_6.1
    have d1_6 := p1_6.2.1
    have f1_6 := p1_6.2.2.1
    have g1_6 := p1_6.2.2.2
    have p2_6 := p2_5.below h6
    have c2_6 := p2_6.1
    have d2_6 := p2_6.2.1
    have f2_6 := p2_6.2.2.1
    have g2_6 := p2_6.2.2.2
    have p3_6 := p3_5.below h6
    have c3_6 := p3_6.1
    have d3_6 := p3_6.2.1
    have f3_6 := p3_6.2.2.1
    have g3_6 := p3_6.2.2.2
    go_wp2
    go_ret
    exact ⟨rfl, hb6⟩
  | true =>
  cases hmb : smay blo.data.toList bhi.data.toList with
  | false =>
    have hz : lo = ⟨#[]⟩ ∧ hi = ⟨#[]⟩ := by unfold sjoin at hm; rw [hma, hmb] at hm; injection hm with h1 h2; exact ⟨h1.symm, h2.symm⟩
    obtain ⟨rfl, rfl⟩ := hz
    have Hma := Lib.hid hma
    have Hmb := Lib.hid hmb
    clear hma hmb hm
    go_wp2_with fail
    refine (refSMay_is alo ahi _ Hma.out _).mono ?_
    rintro e w5 ⟨rfl, h5⟩
    have hb5 := hb4.trans (h5.mono hb4.size)
    have p0_5 := p0_4.below h5
    have c0_5 := p0_5.1
    have d0_5 := p0_5.2.1
    have f0_5 := p0_5.2.2.1
    have g0_5 := p0_5.2.2.2
    have p1_5 := p1_4.below h5
    have c1_5 := p1_5.1
    have d1_5 := p1_5.2.1
    have f1_5 := p1_5.2.2.1
    have g1_5 := p1_5.2.2.2
    have p2_5 := p2_4.below h5
    have c2_5 := p2_5.1
    have d2_5 := p2_5.2.1
    have f2_5 := p2_5.2.2.1
    have g2_5 := p2_5.2.2.2
    have p3_5 := p3_4.below h5
    have c3_5 := p3_5.1
    have d3_5 := p3_5.2.1
    have f3_5 := p3_5.2.2.1
    have g3_5 := p3_5.2.2.2
    go_wp2_with fail
    refine (refSMay_is blo bhi _ Hmb.out _).mono ?_
    rintro e w6 ⟨rfl, h6⟩
    have hb6 := hb5.trans (h6.mono hb5.size)
    have p0_6 := p0_5.below h6
    have c0_6 := p0_6.1
    have d0_6 := p0_6.2.1
    have f0_6 := p0_6.2.2.1
    have g0_6 := p0_6.2.2.2
    have p1_6 := p1_5.below h6
    have c1_6 := p1_6.1
    have d1_6 := p1_6.2.1
    have f1_6 := p1_6.2.2.1
    have g1_6 := p1_6.2.2.2
    have p2_6 := p2_5.below h6
    have c2_6 := p2_6.1
    have d2_6 := p2_6.2.1
    have f2_6 := p2_6.2.2.1
    have g2_6 := p2_6.2.2.2
    have p3_6 := p3_5.below h6
    have c3_6 := p3_6.1
    have d3_6 := p3_6.2.1
    have f3_6 := p3_6.2.2.1
    have g3_6 := p3_6.2.2.2
    go_wp2_with fail
    refine (fixed_any _).mono ?_
    rintro e w7 ⟨rfl, h7⟩
    have hb7 := hb6.trans (h7.mono hb6.size)
    have p0_7 := p0_6.below h7
    have c0_7 := p0_7.1
    have d0_7 := p0_7.2.1
    have f0_7 := p0_7.2.2.1
    have g0_7 := p0_7.2.2.2
    have p1_7 := p1_6.below h7
    have c1_7 := p1_7.1
    have d1_7 := p1_7.2.1
    have f1_7 := p1_7.2.2.1
    have g1_7 := p1_7.2.2.2
    have p2_7 := p2_6.below h7
    have c2_7 := p2_7.1
    have d2_7 := p2_7.2.1
    have f2_7 := p2_7.2.2.1
    have g2_7 := p2_7.2.2.2
    have p3_7 := p3_6.below h7
    have c3_7 := p3_7.1
    have d3_7 := p3_7.2.1
    have f3_7 := p3_7.2.2.1
    have g3_7 := p3_7.2.2.2
    go_wp2
    go_ret
    exact ⟨rfl, hb7⟩
  | true =>
  have hz : jlo alo blo = lo ∧ jhi ahi bhi = hi := by unfold sjoin at hm; rw [hma, hmb] at hm; injection hm with h1 h2; exact ⟨h1, h2⟩
  have hwi := join_within hma hmb
  have hle := fun h1 h2 => join_least (alo := alo) (ahi := ahi) (blo := blo) (bhi := bhi) (clo := clo) (chi := chi) h1 h2
  rw [hz.1, hz.2] at hwi hle
  have Wa := Lib.hid hwi.1
  have Wb := Lib.hid hwi.2
  have Hle := Lib.hid hle
  have Hma := Lib.hid hma
  have Hmb := Lib.hid hmb
  clear hma hmb hm hz hwi hle
  obtain ⟨xa, hxa⟩ : ∃ x, shas alo.data.toList ahi.data.toList v.data.toList = x := ⟨_, rfl⟩
  obtain ⟨xb, hxb⟩ : ∃ x, shas blo.data.toList bhi.data.toList v.data.toList = x := ⟨_, rfl⟩
  obtain ⟨wa, hwa⟩ : ∃ x, swithin alo.data.toList ahi.data.toList clo.data.toList chi.data.toList = x := ⟨_, rfl⟩
  obtain ⟨wb, hwb⟩ : ∃ x, swithin blo.data.toList bhi.data.toList clo.data.toList chi.data.toList = x := ⟨_, rfl⟩
  have Sa := Lib.hid (fun (h : xa = true) => swithin_has Wa.out (hxa.trans h))
  have Sb := Lib.hid (fun (h : xb = true) => swithin_has Wb.out (hxb.trans h))
  have Sc := Lib.hid (fun (h : wa = true) (h2 : xa = true) => swithin_has (hwa.trans h) (hxa.trans h2))
  have Sl := Lib.hid (fun (h : wa = true) (h2 : wb = true) => Hle.out (hwa.trans h) (hwb.trans h2))
  have Xa := Lib.hid hxa
  have Xb := Lib.hid hxb
  have Ya := Lib.hid hwa
  have Yb := Lib.hid hwb
  clear hxa hxb hwa hwb Hle
  go_wp2_with fail
  refine (refSMay_is alo ahi _ Hma.out _).mono ?_
  rintro e w5 ⟨rfl, h5⟩
  have hb5 := hb4.trans (h5.mono hb4.size)
  have p0_5 := p0_4.below h5
  have c0_5 := p0_5.1
  have d0_5 := p0_5.2.1
  have f0_5 := p0_5.2.2.1
  have g0_5 := p0_5.2.2.2
  have p1_5 := p1_4.below h5
  have c1_5 := p1_5.1
  have d1_5 := p1_5.2.1
  have f1_5 := p1_5.2.2.1
  have g1_5 := p1_5.2.2.2
  have p2_5 := p2_4.below h5
  have c2_5 := p2_5.1
  have d2_5 := p2_5.2.1
  have f2_5 := p2_5.2.2.1
  have g2_5 := p2_5.2.2.2
  have p3_5 := p3_4.below h5
  have c3_5 := p3_5.1
  have d3_5 := p3_5.2.1
  have f3_5 := p3_5.2.2.1
  have g3_5 := p3_5.2.2.2
  go_wp2_with fail
  refine (refSMay_is blo bhi _ Hmb.out _).mono ?_
  rintro e w6 ⟨rfl, h6⟩
  have hb6 := hb5.trans (h6.mono hb5.size)
  have p0_6 := p0_5.below h6
  have c0_6 := p0_6.1
  have d0_6 := p0_6.2.1
  have f0_6 := p0_6.2.2.1
  have g0_6 := p0_6.2.2.2
  have p1_6 := p1_5.below h6
  have c1_6 := p1_6.1
  have d1_6 := p1_6.2.1
  have f1_6 := p1_6.2.2.1
  have g1_6 := p1_6.2.2.2
  have p2_6 := p2_5.below h6
  have c2_6 := p2_6.1
  have d2_6 := p2_6.2.1
  have f2_6 := p2_6.2.2.1
  have g2_6 := p2_6.2.2.2
  have p3_6 := p3_5.below h6
  have c3_6 := p3_6.1
  have d3_6 := p3_6.2.1
  have f3_6 := p3_6.2.2.1
  have g3_6 := p3_6.2.2.2
  go_wp2_with fail
  refine (refHas_is alo ahi v _ Xa.out _).mono ?_
  rintro e w7 ⟨rfl, h7⟩
  have hb7 := hb6.trans (h7.mono hb6.size)
  have p0_7 := p0_6.below h7
  have c0_7 := p0_7.1
  have d0_7 := p0_7.2.1
  have f0_7 := p0_7.2.2.1
  have g0_7 := p0_7.2.2.2
  have p1_7 := p1_6.below h7
  have c1_7 := p1_7.1
  have d1_7 := p1_7.2.1
  have f1_7 := p1_7.2.2.1
  have g1_7 := p1_7.2.2.2
  have p2_7 := p2_6.below h7
  have c2_7 := p2_7.1
  have d2_7 := p2_7.2.1
  have f2_7 := p2_7.2.2.1
  have g2_7 := p2_7.2.2.2
  have p3_7 := p3_6.below h7
  have c3_7 := p3_7.1
  have d3_7 := p3_7.2.1
  have f3_7 := p3_7.2.2.1
  have g3_7 := p3_7.2.2.2
  cases xa with
  | true =>
    have Ta := Lib.hid (Sa.out rfl)
    clear Sa Sb
    go_wp2_with fail
    refine (refHas_is lo hi v _ Ta.out _).mono ?_
    rintro e w8 ⟨rfl, h8⟩
    have hb8 := hb7.trans (h8.mono hb7.size)
    have p0_8 := p0_7.below h8
    have c0_8 := p0_8.1
    have d0_8 := p0_8.2.1
    have f0_8 := p0_8.2.2.1
    have g0_8 := p0_8.2.2.2
    have p1_8 := p1_7.below h8
    have c1_8 := p1_8.1
    have d1_8 := p1_8.2.1
    have f1_8 := p1_8.2.2.1
    have g1_8 := p1_8.2.2.2
    have p2_8 := p2_7.below h8
    have c2_8 := p2_8.1
    have d2_8 := p2_8.2.1
    have f2_8 := p2_8.2.2.1
    have g2_8 := p2_8.2.2.2
    have p3_8 := p3_7.below h8
    have c3_8 := p3_8.1
    have d3_8 := p3_8.2.1
    have f3_8 := p3_8.2.2.1
    have g3_8 := p3_8.2.2.2
    go_wp2_with fail
    refine (within_is alo ahi lo hi _ Wa.out _).mono ?_
    rintro e w9 ⟨rfl, h9⟩
    have hb9 := hb8.trans (h9.mono hb8.size)
    have p0_9 := p0_8.below h9
    have c0_9 := p0_9.1
    have d0_9 := p0_9.2.1
    have f0_9 := p0_9.2.2.1
    have g0_9 := p0_9.2.2.2
    have p1_9 := p1_8.below h9
    have c1_9 := p1_9.1
    have d1_9 := p1_9.2.1
    have f1_9 := p1_9.2.2.1
    have g1_9 := p1_9.2.2.2
    have p2_9 := p2_8.below h9
    have c2_9 := p2_9.1
    have d2_9 := p2_9.2.1
    have f2_9 := p2_9.2.2.1
    have g2_9 := p2_9.2.2.2
    have p3_9 := p3_8.below h9
    have c3_9 := p3_9.1
    have d3_9 := p3_9.2.1
    have f3_9 := p3_9.2.2.1
    have g3_9 := p3_9.2.2.2
    go_wp2_with fail
    refine (within_is blo bhi lo hi _ Wb.out _).mono ?_
    rintro e w10 ⟨rfl, h10⟩
    have hb10 := hb9.trans (h10.mono hb9.size)
    have p0_10 := p0_9.below h10
    have c0_10 := p0_10.1
    have d0_10 := p0_10.2.1
    have f0_10 := p0_10.2.2.1
    have g0_10 := p0_10.2.2.2
    have p1_10 := p1_9.below h10
    have c1_10 := p1_10.1
    have d1_10 := p1_10.2.1
    have f1_10 := p1_10.2.2.1
    have g1_10 := p1_10.2.2.2
    have p2_10 := p2_9.below h10
    have c2_10 := p2_10.1
    have d2_10 := p2_10.2.1
    have f2_10 := p2_10.2.2.1
    have g2_10 := p2_10.2.2.2
    have p3_10 := p3_9.below h10
    have c3_10 := p3_10.1
    have d3_10 := p3_10.2.1
    have f3_10 := p3_10.2.2.1
    have g3_10 := p3_10.2.2.2
    go_wp2_with fail
    refine (fixed_any _).mono ?_
    rintro e w11 ⟨rfl, h11⟩
    have hb11 := hb10.trans (h11.mono hb10.size)
    have p0_11 := p0_10.below h11
    have c0_11 := p0_11.1
    have d0_11 := p0_11.2.1
    have f0_11 := p0_11.2.2.1
    have g0_11 := p0_11.2.2.2
    have p1_11 := p1_10.below h11
    have c1_11 := p1_11.1
    have d1_11 := p1_11.2.1
    have f1_11 := p1_11.2.2.1
    have g1_11 := p1_11.2.2.2
    have p2_11 := p2_10.below h11
    have c2_11 := p2_11.1
    have d2_11 := p2_11.2.1
    have f2_11 := p2_11.2.2.1
    have g2_11 := p2_11.2.2.2
    have p3_11 := p3_10.below h11
    have c3_11 := p3_11.1
    have d3_11 := p3_11.2.1
    have f3_11 := p3_11.2.2.1
    have g3_11 := p3_11.2.2.2
    cases wa with
    | false =>
      clear Sc Sl
      go_wp2_with fail
      refine (within_is alo ahi clo chi _ Ya.out _).mono ?_
      rintro e w12 ⟨rfl, h12⟩
      have hb12 := hb11.trans (h12.mono hb11.size)
      have p0_12 := p0_11.below h12
      have c0_12 := p0_12.1
      have d0_12 := p0_12.2.1
      have f0_12 := p0_12.2.2.1
      have g0_12 := p0_12.2.2.2
      have p1_12 := p1_11.below h12
      have c1_12 := p1_12.1
      have d1_12 := p1_12.2.1
      have f1_12 := p1_12.2.2.1
      have g1_12 := p1_12.2.2.2
      have p2_12 := p2_11.below h12
      have c2_12 := p2_12.1
      have d2_12 := p2_12.2.1
      have f2_12 := p2_12.2.2.1
      have g2_12 := p2_12.2.2.2
      have p3_12 := p3_11.below h12
      have c3_12 := p3_12.1
      have d3_12 := p3_12.2.1
      have f3_12 := p3_12.2.2.1
      have g3_12 := p3_12.2.2.2
      go_wp2_with fail
      refine (within_is alo ahi clo chi _ Ya.out _).mono ?_
      rintro e w13 ⟨rfl, h13⟩
      have hb13 := hb12.trans (h13.mono hb12.size)
      have p0_13 := p0_12.below h13
      have c0_13 := p0_13.1
      have d0_13 := p0_13.2.1
      have f0_13 := p0_13.2.2.1
      have g0_13 := p0_13.2.2.2
      have p1_13 := p1_12.below h13
      have c1_13 := p1_13.1
      have d1_13 := p1_13.2.1
      have f1_13 := p1_13.2.2.1
      have g1_13 := p1_13.2.2.2
      have p2_13 := p2_12.below h13
      have c2_13 := p2_13.1
      have d2_13 := p2_13.2.1
      have f2_13 := p2_13.2.2.1
      have g2_13 := p2_13.2.2.2
      have p3_13 := p3_12.below h13
      have c3_13 := p3_13.1
      have d3_13 := p3_13.2.1
      have f3_13 := p3_13.2.2.1
      have g3_13 := p3_13.2.2.2
      go_wp2
      go_ret
      exact ⟨by simp, hb13⟩
    | true =>
      have Tc := Lib.hid (Sc.out rfl trivial)
      have Tl := Lib.hid (Sl.out rfl)
      clear Sc Sl
      cases wb with
      | false =>
        clear Tl
        go_wp2_with fail
        refine (within_is alo ahi clo chi _ Ya.out _).mono ?_
        rintro e w12 ⟨rfl, h12⟩
        have hb12 := hb11.trans (h12.mono hb11.size)
        have p0_12 := p0_11.below h12
        have c0_12 := p0_12.1
        have d0_12 := p0_12.2.1
        have f0_12 := p0_12.2.2.1
        have g0_12 := p0_12.2.2.2
        have p1_12 := p1_11.below h12
        have c1_12 := p1_12.1
        have d1_12 := p1_12.2.1
        have f1_12 := p1_12.2.2.1
        have g1_12 := p1_12.2.2.2
        have p2_12 := p2_11.below h12
        have c2_12 := p2_12.1
        have d2_12 := p2_12.2.1
        have f2_12 := p2_12.2.2.1
        have g2_12 := p2_12.2.2.2
        have p3_12 := p3_11.below h12
        have c3_12 := p3_12.1
        have d3_12 := p3_12.2.1
        have f3_12 := p3_12.2.2.1
        have g3_12 := p3_12.2.2.2
        go_wp2_with fail
        refine (within_is blo bhi clo chi _ Yb.out _).mono ?_
        rintro e w13 ⟨rfl, h13⟩
        have hb13 := hb12.trans (h13.mono hb12.size)
        have p0_13 := p0_12.below h13
        have c0_13 := p0_13.1
        have d0_13 := p0_13.2.1
        have f0_13 := p0_13.2.2.1
        have g0_13 := p0_13.2.2.2
        have p1_13 := p1_12.below h13
        have c1_13 := p1_13.1
        have d1_13 := p1_13.2.1
        have f1_13 := p1_13.2.2.1
        have g1_13 := p1_13.2.2.2
        have p2_13 := p2_12.below h13
        have c2_13 := p2_13.1
        have d2_13 := p2_13.2.1
        have f2_13 := p2_13.2.2.1
        have g2_13 := p2_13.2.2.2
        have p3_13 := p3_12.below h13
        have c3_13 := p3_13.1
        have d3_13 := p3_13.2.1
        have f3_13 := p3_13.2.2.1
        have g3_13 := p3_13.2.2.2
        go_wp2_with fail
        refine (within_is alo ahi clo chi _ Ya.out _).mono ?_
        rintro e w14 ⟨rfl, h14⟩
        have hb14 := hb13.trans (h14.mono hb13.size)
        have p0_14 := p0_13.below h14
        have c0_14 := p0_14.1
        have d0_14 := p0_14.2.1
        have f0_14 := p0_14.2.2.1
        have g0_14 := p0_14.2.2.2
        have p1_14 := p1_13.below h14
        have c1_14 := p1_14.1
        have d1_14 := p1_14.2.1
        have f1_14 := p1_14.2.2.1
        have g1_14 := p1_14.2.2.2
        have p2_14 := p2_13.below h14
        have c2_14 := p2_14.1
        have d2_14 := p2_14.2.1
        have f2_14 := p2_14.2.2.1
        have g2_14 := p2_14.2.2.2
        have p3_14 := p3_13.below h14
        have c3_14 := p3_14.1
        have d3_14 := p3_14.2.1
        have f3_14 := p3_14.2.2.1
        have g3_14 := p3_14.2.2.2
        go_wp2_with fail
        refine (refHas_is alo ahi v _ Xa.out _).mono ?_
        rintro e w15 ⟨rfl, h15⟩
        have hb15 := hb14.trans (h15.mono hb14.size)
        have p0_15 := p0_14.below h15
        have c0_15 := p0_15.1
        have d0_15 := p0_15.2.1
        have f0_15 := p0_15.2.2.1
        have g0_15 := p0_15.2.2.2
        have p1_15 := p1_14.below h15
        have c1_15 := p1_15.1
        have d1_15 := p1_15.2.1
        have f1_15 := p1_15.2.2.1
        have g1_15 := p1_15.2.2.2
        have p2_15 := p2_14.below h15
        have c2_15 := p2_15.1
        have d2_15 := p2_15.2.1
        have f2_15 := p2_15.2.2.1
        have g2_15 := p2_15.2.2.2
        have p3_15 := p3_14.below h15
        have c3_15 := p3_15.1
        have d3_15 := p3_15.2.1
        have f3_15 := p3_15.2.2.1
        have g3_15 := p3_15.2.2.2
        go_wp2_with fail
        refine (refHas_is clo chi v _ Tc.out _).mono ?_
        rintro e w16 ⟨rfl, h16⟩
        have hb16 := hb15.trans (h16.mono hb15.size)
        have p0_16 := p0_15.below h16
        have c0_16 := p0_16.1
        have d0_16 := p0_16.2.1
        have f0_16 := p0_16.2.2.1
        have g0_16 := p0_16.2.2.2
        have p1_16 := p1_15.below h16
        have c1_16 := p1_16.1
        have d1_16 := p1_16.2.1
        have f1_16 := p1_16.2.2.1
        have g1_16 := p1_16.2.2.2
        have p2_16 := p2_15.below h16
        have c2_16 := p2_16.1
        have d2_16 := p2_16.2.1
        have f2_16 := p2_16.2.2.1
        have g2_16 := p2_16.2.2.2
        have p3_16 := p3_15.below h16
        have c3_16 := p3_16.1
        have d3_16 := p3_16.2.1
        have f3_16 := p3_16.2.2.1
        have g3_16 := p3_16.2.2.2
        go_wp2
        go_ret
        exact ⟨by simp, hb16⟩
      | true =>
        have Tm := Lib.hid (Tl.out rfl)
        clear Tl
        go_wp2_with fail
        refine (within_is alo ahi clo chi _ Ya.out _).mono ?_
        rintro e w12 ⟨rfl, h12⟩
        have hb12 := hb11.trans (h12.mono hb11.size)
        have p0_12 := p0_11.below h12
        have c0_12 := p0_12.1
        have d0_12 := p0_12.2.1
        have f0_12 := p0_12.2.2.1
        have g0_12 := p0_12.2.2.2
        have p1_12 := p1_11.below h12
        have c1_12 := p1_12.1
        have d1_12 := p1_12.2.1
        have f1_12 := p1_12.2.2.1
        have g1_12 := p1_12.2.2.2
        have p2_12 := p2_11.below h12
        have c2_12 := p2_12.1
        have d2_12 := p2_12.2.1
        have f2_12 := p2_12.2.2.1
        have g2_12 := p2_12.2.2.2
        have p3_12 := p3_11.below h12
        have c3_12 := p3_12.1
        have d3_12 := p3_12.2.1
        have f3_12 := p3_12.2.2.1
        have g3_12 := p3_12.2.2.2
        go_wp2_with fail
        refine (within_is blo bhi clo chi _ Yb.out _).mono ?_
        rintro e w13 ⟨rfl, h13⟩
        have hb13 := hb12.trans (h13.mono hb12.size)
        have p0_13 := p0_12.below h13
        have c0_13 := p0_13.1
        have d0_13 := p0_13.2.1
        have f0_13 := p0_13.2.2.1
        have g0_13 := p0_13.2.2.2
        have p1_13 := p1_12.below h13
        have c1_13 := p1_13.1
        have d1_13 := p1_13.2.1
        have f1_13 := p1_13.2.2.1
        have g1_13 := p1_13.2.2.2
        have p2_13 := p2_12.below h13
        have c2_13 := p2_13.1
        have d2_13 := p2_13.2.1
        have f2_13 := p2_13.2.2.1
        have g2_13 := p2_13.2.2.2
        have p3_13 := p3_12.below h13
        have c3_13 := p3_13.1
        have d3_13 := p3_13.2.1
        have f3_13 := p3_13.2.2.1
        have g3_13 := p3_13.2.2.2
        go_wp2_with fail
        refine (within_is lo hi clo chi _ Tm.out _).mono ?_
        rintro e w14 ⟨rfl, h14⟩
        have hb14 := hb13.trans (h14.mono hb13.size)
        have p0_14 := p0_13.below h14
        have c0_14 := p0_14.1
        have d0_14 := p0_14.2.1
        have f0_14 := p0_14.2.2.1
        have g0_14 := p0_14.2.2.2
        have p1_14 := p1_13.below h14
        have c1_14 := p1_14.1
        have d1_14 := p1_14.2.1
        have f1_14 := p1_14.2.2.1
        have g1_14 := p1_14.2.2.2
        have p2_14 := p2_13.below h14
        have c2_14 := p2_14.1
        have d2_14 := p2_14.2.1
        have f2_14 := p2_14.2.2.1
        have g2_14 := p2_14.2.2.2
        have p3_14 := p3_13.below h14
        have c3_14 := p3_14.1
        have d3_14 := p3_14.2.1
        have f3_14 := p3_14.2.2.1
        have g3_14 := p3_14.2.2.2
        go_wp2_with fail
        refine (within_is alo ahi clo chi _ Ya.out _).mono ?_
        rintro e w15 ⟨rfl, h15⟩
        have hb15 := hb14.trans (h15.mono hb14.size)
        have p0_15 := p0_14.below h15
        have c0_15 := p0_15.1
        have d0_15 := p0_15.2.1
        have f0_15 := p0_15.2.2.1
        have g0_15 := p0_15.2.2.2
        have p1_15 := p1_14.below h15
        have c1_15 := p1_15.1
        have d1_15 := p1_15.2.1
        have f1_15 := p1_15.2.2.1
        have g1_15 := p1_15.2.2.2
        have p2_15 := p2_14.below h15
        have c2_15 := p2_15.1
        have d2_15 := p2_15.2.1
        have f2_15 := p2_15.2.2.1
        have g2_15 := p2_15.2.2.2
        have p3_15 := p3_14.below h15
        have c3_15 := p3_15.1
        have d3_15 := p3_15.2.1
        have f3_15 := p3_15.2.2.1
        have g3_15 := p3_15.2.2.2
        go_wp2_with fail
        refine (refHas_is alo ahi v _ Xa.out _).mono ?_
        rintro e w16 ⟨rfl, h16⟩
        have hb16 := hb15.trans (h16.mono hb15.size)
        have p0_16 := p0_15.below h16
        have c0_16 := p0_16.1
        have d0_16 := p0_16.2.1
        have f0_16 := p0_16.2.2.1
        have g0_16 := p0_16.2.2.2
        have p1_16 := p1_15.below h16
        have c1_16 := p1_16.1
        have d1_16 := p1_16.2.1
        have f1_16 := p1_16.2.2.1
        have g1_16 := p1_16.2.2.2
        have p2_16 := p2_15.below h16
        have c2_16 := p2_16.1
        have d2_16 := p2_16.2.1
        have f2_16 := p2_16.2.2.1
        have g2_16 := p2_16.2.2.2
        have p3_16 := p3_15.below h16
        have c3_16 := p3_16.1
        have d3_16 := p3_16.2.1
        have f3_16 := p3_16.2.2.1
        have g3_16 := p3_16.2.2.2
        go_wp2_with fail
        refine (refHas_is clo chi v _ Tc.out _).mono ?_
        rintro e w17 ⟨rfl, h17⟩
        have hb17 := hb16.trans (h17.mono hb16.size)
        have p0_17 := p0_16.below h17
        have c0_17 := p0_17.1
        have d0_17 := p0_17.2.1
        have f0_17 := p0_17.2.2.1
        have g0_17 := p0_17.2.2.2
        have p1_17 := p1_16.below h17
        have c1_17 := p1_17.1
        have d1_17 := p1_17.2.1
        have f1_17 := p1_17.2.2.1
        have g1_17 := p1_17.2.2.2
        have p2_17 := p2_16.below h17
        have c2_17 := p2_17.1
        have d2_17 := p2_17.2.1
        have f2_17 := p2_17.2.2.1
        have g2_17 := p2_17.2.2.2
        have p3_17 := p3_16.below h17
        have c3_17 := p3_17.1
        have d3_17 := p3_17.2.1
        have f3_17 := p3_17.2.2.1
        have g3_17 := p3_17.2.2.2
        go_wp2
        go_ret
        exact ⟨by simp, hb17⟩
  | false =>
    clear Sa
    go_wp2_with fail
    refine (refHas_is blo bhi v _ Xb.out _).mono ?_
    rintro e w8 ⟨rfl, h8⟩
    have hb8 := hb7.trans (h8.mono hb7.size)
    have p0_8 := p0_7.below h8
    have c0_8 := p0_8.1
    have d0_8 := p0_8.2.1
    have f0_8 := p0_8.2.2.1
    have g0_8 := p0_8.2.2.2
    have p1_8 := p1_7.below h8
    have c1_8 := p1_8.1
    have d1_8 := p1_8.2.1
    have f1_8 := p1_8.2.2.1
    have g1_8 := p1_8.2.2.2
    have p2_8 := p2_7.below h8
    have c2_8 := p2_8.1
    have d2_8 := p2_8.2.1
    have f2_8 := p2_8.2.2.1
    have g2_8 := p2_8.2.2.2
    have p3_8 := p3_7.below h8
    have c3_8 := p3_8.1
    have d3_8 := p3_8.2.1
    have f3_8 := p3_8.2.2.1
    have g3_8 := p3_8.2.2.2
    cases xb with
    | true =>
      have Tb := Lib.hid (Sb.out rfl)
      clear Sb
      go_wp2_with fail
      refine (refHas_is lo hi v _ Tb.out _).mono ?_
      rintro e w9 ⟨rfl, h9⟩
      have hb9 := hb8.trans (h9.mono hb8.size)
      have p0_9 := p0_8.below h9
      have c0_9 := p0_9.1
      have d0_9 := p0_9.2.1
      have f0_9 := p0_9.2.2.1
      have g0_9 := p0_9.2.2.2
      have p1_9 := p1_8.below h9
      have c1_9 := p1_9.1
      have d1_9 := p1_9.2.1
      have f1_9 := p1_9.2.2.1
      have g1_9 := p1_9.2.2.2
      have p2_9 := p2_8.below h9
      have c2_9 := p2_9.1
      have d2_9 := p2_9.2.1
      have f2_9 := p2_9.2.2.1
      have g2_9 := p2_9.2.2.2
      have p3_9 := p3_8.below h9
      have c3_9 := p3_9.1
      have d3_9 := p3_9.2.1
      have f3_9 := p3_9.2.2.1
      have g3_9 := p3_9.2.2.2
      go_wp2_with fail
      refine (within_is alo ahi lo hi _ Wa.out _).mono ?_
      rintro e w10 ⟨rfl, h10⟩
      have hb10 := hb9.trans (h10.mono hb9.size)
      have p0_10 := p0_9.below h10
      have c0_10 := p0_10.1
      have d0_10 := p0_10.2.1
      have f0_10 := p0_10.2.2.1
      have g0_10 := p0_10.2.2.2
      have p1_10 := p1_9.below h10
      have c1_10 := p1_10.1
      have d1_10 := p1_10.2.1
      have f1_10 := p1_10.2.2.1
      have g1_10 := p1_10.2.2.2
      have p2_10 := p2_9.below h10
      have c2_10 := p2_10.1
      have d2_10 := p2_10.2.1
      have f2_10 := p2_10.2.2.1
      have g2_10 := p2_10.2.2.2
      have p3_10 := p3_9.below h10
      have c3_10 := p3_10.1
      have d3_10 := p3_10.2.1
      have f3_10 := p3_10.2.2.1
      have g3_10 := p3_10.2.2.2
      go_wp2_with fail
      refine (within_is blo bhi lo hi _ Wb.out _).mono ?_
      rintro e w11 ⟨rfl, h11⟩
      have hb11 := hb10.trans (h11.mono hb10.size)
      have p0_11 := p0_10.below h11
      have c0_11 := p0_11.1
      have d0_11 := p0_11.2.1
      have f0_11 := p0_11.2.2.1
      have g0_11 := p0_11.2.2.2
      have p1_11 := p1_10.below h11
      have c1_11 := p1_11.1
      have d1_11 := p1_11.2.1
      have f1_11 := p1_11.2.2.1
      have g1_11 := p1_11.2.2.2
      have p2_11 := p2_10.below h11
      have c2_11 := p2_11.1
      have d2_11 := p2_11.2.1
      have f2_11 := p2_11.2.2.1
      have g2_11 := p2_11.2.2.2
      have p3_11 := p3_10.below h11
      have c3_11 := p3_11.1
      have d3_11 := p3_11.2.1
      have f3_11 := p3_11.2.2.1
      have g3_11 := p3_11.2.2.2
      go_wp2_with fail
      refine (fixed_any _).mono ?_
      rintro e w12 ⟨rfl, h12⟩
      have hb12 := hb11.trans (h12.mono hb11.size)
      have p0_12 := p0_11.below h12
      have c0_12 := p0_12.1
      have d0_12 := p0_12.2.1
      have f0_12 := p0_12.2.2.1
      have g0_12 := p0_12.2.2.2
      have p1_12 := p1_11.below h12
      have c1_12 := p1_12.1
      have d1_12 := p1_12.2.1
      have f1_12 := p1_12.2.2.1
      have g1_12 := p1_12.2.2.2
      have p2_12 := p2_11.below h12
      have c2_12 := p2_12.1
      have d2_12 := p2_12.2.1
      have f2_12 := p2_12.2.2.1
      have g2_12 := p2_12.2.2.2
      have p3_12 := p3_11.below h12
      have c3_12 := p3_12.1
      have d3_12 := p3_12.2.1
      have f3_12 := p3_12.2.2.1
      have g3_12 := p3_12.2.2.2
      cases wa with
      | false =>
        clear Sc Sl
        go_wp2_with fail
        refine (within_is alo ahi clo chi _ Ya.out _).mono ?_
        rintro e w13 ⟨rfl, h13⟩
        have hb13 := hb12.trans (h13.mono hb12.size)
        have p0_13 := p0_12.below h13
        have c0_13 := p0_13.1
        have d0_13 := p0_13.2.1
        have f0_13 := p0_13.2.2.1
        have g0_13 := p0_13.2.2.2
        have p1_13 := p1_12.below h13
        have c1_13 := p1_13.1
        have d1_13 := p1_13.2.1
        have f1_13 := p1_13.2.2.1
        have g1_13 := p1_13.2.2.2
        have p2_13 := p2_12.below h13
        have c2_13 := p2_13.1
        have d2_13 := p2_13.2.1
        have f2_13 := p2_13.2.2.1
        have g2_13 := p2_13.2.2.2
        have p3_13 := p3_12.below h13
        have c3_13 := p3_13.1
        have d3_13 := p3_13.2.1
        have f3_13 := p3_13.2.2.1
        have g3_13 := p3_13.2.2.2
        go_wp2_with fail
        refine (within_is alo ahi clo chi _ Ya.out _).mono ?_
        rintro e w14 ⟨rfl, h14⟩
        have hb14 := hb13.trans (h14.mono hb13.size)
        have p0_14 := p0_13.below h14
        have c0_14 := p0_14.1
        have d0_14 := p0_14.2.1
        have f0_14 := p0_14.2.2.1
        have g0_14 := p0_14.2.2.2
        have p1_14 := p1_13.below h14
        have c1_14 := p1_14.1
        have d1_14 := p1_14.2.1
        have f1_14 := p1_14.2.2.1
        have g1_14 := p1_14.2.2.2
        have p2_14 := p2_13.below h14
        have c2_14 := p2_14.1
        have d2_14 := p2_14.2.1
        have f2_14 := p2_14.2.2.1
        have g2_14 := p2_14.2.2.2
        have p3_14 := p3_13.below h14
        have c3_14 := p3_14.1
        have d3_14 := p3_14.2.1
        have f3_14 := p3_14.2.2.1
        have g3_14 := p3_14.2.2.2
        go_wp2
        go_ret
        exact ⟨by simp, hb14⟩
      | true =>
        have Tl := Lib.hid (Sl.out rfl)
        clear Sc Sl
        cases wb with
        | false =>
          clear Tl
          go_wp2_with fail
          refine (within_is alo ahi clo chi _ Ya.out _).mono ?_
          rintro e w13 ⟨rfl, h13⟩
          have hb13 := hb12.trans (h13.mono hb12.size)
          have p0_13 := p0_12.below h13
          have c0_13 := p0_13.1
          have d0_13 := p0_13.2.1
          have f0_13 := p0_13.2.2.1
          have g0_13 := p0_13.2.2.2
          have p1_13 := p1_12.below h13
          have c1_13 := p1_13.1
          have d1_13 := p1_13.2.1
          have f1_13 := p1_13.2.2.1
          have g1_13 := p1_13.2.2.2
          have p2_13 := p2_12.below h13
          have c2_13 := p2_13.1
          have d2_13 := p2_13.2.1
          have f2_13 := p2_13.2.2.1
          have g2_13 := p2_13.2.2.2
          have p3_13 := p3_12.below h13
          have c3_13 := p3_13.1
          have d3_13 := p3_13.2.1
          have f3_13 := p3_13.2.2.1
          have g3_13 := p3_13.2.2.2
          go_wp2_with fail
          refine (within_is blo bhi clo chi _ Yb.out _).mono ?_
          rintro e w14 ⟨rfl, h14⟩
          have hb14 := hb13.trans (h14.mono hb13.size)
          have p0_14 := p0_13.below h14
          have c0_14 := p0_14.1
          have d0_14 := p0_14.2.1
          have f0_14 := p0_14.2.2.1
          have g0_14 := p0_14.2.2.2
          have p1_14 := p1_13.below h14
          have c1_14 := p1_14.1
          have d1_14 := p1_14.2.1
          have f1_14 := p1_14.2.2.1
          have g1_14 := p1_14.2.2.2
          have p2_14 := p2_13.below h14
          have c2_14 := p2_14.1
          have d2_14 := p2_14.2.1
          have f2_14 := p2_14.2.2.1
          have g2_14 := p2_14.2.2.2
          have p3_14 := p3_13.below h14
          have c3_14 := p3_14.1
          have d3_14 := p3_14.2.1
          have f3_14 := p3_14.2.2.1
          have g3_14 := p3_14.2.2.2
          go_wp2_with fail
          refine (within_is alo ahi clo chi _ Ya.out _).mono ?_
          rintro e w15 ⟨rfl, h15⟩
          have hb15 := hb14.trans (h15.mono hb14.size)
          have p0_15 := p0_14.below h15
          have c0_15 := p0_15.1
          have d0_15 := p0_15.2.1
          have f0_15 := p0_15.2.2.1
          have g0_15 := p0_15.2.2.2
          have p1_15 := p1_14.below h15
          have c1_15 := p1_15.1
          have d1_15 := p1_15.2.1
          have f1_15 := p1_15.2.2.1
          have g1_15 := p1_15.2.2.2
          have p2_15 := p2_14.below h15
          have c2_15 := p2_15.1
          have d2_15 := p2_15.2.1
          have f2_15 := p2_15.2.2.1
          have g2_15 := p2_15.2.2.2
          have p3_15 := p3_14.below h15
          have c3_15 := p3_15.1
          have d3_15 := p3_15.2.1
          have f3_15 := p3_15.2.2.1
          have g3_15 := p3_15.2.2.2
          go_wp2_with fail
          refine (refHas_is alo ahi v _ Xa.out _).mono ?_
          rintro e w16 ⟨rfl, h16⟩
          have hb16 := hb15.trans (h16.mono hb15.size)
          have p0_16 := p0_15.below h16
          have c0_16 := p0_16.1
          have d0_16 := p0_16.2.1
          have f0_16 := p0_16.2.2.1
          have g0_16 := p0_16.2.2.2
          have p1_16 := p1_15.below h16
          have c1_16 := p1_16.1
          have d1_16 := p1_16.2.1
          have f1_16 := p1_16.2.2.1
          have g1_16 := p1_16.2.2.2
          have p2_16 := p2_15.below h16
          have c2_16 := p2_16.1
          have d2_16 := p2_16.2.1
          have f2_16 := p2_16.2.2.1
          have g2_16 := p2_16.2.2.2
          have p3_16 := p3_15.below h16
          have c3_16 := p3_16.1
          have d3_16 := p3_16.2.1
          have f3_16 := p3_16.2.2.1
          have g3_16 := p3_16.2.2.2
          go_wp2
          go_ret
          exact ⟨by simp, hb16⟩
        | true =>
          have Tm := Lib.hid (Tl.out rfl)
          clear Tl
          go_wp2_with fail
          refine (within_is alo ahi clo chi _ Ya.out _).mono ?_
          rintro e w13 ⟨rfl, h13⟩
          have hb13 := hb12.trans (h13.mono hb12.size)
          have p0_13 := p0_12.below h13
          have c0_13 := p0_13.1
          have d0_13 := p0_13.2.1
          have f0_13 := p0_13.2.2.1
          have g0_13 := p0_13.2.2.2
          have p1_13 := p1_12.below h13
          have c1_13 := p1_13.1
          have d1_13 := p1_13.2.1
          have f1_13 := p1_13.2.2.1
          have g1_13 := p1_13.2.2.2
          have p2_13 := p2_12.below h13
          have c2_13 := p2_13.1
          have d2_13 := p2_13.2.1
          have f2_13 := p2_13.2.2.1
          have g2_13 := p2_13.2.2.2
          have p3_13 := p3_12.below h13
          have c3_13 := p3_13.1
          have d3_13 := p3_13.2.1
          have f3_13 := p3_13.2.2.1
          have g3_13 := p3_13.2.2.2
          go_wp2_with fail
          refine (within_is blo bhi clo chi _ Yb.out _).mono ?_
          rintro e w14 ⟨rfl, h14⟩
          have hb14 := hb13.trans (h14.mono hb13.size)
          have p0_14 := p0_13.below h14
          have c0_14 := p0_14.1
          have d0_14 := p0_14.2.1
          have f0_14 := p0_14.2.2.1
          have g0_14 := p0_14.2.2.2
          have p1_14 := p1_13.below h14
          have c1_14 := p1_14.1
          have d1_14 := p1_14.2.1
          have f1_14 := p1_14.2.2.1
          have g1_14 := p1_14.2.2.2
          have p2_14 := p2_13.below h14
          have c2_14 := p2_14.1
          have d2_14 := p2_14.2.1
          have f2_14 := p2_14.2.2.1
          have g2_14 := p2_14.2.2.2
          have p3_14 := p3_13.below h14
          have c3_14 := p3_14.1
          have d3_14 := p3_14.2.1
          have f3_14 := p3_14.2.2.1
          have g3_14 := p3_14.2.2.2
          go_wp2_with fail
          refine (within_is lo hi clo chi _ Tm.out _).mono ?_
          rintro e w15 ⟨rfl, h15⟩
          have hb15 := hb14.trans (h15.mono hb14.size)
          have p0_15 := p0_14.below h15
          have c0_15 := p0_15.1
          have d0_15 := p0_15.2.1
          have f0_15 := p0_15.2.2.1
          have g0_15 := p0_15.2.2.2
          have p1_15 := p1_14.below h15
          have c1_15 := p1_15.1
          have d1_15 := p1_15.2.1
          have f1_15 := p1_15.2.2.1
          have g1_15 := p1_15.2.2.2
          have p2_15 := p2_14.below h15
          have c2_15 := p2_15.1
          have d2_15 := p2_15.2.1
          have f2_15 := p2_15.2.2.1
          have g2_15 := p2_15.2.2.2
          have p3_15 := p3_14.below h15
          have c3_15 := p3_15.1
          have d3_15 := p3_15.2.1
          have f3_15 := p3_15.2.2.1
          have g3_15 := p3_15.2.2.2
          go_wp2_with fail
          refine (within_is alo ahi clo chi _ Ya.out _).mono ?_
          rintro e w16 ⟨rfl, h16⟩
          have hb16 := hb15.trans (h16.mono hb15.size)
          have p0_16 := p0_15.below h16
          have c0_16 := p0_16.1
          have d0_16 := p0_16.2.1
          have f0_16 := p0_16.2.2.1
          have g0_16 := p0_16.2.2.2
          have p1_16 := p1_15.below h16
          have c1_16 := p1_16.1
          have d1_16 := p1_16.2.1
          have f1_16 := p1_16.2.2.1
          have g1_16 := p1_16.2.2.2
          have p2_16 := p2_15.below h16
          have c2_16 := p2_16.1
          have d2_16 := p2_16.2.1
          have f2_16 := p2_16.2.2.1
          have g2_16 := p2_16.2.2.2
          have p3_16 := p3_15.below h16
          have c3_16 := p3_16.1
          have d3_16 := p3_16.2.1
          have f3_16 := p3_16.2.2.1
          have g3_16 := p3_16.2.2.2
          go_wp2_with fail
          refine (refHas_is alo ahi v _ Xa.out _).mono ?_
          rintro e w17 ⟨rfl, h17⟩
          have hb17 := hb16.trans (h17.mono hb16.size)
          have p0_17 := p0_16.below h17
          have c0_17 := p0_17.1
          have d0_17 := p0_17.2.1
          have f0_17 := p0_17.2.2.1
          have g0_17 := p0_17.2.2.2
          have p1_17 := p1_16.below h17
          have c1_17 := p1_17.1
          have d1_17 := p1_17.2.1
          have f1_17 := p1_17.2.2.1
          have g1_17 := p1_17.2.2.2
          have p2_17 := p2_16.below h17
          have c2_17 := p2_17.1
          have d2_17 := p2_17.2.1
          have f2_17 := p2_17.2.2.1
          have g2_17 := p2_17.2.2.2
          have p3_17 := p3_16.below h17
          have c3_17 := p3_17.1
          have d3_17 := p3_17.2.1
          have f3_17 := p3_17.2.2.1
          have g3_17 := p3_17.2.2.2
          go_wp2
          go_ret
          exact ⟨by simp, hb17⟩
    | false =>
      clear Sb
      go_wp2_with fail
      refine (within_is alo ahi lo hi _ Wa.out _).mono ?_
      rintro e w9 ⟨rfl, h9⟩
      have hb9 := hb8.trans (h9.mono hb8.size)
      have p0_9 := p0_8.below h9
      have c0_9 := p0_9.1
      have d0_9 := p0_9.2.1
      have f0_9 := p0_9.2.2.1
      have g0_9 := p0_9.2.2.2
      have p1_9 := p1_8.below h9
      have c1_9 := p1_9.1
      have d1_9 := p1_9.2.1
      have f1_9 := p1_9.2.2.1
      have g1_9 := p1_9.2.2.2
      have p2_9 := p2_8.below h9
      have c2_9 := p2_9.1
      have d2_9 := p2_9.2.1
      have f2_9 := p2_9.2.2.1
      have g2_9 := p2_9.2.2.2
      have p3_9 := p3_8.below h9
      have c3_9 := p3_9.1
      have d3_9 := p3_9.2.1
      have f3_9 := p3_9.2.2.1
      have g3_9 := p3_9.2.2.2
      go_wp2_with fail
      refine (within_is blo bhi lo hi _ Wb.out _).mono ?_
      rintro e w10 ⟨rfl, h10⟩
      have hb10 := hb9.trans (h10.mono hb9.size)
      have p0_10 := p0_9.below h10
      have c0_10 := p0_10.1
      have d0_10 := p0_10.2.1
      have f0_10 := p0_10.2.2.1
      have g0_10 := p0_10.2.2.2
      have p1_10 := p1_9.below h10
      have c1_10 := p1_10.1
      have d1_10 := p1_10.2.1
      have f1_10 := p1_10.2.2.1
      have g1_10 := p1_10.2.2.2
      have p2_10 := p2_9.below h10
      have c2_10 := p2_10.1
      have d2_10 := p2_10.2.1
      have f2_10 := p2_10.2.2.1
      have g2_10 := p2_10.2.2.2
      have p3_10 := p3_9.below h10
      have c3_10 := p3_10.1
      have d3_10 := p3_10.2.1
      have f3_10 := p3_10.2.2.1
      have g3_10 := p3_10.2.2.2
      go_wp2_with fail
      refine (fixed_any _).mono ?_
      rintro e w11 ⟨rfl, h11⟩
      have hb11 := hb10.trans (h11.mono hb10.size)
      have p0_11 := p0_10.below h11
      have c0_11 := p0_11.1
      have d0_11 := p0_11.2.1
      have f0_11 := p0_11.2.2.1
      have g0_11 := p0_11.2.2.2
      have p1_11 := p1_10.below h11
      have c1_11 := p1_11.1
      have d1_11 := p1_11.2.1
      have f1_11 := p1_11.2.2.1
      have g1_11 := p1_11.2.2.2
      have p2_11 := p2_10.below h11
      have c2_11 := p2_11.1
      have d2_11 := p2_11.2.1
      have f2_11 := p2_11.2.2.1
      have g2_11 := p2_11.2.2.2
      have p3_11 := p3_10.below h11
      have c3_11 := p3_11.1
      have d3_11 := p3_11.2.1
      have f3_11 := p3_11.2.2.1
      have g3_11 := p3_11.2.2.2
      cases wa with
      | false =>
        clear Sc Sl
        go_wp2_with fail
        refine (within_is alo ahi clo chi _ Ya.out _).mono ?_
        rintro e w12 ⟨rfl, h12⟩
        have hb12 := hb11.trans (h12.mono hb11.size)
        have p0_12 := p0_11.below h12
        have c0_12 := p0_12.1
        have d0_12 := p0_12.2.1
        have f0_12 := p0_12.2.2.1
        have g0_12 := p0_12.2.2.2
        have p1_12 := p1_11.below h12
        have c1_12 := p1_12.1
        have d1_12 := p1_12.2.1
        have f1_12 := p1_12.2.2.1
        have g1_12 := p1_12.2.2.2
        have p2_12 := p2_11.below h12
        have c2_12 := p2_12.1
        have d2_12 := p2_12.2.1
        have f2_12 := p2_12.2.2.1
        have g2_12 := p2_12.2.2.2
        have p3_12 := p3_11.below h12
        have c3_12 := p3_12.1
        have d3_12 := p3_12.2.1
        have f3_12 := p3_12.2.2.1
        have g3_12 := p3_12.2.2.2
        go_wp2_with fail
        refine (within_is alo ahi clo chi _ Ya.out _).mono ?_
        rintro e w13 ⟨rfl, h13⟩
        have hb13 := hb12.trans (h13.mono hb12.size)
        have p0_13 := p0_12.below h13
        have c0_13 := p0_13.1
        have d0_13 := p0_13.2.1
        have f0_13 := p0_13.2.2.1
        have g0_13 := p0_13.2.2.2
        have p1_13 := p1_12.below h13
        have c1_13 := p1_13.1
        have d1_13 := p1_13.2.1
        have f1_13 := p1_13.2.2.1
        have g1_13 := p1_13.2.2.2
        have p2_13 := p2_12.below h13
        have c2_13 := p2_13.1
        have d2_13 := p2_13.2.1
        have f2_13 := p2_13.2.2.1
        have g2_13 := p2_13.2.2.2
        have p3_13 := p3_12.below h13
        have c3_13 := p3_13.1
        have d3_13 := p3_13.2.1
        have f3_13 := p3_13.2.2.1
        have g3_13 := p3_13.2.2.2
        go_wp2
        go_ret
        exact ⟨by simp, hb13⟩
      | true =>
        have Tl := Lib.hid (Sl.out rfl)
        clear Sc Sl
        cases wb with
        | false =>
          clear Tl
          go_wp2_with fail
          refine (within_is alo ahi clo chi _ Ya.out _).mono ?_
          rintro e w12 ⟨rfl, h12⟩
          have hb12 := hb11.trans (h12.mono hb11.size)
          have p0_12 := p0_11.below h12
          have c0_12 := p0_12.1
          have d0_12 := p0_12.2.1
          have f0_12 := p0_12.2.2.1
          have g0_12 := p0_12.2.2.2
          have p1_12 := p1_11.below h12
          have c1_12 := p1_12.1
          have d1_12 := p1_12.2.1
          have f1_12 := p1_12.2.2.1
          have g1_12 := p1_12.2.2.2
          have p2_12 := p2_11.below h12
          have c2_12 := p2_12.1
          have d2_12 := p2_12.2.1
          have f2_12 := p2_12.2.2.1
          have g2_12 := p2_12.2.2.2
          have p3_12 := p3_11.below h12
          have c3_12 := p3_12.1
          have d3_12 := p3_12.2.1
          have f3_12 := p3_12.2.2.1
          have g3_12 := p3_12.2.2.2
          go_wp2_with fail
          refine (within_is blo bhi clo chi _ Yb.out _).mono ?_
          rintro e w13 ⟨rfl, h13⟩
          have hb13 := hb12.trans (h13.mono hb12.size)
          have p0_13 := p0_12.below h13
          have c0_13 := p0_13.1
          have d0_13 := p0_13.2.1
          have f0_13 := p0_13.2.2.1
          have g0_13 := p0_13.2.2.2
          have p1_13 := p1_12.below h13
          have c1_13 := p1_13.1
          have d1_13 := p1_13.2.1
          have f1_13 := p1_13.2.2.1
          have g1_13 := p1_13.2.2.2
          have p2_13 := p2_12.below h13
          have c2_13 := p2_13.1
          have d2_13 := p2_13.2.1
          have f2_13 := p2_13.2.2.1
          have g2_13 := p2_13.2.2.2
          have p3_13 := p3_12.below h13
          have c3_13 := p3_13.1
          have d3_13 := p3_13.2.1
          have f3_13 := p3_13.2.2.1
          have g3_13 := p3_13.2.2.2
          go_wp2_with fail
          refine (within_is alo ahi clo chi _ Ya.out _).mono ?_
          rintro e w14 ⟨rfl, h14⟩
          have hb14 := hb13.trans (h14.mono hb13.size)
          have p0_14 := p0_13.below h14
          have c0_14 := p0_14.1
          have d0_14 := p0_14.2.1
          have f0_14 := p0_14.2.2.1
          have g0_14 := p0_14.2.2.2
          have p1_14 := p1_13.below h14
          have c1_14 := p1_14.1
          have d1_14 := p1_14.2.1
          have f1_14 := p1_14.2.2.1
          have g1_14 := p1_14.2.2.2
          have p2_14 := p2_13.below h14
          have c2_14 := p2_14.1
          have d2_14 := p2_14.2.1
          have f2_14 := p2_14.2.2.1
          have g2_14 := p2_14.2.2.2
          have p3_14 := p3_13.below h14
          have c3_14 := p3_14.1
          have d3_14 := p3_14.2.1
          have f3_14 := p3_14.2.2.1
          have g3_14 := p3_14.2.2.2
          go_wp2_with fail
          refine (refHas_is alo ahi v _ Xa.out _).mono ?_
          rintro e w15 ⟨rfl, h15⟩
          have hb15 := hb14.trans (h15.mono hb14.size)
          have p0_15 := p0_14.below h15
          have c0_15 := p0_15.1
          have d0_15 := p0_15.2.1
          have f0_15 := p0_15.2.2.1
          have g0_15 := p0_15.2.2.2
          have p1_15 := p1_14.below h15
          have c1_15 := p1_15.1
          have d1_15 := p1_15.2.1
          have f1_15 := p1_15.2.2.1
          have g1_15 := p1_15.2.2.2
          have p2_15 := p2_14.below h15
          have c2_15 := p2_15.1
          have d2_15 := p2_15.2.1
          have f2_15 := p2_15.2.2.1
          have g2_15 := p2_15.2.2.2
          have p3_15 := p3_14.below h15
          have c3_15 := p3_15.1
          have d3_15 := p3_15.2.1
          have f3_15 := p3_15.2.2.1
          have g3_15 := p3_15.2.2.2
          go_wp2
          go_ret
          exact ⟨by simp, hb15⟩
        | true =>
          have Tm := Lib.hid (Tl.out rfl)
          clear Tl
          go_wp2_with fail
          refine (within_is alo ahi clo chi _ Ya.out _).mono ?_
          rintro e w12 ⟨rfl, h12⟩
          have hb12 := hb11.trans (h12.mono hb11.size)
          have p0_12 := p0_11.below h12
          have c0_12 := p0_12.1
          have d0_12 := p0_12.2.1
          have f0_12 := p0_12.2.2.1
          have g0_12 := p0_12.2.2.2
          have p1_12 := p1_11.below h12
          have c1_12 := p1_12.1
          have d1_12 := p1_12.2.1
          have f1_12 := p1_12.2.2.1
          have g1_12 := p1_12.2.2.2
          have p2_12 := p2_11.below h12
          have c2_12 := p2_12.1
          have d2_12 := p2_12.2.1
          have f2_12 := p2_12.2.2.1
          have g2_12 := p2_12.2.2.2
          have p3_12 := p3_11.below h12
          have c3_12 := p3_12.1
          have d3_12 := p3_12.2.1
          have f3_12 := p3_12.2.2.1
          have g3_12 := p3_12.2.2.2
          go_wp2_with fail
          refine (within_is blo bhi clo chi _ Yb.out _).mono ?_
          rintro e w13 ⟨rfl, h13⟩
          have hb13 := hb12.trans (h13.mono hb12.size)
          have p0_13 := p0_12.below h13
          have c0_13 := p0_13.1
          have d0_13 := p0_13.2.1
          have f0_13 := p0_13.2.2.1
          have g0_13 := p0_13.2.2.2
          have p1_13 := p1_12.below h13
          have c1_13 := p1_13.1
          have d1_13 := p1_13.2.1
          have f1_13 := p1_13.2.2.1
          have g1_13 := p1_13.2.2.2
          have p2_13 := p2_12.below h13
          have c2_13 := p2_13.1
          have d2_13 := p2_13.2.1
          have f2_13 := p2_13.2.2.1
          have g2_13 := p2_13.2.2.2
          have p3_13 := p3_12.below h13
          have c3_13 := p3_13.1
          have d3_13 := p3_13.2.1
          have f3_13 := p3_13.2.2.1
          have g3_13 := p3_13.2.2.2
          go_wp2_with fail
          refine (within_is lo hi clo chi _ Tm.out _).mono ?_
          rintro e w14 ⟨rfl, h14⟩
          have hb14 := hb13.trans (h14.mono hb13.size)
          have p0_14 := p0_13.below h14
          have c0_14 := p0_14.1
          have d0_14 := p0_14.2.1
          have f0_14 := p0_14.2.2.1
          have g0_14 := p0_14.2.2.2
          have p1_14 := p1_13.below h14
          have c1_14 := p1_14.1
          have d1_14 := p1_14.2.1
          have f1_14 := p1_14.2.2.1
          have g1_14 := p1_14.2.2.2
          have p2_14 := p2_13.below h14
          have c2_14 := p2_14.1
          have d2_14 := p2_14.2.1
          have f2_14 := p2_14.2.2.1
          have g2_14 := p2_14.2.2.2
          have p3_14 := p3_13.below h14
          have c3_14 := p3_14.1
          have d3_14 := p3_14.2.1
          have f3_14 := p3_14.2.2.1
          have g3_14 := p3_14.2.2.2
          go_wp2_with fail
          refine (within_is alo ahi clo chi _ Ya.out _).mono ?_
          rintro e w15 ⟨rfl, h15⟩
          have hb15 := hb14.trans (h15.mono hb14.size)
          have p0_15 := p0_14.below h15
          have c0_15 := p0_15.1
          have d0_15 := p0_15.2.1
          have f0_15 := p0_15.2.2.1
          have g0_15 := p0_15.2.2.2
          have p1_15 := p1_14.below h15
          have c1_15 := p1_15.1
          have d1_15 := p1_15.2.1
          have f1_15 := p1_15.2.2.1
          have g1_15 := p1_15.2.2.2
          have p2_15 := p2_14.below h15
          have c2_15 := p2_15.1
          have d2_15 := p2_15.2.1
          have f2_15 := p2_15.2.2.1
          have g2_15 := p2_15.2.2.2
          have p3_15 := p3_14.below h15
          have c3_15 := p3_15.1
          have d3_15 := p3_15.2.1
          have f3_15 := p3_15.2.2.1
          have g3_15 := p3_15.2.2.2
          go_wp2_with fail
          refine (refHas_is alo ahi v _ Xa.out _).mono ?_
          rintro e w16 ⟨rfl, h16⟩
          have hb16 := hb15.trans (h16.mono hb15.size)
          have p0_16 := p0_15.below h16
          have c0_16 := p0_16.1
          have d0_16 := p0_16.2.1
          have f0_16 := p0_16.2.2.1
          have g0_16 := p0_16.2.2.2
          have p1_16 := p1_15.below h16
          have c1_16 := p1_16.1
          have d1_16 := p1_16.2.1
          have f1_16 := p1_16.2.2.1
          have g1_16 := p1_16.2.2.2
          have p2_16 := p2_15.below h16
          have c2_16 := p2_16.1
          have d2_16 := p2_16.2.1
          have f2_16 := p2_16.2.2.1
          have g2_16 := p2_16.2.2.2
          have p3_16 := p3_15.below h16
          have c3_16 := p3_16.1
          have d3_16 := p3_16.2.1
          have f3_16 := p3_16.2.2.1
          have g3_16 := p3_16.2.2.2
          go_wp2
          go_ret
          exact ⟨by simp, hb16⟩

end Go.Proofs.Ytgncikkfkmiejaa.Ver
