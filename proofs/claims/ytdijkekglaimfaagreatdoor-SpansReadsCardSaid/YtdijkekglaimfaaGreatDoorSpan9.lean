/- span.Within; SpanOnes. -/
import Derived.Test.YtdijkekglaimfaaGreatDoorSpanMath3
namespace Go.Proofs.YtdijkekglaimfaaGreatDoor.Ver
open Go.RowKit

/-- Two structs of two texts, each in a block of its own. -/
theorem two_new (w : World) (alo ahi blo bhi : ByteArray) (T : TypeId) :
    Below w.heap.size w ((w.alloc (.cells #[.string alo, .string ahi] T)).alloc (.cells #[.string blo, .string bhi] T)) ∧
    Pair ((w.alloc (.cells #[.string alo, .string ahi] T)).alloc (.cells #[.string blo, .string bhi] T)) w.heap.size alo ahi ∧
    Pair ((w.alloc (.cells #[.string alo, .string ahi] T)).alloc (.cells #[.string blo, .string bhi] T)) (w.heap.size + 1) blo bhi := by
  have h1 := below_new w (.cells #[.string alo, .string ahi] T)
  have h2 := below_new (w.alloc (.cells #[.string alo, .string ahi] T)) (.cells #[.string blo, .string bhi] T)
  have p2 := pair_new (w.alloc (.cells #[.string alo, .string ahi] T)) blo bhi T
  have e : (w.alloc (.cells #[.string alo, .string ahi] T)).heap.size = w.heap.size + 1 := by simp
  refine ⟨h1.trans (h2.mono h1.size), (pair_new w alo ahi T).below h2, ?_⟩
  rwa [e] at p2

set_option maxHeartbeats 800000 in
theorem within_is (alo ahi blo bhi : ByteArray) (b : Bool) (h : swithin alo.data.toList ahi.data.toList blo.data.toList bhi.data.toList = b) (w : World) :
    Calls Tryz.prog 65 #[.agg #[.string alo, .string ahi], .agg #[.string blo, .string bhi]] w fun e w' => e = .returned (.bool b) ∧ Below w.heap.size w w' := by
  subst h
  obtain ⟨hb0, p0_0, p1_0⟩ := two_new w alo ahi blo bhi 31
  have c0_0 := p0_0.1
  cases ha : smay alo.data.toList ahi.data.toList with
  | false =>
    have Hv := Lib.hid (show swithin alo.data.toList ahi.data.toList blo.data.toList bhi.data.toList = false by unfold swithin; rw [ha]; rfl)
    have Ha := Lib.hid ha
    clear ha c0_0
    go_enter Tryz.func65, Tryz.ntmps65
    go_wp2_with fail
    refine (spanMay_is alo ahi _ Ha.out _).mono ?_
    rintro e w1 ⟨rfl, h1⟩
    have hb1 := hb0.trans (h1.mono hb0.size)
    have p0_1 := p0_0.below h1
    have c0_1 := p0_1.1
    have d0_1 := p0_1.2.1
    have f0_1 := p0_1.2.2.1
    have g0_1 := p0_1.2.2.2
    have p1_1 := p1_0.below h1
    have c1_1 := p1_1.1
    have d1_1 := p1_1.2.1
    have f1_1 := p1_1.2.2.1
    have g1_1 := p1_1.2.2.2
    go_wp2
    go_ret
    exact ⟨by rw [Hv.out]; rfl, hb1⟩
  | true =>
    cases hb : smay blo.data.toList bhi.data.toList with
    | false =>
      have Hv := Lib.hid (show swithin alo.data.toList ahi.data.toList blo.data.toList bhi.data.toList = false by unfold swithin; rw [ha, hb]; rfl)
      have Ha := Lib.hid ha
      have Hb := Lib.hid hb
      clear ha hb c0_0
      go_enter Tryz.func65, Tryz.ntmps65
      go_wp2_with fail
      refine (spanMay_is alo ahi _ Ha.out _).mono ?_
      rintro e w1 ⟨rfl, h1⟩
      have hb1 := hb0.trans (h1.mono hb0.size)
      have p0_1 := p0_0.below h1
      have c0_1 := p0_1.1
      have d0_1 := p0_1.2.1
      have f0_1 := p0_1.2.2.1
      have g0_1 := p0_1.2.2.2
      have p1_1 := p1_0.below h1
      have c1_1 := p1_1.1
      have d1_1 := p1_1.2.1
      have f1_1 := p1_1.2.2.1
      have g1_1 := p1_1.2.2.2
      go_wp2_with fail
      refine (spanMay_is blo bhi _ Hb.out _).mono ?_
      rintro e w2 ⟨rfl, h2⟩
      have hb2 := hb1.trans (h2.mono hb1.size)
      have p0_2 := p0_1.below h2
      have c0_2 := p0_2.1
      have d0_2 := p0_2.2.1
      have f0_2 := p0_2.2.2.1
      have g0_2 := p0_2.2.2.2
      have p1_2 := p1_1.below h2
      have c1_2 := p1_2.1
      have d1_2 := p1_2.2.1
      have f1_2 := p1_2.2.2.1
      have g1_2 := p1_2.2.2.2
      go_wp2
      go_ret
      exact ⟨by rw [Hv.out]; rfl, hb2⟩
    | true =>
      cases hl : lowR blo.data.toList alo.data.toList with
      | false =>
        have Hv := Lib.hid (show swithin alo.data.toList ahi.data.toList blo.data.toList bhi.data.toList = false by unfold swithin; rw [ha, hb, hl]; rfl)
        have Ha := Lib.hid ha
        have Hb := Lib.hid hb
        have Hl := Lib.hid hl
        clear ha hb hl c0_0
        go_enter Tryz.func65, Tryz.ntmps65
        go_wp2_with fail
        refine (spanMay_is alo ahi _ Ha.out _).mono ?_
        rintro e w1 ⟨rfl, h1⟩
        have hb1 := hb0.trans (h1.mono hb0.size)
        have p0_1 := p0_0.below h1
        have c0_1 := p0_1.1
        have d0_1 := p0_1.2.1
        have f0_1 := p0_1.2.2.1
        have g0_1 := p0_1.2.2.2
        have p1_1 := p1_0.below h1
        have c1_1 := p1_1.1
        have d1_1 := p1_1.2.1
        have f1_1 := p1_1.2.2.1
        have g1_1 := p1_1.2.2.2
        go_wp2_with fail
        refine (spanMay_is blo bhi _ Hb.out _).mono ?_
        rintro e w2 ⟨rfl, h2⟩
        have hb2 := hb1.trans (h2.mono hb1.size)
        have p0_2 := p0_1.below h2
        have c0_2 := p0_2.1
        have d0_2 := p0_2.2.1
        have f0_2 := p0_2.2.2.1
        have g0_2 := p0_2.2.2.2
        have p1_2 := p1_1.below h2
        have c1_2 := p1_2.1
        have d1_2 := p1_2.2.1
        have f1_2 := p1_2.2.2.1
        have g1_2 := p1_2.2.2.2
        go_wp2_with fail
        refine (lowR_is blo alo _ Hl.out _).mono ?_
        rintro e w3 ⟨rfl, h3⟩
        have hb3 := hb2.trans (h3.mono hb2.size)
        have p0_3 := p0_2.below h3
        have c0_3 := p0_3.1
        have d0_3 := p0_3.2.1
        have f0_3 := p0_3.2.2.1
        have g0_3 := p0_3.2.2.2
        have p1_3 := p1_2.below h3
        have c1_3 := p1_3.1
        have d1_3 := p1_3.2.1
        have f1_3 := p1_3.2.2.1
        have g1_3 := p1_3.2.2.2
        go_wp2
        go_ret
        exact ⟨by rw [Hv.out]; rfl, hb3⟩
      | true =>
        obtain ⟨x, hh⟩ : ∃ x, highR bhi.data.toList ahi.data.toList = x := ⟨_, rfl⟩
        have Hv := Lib.hid (show swithin alo.data.toList ahi.data.toList blo.data.toList bhi.data.toList = x by unfold swithin; rw [ha, hb, hl, hh]; rfl)
        have Ha := Lib.hid ha
        have Hb := Lib.hid hb
        have Hl := Lib.hid hl
        have Hh := Lib.hid hh
        clear ha hb hl hh c0_0
        go_enter Tryz.func65, Tryz.ntmps65
        go_wp2_with fail
        refine (spanMay_is alo ahi _ Ha.out _).mono ?_
        rintro e w1 ⟨rfl, h1⟩
        have hb1 := hb0.trans (h1.mono hb0.size)
        have p0_1 := p0_0.below h1
        have c0_1 := p0_1.1
        have d0_1 := p0_1.2.1
        have f0_1 := p0_1.2.2.1
        have g0_1 := p0_1.2.2.2
        have p1_1 := p1_0.below h1
        have c1_1 := p1_1.1
        have d1_1 := p1_1.2.1
        have f1_1 := p1_1.2.2.1
        have g1_1 := p1_1.2.2.2
        go_wp2_with fail
        refine (spanMay_is blo bhi _ Hb.out _).mono ?_
        rintro e w2 ⟨rfl, h2⟩
        have hb2 := hb1.trans (h2.mono hb1.size)
        have p0_2 := p0_1.below h2
        have c0_2 := p0_2.1
        have d0_2 := p0_2.2.1
        have f0_2 := p0_2.2.2.1
        have g0_2 := p0_2.2.2.2
        have p1_2 := p1_1.below h2
        have c1_2 := p1_2.1
        have d1_2 := p1_2.2.1
        have f1_2 := p1_2.2.2.1
        have g1_2 := p1_2.2.2.2
        go_wp2_with fail
        refine (lowR_is blo alo _ Hl.out _).mono ?_
        rintro e w3 ⟨rfl, h3⟩
        have hb3 := hb2.trans (h3.mono hb2.size)
        have p0_3 := p0_2.below h3
        have c0_3 := p0_3.1
        have d0_3 := p0_3.2.1
        have f0_3 := p0_3.2.2.1
        have g0_3 := p0_3.2.2.2
        have p1_3 := p1_2.below h3
        have c1_3 := p1_3.1
        have d1_3 := p1_3.2.1
        have f1_3 := p1_3.2.2.1
        have g1_3 := p1_3.2.2.2
        go_wp2_with fail
        refine (highR_is bhi ahi _ Hh.out _).mono ?_
        rintro e w4 ⟨rfl, h4⟩
        have hb4 := hb3.trans (h4.mono hb3.size)
        have p0_4 := p0_3.below h4
        have c0_4 := p0_4.1
        have d0_4 := p0_4.2.1
        have f0_4 := p0_4.2.2.1
        have g0_4 := p0_4.2.2.2
        have p1_4 := p1_3.below h4
        have c1_4 := p1_4.1
        have d1_4 := p1_4.2.1
        have f1_4 := p1_4.2.2.1
        have g1_4 := p1_4.2.2.2
        go_wp2
        go_ret
        exact ⟨by rw [Hv.out]; rfl, hb4⟩

end Go.Proofs.YtdijkekglaimfaaGreatDoor.Ver
