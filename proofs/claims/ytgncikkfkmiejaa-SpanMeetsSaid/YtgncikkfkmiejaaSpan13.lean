/- SpanMeets. -/
import Derived.Test.YtgncikkfkmiejaaSpan12
import Derived.Test.YtgncikkfkmiejaaSpan5
namespace Go.Proofs.Ytgncikkfkmiejaa.Ver
open Go.RowKit

theorem joins_is (alo ahi blo bhi lo hi : ByteArray) (b : Bool) (h : smeet alo ahi blo bhi = (lo, hi, b)) (w : World) :
    Calls Try.prog 21 #[.agg #[.string alo, .string ahi], .agg #[.string blo, .string bhi]] w fun e w' => e = .returned (.bool b) ∧ Below w.heap.size w w' := by
  have Hm := Lib.hid h
  clear h
  obtain ⟨hb0, p0_0, p1_0⟩ := two_new w alo ahi blo bhi 23
  go_enter Try.func21, Try.ntmps21
  go_wp2_with fail
  refine (meet_is alo ahi blo bhi _ _ _ Hm.out _).mono ?_
  rintro e w1 ⟨rfl, h1⟩
  have hb1 := hb0.trans (h1.mono hb0.size)
  have p0_1 := p0_0.below h1
  have c0_1 := p0_1.1
  have d0_1 := p0_1.2.1
  have f0_1 := p0_1.2.2.1
  have g0_1 := p0_1.2.2.2
  have p1_1 := p1_0.below h1
  have c1_1 := p1_1.1
  have d1_1 := p1_1.2.1
  have f1_1 := p1_1.2.2.1
  have g1_1 := p1_1.2.2.2
  go_wp2
  go_ret
  exact ⟨rfl, hb1.alloc hb1.size _⟩

set_option maxHeartbeats 4000000 in
theorem spanMeets_any (alo ahi blo bhi : ByteArray) (v : ByteArray) (_hv : v.size ≤ maxLen) (w : World) :
    Calls Try.prog 6 #[.agg #[.string alo, .string ahi], .agg #[.string blo, .string bhi], .string v] w fun e w' => e = .returned (.bool true) ∧ Below w.heap.size w w' := by
  obtain ⟨hb0, p0_0, p1_0⟩ := two_new w alo ahi blo bhi 23
  go_enter Try.func6, Try.ntmps6
  go_wp2_with fail
  refine (sgreat_is alo ahi _).mono ?_
  rintro e w1 ⟨rfl | ⟨rfl, _, _⟩, h1⟩
  · skip
    have hb1 := hb0.trans (h1.mono hb0.size)
    have p0_1 := p0_0.below h1
    have c0_1 := p0_1.1
    have d0_1 := p0_1.2.1
    have f0_1 := p0_1.2.2.1
    have g0_1 := p0_1.2.2.2
    have p1_1 := p1_0.below h1
    have c1_1 := p1_1.1
    have d1_1 := p1_1.2.1
    have f1_1 := p1_1.2.2.1
    have g1_1 := p1_1.2.2.2
    go_wp2_with fail
    refine (fixed_any _).mono ?_
    rintro e w2 ⟨rfl, h2⟩
    have hb2 := hb1.trans (h2.mono hb1.size)
    have p0_2 := p0_1.below h2
    have c0_2 := p0_2.1
    have d0_2 := p0_2.2.1
    have f0_2 := p0_2.2.2.1
    have g0_2 := p0_2.2.2.2
    have p1_2 := p1_1.below h2
    have c1_2 := p1_2.1
    have d1_2 := p1_2.2.1
    have f1_2 := p1_2.2.2.1
    have g1_2 := p1_2.2.2.2
    go_wp2
    go_ret
    exact ⟨rfl, hb2⟩
  have hb1 := hb0.trans (h1.mono hb0.size)
  have p0_1 := p0_0.below h1
  have c0_1 := p0_1.1
  have d0_1 := p0_1.2.1
  have f0_1 := p0_1.2.2.1
  have g0_1 := p0_1.2.2.2
  have p1_1 := p1_0.below h1
  have c1_1 := p1_1.1
  have d1_1 := p1_1.2.1
  have f1_1 := p1_1.2.2.1
  have g1_1 := p1_1.2.2.2
  go_wp2_with fail
  refine (sgreat_is blo bhi _).mono ?_
  rintro e w2 ⟨rfl | ⟨rfl, _, _⟩, h2⟩
  · skip
    have hb2 := hb1.trans (h2.mono hb1.size)
    have p0_2 := p0_1.below h2
    have c0_2 := p0_2.1
    have d0_2 := p0_2.2.1
    have f0_2 := p0_2.2.2.1
    have g0_2 := p0_2.2.2.2
    have p1_2 := p1_1.below h2
    have c1_2 := p1_2.1
    have d1_2 := p1_2.2.1
    have f1_2 := p1_2.2.2.1
    have g1_2 := p1_2.2.2.2
    go_wp2_with fail
    refine (fixed_any _).mono ?_
    rintro e w3 ⟨rfl, h3⟩
    have hb3 := hb2.trans (h3.mono hb2.size)
    have p0_3 := p0_2.below h3
    have c0_3 := p0_3.1
    have d0_3 := p0_3.2.1
    have f0_3 := p0_3.2.2.1
    have g0_3 := p0_3.2.2.2
    have p1_3 := p1_2.below h3
    have c1_3 := p1_3.1
    have d1_3 := p1_3.2.1
    have f1_3 := p1_3.2.2.1
    have g1_3 := p1_3.2.2.2
    go_wp2
    go_ret
    exact ⟨rfl, hb3⟩
  have hb2 := hb1.trans (h2.mono hb1.size)
  have p0_2 := p0_1.below h2
  have c0_2 := p0_2.1
  have d0_2 := p0_2.2.1
  have f0_2 := p0_2.2.2.1
  have g0_2 := p0_2.2.2.2
  have p1_2 := p1_1.below h2
  have c1_2 := p1_2.1
  have d1_2 := p1_2.2.1
  have f1_2 := p1_2.2.2.1
  have g1_2 := p1_2.2.2.2
  by_cases h3 : 3000 < v.size
  · have g1 : (3000 : Int) < v.size := by omega
    clear h3
    go_wp2_with fail
    refine (fixed_any _).mono ?_
    rintro e w3 ⟨rfl, h3⟩
    have hb3 := hb2.trans (h3.mono hb2.size)
    have p0_3 := p0_2.below h3
    have c0_3 := p0_3.1
    have d0_3 := p0_3.2.1
    have f0_3 := p0_3.2.2.1
    have g0_3 := p0_3.2.2.2
    have p1_3 := p1_2.below h3
    have c1_3 := p1_3.1
    have d1_3 := p1_3.2.1
    have f1_3 := p1_3.2.2.1
    have g1_3 := p1_3.2.2.2
    go_wp2
    go_ret
    exact ⟨rfl, hb3⟩
  have g1 : ¬ (3000 : Int) < v.size := by omega
  clear h3
  obtain ⟨lo, hi, b, hm⟩ : ∃ lo hi b, smeet alo ahi blo bhi = (lo, hi, b) := ⟨_, _, _, rfl⟩
  have hh := meets_has hm v.data.toList
  obtain ⟨xa, hxa⟩ : ∃ x, shas alo.data.toList ahi.data.toList v.data.toList = x := ⟨_, rfl⟩
  obtain ⟨xb, hxb⟩ : ∃ x, shas blo.data.toList bhi.data.toList v.data.toList = x := ⟨_, rfl⟩
  obtain ⟨xs, hxs⟩ : ∃ x, shas lo.data.toList hi.data.toList v.data.toList = x := ⟨_, rfl⟩
  rw [hxa, hxb, hxs] at hh
  have Hm := Lib.hid hm
  have Ha := Lib.hid hxa
  have Hb := Lib.hid hxb
  have Hs := Lib.hid hxs
  have Hh := Lib.hid hh
  clear hm hxa hxb hxs hh
  go_wp2_with fail
  refine (meet_is alo ahi blo bhi _ _ _ Hm.out _).mono ?_
  rintro e w3 ⟨rfl, h3⟩
  have hb3 := hb2.trans (h3.mono hb2.size)
  have p0_3 := p0_2.below h3
  have c0_3 := p0_3.1
  have d0_3 := p0_3.2.1
  have f0_3 := p0_3.2.2.1
  have g0_3 := p0_3.2.2.2
  have p1_3 := p1_2.below h3
  have c1_3 := p1_3.1
  have d1_3 := p1_3.2.1
  have f1_3 := p1_3.2.2.1
  have g1_3 := p1_3.2.2.2
  have lt0 := World.block_lt_of_cell? _ _ p0_3.1
  have lt1 := World.block_lt_of_cell? _ _ p1_3.1
  have le2 := hb3.size
  have hb3 := hb3.alloc hb3.size (.cells #[.string (lo), .string (hi)] 23)
  have p0_3 := p0_3.below (below_new _ (.cells #[.string (lo), .string (hi)] 23))
  have p1_3 := p1_3.below (below_new _ (.cells #[.string (lo), .string (hi)] 23))
  have p2_3 := pair_new w3 (lo) (hi) 23
  go_wp2_with fail
  refine (refMeet_is alo ahi blo bhi _ _ _ Hm.out _).mono ?_
  rintro e w4 ⟨rfl, h4⟩
  have hb4 := hb3.trans (h4.mono hb3.size)
  have p0_4 := p0_3.below h4
  have c0_4 := p0_4.1
  have d0_4 := p0_4.2.1
  have f0_4 := p0_4.2.2.1
  have g0_4 := p0_4.2.2.2
  have p1_4 := p1_3.below h4
  have c1_4 := p1_4.1
  have d1_4 := p1_4.2.1
  have f1_4 := p1_4.2.2.1
  have g1_4 := p1_4.2.2.2
  have p2_4 := p2_3.below h4
  have c2_4 := p2_4.1
  have d2_4 := p2_4.2.1
  have f2_4 := p2_4.2.2.1
  have g2_4 := p2_4.2.2.2
  have lt0 := World.block_lt_of_cell? _ _ p0_4.1
  have lt1 := World.block_lt_of_cell? _ _ p1_4.1
  have lt2 := World.block_lt_of_cell? _ _ p2_4.1
  have le3 := hb4.size
  have hb4 := hb4.alloc hb4.size (.cells #[.string (lo), .string (hi)] 23)
  have p0_4 := p0_4.below (below_new _ (.cells #[.string (lo), .string (hi)] 23))
  have p1_4 := p1_4.below (below_new _ (.cells #[.string (lo), .string (hi)] 23))
  have p2_4 := p2_4.below (below_new _ (.cells #[.string (lo), .string (hi)] 23))
  have p3_4 := pair_new w4 (lo) (hi) 23
  go_wp2_with fail
  refine (joins_is alo ahi blo bhi _ _ _ Hm.out _).mono ?_
  rintro e w5 ⟨rfl, h5⟩
  have hb5 := hb4.trans (h5.mono hb4.size)
  have p0_5 := p0_4.below h5
  have c0_5 := p0_5.1
  have d0_5 := p0_5.2.1
  have f0_5 := p0_5.2.2.1
  have g0_5 := p0_5.2.2.2
  have p1_5 := p1_4.below h5
  have c1_5 := p1_5.1
  have d1_5 := p1_5.2.1
  have f1_5 := p1_5.2.2.1
  have g1_5 := p1_5.2.2.2
  have p2_5 := p2_4.below h5
  have c2_5 := p2_5.1
  have d2_5 := p2_5.2.1
  have f2_5 := p2_5.2.2.1
  have g2_5 := p2_5.2.2.2
  have p3_5 := p3_4.below h5
  have c3_5 := p3_5.1
  have d3_5 := p3_5.2.1
  have f3_5 := p3_5.2.2.1
  have g3_5 := p3_5.2.2.2
  go_wp2_with fail
  refine (refHas_is alo ahi v _ Ha.out _).mono ?_
  rintro e w6 ⟨rfl, h6⟩
  have hb6 := hb5.trans (h6.mono hb5.size)
  have p0_6 := p0_5.below h6
  have c0_6 := p0_6.1
  have d0_6 := p0_6.2.1
  have f0_6 := p0_6.2.2.1
  have g0_6 := p0_6.2.2.2
  have p1_6 := p1_5.below h6
  have c1_6 := p1_6.1
  have d1_6 := p1_6.2.1
  have f1_6 := p1_6.2.2.1
  have g1_6 := p1_6.2.2.2
  have p2_6 := p2_5.below h6
  have c2_6 := p2_6.1
  have d2_6 := p2_6.2.1
  have f2_6 := p2_6.2.2.1
  have g2_6 := p2_6.2.2.2
  have p3_6 := p3_5.below h6
  have c3_6 := p3_6.1
  have d3_6 := p3_6.2.1
  have f3_6 := p3_6.2.2.1
  have g3_6 := p3_6.2.2.2
  cases b with
  | false =>
    cases xa with
    | false =>
      clear Hh
      go_wp2_with fail
      refine (fixed_any _).mono ?_
      rintro e w7 ⟨rfl, h7⟩
      have hb7 := hb6.trans (h7.mono hb6.size)
      have p0_7 := p0_6.below h7
      have c0_7 := p0_7.1
      have d0_7 := p0_7.2.1
      have f0_7 := p0_7.2.2.1
      have g0_7 := p0_7.2.2.2
      have p1_7 := p1_6.below h7
      have c1_7 := p1_7.1
      have d1_7 := p1_7.2.1
      have f1_7 := p1_7.2.2.1
      have g1_7 := p1_7.2.2.2
      have p2_7 := p2_6.below h7
      have c2_7 := p2_7.1
      have d2_7 := p2_7.2.1
      have f2_7 := p2_7.2.2.1
      have g2_7 := p2_7.2.2.2
      have p3_7 := p3_6.below h7
      have c3_7 := p3_7.1
      have d3_7 := p3_7.2.1
      have f3_7 := p3_7.2.2.1
      have g3_7 := p3_7.2.2.2
      go_wp2
      go_ret
      exact ⟨by simp, hb7⟩
    | true =>
      have hx : xb = false := by have := Hh.out; simpa using this.symm
      subst hx
      clear Hh
      go_wp2_with fail
      refine (refHas_is blo bhi v _ Hb.out _).mono ?_
      rintro e w7 ⟨rfl, h7⟩
      have hb7 := hb6.trans (h7.mono hb6.size)
      have p0_7 := p0_6.below h7
      have c0_7 := p0_7.1
      have d0_7 := p0_7.2.1
      have f0_7 := p0_7.2.2.1
      have g0_7 := p0_7.2.2.2
      have p1_7 := p1_6.below h7
      have c1_7 := p1_7.1
      have d1_7 := p1_7.2.1
      have f1_7 := p1_7.2.2.1
      have g1_7 := p1_7.2.2.2
      have p2_7 := p2_6.below h7
      have c2_7 := p2_7.1
      have d2_7 := p2_7.2.1
      have f2_7 := p2_7.2.2.1
      have g2_7 := p2_7.2.2.2
      have p3_7 := p3_6.below h7
      have c3_7 := p3_7.1
      have d3_7 := p3_7.2.1
      have f3_7 := p3_7.2.2.1
      have g3_7 := p3_7.2.2.2
      go_wp2_with fail
      refine (fixed_any _).mono ?_
      rintro e w8 ⟨rfl, h8⟩
      have hb8 := hb7.trans (h8.mono hb7.size)
      have p0_8 := p0_7.below h8
      have c0_8 := p0_8.1
      have d0_8 := p0_8.2.1
      have f0_8 := p0_8.2.2.1
      have g0_8 := p0_8.2.2.2
      have p1_8 := p1_7.below h8
      have c1_8 := p1_8.1
      have d1_8 := p1_8.2.1
      have f1_8 := p1_8.2.2.1
      have g1_8 := p1_8.2.2.2
      have p2_8 := p2_7.below h8
      have c2_8 := p2_8.1
      have d2_8 := p2_8.2.1
      have f2_8 := p2_8.2.2.1
      have g2_8 := p2_8.2.2.2
      have p3_8 := p3_7.below h8
      have c3_8 := p3_8.1
      have d3_8 := p3_8.2.1
      have f3_8 := p3_8.2.2.1
      have g3_8 := p3_8.2.2.2
      go_wp2
      go_ret
      exact ⟨by simp, hb8⟩
  | true =>
    cases xa with
    | false =>
      have hx : xs = false := by have := Hh.out; simpa using this
      subst hx
      clear Hh
      go_wp2_with fail
      refine (fixed_any _).mono ?_
      rintro e w7 ⟨rfl, h7⟩
      have hb7 := hb6.trans (h7.mono hb6.size)
      have p0_7 := p0_6.below h7
      have c0_7 := p0_7.1
      have d0_7 := p0_7.2.1
      have f0_7 := p0_7.2.2.1
      have g0_7 := p0_7.2.2.2
      have p1_7 := p1_6.below h7
      have c1_7 := p1_7.1
      have d1_7 := p1_7.2.1
      have f1_7 := p1_7.2.2.1
      have g1_7 := p1_7.2.2.2
      have p2_7 := p2_6.below h7
      have c2_7 := p2_7.1
      have d2_7 := p2_7.2.1
      have f2_7 := p2_7.2.2.1
      have g2_7 := p2_7.2.2.2
      have p3_7 := p3_6.below h7
      have c3_7 := p3_7.1
      have d3_7 := p3_7.2.1
      have f3_7 := p3_7.2.2.1
      have g3_7 := p3_7.2.2.2
      go_wp2_with fail
      refine (spanHas_is lo hi v _ Hs.out _).mono ?_
      rintro e w8 ⟨rfl, h8⟩
      have hb8 := hb7.trans (h8.mono hb7.size)
      have p0_8 := p0_7.below h8
      have c0_8 := p0_8.1
      have d0_8 := p0_8.2.1
      have f0_8 := p0_8.2.2.1
      have g0_8 := p0_8.2.2.2
      have p1_8 := p1_7.below h8
      have c1_8 := p1_8.1
      have d1_8 := p1_8.2.1
      have f1_8 := p1_8.2.2.1
      have g1_8 := p1_8.2.2.2
      have p2_8 := p2_7.below h8
      have c2_8 := p2_8.1
      have d2_8 := p2_8.2.1
      have f2_8 := p2_8.2.2.1
      have g2_8 := p2_8.2.2.2
      have p3_8 := p3_7.below h8
      have c3_8 := p3_8.1
      have d3_8 := p3_8.2.1
      have f3_8 := p3_8.2.2.1
      have g3_8 := p3_8.2.2.2
      go_wp2
      go_ret
      exact ⟨by simp, hb8⟩
    | true =>
      have hx : xs = xb := by have := Hh.out; simpa using this
      subst hx
      clear Hh
      go_wp2_with fail
      refine (refHas_is blo bhi v _ Hb.out _).mono ?_
      rintro e w7 ⟨rfl, h7⟩
      have hb7 := hb6.trans (h7.mono hb6.size)
      have p0_7 := p0_6.below h7
      have c0_7 := p0_7.1
      have d0_7 := p0_7.2.1
      have f0_7 := p0_7.2.2.1
      have g0_7 := p0_7.2.2.2
      have p1_7 := p1_6.below h7
      have c1_7 := p1_7.1
      have d1_7 := p1_7.2.1
      have f1_7 := p1_7.2.2.1
      have g1_7 := p1_7.2.2.2
      have p2_7 := p2_6.below h7
      have c2_7 := p2_7.1
      have d2_7 := p2_7.2.1
      have f2_7 := p2_7.2.2.1
      have g2_7 := p2_7.2.2.2
      have p3_7 := p3_6.below h7
      have c3_7 := p3_7.1
      have d3_7 := p3_7.2.1
      have f3_7 := p3_7.2.2.1
      have g3_7 := p3_7.2.2.2
      go_wp2_with fail
      refine (fixed_any _).mono ?_
      rintro e w8 ⟨rfl, h8⟩
      have hb8 := hb7.trans (h8.mono hb7.size)
      have p0_8 := p0_7.below h8
      have c0_8 := p0_8.1
      have d0_8 := p0_8.2.1
      have f0_8 := p0_8.2.2.1
      have g0_8 := p0_8.2.2.2
      have p1_8 := p1_7.below h8
      have c1_8 := p1_8.1
      have d1_8 := p1_8.2.1
      have f1_8 := p1_8.2.2.1
      have g1_8 := p1_8.2.2.2
      have p2_8 := p2_7.below h8
      have c2_8 := p2_8.1
      have d2_8 := p2_8.2.1
      have f2_8 := p2_8.2.2.1
      have g2_8 := p2_8.2.2.2
      have p3_8 := p3_7.below h8
      have c3_8 := p3_8.1
      have d3_8 := p3_8.2.1
      have f3_8 := p3_8.2.2.1
      have g3_8 := p3_8.2.2.2
      go_wp2_with fail
      refine (spanHas_is lo hi v _ Hs.out _).mono ?_
      rintro e w9 ⟨rfl, h9⟩
      have hb9 := hb8.trans (h9.mono hb8.size)
      have p0_9 := p0_8.below h9
      have c0_9 := p0_9.1
      have d0_9 := p0_9.2.1
      have f0_9 := p0_9.2.2.1
      have g0_9 := p0_9.2.2.2
      have p1_9 := p1_8.below h9
      have c1_9 := p1_9.1
      have d1_9 := p1_9.2.1
      have f1_9 := p1_9.2.2.1
      have g1_9 := p1_9.2.2.2
      have p2_9 := p2_8.below h9
      have c2_9 := p2_9.1
      have d2_9 := p2_9.2.1
      have f2_9 := p2_9.2.2.1
      have g2_9 := p2_9.2.2.2
      have p3_9 := p3_8.below h9
      have c3_9 := p3_9.1
      have d3_9 := p3_9.2.1
      have f3_9 := p3_9.2.2.1
      have g3_9 := p3_9.2.2.2
      go_wp2
      go_ret
      exact ⟨by simp, hb9⟩

end Go.Proofs.Ytgncikkfkmiejaa.Ver
