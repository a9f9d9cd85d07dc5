/- The chapter's example; SpanHas. -/
import Derived.Test.YtgncikkfkmiejaaSpan4
import Derived.Deep.RegionHeld3
namespace Go.Proofs.Ytgncikkfkmiejaa.Ver
open Go.RowKit

theorem keepS {w a b : World} {n : Nat} {lo hi : ByteArray} (h : Below a.heap.size a b) (s : a.cell? ⟨n, 0, none⟩ = some (.string lo) ∧ a.cell? ⟨n, 1, none⟩ = some (.string hi) ∧ Below w.heap.size w a) :
    b.cell? ⟨n, 0, none⟩ = some (.string lo) ∧ b.cell? ⟨n, 1, none⟩ = some (.string hi) ∧ Below w.heap.size w b :=
  ⟨(h.cell (World.block_lt_of_cell? a _ s.1)).trans s.1, (h.cell (World.block_lt_of_cell? a _ s.2.1)).trans s.2.1, s.2.2.trans (h.mono s.2.2.size)⟩
theorem keepD {w a : World} {n : Nat} {lo hi : ByteArray} (s : a.cell? ⟨n, 0, none⟩ = some (.string lo) ∧ a.cell? ⟨n, 1, none⟩ = some (.string hi) ∧ Below w.heap.size w a) :
    a.drew.cell? ⟨n, 0, none⟩ = some (.string lo) ∧ a.drew.cell? ⟨n, 1, none⟩ = some (.string hi) ∧ Below w.heap.size w a.drew := ⟨s.1, s.2.1, s.2.2.drew⟩

theorem fixed_any (w : World) :
    Calls Try.prog 10 #[] w fun e w' => e = .returned (.bool true) ∧ Below w.heap.size w w' := by
  have hb0 : Below w.heap.size w w := Below.refl _ _
  go_enter Try.func10, Try.ntmps10
  go_wp2_with fail
  refine (spanRead_is ⟨#[49, 58, 50]⟩ ⟨#[49]⟩ ⟨#[50]⟩ true (by decide +kernel) (by decide) _).mono ?_
  rintro e w1 ⟨rfl, h1⟩
  have hb1 := hb0.trans (h1.mono hb0.size)
  have hb1 := hb1.alloc hb1.size (.cells #[.string (⟨#[49]⟩), .string (⟨#[50]⟩)] 23)
  have p0_1 := pair_new w1 (⟨#[49]⟩) (⟨#[50]⟩) 23
  go_wp2_with fail
  refine (spanHas_is ⟨#[49]⟩ ⟨#[50]⟩ ⟨#[49]⟩ true (by decide +kernel) _).mono ?_
  rintro e w2 ⟨rfl, h2⟩
  have hb2 := hb1.trans (h2.mono hb1.size)
  have p0_2 := p0_1.below h2
  have c0_2 := p0_2.1
  have d0_2 := p0_2.2.1
  have f0_2 := p0_2.2.2.1
  have g0_2 := p0_2.2.2.2
  go_wp2_with fail
  refine (spanHas_is ⟨#[49]⟩ ⟨#[50]⟩ ⟨#[49, 46, 53]⟩ true (by decide +kernel) _).mono ?_
  rintro e w3 ⟨rfl, h3⟩
  have hb3 := hb2.trans (h3.mono hb2.size)
  have p0_3 := p0_2.below h3
  have c0_3 := p0_3.1
  have d0_3 := p0_3.2.1
  have f0_3 := p0_3.2.2.1
  have g0_3 := p0_3.2.2.2
  go_wp2_with fail
  refine (spanHas_is ⟨#[49]⟩ ⟨#[50]⟩ ⟨#[50]⟩ true (by decide +kernel) _).mono ?_
  rintro e w4 ⟨rfl, h4⟩
  have hb4 := hb3.trans (h4.mono hb3.size)
  have p0_4 := p0_3.below h4
  have c0_4 := p0_4.1
  have d0_4 := p0_4.2.1
  have f0_4 := p0_4.2.2.1
  have g0_4 := p0_4.2.2.2
  go_wp2_with fail
  refine (spanHas_is ⟨#[49]⟩ ⟨#[50]⟩ ⟨#[50, 46, 48]⟩ false (by decide +kernel) _).mono ?_
  rintro e w5 ⟨rfl, h5⟩
  have hb5 := hb4.trans (h5.mono hb4.size)
  have p0_5 := p0_4.below h5
  have c0_5 := p0_5.1
  have d0_5 := p0_5.2.1
  have f0_5 := p0_5.2.2.1
  have g0_5 := p0_5.2.2.2
  go_wp2
  go_ret
  exact ⟨rfl, hb5⟩

set_option maxHeartbeats 1600000 in
theorem spanHas_any (lo hi : ByteArray) (v : ByteArray) (_hv : v.size ≤ maxLen) (w : World) :
    Calls Try.prog 3 #[.agg #[.string lo, .string hi], .string v] w fun e w' => e = .returned (.bool true) ∧ Below w.heap.size w w' := by
  have hb0 := below_new w (.cells #[.string lo, .string hi] 23)
  have p0_0 := pair_new w lo hi 23
  obtain ⟨m, hm⟩ : ∃ m, smay lo.data.toList hi.data.toList = m := ⟨_, rfl⟩
  obtain ⟨x, hx⟩ : ∃ x, shas lo.data.toList hi.data.toList v.data.toList = x := ⟨_, rfl⟩
  have Hm := Lib.hid hm
  have Hx := Lib.hid hx
  clear hm hx
  go_enter Try.func3, Try.ntmps3
  go_wp2_with fail
  refine (sgreat_is lo hi _).mono ?_
  rintro e w1 ⟨rfl | ⟨rfl, _, _⟩, h1⟩
  · skip
    have hb1 := hb0.trans (h1.mono hb0.size)
    have p0_1 := p0_0.below h1
    have c0_1 := p0_1.1
    have d0_1 := p0_1.2.1
    have f0_1 := p0_1.2.2.1
    have g0_1 := p0_1.2.2.2
    go_wp2_with fail
    refine (fixed_any _).mono ?_
    rintro e w2 ⟨rfl, h2⟩
    have hb2 := hb1.trans (h2.mono hb1.size)
    have p0_2 := p0_1.below h2
    have c0_2 := p0_2.1
    have d0_2 := p0_2.2.1
    have f0_2 := p0_2.2.2.1
    have g0_2 := p0_2.2.2.2
    go_wp2
    go_ret
    exact ⟨rfl, hb2⟩
  · skip
    have hb1 := hb0.trans (h1.mono hb0.size)
    have p0_1 := p0_0.below h1
    have c0_1 := p0_1.1
    have d0_1 := p0_1.2.1
    have f0_1 := p0_1.2.2.1
    have g0_1 := p0_1.2.2.2
    by_cases h3 : 3000 < v.size
    · have g1 : (3000 : Int) < v.size := by omega
      clear h3
      go_wp2_with fail
      refine (fixed_any _).mono ?_
      rintro e w2 ⟨rfl, h2⟩
      have hb2 := hb1.trans (h2.mono hb1.size)
      have p0_2 := p0_1.below h2
      have c0_2 := p0_2.1
      have d0_2 := p0_2.2.1
      have f0_2 := p0_2.2.2.1
      have g0_2 := p0_2.2.2.2
      go_wp2
      go_ret
      exact ⟨rfl, hb2⟩
    have g1 : ¬ (3000 : Int) < v.size := by omega
    clear h3
    go_wp2_with fail
    have hS : w1.cell? ⟨w.heap.size, 0, none⟩ = some (.string lo) ∧ w1.cell? ⟨w.heap.size, 1, none⟩ = some (.string hi) ∧ Below w.heap.size w w1 := ⟨c0_1, d0_1, hb1⟩
    clear c0_1 d0_1 f0_1 g0_1 p0_1 p0_0 hb0 hb1 h1
    go_region_held3 (fun w' => w'.cell? ⟨w.heap.size, 0, none⟩ = some (.string lo) ∧ w'.cell? ⟨w.heap.size, 1, none⟩ = some (.string hi) ∧ Below w.heap.size w w') (first | exact keepS (by assumption) (by assumption) | exact keepS (by assumption) ⟨by assumption, by assumption, by assumption⟩ | exact keepD (by assumption) | exact keepD ⟨by assumption, by assumption, by assumption⟩ | go_keep)
      (first
        | (go_at_call 10; refine (fixed_any _).mono ?_; rintro e w' ⟨rfl, h⟩)
        | (go_at_call 11; refine (spanMay_is lo hi _ Hm.out _).mono ?_; rintro e w' ⟨rfl, h⟩)
        | (go_at_call 12; refine (refSMay_is lo hi _ Hm.out _).mono ?_; rintro e w' ⟨rfl, h⟩)
        | (go_at_call 13; refine (spanHas_is lo hi v _ Hx.out _).mono ?_; rintro e w' ⟨rfl, h⟩)
        | (go_at_call 14; refine (refHas_is lo hi v _ Hx.out _).mono ?_; rintro e w' ⟨rfl, h⟩))
    rename_i hH
    go_wp2
    go_ret
    exact ⟨rfl, hH.2.2⟩

end Go.Proofs.Ytgncikkfkmiejaa.Ver
