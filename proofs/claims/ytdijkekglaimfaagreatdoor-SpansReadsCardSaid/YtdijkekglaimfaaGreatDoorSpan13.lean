/- SpanMeets. -/
import Derived.Test.YtdijkekglaimfaaGreatDoorSpan12
import Derived.Test.YtdijkekglaimfaaGreatDoorSpan5
namespace Go.Proofs.YtdijkekglaimfaaGreatDoor.Ver
open Go.RowKit

theorem joins_is (alo ahi blo bhi lo hi : ByteArray) (b : Bool) (h : smeet alo ahi blo bhi = (lo, hi, b)) (w : World) :
    Calls Tryz.prog 22 #[.agg #[.string alo, .string ahi], .agg #[.string blo, .string bhi]] w fun e w' => e = .returned (.bool b) ∧ Below w.heap.size w w' := by
  have Hm := Lib.hid h
  clear h
  obtain ⟨hb0, p0_0, p1_0⟩ := two_new w alo ahi blo bhi 31
  go_enter Tryz.func22, Tryz.ntmps22
  go_wp2_with fail
  refine (meet_is alo ahi blo bhi _ _ _ Hm.out _).mono ?_
  rintro e w1 ⟨rfl, h1⟩
  have hb1 := hb0.trans (h1.mono hb0.size)
  have p0_1 := p0_0.below h1
  have c0_1 := p0_1.1
  have d0_1 := p0_1.2.1
  have f0_1 := p0_1.2.2.1
  have g0_1 := p0_1.2.2.2
  have p1_1 := p1_0.below h1
  have c1_1 := p1_1.1
  have d1_1 := p1_1.2.1
  have f1_1 := p1_1.2.2.1
  have g1_1 := p1_1.2.2.2
  go_wp2
  go_ret
  exact ⟨rfl, hb1.alloc hb1.size _⟩

end Go.Proofs.YtdijkekglaimfaaGreatDoor.Ver
