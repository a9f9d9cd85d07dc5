/- The document's Meet. -/
import Derived.Test.YtdijkekglaimfaaGreatDoorSpan12a
import Derived.Test.YtdijkekglaimfaaGreatDoorSpan12b
import Derived.Test.YtdijkekglaimfaaGreatDoorSpan12c
import Derived.Test.YtdijkekglaimfaaGreatDoorSpan12d
namespace Go.Proofs.YtdijkekglaimfaaGreatDoor.Ver
open Go.RowKit


set_option maxHeartbeats 8000000 in
theorem refMeet_is (alo ahi blo bhi lo hi : ByteArray) (b : Bool) (h : smeet alo ahi blo bhi = (lo, hi, b)) (w : World) :
    Calls Tryz.prog 52 #[.agg #[.string alo, .string ahi], .agg #[.string blo, .string bhi]] w fun e w' => e = .returned (.tuple #[.agg #[.string lo, .string hi], .bool b]) ∧ Below w.heap.size w w' := by
  obtain ⟨hb0, p0_0, p1_0, p2_0⟩ := three_new w alo ahi blo bhi 31
  cases ha : smay alo.data.toList ahi.data.toList with
  | false =>
    have h : ((⟨#[]⟩ : ByteArray), (⟨#[]⟩ : ByteArray), false) = (lo, hi, b) := by rw [← h]; unfold smeet; rw [ha]; rfl
    injection h with h1 h2; injection h2 with h2 h3; subst h1; subst h2; subst h3
    have Ha := Lib.hid ha
    clear ha
    go_enter Tryz.func52, Tryz.ntmps52
    go_wp2_with fail
    refine (refSMay_is alo ahi _ Ha.out _).mono ?_
    rintro e w1 ⟨rfl, h1⟩
    have hb1 := hb0.trans (h1.mono hb0.size)
    have p0_1 := p0_0.below h1
    have c0_1 := p0_1.1
    have d0_1 := p0_1.2.1
    have f0_1 := p0_1.2.2.1
    have g0_1 := p0_1.2.2.2
    have p1_1 := p1_0.below h1
    have c1_1 := p1_1.1
    have d1_1 := p1_1.2.1
    have f1_1 := p1_1.2.2.1
    have g1_1 := p1_1.2.2.2
    have p2_1 := p2_0.below h1
    have c2_1 := p2_1.1
    have d2_1 := p2_1.2.1
    have f2_1 := p2_1.2.2.1
    have g2_1 := p2_1.2.2.2
    go_wp2
    refine bodyPost_ret (v := .tuple #[.agg #[.string (⟨#[]⟩), .string (⟨#[]⟩)], .bool false]) (by simp [results, Tryz.results52, go_sem, c2_1, d2_1, World.cell?_setCell_same']) rfl ⟨rfl, (hb1.setCell (p := ⟨w.heap.size + 2, 0, none⟩) (Nat.le_add_right _ _) _).setCell (p := ⟨w.heap.size + 2, 1, none⟩) (Nat.le_add_right _ _) _⟩
  | true =>
  cases hb : smay blo.data.toList bhi.data.toList with
  | false =>
    have h : ((⟨#[]⟩ : ByteArray), (⟨#[]⟩ : ByteArray), false) = (lo, hi, b) := by rw [← h]; unfold smeet; rw [ha, hb]; rfl
    injection h with h1 h2; injection h2 with h2 h3; subst h1; subst h2; subst h3
    have Ha := Lib.hid ha
    have Hb := Lib.hid hb
    clear ha hb
    go_enter Tryz.func52, Tryz.ntmps52
    go_wp2_with fail
    refine (refSMay_is alo ahi _ Ha.out _).mono ?_
    rintro e w1 ⟨rfl, h1⟩
    have hb1 := hb0.trans (h1.mono hb0.size)
    have p0_1 := p0_0.below h1
    have c0_1 := p0_1.1
    have d0_1 := p0_1.2.1
    have f0_1 := p0_1.2.2.1
    have g0_1 := p0_1.2.2.2
    have p1_1 := p1_0.below h1
    have c1_1 := p1_1.1
    have d1_1 := p1_1.2.1
    have f1_1 := p1_1.2.2.1
    have g1_1 := p1_1.2.2.2
    have p2_1 := p2_0.below h1
    have c2_1 := p2_1.1
    have d2_1 := p2_1.2.1
    have f2_1 := p2_1.2.2.1
    have g2_1 := p2_1.2.2.2
    go_wp2_with fail
    refine (refSMay_is blo bhi _ Hb.out _).mono ?_
    rintro e w2 ⟨rfl, h2⟩
    have hb2 := hb1.trans (h2.mono hb1.size)
    have p0_2 := p0_1.below h2
    have c0_2 := p0_2.1
    have d0_2 := p0_2.2.1
    have f0_2 := p0_2.2.2.1
    have g0_2 := p0_2.2.2.2
    have p1_2 := p1_1.below h2
    have c1_2 := p1_2.1
    have d1_2 := p1_2.2.1
    have f1_2 := p1_2.2.2.1
    have g1_2 := p1_2.2.2.2
    have p2_2 := p2_1.below h2
    have c2_2 := p2_2.1
    have d2_2 := p2_2.2.1
    have f2_2 := p2_2.2.2.1
    have g2_2 := p2_2.2.2.2
    go_wp2
    refine bodyPost_ret (v := .tuple #[.agg #[.string (⟨#[]⟩), .string (⟨#[]⟩)], .bool false]) (by simp [results, Tryz.results52, go_sem, c2_2, d2_2, World.cell?_setCell_same']) rfl ⟨rfl, (hb2.setCell (p := ⟨w.heap.size + 2, 0, none⟩) (Nat.le_add_right _ _) _).setCell (p := ⟨w.heap.size + 2, 1, none⟩) (Nat.le_add_right _ _) _⟩
  | true =>
  rcases empty_or blo with ⟨u1, u2, u3⟩ | ⟨u1, u2, u3⟩
  · exact refMeet_a alo ahi blo bhi lo hi b h w ha hb u1 u2 u3
  rcases empty_or alo with ⟨t1, t2, t3⟩ | ⟨t1, t2, t3⟩
  · exact refMeet_b alo ahi blo bhi lo hi b h w ha hb u1 u2 u3 t1 t2 t3
  cases hl : less alo.data.toList blo.data.toList with
  | true => exact refMeet_c alo ahi blo bhi lo hi b h w ha hb u1 u2 u3 t1 t2 t3 hl
  | false => exact refMeet_d alo ahi blo bhi lo hi b h w ha hb u1 u2 u3 t1 t2 t3 hl

end Go.Proofs.YtdijkekglaimfaaGreatDoor.Ver
