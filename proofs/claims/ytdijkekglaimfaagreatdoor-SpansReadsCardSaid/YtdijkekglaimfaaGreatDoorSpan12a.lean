/- The document's Meet: way a of the lower bound. -/
import Derived.Test.YtdijkekglaimfaaGreatDoorSpanMath4
namespace Go.Proofs.YtdijkekglaimfaaGreatDoor.Ver
open Go.RowKit
set_option linter.unusedVariables false

set_option maxHeartbeats 8000000 in
theorem refMeet_a (alo ahi blo bhi lo hi : ByteArray) (b : Bool) (h : smeet alo ahi blo bhi = (lo, hi, b)) (w : World) (ha : smay alo.data.toList ahi.data.toList = true) (hb : smay blo.data.toList bhi.data.toList = true) (u1 : blo.toList = []) (u2 : blo.toList.isEmpty = true) (u3 : blo.data.toList = []) :
    Calls Tryz.prog 52 #[.agg #[.string alo, .string ahi], .agg #[.string blo, .string bhi]] w fun e w' => e = .returned (.tuple #[.agg #[.string lo, .string hi], .bool b]) ∧ Below w.heap.size w w' := by
  obtain ⟨hb0, p0_0, p1_0, p2_0⟩ := three_new w alo ahi blo bhi 31
  have hm : (if smay (mlo alo blo).data.toList (mhi ahi bhi).data.toList = true then (mlo alo blo, mhi ahi bhi, true) else ((⟨#[]⟩ : ByteArray), (⟨#[]⟩ : ByteArray), false)) = (lo, hi, b) := by
    rw [← h]; unfold smeet; rw [ha, hb]; rfl
  have bl := (smay_bounds ha).1
  have bh := (smay_bounds ha).2
  rw [Bool.or_eq_true] at bl bh
  have Bl := Lib.hid bl
  have Bh := Lib.hid bh
  have Ha := Lib.hid ha
  have Hb := Lib.hid hb
  clear ha hb h bl bh
  have el := mlo_1 (a := alo) u3
  clear u3 Bl
  rcases empty_or bhi with ⟨y1, y2, y3⟩ | ⟨y1, y2, y3⟩
  · have eh := mhi_1 (a := ahi) y3
    clear y3
    rw [el, eh] at hm
    clear el eh
    cases hs : smay alo.data.toList ahi.data.toList with
    | false =>
      rw [hs] at hm
      rw [if_neg (by simp)] at hm
      injection hm with h1 h2; injection h2 with h2 h3; subst h1; subst h2; subst h3
      have HS := Lib.hid hs
      clear hs
      go_enter Tryz.func52, Tryz.ntmps52
      go_wp2_with fail
      refine (refSMay_is alo ahi _ Ha.out _).mono ?_
      rintro e w1 ⟨rfl, h1⟩
      have hb1 := hb0.trans (h1.mono hb0.size)
      have p0_1 := p0_0.below h1
      have c0_1 := p0_1.1
      have d0_1 := p0_1.2.1
      have f0_1 := p0_1.2.2.1
      have g0_1 := p0_1.2.2.2
      have p1_1 := p1_0.below h1
      have c1_1 := p1_1.1
      have d1_1 := p1_1.2.1
      have f1_1 := p1_1.2.2.1
      have g1_1 := p1_1.2.2.2
      have p2_1 := p2_0.below h1
      have c2_1 := p2_1.1
      have d2_1 := p2_1.2.1
      have f2_1 := p2_1.2.2.1
      have g2_1 := p2_1.2.2.2
      go_wp2_with fail
      refine (refSMay_is blo bhi _ Hb.out _).mono ?_
      rintro e w2 ⟨rfl, h2⟩
      have hb2 := hb1.trans (h2.mono hb1.size)
      have p0_2 := p0_1.below h2
      have c0_2 := p0_2.1
      have d0_2 := p0_2.2.1
      have f0_2 := p0_2.2.2.1
      have g0_2 := p0_2.2.2.2
      have p1_2 := p1_1.below h2
      have c1_2 := p1_2.1
      have d1_2 := p1_2.2.1
      have f1_2 := p1_2.2.2.1
      have g1_2 := p1_2.2.2.2
      have p2_2 := p2_1.below h2
      have c2_2 := p2_2.1
      have d2_2 := p2_2.2.1
      have f2_2 := p2_2.2.2.1
      have g2_2 := p2_2.2.2.2
      have lt0 := World.block_lt_of_cell? _ _ p0_2.1
      have lt1 := World.block_lt_of_cell? _ _ p1_2.1
      have lt2 := World.block_lt_of_cell? _ _ p2_2.1
      have le3 := hb2.size
      have hb2 := hb2.alloc hb2.size (.cells #[.string (alo), .string (ahi)] 31)
      have p0_2 := p0_2.below (below_new _ (.cells #[.string (alo), .string (ahi)] 31))
      have p1_2 := p1_2.below (below_new _ (.cells #[.string (alo), .string (ahi)] 31))
      have p2_2 := p2_2.below (below_new _ (.cells #[.string (alo), .string (ahi)] 31))
      have p3_2 := pair_new w2 (alo) (ahi) 31
      go_wp2_with fail
      refine (refSMay_is alo ahi _ HS.out _).mono ?_
      rintro e w3 ⟨rfl, h3⟩
      have hb3 := hb2.trans (h3.mono hb2.size)
      have p0_3 := p0_2.below h3
      have c0_3 := p0_3.1
      have d0_3 := p0_3.2.1
      have f0_3 := p0_3.2.2.1
      have g0_3 := p0_3.2.2.2
      have p1_3 := p1_2.below h3
      have c1_3 := p1_3.1
      have d1_3 := p1_3.2.1
      have f1_3 := p1_3.2.2.1
      have g1_3 := p1_3.2.2.2
      have p2_3 := p2_2.below h3
      have c2_3 := p2_3.1
      have d2_3 := p2_3.2.1
      have f2_3 := p2_3.2.2.1
      have g2_3 := p2_3.2.2.2
      have p3_3 := p3_2.below h3
      have c3_3 := p3_3.1
      have d3_3 := p3_3.2.1
      have f3_3 := p3_3.2.2.1
      have g3_3 := p3_3.2.2.2
      go_wp2
      refine bodyPost_ret (v := .tuple #[.agg #[.string (⟨#[]⟩), .string (⟨#[]⟩)], .bool false]) (by simp [results, Tryz.results52, go_sem, c2_3, d2_3, World.cell?_setCell_same']) rfl ⟨rfl, (hb3.setCell (p := ⟨w.heap.size + 2, 0, none⟩) (Nat.le_add_right _ _) _).setCell (p := ⟨w.heap.size + 2, 1, none⟩) (Nat.le_add_right _ _) _⟩
    | true =>
      rw [hs] at hm
      rw [if_pos rfl] at hm
      injection hm with h1 h2; injection h2 with h2 h3; subst h1; subst h2; subst h3
      have HS := Lib.hid hs
      clear hs
      go_enter Tryz.func52, Tryz.ntmps52
      go_wp2_with fail
      refine (refSMay_is alo ahi _ Ha.out _).mono ?_
      rintro e w1 ⟨rfl, h1⟩
      have hb1 := hb0.trans (h1.mono hb0.size)
      have p0_1 := p0_0.below h1
      have c0_1 := p0_1.1
      have d0_1 := p0_1.2.1
      have f0_1 := p0_1.2.2.1
      have g0_1 := p0_1.2.2.2
      have p1_1 := p1_0.below h1
      have c1_1 := p1_1.1
      have d1_1 := p1_1.2.1
      have f1_1 := p1_1.2.2.1
      have g1_1 := p1_1.2.2.2
      have p2_1 := p2_0.below h1
      have c2_1 := p2_1.1
      have d2_1 := p2_1.2.1
      have f2_1 := p2_1.2.2.1
      have g2_1 := p2_1.2.2.2
      go_wp2_with fail
      refine (refSMay_is blo bhi _ Hb.out _).mono ?_
      rintro e w2 ⟨rfl, h2⟩
      have hb2 := hb1.trans (h2.mono hb1.size)
      have p0_2 := p0_1.below h2
      have c0_2 := p0_2.1
      have d0_2 := p0_2.2.1
      have f0_2 := p0_2.2.2.1
      have g0_2 := p0_2.2.2.2
      have p1_2 := p1_1.below h2
      have c1_2 := p1_2.1
      have d1_2 := p1_2.2.1
      have f1_2 := p1_2.2.2.1
      have g1_2 := p1_2.2.2.2
      have p2_2 := p2_1.below h2
      have c2_2 := p2_2.1
      have d2_2 := p2_2.2.1
      have f2_2 := p2_2.2.2.1
      have g2_2 := p2_2.2.2.2
      have lt0 := World.block_lt_of_cell? _ _ p0_2.1
      have lt1 := World.block_lt_of_cell? _ _ p1_2.1
      have lt2 := World.block_lt_of_cell? _ _ p2_2.1
      have le3 := hb2.size
      have hb2 := hb2.alloc hb2.size (.cells #[.string (alo), .string (ahi)] 31)
      have p0_2 := p0_2.below (below_new _ (.cells #[.string (alo), .string (ahi)] 31))
      have p1_2 := p1_2.below (below_new _ (.cells #[.string (alo), .string (ahi)] 31))
      have p2_2 := p2_2.below (below_new _ (.cells #[.string (alo), .string (ahi)] 31))
      have p3_2 := pair_new w2 (alo) (ahi) 31
      go_wp2_with fail
      refine (refSMay_is alo ahi _ HS.out _).mono ?_
      rintro e w3 ⟨rfl, h3⟩
      have hb3 := hb2.trans (h3.mono hb2.size)
      have p0_3 := p0_2.below h3
      have c0_3 := p0_3.1
      have d0_3 := p0_3.2.1
      have f0_3 := p0_3.2.2.1
      have g0_3 := p0_3.2.2.2
      have p1_3 := p1_2.below h3
      have c1_3 := p1_3.1
      have d1_3 := p1_3.2.1
      have f1_3 := p1_3.2.2.1
      have g1_3 := p1_3.2.2.2
      have p2_3 := p2_2.below h3
      have c2_3 := p2_3.1
      have d2_3 := p2_3.2.1
      have f2_3 := p2_3.2.2.1
      have g2_3 := p2_3.2.2.2
      have p3_3 := p3_2.below h3
      have c3_3 := p3_3.1
      have d3_3 := p3_3.2.1
      have f3_3 := p3_3.2.2.1
      have g3_3 := p3_3.2.2.2
      go_wp2
      refine bodyPost_ret (v := .tuple #[.agg #[.string (alo), .string (ahi)], .bool true]) (by simp [results, Tryz.results52, go_sem, c2_3, d2_3, World.cell?_setCell_same']) rfl ⟨rfl, (hb3.setCell (p := ⟨w.heap.size + 2, 0, none⟩) (Nat.le_add_right _ _) _).setCell (p := ⟨w.heap.size + 2, 1, none⟩) (Nat.le_add_right _ _) _⟩
  rcases empty_or ahi with ⟨x1, x2, x3⟩ | ⟨x1, x2, x3⟩
  · have eh := mhi_2 (b := bhi) x3
    clear x3 y3
    rw [el, eh] at hm
    clear el eh
    cases hs : smay alo.data.toList bhi.data.toList with
    | false =>
      rw [hs] at hm
      rw [if_neg (by simp)] at hm
      injection hm with h1 h2; injection h2 with h2 h3; subst h1; subst h2; subst h3
      have HS := Lib.hid hs
      clear hs
      go_enter Tryz.func52, Tryz.ntmps52
      go_wp2_with fail
      refine (refSMay_is alo ahi _ Ha.out _).mono ?_
      rintro e w1 ⟨rfl, h1⟩
      have hb1 := hb0.trans (h1.mono hb0.size)
      have p0_1 := p0_0.below h1
      have c0_1 := p0_1.1
      have d0_1 := p0_1.2.1
      have f0_1 := p0_1.2.2.1
      have g0_1 := p0_1.2.2.2
      have p1_1 := p1_0.below h1
      have c1_1 := p1_1.1
      have d1_1 := p1_1.2.1
      have f1_1 := p1_1.2.2.1
      have g1_1 := p1_1.2.2.2
      have p2_1 := p2_0.below h1
      have c2_1 := p2_1.1
      have d2_1 := p2_1.2.1
      have f2_1 := p2_1.2.2.1
      have g2_1 := p2_1.2.2.2
      go_wp2_with fail
      refine (refSMay_is blo bhi _ Hb.out _).mono ?_
      rintro e w2 ⟨rfl, h2⟩
      have hb2 := hb1.trans (h2.mono hb1.size)
      have p0_2 := p0_1.below h2
      have c0_2 := p0_2.1
      have d0_2 := p0_2.2.1
      have f0_2 := p0_2.2.2.1
      have g0_2 := p0_2.2.2.2
      have p1_2 := p1_1.below h2
      have c1_2 := p1_2.1
      have d1_2 := p1_2.2.1
      have f1_2 := p1_2.2.2.1
      have g1_2 := p1_2.2.2.2
      have p2_2 := p2_1.below h2
      have c2_2 := p2_2.1
      have d2_2 := p2_2.2.1
      have f2_2 := p2_2.2.2.1
      have g2_2 := p2_2.2.2.2
      have lt0 := World.block_lt_of_cell? _ _ p0_2.1
      have lt1 := World.block_lt_of_cell? _ _ p1_2.1
      have lt2 := World.block_lt_of_cell? _ _ p2_2.1
      have le3 := hb2.size
      have hb2 := hb2.alloc hb2.size (.cells #[.string (alo), .string (bhi)] 31)
      have p0_2 := p0_2.below (below_new _ (.cells #[.string (alo), .string (bhi)] 31))
      have p1_2 := p1_2.below (below_new _ (.cells #[.string (alo), .string (bhi)] 31))
      have p2_2 := p2_2.below (below_new _ (.cells #[.string (alo), .string (bhi)] 31))
      have p3_2 := pair_new w2 (alo) (bhi) 31
      go_wp2_with fail
      refine (refSMay_is alo bhi _ HS.out _).mono ?_
      rintro e w3 ⟨rfl, h3⟩
      have hb3 := hb2.trans (h3.mono hb2.size)
      have p0_3 := p0_2.below h3
      have c0_3 := p0_3.1
      have d0_3 := p0_3.2.1
      have f0_3 := p0_3.2.2.1
      have g0_3 := p0_3.2.2.2
      have p1_3 := p1_2.below h3
      have c1_3 := p1_3.1
      have d1_3 := p1_3.2.1
      have f1_3 := p1_3.2.2.1
      have g1_3 := p1_3.2.2.2
      have p2_3 := p2_2.below h3
      have c2_3 := p2_3.1
      have d2_3 := p2_3.2.1
      have f2_3 := p2_3.2.2.1
      have g2_3 := p2_3.2.2.2
      have p3_3 := p3_2.below h3
      have c3_3 := p3_3.1
      have d3_3 := p3_3.2.1
      have f3_3 := p3_3.2.2.1
      have g3_3 := p3_3.2.2.2
      go_wp2
      refine bodyPost_ret (v := .tuple #[.agg #[.string (⟨#[]⟩), .string (⟨#[]⟩)], .bool false]) (by simp [results, Tryz.results52, go_sem, c2_3, d2_3, World.cell?_setCell_same']) rfl ⟨rfl, (hb3.setCell (p := ⟨w.heap.size + 2, 0, none⟩) (Nat.le_add_right _ _) _).setCell (p := ⟨w.heap.size + 2, 1, none⟩) (Nat.le_add_right _ _) _⟩
    | true =>
      rw [hs] at hm
      rw [if_pos rfl] at hm
      injection hm with h1 h2; injection h2 with h2 h3; subst h1; subst h2; subst h3
      have HS := Lib.hid hs
      clear hs
      go_enter Tryz.func52, Tryz.ntmps52
      go_wp2_with fail
      refine (refSMay_is alo ahi _ Ha.out _).mono ?_
      rintro e w1 ⟨rfl, h1⟩
      have hb1 := hb0.trans (h1.mono hb0.size)
      have p0_1 := p0_0.below h1
      have c0_1 := p0_1.1
      have d0_1 := p0_1.2.1
      have f0_1 := p0_1.2.2.1
      have g0_1 := p0_1.2.2.2
      have p1_1 := p1_0.below h1
      have c1_1 := p1_1.1
      have d1_1 := p1_1.2.1
      have f1_1 := p1_1.2.2.1
      have g1_1 := p1_1.2.2.2
      have p2_1 := p2_0.below h1
      have c2_1 := p2_1.1
      have d2_1 := p2_1.2.1
      have f2_1 := p2_1.2.2.1
      have g2_1 := p2_1.2.2.2
      go_wp2_with fail
      refine (refSMay_is blo bhi _ Hb.out _).mono ?_
      rintro e w2 ⟨rfl, h2⟩
      have hb2 := hb1.trans (h2.mono hb1.size)
      have p0_2 := p0_1.below h2
      have c0_2 := p0_2.1
      have d0_2 := p0_2.2.1
      have f0_2 := p0_2.2.2.1
      have g0_2 := p0_2.2.2.2
      have p1_2 := p1_1.below h2
      have c1_2 := p1_2.1
      have d1_2 := p1_2.2.1
      have f1_2 := p1_2.2.2.1
      have g1_2 := p1_2.2.2.2
      have p2_2 := p2_1.below h2
      have c2_2 := p2_2.1
      have d2_2 := p2_2.2.1
      have f2_2 := p2_2.2.2.1
      have g2_2 := p2_2.2.2.2
      have lt0 := World.block_lt_of_cell? _ _ p0_2.1
      have lt1 := World.block_lt_of_cell? _ _ p1_2.1
      have lt2 := World.block_lt_of_cell? _ _ p2_2.1
      have le3 := hb2.size
      have hb2 := hb2.alloc hb2.size (.cells #[.string (alo), .string (bhi)] 31)
      have p0_2 := p0_2.below (below_new _ (.cells #[.string (alo), .string (bhi)] 31))
      have p1_2 := p1_2.below (below_new _ (.cells #[.string (alo), .string (bhi)] 31))
      have p2_2 := p2_2.below (below_new _ (.cells #[.string (alo), .string (bhi)] 31))
      have p3_2 := pair_new w2 (alo) (bhi) 31
      go_wp2_with fail
      refine (refSMay_is alo bhi _ HS.out _).mono ?_
      rintro e w3 ⟨rfl, h3⟩
      have hb3 := hb2.trans (h3.mono hb2.size)
      have p0_3 := p0_2.below h3
      have c0_3 := p0_3.1
      have d0_3 := p0_3.2.1
      have f0_3 := p0_3.2.2.1
      have g0_3 := p0_3.2.2.2
      have p1_3 := p1_2.below h3
      have c1_3 := p1_3.1
      have d1_3 := p1_3.2.1
      have f1_3 := p1_3.2.2.1
      have g1_3 := p1_3.2.2.2
      have p2_3 := p2_2.below h3
      have c2_3 := p2_3.1
      have d2_3 := p2_3.2.1
      have f2_3 := p2_3.2.2.1
      have g2_3 := p2_3.2.2.2
      have p3_3 := p3_2.below h3
      have c3_3 := p3_3.1
      have d3_3 := p3_3.2.1
      have f3_3 := p3_3.2.2.1
      have g3_3 := p3_3.2.2.2
      go_wp2
      refine bodyPost_ret (v := .tuple #[.agg #[.string (alo), .string (bhi)], .bool true]) (by simp [results, Tryz.results52, go_sem, c2_3, d2_3, World.cell?_setCell_same']) rfl ⟨rfl, (hb3.setCell (p := ⟨w.heap.size + 2, 0, none⟩) (Nat.le_add_right _ _) _).setCell (p := ⟨w.heap.size + 2, 1, none⟩) (Nat.le_add_right _ _) _⟩
  cases hh : less bhi.data.toList ahi.data.toList with
  | true =>
    have eh := mhi_3 y3 hh
    have HH := Lib.hid hh
    clear x3 y3 hh
    rw [el, eh] at hm
    clear el eh
    cases hs : smay alo.data.toList bhi.data.toList with
    | false =>
      rw [hs] at hm
      rw [if_neg (by simp)] at hm
      injection hm with h1 h2; injection h2 with h2 h3; subst h1; subst h2; subst h3
      have HS := Lib.hid hs
      clear hs
      go_enter Tryz.func52, Tryz.ntmps52
      go_wp2_with fail
      refine (refSMay_is alo ahi _ Ha.out _).mono ?_
      rintro e w1 ⟨rfl, h1⟩
      have hb1 := hb0.trans (h1.mono hb0.size)
      have p0_1 := p0_0.below h1
      have c0_1 := p0_1.1
      have d0_1 := p0_1.2.1
      have f0_1 := p0_1.2.2.1
      have g0_1 := p0_1.2.2.2
      have p1_1 := p1_0.below h1
      have c1_1 := p1_1.1
      have d1_1 := p1_1.2.1
      have f1_1 := p1_1.2.2.1
      have g1_1 := p1_1.2.2.2
      have p2_1 := p2_0.below h1
      have c2_1 := p2_1.1
      have d2_1 := p2_1.2.1
      have f2_1 := p2_1.2.2.1
      have g2_1 := p2_1.2.2.2
      go_wp2_with fail
      refine (refSMay_is blo bhi _ Hb.out _).mono ?_
      rintro e w2 ⟨rfl, h2⟩
      have hb2 := hb1.trans (h2.mono hb1.size)
      have p0_2 := p0_1.below h2
      have c0_2 := p0_2.1
      have d0_2 := p0_2.2.1
      have f0_2 := p0_2.2.2.1
      have g0_2 := p0_2.2.2.2
      have p1_2 := p1_1.below h2
      have c1_2 := p1_2.1
      have d1_2 := p1_2.2.1
      have f1_2 := p1_2.2.2.1
      have g1_2 := p1_2.2.2.2
      have p2_2 := p2_1.below h2
      have c2_2 := p2_2.1
      have d2_2 := p2_2.2.1
      have f2_2 := p2_2.2.2.1
      have g2_2 := p2_2.2.2.2
      have lt0 := World.block_lt_of_cell? _ _ p0_2.1
      have lt1 := World.block_lt_of_cell? _ _ p1_2.1
      have lt2 := World.block_lt_of_cell? _ _ p2_2.1
      have le3 := hb2.size
      have hb2 := hb2.alloc hb2.size (.cells #[.string (alo), .string (ahi)] 31)
      have p0_2 := p0_2.below (below_new _ (.cells #[.string (alo), .string (ahi)] 31))
      have p1_2 := p1_2.below (below_new _ (.cells #[.string (alo), .string (ahi)] 31))
      have p2_2 := p2_2.below (below_new _ (.cells #[.string (alo), .string (ahi)] 31))
      have p3_2 := pair_new w2 (alo) (ahi) 31
      go_wp2_with fail
      refine (less_is bhi ahi _ HH.out _).mono ?_
      rintro e w3 ⟨rfl, h3⟩
      have hb3 := hb2.trans (h3.mono hb2.size)
      have p0_3 := p0_2.below h3
      have c0_3 := p0_3.1
      have d0_3 := p0_3.2.1
      have f0_3 := p0_3.2.2.1
      have g0_3 := p0_3.2.2.2
      have p1_3 := p1_2.below h3
      have c1_3 := p1_3.1
      have d1_3 := p1_3.2.1
      have f1_3 := p1_3.2.2.1
      have g1_3 := p1_3.2.2.2
      have p2_3 := p2_2.below h3
      have c2_3 := p2_3.1
      have d2_3 := p2_3.2.1
      have f2_3 := p2_3.2.2.1
      have g2_3 := p2_3.2.2.2
      have p3_3 := p3_2.below h3
      have c3_3 := p3_3.1
      have d3_3 := p3_3.2.1
      have f3_3 := p3_3.2.2.1
      have g3_3 := p3_3.2.2.2
      have hb3 := hb3.setCell (p := ⟨w2.heap.size, 1, none⟩) le3 (.string bhi)
      have p0_3 := p0_3.other (Nat.ne_of_lt lt0) 1 (.string bhi)
      have p1_3 := p1_3.other (Nat.ne_of_lt lt1) 1 (.string bhi)
      have p2_3 := p2_3.other (Nat.ne_of_lt lt2) 1 (.string bhi)
      have p3_3 := p3_3.set1 bhi
      have c0_3 := p0_3.1
      have d0_3 := p0_3.2.1
      have f0_3 := p0_3.2.2.1
      have g0_3 := p0_3.2.2.2
      have c1_3 := p1_3.1
      have d1_3 := p1_3.2.1
      have f1_3 := p1_3.2.2.1
      have g1_3 := p1_3.2.2.2
      have c2_3 := p2_3.1
      have d2_3 := p2_3.2.1
      have f2_3 := p2_3.2.2.1
      have g2_3 := p2_3.2.2.2
      have c3_3 := p3_3.1
      have d3_3 := p3_3.2.1
      have f3_3 := p3_3.2.2.1
      have g3_3 := p3_3.2.2.2
      go_wp2_with fail
      refine (refSMay_is alo bhi _ HS.out _).mono ?_
      rintro e w4 ⟨rfl, h4⟩
      have hb4 := hb3.trans (h4.mono hb3.size)
      have p0_4 := p0_3.below h4
      have c0_4 := p0_4.1
      have d0_4 := p0_4.2.1
      have f0_4 := p0_4.2.2.1
      have g0_4 := p0_4.2.2.2
      have p1_4 := p1_3.below h4
      have c1_4 := p1_4.1
      have d1_4 := p1_4.2.1
      have f1_4 := p1_4.2.2.1
      have g1_4 := p1_4.2.2.2
      have p2_4 := p2_3.below h4
      have c2_4 := p2_4.1
      have d2_4 := p2_4.2.1
      have f2_4 := p2_4.2.2.1
      have g2_4 := p2_4.2.2.2
      have p3_4 := p3_3.below h4
      have c3_4 := p3_4.1
      have d3_4 := p3_4.2.1
      have f3_4 := p3_4.2.2.1
      have g3_4 := p3_4.2.2.2
      go_wp2
      refine bodyPost_ret (v := .tuple #[.agg #[.string (⟨#[]⟩), .string (⟨#[]⟩)], .bool false]) (by simp [results, Tryz.results52, go_sem, c2_4, d2_4, World.cell?_setCell_same']) rfl ⟨rfl, (hb4.setCell (p := ⟨w.heap.size + 2, 0, none⟩) (Nat.le_add_right _ _) _).setCell (p := ⟨w.heap.size + 2, 1, none⟩) (Nat.le_add_right _ _) _⟩
    | true =>
      rw [hs] at hm
      rw [if_pos rfl] at hm
      injection hm with h1 h2; injection h2 with h2 h3; subst h1; subst h2; subst h3
      have HS := Lib.hid hs
      clear hs
      go_enter Tryz.func52, Tryz.ntmps52
      go_wp2_with fail
      refine (refSMay_is alo ahi _ Ha.out _).mono ?_
      rintro e w1 ⟨rfl, h1⟩
      have hb1 := hb0.trans (h1.mono hb0.size)
      have p0_1 := p0_0.below h1
      have c0_1 := p0_1.1
      have d0_1 := p0_1.2.1
      have f0_1 := p0_1.2.2.1
      have g0_1 := p0_1.2.2.2
      have p1_1 := p1_0.below h1
      have c1_1 := p1_1.1
      have d1_1 := p1_1.2.1
      have f1_1 := p1_1.2.2.1
      have g1_1 := p1_1.2.2.2
      have p2_1 := p2_0.below h1
      have c2_1 := p2_1.1
      have d2_1 := p2_1.2.1
      have f2_1 := p2_1.2.2.1
      have g2_1 := p2_1.2.2.2
      go_wp2_with fail
      refine (refSMay_is blo bhi _ Hb.out _).mono ?_
      rintro e w2 ⟨rfl, h2⟩
      have hb2 := hb1.trans (h2.mono hb1.size)
      have p0_2 := p0_1.below h2
      have c0_2 := p0_2.1
      have d0_2 := p0_2.2.1
      have f0_2 := p0_2.2.2.1
      have g0_2 := p0_2.2.2.2
      have p1_2 := p1_1.below h2
      have c1_2 := p1_2.1
      have d1_2 := p1_2.2.1
      have f1_2 := p1_2.2.2.1
      have g1_2 := p1_2.2.2.2
      have p2_2 := p2_1.below h2
      have c2_2 := p2_2.1
      have d2_2 := p2_2.2.1
      have f2_2 := p2_2.2.2.1
      have g2_2 := p2_2.2.2.2
      have lt0 := World.block_lt_of_cell? _ _ p0_2.1
      have lt1 := World.block_lt_of_cell? _ _ p1_2.1
      have lt2 := World.block_lt_of_cell? _ _ p2_2.1
      have le3 := hb2.size
      have hb2 := hb2.alloc hb2.size (.cells #[.string (alo), .string (ahi)] 31)
      have p0_2 := p0_2.below (below_new _ (.cells #[.string (alo), .string (ahi)] 31))
      have p1_2 := p1_2.below (below_new _ (.cells #[.string (alo), .string (ahi)] 31))
      have p2_2 := p2_2.below (below_new _ (.cells #[.string (alo), .string (ahi)] 31))
      have p3_2 := pair_new w2 (alo) (ahi) 31
      go_wp2_with fail
      refine (less_is bhi ahi _ HH.out _).mono ?_
      rintro e w3 ⟨rfl, h3⟩
      have hb3 := hb2.trans (h3.mono hb2.size)
      have p0_3 := p0_2.below h3
      have c0_3 := p0_3.1
      have d0_3 := p0_3.2.1
      have f0_3 := p0_3.2.2.1
      have g0_3 := p0_3.2.2.2
      have p1_3 := p1_2.below h3
      have c1_3 := p1_3.1
      have d1_3 := p1_3.2.1
      have f1_3 := p1_3.2.2.1
      have g1_3 := p1_3.2.2.2
      have p2_3 := p2_2.below h3
      have c2_3 := p2_3.1
      have d2_3 := p2_3.2.1
      have f2_3 := p2_3.2.2.1
      have g2_3 := p2_3.2.2.2
      have p3_3 := p3_2.below h3
      have c3_3 := p3_3.1
      have d3_3 := p3_3.2.1
      have f3_3 := p3_3.2.2.1
      have g3_3 := p3_3.2.2.2
      have hb3 := hb3.setCell (p := ⟨w2.heap.size, 1, none⟩) le3 (.string bhi)
      have p0_3 := p0_3.other (Nat.ne_of_lt lt0) 1 (.string bhi)
      have p1_3 := p1_3.other (Nat.ne_of_lt lt1) 1 (.string bhi)
      have p2_3 := p2_3.other (Nat.ne_of_lt lt2) 1 (.string bhi)
      have p3_3 := p3_3.set1 bhi
      have c0_3 := p0_3.1
      have d0_3 := p0_3.2.1
      have f0_3 := p0_3.2.2.1
      have g0_3 := p0_3.2.2.2
      have c1_3 := p1_3.1
      have d1_3 := p1_3.2.1
      have f1_3 := p1_3.2.2.1
      have g1_3 := p1_3.2.2.2
      have c2_3 := p2_3.1
      have d2_3 := p2_3.2.1
      have f2_3 := p2_3.2.2.1
      have g2_3 := p2_3.2.2.2
      have c3_3 := p3_3.1
      have d3_3 := p3_3.2.1
      have f3_3 := p3_3.2.2.1
      have g3_3 := p3_3.2.2.2
      go_wp2_with fail
      refine (refSMay_is alo bhi _ HS.out _).mono ?_
      rintro e w4 ⟨rfl, h4⟩
      have hb4 := hb3.trans (h4.mono hb3.size)
      have p0_4 := p0_3.below h4
      have c0_4 := p0_4.1
      have d0_4 := p0_4.2.1
      have f0_4 := p0_4.2.2.1
      have g0_4 := p0_4.2.2.2
      have p1_4 := p1_3.below h4
      have c1_4 := p1_4.1
      have d1_4 := p1_4.2.1
      have f1_4 := p1_4.2.2.1
      have g1_4 := p1_4.2.2.2
      have p2_4 := p2_3.below h4
      have c2_4 := p2_4.1
      have d2_4 := p2_4.2.1
      have f2_4 := p2_4.2.2.1
      have g2_4 := p2_4.2.2.2
      have p3_4 := p3_3.below h4
      have c3_4 := p3_4.1
      have d3_4 := p3_4.2.1
      have f3_4 := p3_4.2.2.1
      have g3_4 := p3_4.2.2.2
      go_wp2
      refine bodyPost_ret (v := .tuple #[.agg #[.string (alo), .string (bhi)], .bool true]) (by simp [results, Tryz.results52, go_sem, c2_4, d2_4, World.cell?_setCell_same']) rfl ⟨rfl, (hb4.setCell (p := ⟨w.heap.size + 2, 0, none⟩) (Nat.le_add_right _ _) _).setCell (p := ⟨w.heap.size + 2, 1, none⟩) (Nat.le_add_right _ _) _⟩
  | false =>
    have eh := mhi_4 x3 y3 (Bh.out.resolve_left (by rw [x3]; simp)) hh
    have HH := Lib.hid hh
    clear x3 y3 hh
    rw [el, eh] at hm
    clear el eh
    cases hs : smay alo.data.toList ahi.data.toList with
    | false =>
      rw [hs] at hm
      rw [if_neg (by simp)] at hm
      injection hm with h1 h2; injection h2 with h2 h3; subst h1; subst h2; subst h3
      have HS := Lib.hid hs
      clear hs
      go_enter Tryz.func52, Tryz.ntmps52
      go_wp2_with fail
      refine (refSMay_is alo ahi _ Ha.out _).mono ?_
      rintro e w1 ⟨rfl, h1⟩
      have hb1 := hb0.trans (h1.mono hb0.size)
      have p0_1 := p0_0.below h1
      have c0_1 := p0_1.1
      have d0_1 := p0_1.2.1
      have f0_1 := p0_1.2.2.1
      have g0_1 := p0_1.2.2.2
      have p1_1 := p1_0.below h1
      have c1_1 := p1_1.1
      have d1_1 := p1_1.2.1
      have f1_1 := p1_1.2.2.1
      have g1_1 := p1_1.2.2.2
      have p2_1 := p2_0.below h1
      have c2_1 := p2_1.1
      have d2_1 := p2_1.2.1
      have f2_1 := p2_1.2.2.1
      have g2_1 := p2_1.2.2.2
      go_wp2_with fail
      refine (refSMay_is blo bhi _ Hb.out _).mono ?_
      rintro e w2 ⟨rfl, h2⟩
      have hb2 := hb1.trans (h2.mono hb1.size)
      have p0_2 := p0_1.below h2
      have c0_2 := p0_2.1
      have d0_2 := p0_2.2.1
      have f0_2 := p0_2.2.2.1
      have g0_2 := p0_2.2.2.2
      have p1_2 := p1_1.below h2
      have c1_2 := p1_2.1
      have d1_2 := p1_2.2.1
      have f1_2 := p1_2.2.2.1
      have g1_2 := p1_2.2.2.2
      have p2_2 := p2_1.below h2
      have c2_2 := p2_2.1
      have d2_2 := p2_2.2.1
      have f2_2 := p2_2.2.2.1
      have g2_2 := p2_2.2.2.2
      have lt0 := World.block_lt_of_cell? _ _ p0_2.1
      have lt1 := World.block_lt_of_cell? _ _ p1_2.1
      have lt2 := World.block_lt_of_cell? _ _ p2_2.1
      have le3 := hb2.size
      have hb2 := hb2.alloc hb2.size (.cells #[.string (alo), .string (ahi)] 31)
      have p0_2 := p0_2.below (below_new _ (.cells #[.string (alo), .string (ahi)] 31))
      have p1_2 := p1_2.below (below_new _ (.cells #[.string (alo), .string (ahi)] 31))
      have p2_2 := p2_2.below (below_new _ (.cells #[.string (alo), .string (ahi)] 31))
      have p3_2 := pair_new w2 (alo) (ahi) 31
      go_wp2_with fail
      refine (less_is bhi ahi _ HH.out _).mono ?_
      rintro e w3 ⟨rfl, h3⟩
      have hb3 := hb2.trans (h3.mono hb2.size)
      have p0_3 := p0_2.below h3
      have c0_3 := p0_3.1
      have d0_3 := p0_3.2.1
      have f0_3 := p0_3.2.2.1
      have g0_3 := p0_3.2.2.2
      have p1_3 := p1_2.below h3
      have c1_3 := p1_3.1
      have d1_3 := p1_3.2.1
      have f1_3 := p1_3.2.2.1
      have g1_3 := p1_3.2.2.2
      have p2_3 := p2_2.below h3
      have c2_3 := p2_3.1
      have d2_3 := p2_3.2.1
      have f2_3 := p2_3.2.2.1
      have g2_3 := p2_3.2.2.2
      have p3_3 := p3_2.below h3
      have c3_3 := p3_3.1
      have d3_3 := p3_3.2.1
      have f3_3 := p3_3.2.2.1
      have g3_3 := p3_3.2.2.2
      go_wp2_with fail
      refine (refSMay_is alo ahi _ HS.out _).mono ?_
      rintro e w4 ⟨rfl, h4⟩
      have hb4 := hb3.trans (h4.mono hb3.size)
      have p0_4 := p0_3.below h4
      have c0_4 := p0_4.1
      have d0_4 := p0_4.2.1
      have f0_4 := p0_4.2.2.1
      have g0_4 := p0_4.2.2.2
      have p1_4 := p1_3.below h4
      have c1_4 := p1_4.1
      have d1_4 := p1_4.2.1
      have f1_4 := p1_4.2.2.1
      have g1_4 := p1_4.2.2.2
      have p2_4 := p2_3.below h4
      have c2_4 := p2_4.1
      have d2_4 := p2_4.2.1
      have f2_4 := p2_4.2.2.1
      have g2_4 := p2_4.2.2.2
      have p3_4 := p3_3.below h4
      have c3_4 := p3_4.1
      have d3_4 := p3_4.2.1
      have f3_4 := p3_4.2.2.1
      have g3_4 := p3_4.2.2.2
      go_wp2
      refine bodyPost_ret (v := .tuple #[.agg #[.string (⟨#[]⟩), .string (⟨#[]⟩)], .bool false]) (by simp [results, Tryz.results52, go_sem, c2_4, d2_4, World.cell?_setCell_same']) rfl ⟨rfl, (hb4.setCell (p := ⟨w.heap.size + 2, 0, none⟩) (Nat.le_add_right _ _) _).setCell (p := ⟨w.heap.size + 2, 1, none⟩) (Nat.le_add_right _ _) _⟩
    | true =>
      rw [hs] at hm
      rw [if_pos rfl] at hm
      injection hm with h1 h2; injection h2 with h2 h3; subst h1; subst h2; subst h3
      have HS := Lib.hid hs
      clear hs
      go_enter Tryz.func52, Tryz.ntmps52
      go_wp2_with fail
      refine (refSMay_is alo ahi _ Ha.out _).mono ?_
      rintro e w1 ⟨rfl, h1⟩
      have hb1 := hb0.trans (h1.mono hb0.size)
      have p0_1 := p0_0.below h1
      have c0_1 := p0_1.1
      have d0_1 := p0_1.2.1
      have f0_1 := p0_1.2.2.1
      have g0_1 := p0_1.2.2.2
      have p1_1 := p1_0.below h1
      have c1_1 := p1_1.1
      have d1_1 := p1_1.2.1
      have f1_1 := p1_1.2.2.1
      have g1_1 := p1_1.2.2.2
      have p2_1 := p2_0.below h1
      have c2_1 := p2_1.1
      have d2_1 := p2_1.2.1
      have f2_1 := p2_1.2.2.1
      have g2_1 := p2_1.2.2.2
      go_wp2_with fail
      refine (refSMay_is blo bhi _ Hb.out _).mono ?_
      rintro e w2 ⟨rfl, h2⟩
      have hb2 := hb1.trans (h2.mono hb1.size)
      have p0_2 := p0_1.below h2
      have c0_2 := p0_2.1
      have d0_2 := p0_2.2.1
      have f0_2 := p0_2.2.2.1
      have g0_2 := p0_2.2.2.2
      have p1_2 := p1_1.below h2
      have c1_2 := p1_2.1
      have d1_2 := p1_2.2.1
      have f1_2 := p1_2.2.2.1
      have g1_2 := p1_2.2.2.2
      have p2_2 := p2_1.below h2
      have c2_2 := p2_2.1
      have d2_2 := p2_2.2.1
      have f2_2 := p2_2.2.2.1
      have g2_2 := p2_2.2.2.2
      have lt0 := World.block_lt_of_cell? _ _ p0_2.1
      have lt1 := World.block_lt_of_cell? _ _ p1_2.1
      have lt2 := World.block_lt_of_cell? _ _ p2_2.1
      have le3 := hb2.size
      have hb2 := hb2.alloc hb2.size (.cells #[.string (alo), .string (ahi)] 31)
      have p0_2 := p0_2.below (below_new _ (.cells #[.string (alo), .string (ahi)] 31))
      have p1_2 := p1_2.below (below_new _ (.cells #[.string (alo), .string (ahi)] 31))
      have p2_2 := p2_2.below (below_new _ (.cells #[.string (alo), .string (ahi)] 31))
      have p3_2 := pair_new w2 (alo) (ahi) 31
      go_wp2_with fail
      refine (less_is bhi ahi _ HH.out _).mono ?_
      rintro e w3 ⟨rfl, h3⟩
      have hb3 := hb2.trans (h3.mono hb2.size)
      have p0_3 := p0_2.below h3
      have c0_3 := p0_3.1
      have d0_3 := p0_3.2.1
      have f0_3 := p0_3.2.2.1
      have g0_3 := p0_3.2.2.2
      have p1_3 := p1_2.below h3
      have c1_3 := p1_3.1
      have d1_3 := p1_3.2.1
      have f1_3 := p1_3.2.2.1
      have g1_3 := p1_3.2.2.2
      have p2_3 := p2_2.below h3
      have c2_3 := p2_3.1
      have d2_3 := p2_3.2.1
      have f2_3 := p2_3.2.2.1
      have g2_3 := p2_3.2.2.2
      have p3_3 := p3_2.below h3
      have c3_3 := p3_3.1
      have d3_3 := p3_3.2.1
      have f3_3 := p3_3.2.2.1
      have g3_3 := p3_3.2.2.2
      go_wp2_with fail
      refine (refSMay_is alo ahi _ HS.out _).mono ?_
      rintro e w4 ⟨rfl, h4⟩
      have hb4 := hb3.trans (h4.mono hb3.size)
      have p0_4 := p0_3.below h4
      have c0_4 := p0_4.1
      have d0_4 := p0_4.2.1
      have f0_4 := p0_4.2.2.1
      have g0_4 := p0_4.2.2.2
      have p1_4 := p1_3.below h4
      have c1_4 := p1_4.1
      have d1_4 := p1_4.2.1
      have f1_4 := p1_4.2.2.1
      have g1_4 := p1_4.2.2.2
      have p2_4 := p2_3.below h4
      have c2_4 := p2_4.1
      have d2_4 := p2_4.2.1
      have f2_4 := p2_4.2.2.1
      have g2_4 := p2_4.2.2.2
      have p3_4 := p3_3.below h4
      have c3_4 := p3_4.1
      have d3_4 := p3_4.2.1
      have f3_4 := p3_4.2.2.1
      have g3_4 := p3_4.2.2.2
      go_wp2
      refine bodyPost_ret (v := .tuple #[.agg #[.string (alo), .string (ahi)], .bool true]) (by simp [results, Tryz.results52, go_sem, c2_4, d2_4, World.cell?_setCell_same']) rfl ⟨rfl, (hb4.setCell (p := ⟨w.heap.size + 2, 0, none⟩) (Nat.le_add_right _ _) _).setCell (p := ⟨w.heap.size + 2, 1, none⟩) (Nat.le_add_right _ _) _⟩

end Go.Proofs.YtdijkekglaimfaaGreatDoor.Ver
