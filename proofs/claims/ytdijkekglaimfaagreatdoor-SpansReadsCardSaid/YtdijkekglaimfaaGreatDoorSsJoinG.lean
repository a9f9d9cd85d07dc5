/- The document's least span of two: one lemma for each way. -/
import Derived.Test.YtdijkekglaimfaaGreatDoorSsGrpB
import Derived.Test.YtdijkekglaimfaaGreatDoorRcBxs
import Derived.Deep.CutRange
namespace Go.Proofs.YtdijkekglaimfaaGreatDoor.Ver
open Go.RowKit Rc

set_option maxRecDepth 100000 in
theorem refJoin_BB (alo ahi blo bhi lo hi : ByteArray) (f1 : blo.toList = []) (g1 : bhi.toList = []) (hj : (blo, bhi) = (lo, hi)) (w : World) :
    Calls Tryz.prog 53 #[.agg #[.string alo, .string ahi], .agg #[.string blo, .string bhi]] w fun e w' => e = .returned (.agg #[.string lo, .string hi]) ∧ Below w.heap.size w w' := by
  injection hj with j1 j2
  subst j1; subst j2
  have HJ := Lib.hid (rfl : (0 : Nat) = 0)
  have f3 : blo.toList.isEmpty = true := by rw [f1]; rfl
  have g3 : bhi.toList.isEmpty = true := by rw [g1]; rfl
  have HX := Lib.hid (((Bxs.three w #[.string alo, .string ahi] 31 #[.string blo, .string bhi] 31 #[.string ⟨#[]⟩, .string ⟨#[]⟩] 31).push (by simp) #[.string alo, .string ahi] 31))
  go_enter Tryz.func53, Tryz.ntmps53
  go_upto_region 2 with fail
  simp only [Nat.add_assoc, Nat.reduceAdd]
  generalize ((((w.alloc (.cells #[.string alo, .string ahi] 31)).alloc (.cells #[.string blo, .string bhi] 31)).alloc (.cells #[.string ⟨#[]⟩, .string ⟨#[]⟩] 31)).alloc (.cells #[.string alo, .string ahi] 31)) = W at *
  have q00 := HX.out.get0 0 (v := .string alo) rfl rfl
  have q01 := HX.out.get0 1 (v := .string ahi) rfl rfl
  have q10 := HX.out.get 1 0 (v := .string blo) rfl rfl
  have q11 := HX.out.get 1 1 (v := .string bhi) rfl rfl
  have q20 := HX.out.get 2 0 (v := .string ⟨#[]⟩) rfl rfl
  have q21 := HX.out.get 2 1 (v := .string ⟨#[]⟩) rfl rfl
  have q30 := HX.out.get 3 0 (v := .string alo) rfl rfl
  have q31 := HX.out.get 3 1 (v := .string ahi) rfl rfl
  have r20 := HX.out.free 2 0 rfl
  have r21 := HX.out.free 2 1 rfl
  have r30 := HX.out.free 3 0 rfl
  have r31 := HX.out.free 3 1 rfl
  replace HX := Lib.hid (HX.out.set 3 0 rfl (.string blo))
  have q00 := HX.out.get0 0 (v := .string alo) rfl rfl
  have q01 := HX.out.get0 1 (v := .string ahi) rfl rfl
  have q10 := HX.out.get 1 0 (v := .string blo) rfl rfl
  have q11 := HX.out.get 1 1 (v := .string bhi) rfl rfl
  have q20 := HX.out.get 2 0 (v := .string ⟨#[]⟩) rfl rfl
  have q21 := HX.out.get 2 1 (v := .string ⟨#[]⟩) rfl rfl
  have q30 := HX.out.get 3 0 (v := .string blo) rfl rfl
  have q31 := HX.out.get 3 1 (v := .string ahi) rfl rfl
  have r20 := HX.out.free 2 0 rfl
  have r21 := HX.out.free 2 1 rfl
  have r30 := HX.out.free 3 0 rfl
  have r31 := HX.out.free 3 1 rfl
  replace HX := Lib.hid (HX.out.set 3 1 rfl (.string bhi))
  have q00 := HX.out.get0 0 (v := .string alo) rfl rfl
  have q01 := HX.out.get0 1 (v := .string ahi) rfl rfl
  have q10 := HX.out.get 1 0 (v := .string blo) rfl rfl
  have q11 := HX.out.get 1 1 (v := .string bhi) rfl rfl
  have q20 := HX.out.get 2 0 (v := .string ⟨#[]⟩) rfl rfl
  have q21 := HX.out.get 2 1 (v := .string ⟨#[]⟩) rfl rfl
  have q30 := HX.out.get 3 0 (v := .string blo) rfl rfl
  have q31 := HX.out.get 3 1 (v := .string bhi) rfl rfl
  have r20 := HX.out.free 2 0 rfl
  have r21 := HX.out.free 2 1 rfl
  have r30 := HX.out.free 3 0 rfl
  have r31 := HX.out.free 3 1 rfl
  go_wp2
  refine bodyPost_ret (v := .agg #[.string blo, .string bhi]) (by simp [results, Tryz.results53, go_sem, q20, q21, World.cell?_setCell_same']) rfl ⟨rfl, (HX.out.bel.setCell (p := ⟨w.heap.size + 2, 0, none⟩) (Nat.le_add_right _ _) _).setCell (p := ⟨w.heap.size + 2, 1, none⟩) (Nat.le_add_right _ _) _⟩

set_option maxRecDepth 100000 in
theorem refJoin_BA (alo ahi blo bhi lo hi : ByteArray) (f1 : blo.toList = []) (g2 : ¬ bhi.toList = []) (k1 : ahi.toList = []) (hj : (blo, ahi) = (lo, hi)) (w : World) :
    Calls Tryz.prog 53 #[.agg #[.string alo, .string ahi], .agg #[.string blo, .string bhi]] w fun e w' => e = .returned (.agg #[.string lo, .string hi]) ∧ Below w.heap.size w w' := by
  injection hj with j1 j2
  subst j1; subst j2
  have HJ := Lib.hid (rfl : (0 : Nat) = 0)
  have f3 : blo.toList.isEmpty = true := by rw [f1]; rfl
  have g3 : bhi.toList.isEmpty = false := by cases h : bhi.toList with
    | nil => exact absurd h g2
    | cons => rfl
  have k3 : ahi.toList.isEmpty = true := by rw [k1]; rfl
  have HX := Lib.hid (((Bxs.three w #[.string alo, .string ahi] 31 #[.string blo, .string bhi] 31 #[.string ⟨#[]⟩, .string ⟨#[]⟩] 31).push (by simp) #[.string alo, .string ahi] 31))
  go_enter Tryz.func53, Tryz.ntmps53
  go_upto_region 2 with fail
  simp only [Nat.add_assoc, Nat.reduceAdd]
  generalize ((((w.alloc (.cells #[.string alo, .string ahi] 31)).alloc (.cells #[.string blo, .string bhi] 31)).alloc (.cells #[.string ⟨#[]⟩, .string ⟨#[]⟩] 31)).alloc (.cells #[.string alo, .string ahi] 31)) = W at *
  have q00 := HX.out.get0 0 (v := .string alo) rfl rfl
  have q01 := HX.out.get0 1 (v := .string ahi) rfl rfl
  have q10 := HX.out.get 1 0 (v := .string blo) rfl rfl
  have q11 := HX.out.get 1 1 (v := .string bhi) rfl rfl
  have q20 := HX.out.get 2 0 (v := .string ⟨#[]⟩) rfl rfl
  have q21 := HX.out.get 2 1 (v := .string ⟨#[]⟩) rfl rfl
  have q30 := HX.out.get 3 0 (v := .string alo) rfl rfl
  have q31 := HX.out.get 3 1 (v := .string ahi) rfl rfl
  have r20 := HX.out.free 2 0 rfl
  have r21 := HX.out.free 2 1 rfl
  have r30 := HX.out.free 3 0 rfl
  have r31 := HX.out.free 3 1 rfl
  replace HX := Lib.hid (HX.out.set 3 0 rfl (.string blo))
  have q00 := HX.out.get0 0 (v := .string alo) rfl rfl
  have q01 := HX.out.get0 1 (v := .string ahi) rfl rfl
  have q10 := HX.out.get 1 0 (v := .string blo) rfl rfl
  have q11 := HX.out.get 1 1 (v := .string bhi) rfl rfl
  have q20 := HX.out.get 2 0 (v := .string ⟨#[]⟩) rfl rfl
  have q21 := HX.out.get 2 1 (v := .string ⟨#[]⟩) rfl rfl
  have q30 := HX.out.get 3 0 (v := .string blo) rfl rfl
  have q31 := HX.out.get 3 1 (v := .string ahi) rfl rfl
  have r20 := HX.out.free 2 0 rfl
  have r21 := HX.out.free 2 1 rfl
  have r30 := HX.out.free 3 0 rfl
  have r31 := HX.out.free 3 1 rfl
  go_wp2
  refine bodyPost_ret (v := .agg #[.string blo, .string ahi]) (by simp [results, Tryz.results53, go_sem, q20, q21, World.cell?_setCell_same']) rfl ⟨rfl, (HX.out.bel.setCell (p := ⟨w.heap.size + 2, 0, none⟩) (Nat.le_add_right _ _) _).setCell (p := ⟨w.heap.size + 2, 1, none⟩) (Nat.le_add_right _ _) _⟩

set_option maxRecDepth 100000 in
theorem refJoin_BT (alo ahi blo bhi lo hi : ByteArray) (f1 : blo.toList = []) (g2 : ¬ bhi.toList = []) (k2 : ¬ ahi.toList = []) (hh : less ahi.data.toList bhi.data.toList = true) (hj : (blo, bhi) = (lo, hi)) (w : World) :
    Calls Tryz.prog 53 #[.agg #[.string alo, .string ahi], .agg #[.string blo, .string bhi]] w fun e w' => e = .returned (.agg #[.string lo, .string hi]) ∧ Below w.heap.size w w' := by
  injection hj with j1 j2
  subst j1; subst j2
  have HJ := Lib.hid (rfl : (0 : Nat) = 0)
  have f3 : blo.toList.isEmpty = true := by rw [f1]; rfl
  have g3 : bhi.toList.isEmpty = false := by cases h : bhi.toList with
    | nil => exact absurd h g2
    | cons => rfl
  have k3 : ahi.toList.isEmpty = false := by cases h : ahi.toList with
    | nil => exact absurd h k2
    | cons => rfl
  have HH := Lib.hid hh
  clear hh
  have HX := Lib.hid (((Bxs.three w #[.string alo, .string ahi] 31 #[.string blo, .string bhi] 31 #[.string ⟨#[]⟩, .string ⟨#[]⟩] 31).push (by simp) #[.string alo, .string ahi] 31))
  go_enter Tryz.func53, Tryz.ntmps53
  go_upto_region 2 with fail
  simp only [Nat.add_assoc, Nat.reduceAdd]
  generalize ((((w.alloc (.cells #[.string alo, .string ahi] 31)).alloc (.cells #[.string blo, .string bhi] 31)).alloc (.cells #[.string ⟨#[]⟩, .string ⟨#[]⟩] 31)).alloc (.cells #[.string alo, .string ahi] 31)) = W at *
  have q00 := HX.out.get0 0 (v := .string alo) rfl rfl
  have q01 := HX.out.get0 1 (v := .string ahi) rfl rfl
  have q10 := HX.out.get 1 0 (v := .string blo) rfl rfl
  have q11 := HX.out.get 1 1 (v := .string bhi) rfl rfl
  have q20 := HX.out.get 2 0 (v := .string ⟨#[]⟩) rfl rfl
  have q21 := HX.out.get 2 1 (v := .string ⟨#[]⟩) rfl rfl
  have q30 := HX.out.get 3 0 (v := .string alo) rfl rfl
  have q31 := HX.out.get 3 1 (v := .string ahi) rfl rfl
  have r20 := HX.out.free 2 0 rfl
  have r21 := HX.out.free 2 1 rfl
  have r30 := HX.out.free 3 0 rfl
  have r31 := HX.out.free 3 1 rfl
  replace HX := Lib.hid (HX.out.set 3 0 rfl (.string blo))
  have q00 := HX.out.get0 0 (v := .string alo) rfl rfl
  have q01 := HX.out.get0 1 (v := .string ahi) rfl rfl
  have q10 := HX.out.get 1 0 (v := .string blo) rfl rfl
  have q11 := HX.out.get 1 1 (v := .string bhi) rfl rfl
  have q20 := HX.out.get 2 0 (v := .string ⟨#[]⟩) rfl rfl
  have q21 := HX.out.get 2 1 (v := .string ⟨#[]⟩) rfl rfl
  have q30 := HX.out.get 3 0 (v := .string blo) rfl rfl
  have q31 := HX.out.get 3 1 (v := .string ahi) rfl rfl
  have r20 := HX.out.free 2 0 rfl
  have r21 := HX.out.free 2 1 rfl
  have r30 := HX.out.free 3 0 rfl
  have r31 := HX.out.free 3 1 rfl
  go_wp2_with fail
  refine (less_is ahi bhi _ HH.out _).mono ?_
  rintro e w1 ⟨rfl, h1⟩
  replace HX := Lib.hid (HX.out.step h1)
  clear h1
  clear q00 q01 q10 q11 q20 q21 q30 q31 r20 r21 r30 r31
  have q00 := HX.out.get0 0 (v := .string alo) rfl rfl
  have q01 := HX.out.get0 1 (v := .string ahi) rfl rfl
  have q10 := HX.out.get 1 0 (v := .string blo) rfl rfl
  have q11 := HX.out.get 1 1 (v := .string bhi) rfl rfl
  have q20 := HX.out.get 2 0 (v := .string ⟨#[]⟩) rfl rfl
  have q21 := HX.out.get 2 1 (v := .string ⟨#[]⟩) rfl rfl
  have q30 := HX.out.get 3 0 (v := .string blo) rfl rfl
  have q31 := HX.out.get 3 1 (v := .string ahi) rfl rfl
  have r20 := HX.out.free 2 0 rfl
  have r21 := HX.out.free 2 1 rfl
  have r30 := HX.out.free 3 0 rfl
  have r31 := HX.out.free 3 1 rfl
  replace HX := Lib.hid (HX.out.set 3 1 rfl (.string bhi))
  have q00 := HX.out.get0 0 (v := .string alo) rfl rfl
  have q01 := HX.out.get0 1 (v := .string ahi) rfl rfl
  have q10 := HX.out.get 1 0 (v := .string blo) rfl rfl
  have q11 := HX.out.get 1 1 (v := .string bhi) rfl rfl
  have q20 := HX.out.get 2 0 (v := .string ⟨#[]⟩) rfl rfl
  have q21 := HX.out.get 2 1 (v := .string ⟨#[]⟩) rfl rfl
  have q30 := HX.out.get 3 0 (v := .string blo) rfl rfl
  have q31 := HX.out.get 3 1 (v := .string bhi) rfl rfl
  have r20 := HX.out.free 2 0 rfl
  have r21 := HX.out.free 2 1 rfl
  have r30 := HX.out.free 3 0 rfl
  have r31 := HX.out.free 3 1 rfl
  go_wp2
  refine bodyPost_ret (v := .agg #[.string blo, .string bhi]) (by simp [results, Tryz.results53, go_sem, q20, q21, World.cell?_setCell_same']) rfl ⟨rfl, (HX.out.bel.setCell (p := ⟨w.heap.size + 2, 0, none⟩) (Nat.le_add_right _ _) _).setCell (p := ⟨w.heap.size + 2, 1, none⟩) (Nat.le_add_right _ _) _⟩

set_option maxRecDepth 100000 in
theorem refJoin_BF (alo ahi blo bhi lo hi : ByteArray) (f1 : blo.toList = []) (g2 : ¬ bhi.toList = []) (k2 : ¬ ahi.toList = []) (hh : less ahi.data.toList bhi.data.toList = false) (hj : (blo, ahi) = (lo, hi)) (w : World) :
    Calls Tryz.prog 53 #[.agg #[.string alo, .string ahi], .agg #[.string blo, .string bhi]] w fun e w' => e = .returned (.agg #[.string lo, .string hi]) ∧ Below w.heap.size w w' := by
  injection hj with j1 j2
  subst j1; subst j2
  have HJ := Lib.hid (rfl : (0 : Nat) = 0)
  have f3 : blo.toList.isEmpty = true := by rw [f1]; rfl
  have g3 : bhi.toList.isEmpty = false := by cases h : bhi.toList with
    | nil => exact absurd h g2
    | cons => rfl
  have k3 : ahi.toList.isEmpty = false := by cases h : ahi.toList with
    | nil => exact absurd h k2
    | cons => rfl
  have HH := Lib.hid hh
  clear hh
  have HX := Lib.hid (((Bxs.three w #[.string alo, .string ahi] 31 #[.string blo, .string bhi] 31 #[.string ⟨#[]⟩, .string ⟨#[]⟩] 31).push (by simp) #[.string alo, .string ahi] 31))
  go_enter Tryz.func53, Tryz.ntmps53
  go_upto_region 2 with fail
  simp only [Nat.add_assoc, Nat.reduceAdd]
  generalize ((((w.alloc (.cells #[.string alo, .string ahi] 31)).alloc (.cells #[.string blo, .string bhi] 31)).alloc (.cells #[.string ⟨#[]⟩, .string ⟨#[]⟩] 31)).alloc (.cells #[.string alo, .string ahi] 31)) = W at *
  have q00 := HX.out.get0 0 (v := .string alo) rfl rfl
  have q01 := HX.out.get0 1 (v := .string ahi) rfl rfl
  have q10 := HX.out.get 1 0 (v := .string blo) rfl rfl
  have q11 := HX.out.get 1 1 (v := .string bhi) rfl rfl
  have q20 := HX.out.get 2 0 (v := .string ⟨#[]⟩) rfl rfl
  have q21 := HX.out.get 2 1 (v := .string ⟨#[]⟩) rfl rfl
  have q30 := HX.out.get 3 0 (v := .string alo) rfl rfl
  have q31 := HX.out.get 3 1 (v := .string ahi) rfl rfl
  have r20 := HX.out.free 2 0 rfl
  have r21 := HX.out.free 2 1 rfl
  have r30 := HX.out.free 3 0 rfl
  have r31 := HX.out.free 3 1 rfl
  replace HX := Lib.hid (HX.out.set 3 0 rfl (.string blo))
  have q00 := HX.out.get0 0 (v := .string alo) rfl rfl
  have q01 := HX.out.get0 1 (v := .string ahi) rfl rfl
  have q10 := HX.out.get 1 0 (v := .string blo) rfl rfl
  have q11 := HX.out.get 1 1 (v := .string bhi) rfl rfl
  have q20 := HX.out.get 2 0 (v := .string ⟨#[]⟩) rfl rfl
  have q21 := HX.out.get 2 1 (v := .string ⟨#[]⟩) rfl rfl
  have q30 := HX.out.get 3 0 (v := .string blo) rfl rfl
  have q31 := HX.out.get 3 1 (v := .string ahi) rfl rfl
  have r20 := HX.out.free 2 0 rfl
  have r21 := HX.out.free 2 1 rfl
  have r30 := HX.out.free 3 0 rfl
  have r31 := HX.out.free 3 1 rfl
  go_wp2_with fail
  refine (less_is ahi bhi _ HH.out _).mono ?_
  rintro e w1 ⟨rfl, h1⟩
  replace HX := Lib.hid (HX.out.step h1)
  clear h1
  clear q00 q01 q10 q11 q20 q21 q30 q31 r20 r21 r30 r31
  have q00 := HX.out.get0 0 (v := .string alo) rfl rfl
  have q01 := HX.out.get0 1 (v := .string ahi) rfl rfl
  have q10 := HX.out.get 1 0 (v := .string blo) rfl rfl
  have q11 := HX.out.get 1 1 (v := .string bhi) rfl rfl
  have q20 := HX.out.get 2 0 (v := .string ⟨#[]⟩) rfl rfl
  have q21 := HX.out.get 2 1 (v := .string ⟨#[]⟩) rfl rfl
  have q30 := HX.out.get 3 0 (v := .string blo) rfl rfl
  have q31 := HX.out.get 3 1 (v := .string ahi) rfl rfl
  have r20 := HX.out.free 2 0 rfl
  have r21 := HX.out.free 2 1 rfl
  have r30 := HX.out.free 3 0 rfl
  have r31 := HX.out.free 3 1 rfl
  go_wp2
  refine bodyPost_ret (v := .agg #[.string blo, .string ahi]) (by simp [results, Tryz.results53, go_sem, q20, q21, World.cell?_setCell_same']) rfl ⟨rfl, (HX.out.bel.setCell (p := ⟨w.heap.size + 2, 0, none⟩) (Nat.le_add_right _ _) _).setCell (p := ⟨w.heap.size + 2, 1, none⟩) (Nat.le_add_right _ _) _⟩

set_option maxRecDepth 100000 in
theorem refJoin_AB (alo ahi blo bhi lo hi : ByteArray) (f2 : ¬ blo.toList = []) (e1 : alo.toList = []) (g1 : bhi.toList = []) (hj : (alo, bhi) = (lo, hi)) (w : World) :
    Calls Tryz.prog 53 #[.agg #[.string alo, .string ahi], .agg #[.string blo, .string bhi]] w fun e w' => e = .returned (.agg #[.string lo, .string hi]) ∧ Below w.heap.size w w' := by
  injection hj with j1 j2
  subst j1; subst j2
  have HJ := Lib.hid (rfl : (0 : Nat) = 0)
  have f3 : blo.toList.isEmpty = false := by cases h : blo.toList with
    | nil => exact absurd h f2
    | cons => rfl
  have e3 : alo.toList.isEmpty = true := by rw [e1]; rfl
  have g3 : bhi.toList.isEmpty = true := by rw [g1]; rfl
  have HX := Lib.hid (((Bxs.three w #[.string alo, .string ahi] 31 #[.string blo, .string bhi] 31 #[.string ⟨#[]⟩, .string ⟨#[]⟩] 31).push (by simp) #[.string alo, .string ahi] 31))
  go_enter Tryz.func53, Tryz.ntmps53
  go_upto_region 2 with fail
  simp only [Nat.add_assoc, Nat.reduceAdd]
  generalize ((((w.alloc (.cells #[.string alo, .string ahi] 31)).alloc (.cells #[.string blo, .string bhi] 31)).alloc (.cells #[.string ⟨#[]⟩, .string ⟨#[]⟩] 31)).alloc (.cells #[.string alo, .string ahi] 31)) = W at *
  have q00 := HX.out.get0 0 (v := .string alo) rfl rfl
  have q01 := HX.out.get0 1 (v := .string ahi) rfl rfl
  have q10 := HX.out.get 1 0 (v := .string blo) rfl rfl
  have q11 := HX.out.get 1 1 (v := .string bhi) rfl rfl
  have q20 := HX.out.get 2 0 (v := .string ⟨#[]⟩) rfl rfl
  have q21 := HX.out.get 2 1 (v := .string ⟨#[]⟩) rfl rfl
  have q30 := HX.out.get 3 0 (v := .string alo) rfl rfl
  have q31 := HX.out.get 3 1 (v := .string ahi) rfl rfl
  have r20 := HX.out.free 2 0 rfl
  have r21 := HX.out.free 2 1 rfl
  have r30 := HX.out.free 3 0 rfl
  have r31 := HX.out.free 3 1 rfl
  replace HX := Lib.hid (HX.out.set 3 1 rfl (.string bhi))
  have q00 := HX.out.get0 0 (v := .string alo) rfl rfl
  have q01 := HX.out.get0 1 (v := .string ahi) rfl rfl
  have q10 := HX.out.get 1 0 (v := .string blo) rfl rfl
  have q11 := HX.out.get 1 1 (v := .string bhi) rfl rfl
  have q20 := HX.out.get 2 0 (v := .string ⟨#[]⟩) rfl rfl
  have q21 := HX.out.get 2 1 (v := .string ⟨#[]⟩) rfl rfl
  have q30 := HX.out.get 3 0 (v := .string alo) rfl rfl
  have q31 := HX.out.get 3 1 (v := .string bhi) rfl rfl
  have r20 := HX.out.free 2 0 rfl
  have r21 := HX.out.free 2 1 rfl
  have r30 := HX.out.free 3 0 rfl
  have r31 := HX.out.free 3 1 rfl
  go_wp2
  refine bodyPost_ret (v := .agg #[.string alo, .string bhi]) (by simp [results, Tryz.results53, go_sem, q20, q21, World.cell?_setCell_same']) rfl ⟨rfl, (HX.out.bel.setCell (p := ⟨w.heap.size + 2, 0, none⟩) (Nat.le_add_right _ _) _).setCell (p := ⟨w.heap.size + 2, 1, none⟩) (Nat.le_add_right _ _) _⟩

set_option maxRecDepth 100000 in
theorem refJoin_AA (alo ahi blo bhi lo hi : ByteArray) (f2 : ¬ blo.toList = []) (e1 : alo.toList = []) (g2 : ¬ bhi.toList = []) (k1 : ahi.toList = []) (hj : (alo, ahi) = (lo, hi)) (w : World) :
    Calls Tryz.prog 53 #[.agg #[.string alo, .string ahi], .agg #[.string blo, .string bhi]] w fun e w' => e = .returned (.agg #[.string lo, .string hi]) ∧ Below w.heap.size w w' := by
  injection hj with j1 j2
  subst j1; subst j2
  have HJ := Lib.hid (rfl : (0 : Nat) = 0)
  have f3 : blo.toList.isEmpty = false := by cases h : blo.toList with
    | nil => exact absurd h f2
    | cons => rfl
  have e3 : alo.toList.isEmpty = true := by rw [e1]; rfl
  have g3 : bhi.toList.isEmpty = false := by cases h : bhi.toList with
    | nil => exact absurd h g2
    | cons => rfl
  have k3 : ahi.toList.isEmpty = true := by rw [k1]; rfl
  have HX := Lib.hid (((Bxs.three w #[.string alo, .string ahi] 31 #[.string blo, .string bhi] 31 #[.string ⟨#[]⟩, .string ⟨#[]⟩] 31).push (by simp) #[.string alo, .string ahi] 31))
  go_enter Tryz.func53, Tryz.ntmps53
  go_upto_region 2 with fail
  simp only [Nat.add_assoc, Nat.reduceAdd]
  generalize ((((w.alloc (.cells #[.string alo, .string ahi] 31)).alloc (.cells #[.string blo, .string bhi] 31)).alloc (.cells #[.string ⟨#[]⟩, .string ⟨#[]⟩] 31)).alloc (.cells #[.string alo, .string ahi] 31)) = W at *
  have q00 := HX.out.get0 0 (v := .string alo) rfl rfl
  have q01 := HX.out.get0 1 (v := .string ahi) rfl rfl
  have q10 := HX.out.get 1 0 (v := .string blo) rfl rfl
  have q11 := HX.out.get 1 1 (v := .string bhi) rfl rfl
  have q20 := HX.out.get 2 0 (v := .string ⟨#[]⟩) rfl rfl
  have q21 := HX.out.get 2 1 (v := .string ⟨#[]⟩) rfl rfl
  have q30 := HX.out.get 3 0 (v := .string alo) rfl rfl
  have q31 := HX.out.get 3 1 (v := .string ahi) rfl rfl
  have r20 := HX.out.free 2 0 rfl
  have r21 := HX.out.free 2 1 rfl
  have r30 := HX.out.free 3 0 rfl
  have r31 := HX.out.free 3 1 rfl
  go_wp2
  refine bodyPost_ret (v := .agg #[.string alo, .string ahi]) (by simp [results, Tryz.results53, go_sem, q20, q21, World.cell?_setCell_same']) rfl ⟨rfl, (HX.out.bel.setCell (p := ⟨w.heap.size + 2, 0, none⟩) (Nat.le_add_right _ _) _).setCell (p := ⟨w.heap.size + 2, 1, none⟩) (Nat.le_add_right _ _) _⟩

set_option maxRecDepth 100000 in
theorem refJoin_AT (alo ahi blo bhi lo hi : ByteArray) (f2 : ¬ blo.toList = []) (e1 : alo.toList = []) (g2 : ¬ bhi.toList = []) (k2 : ¬ ahi.toList = []) (hh : less ahi.data.toList bhi.data.toList = true) (hj : (alo, bhi) = (lo, hi)) (w : World) :
    Calls Tryz.prog 53 #[.agg #[.string alo, .string ahi], .agg #[.string blo, .string bhi]] w fun e w' => e = .returned (.agg #[.string lo, .string hi]) ∧ Below w.heap.size w w' := by
  injection hj with j1 j2
  subst j1; subst j2
  have HJ := Lib.hid (rfl : (0 : Nat) = 0)
  have f3 : blo.toList.isEmpty = false := by cases h : blo.toList with
    | nil => exact absurd h f2
    | cons => rfl
  have e3 : alo.toList.isEmpty = true := by rw [e1]; rfl
  have g3 : bhi.toList.isEmpty = false := by cases h : bhi.toList with
    | nil => exact absurd h g2
    | cons => rfl
  have k3 : ahi.toList.isEmpty = false := by cases h : ahi.toList with
    | nil => exact absurd h k2
    | cons => rfl
  have HH := Lib.hid hh
  clear hh
  have HX := Lib.hid (((Bxs.three w #[.string alo, .string ahi] 31 #[.string blo, .string bhi] 31 #[.string ⟨#[]⟩, .string ⟨#[]⟩] 31).push (by simp) #[.string alo, .string ahi] 31))
  go_enter Tryz.func53, Tryz.ntmps53
  go_upto_region 2 with fail
  simp only [Nat.add_assoc, Nat.reduceAdd]
  generalize ((((w.alloc (.cells #[.string alo, .string ahi] 31)).alloc (.cells #[.string blo, .string bhi] 31)).alloc (.cells #[.string ⟨#[]⟩, .string ⟨#[]⟩] 31)).alloc (.cells #[.string alo, .string ahi] 31)) = W at *
  have q00 := HX.out.get0 0 (v := .string alo) rfl rfl
  have q01 := HX.out.get0 1 (v := .string ahi) rfl rfl
  have q10 := HX.out.get 1 0 (v := .string blo) rfl rfl
  have q11 := HX.out.get 1 1 (v := .string bhi) rfl rfl
  have q20 := HX.out.get 2 0 (v := .string ⟨#[]⟩) rfl rfl
  have q21 := HX.out.get 2 1 (v := .string ⟨#[]⟩) rfl rfl
  have q30 := HX.out.get 3 0 (v := .string alo) rfl rfl
  have q31 := HX.out.get 3 1 (v := .string ahi) rfl rfl
  have r20 := HX.out.free 2 0 rfl
  have r21 := HX.out.free 2 1 rfl
  have r30 := HX.out.free 3 0 rfl
  have r31 := HX.out.free 3 1 rfl
  go_wp2_with fail
  refine (less_is ahi bhi _ HH.out _).mono ?_
  rintro e w1 ⟨rfl, h1⟩
  replace HX := Lib.hid (HX.out.step h1)
  clear h1
  clear q00 q01 q10 q11 q20 q21 q30 q31 r20 r21 r30 r31
  have q00 := HX.out.get0 0 (v := .string alo) rfl rfl
  have q01 := HX.out.get0 1 (v := .string ahi) rfl rfl
  have q10 := HX.out.get 1 0 (v := .string blo) rfl rfl
  have q11 := HX.out.get 1 1 (v := .string bhi) rfl rfl
  have q20 := HX.out.get 2 0 (v := .string ⟨#[]⟩) rfl rfl
  have q21 := HX.out.get 2 1 (v := .string ⟨#[]⟩) rfl rfl
  have q30 := HX.out.get 3 0 (v := .string alo) rfl rfl
  have q31 := HX.out.get 3 1 (v := .string ahi) rfl rfl
  have r20 := HX.out.free 2 0 rfl
  have r21 := HX.out.free 2 1 rfl
  have r30 := HX.out.free 3 0 rfl
  have r31 := HX.out.free 3 1 rfl
  replace HX := Lib.hid (HX.out.set 3 1 rfl (.string bhi))
  have q00 := HX.out.get0 0 (v := .string alo) rfl rfl
  have q01 := HX.out.get0 1 (v := .string ahi) rfl rfl
  have q10 := HX.out.get 1 0 (v := .string blo) rfl rfl
  have q11 := HX.out.get 1 1 (v := .string bhi) rfl rfl
  have q20 := HX.out.get 2 0 (v := .string ⟨#[]⟩) rfl rfl
  have q21 := HX.out.get 2 1 (v := .string ⟨#[]⟩) rfl rfl
  have q30 := HX.out.get 3 0 (v := .string alo) rfl rfl
  have q31 := HX.out.get 3 1 (v := .string bhi) rfl rfl
  have r20 := HX.out.free 2 0 rfl
  have r21 := HX.out.free 2 1 rfl
  have r30 := HX.out.free 3 0 rfl
  have r31 := HX.out.free 3 1 rfl
  go_wp2
  refine bodyPost_ret (v := .agg #[.string alo, .string bhi]) (by simp [results, Tryz.results53, go_sem, q20, q21, World.cell?_setCell_same']) rfl ⟨rfl, (HX.out.bel.setCell (p := ⟨w.heap.size + 2, 0, none⟩) (Nat.le_add_right _ _) _).setCell (p := ⟨w.heap.size + 2, 1, none⟩) (Nat.le_add_right _ _) _⟩

set_option maxRecDepth 100000 in
theorem refJoin_AF (alo ahi blo bhi lo hi : ByteArray) (f2 : ¬ blo.toList = []) (e1 : alo.toList = []) (g2 : ¬ bhi.toList = []) (k2 : ¬ ahi.toList = []) (hh : less ahi.data.toList bhi.data.toList = false) (hj : (alo, ahi) = (lo, hi)) (w : World) :
    Calls Tryz.prog 53 #[.agg #[.string alo, .string ahi], .agg #[.string blo, .string bhi]] w fun e w' => e = .returned (.agg #[.string lo, .string hi]) ∧ Below w.heap.size w w' := by
  injection hj with j1 j2
  subst j1; subst j2
  have HJ := Lib.hid (rfl : (0 : Nat) = 0)
  have f3 : blo.toList.isEmpty = false := by cases h : blo.toList with
    | nil => exact absurd h f2
    | cons => rfl
  have e3 : alo.toList.isEmpty = true := by rw [e1]; rfl
  have g3 : bhi.toList.isEmpty = false := by cases h : bhi.toList with
    | nil => exact absurd h g2
    | cons => rfl
  have k3 : ahi.toList.isEmpty = false := by cases h : ahi.toList with
    | nil => exact absurd h k2
    | cons => rfl
  have HH := Lib.hid hh
  clear hh
  have HX := Lib.hid (((Bxs.three w #[.string alo, .string ahi] 31 #[.string blo, .string bhi] 31 #[.string ⟨#[]⟩, .string ⟨#[]⟩] 31).push (by simp) #[.string alo, .string ahi] 31))
  go_enter Tryz.func53, Tryz.ntmps53
  go_upto_region 2 with fail
  simp only [Nat.add_assoc, Nat.reduceAdd]
  generalize ((((w.alloc (.cells #[.string alo, .string ahi] 31)).alloc (.cells #[.string blo, .string bhi] 31)).alloc (.cells #[.string ⟨#[]⟩, .string ⟨#[]⟩] 31)).alloc (.cells #[.string alo, .string ahi] 31)) = W at *
  have q00 := HX.out.get0 0 (v := .string alo) rfl rfl
  have q01 := HX.out.get0 1 (v := .string ahi) rfl rfl
  have q10 := HX.out.get 1 0 (v := .string blo) rfl rfl
  have q11 := HX.out.get 1 1 (v := .string bhi) rfl rfl
  have q20 := HX.out.get 2 0 (v := .string ⟨#[]⟩) rfl rfl
  have q21 := HX.out.get 2 1 (v := .string ⟨#[]⟩) rfl rfl
  have q30 := HX.out.get 3 0 (v := .string alo) rfl rfl
  have q31 := HX.out.get 3 1 (v := .string ahi) rfl rfl
  have r20 := HX.out.free 2 0 rfl
  have r21 := HX.out.free 2 1 rfl
  have r30 := HX.out.free 3 0 rfl
  have r31 := HX.out.free 3 1 rfl
  go_wp2_with fail
  refine (less_is ahi bhi _ HH.out _).mono ?_
  rintro e w1 ⟨rfl, h1⟩
  replace HX := Lib.hid (HX.out.step h1)
  clear h1
  clear q00 q01 q10 q11 q20 q21 q30 q31 r20 r21 r30 r31
  have q00 := HX.out.get0 0 (v := .string alo) rfl rfl
  have q01 := HX.out.get0 1 (v := .string ahi) rfl rfl
  have q10 := HX.out.get 1 0 (v := .string blo) rfl rfl
  have q11 := HX.out.get 1 1 (v := .string bhi) rfl rfl
  have q20 := HX.out.get 2 0 (v := .string ⟨#[]⟩) rfl rfl
  have q21 := HX.out.get 2 1 (v := .string ⟨#[]⟩) rfl rfl
  have q30 := HX.out.get 3 0 (v := .string alo) rfl rfl
  have q31 := HX.out.get 3 1 (v := .string ahi) rfl rfl
  have r20 := HX.out.free 2 0 rfl
  have r21 := HX.out.free 2 1 rfl
  have r30 := HX.out.free 3 0 rfl
  have r31 := HX.out.free 3 1 rfl
  go_wp2
  refine bodyPost_ret (v := .agg #[.string alo, .string ahi]) (by simp [results, Tryz.results53, go_sem, q20, q21, World.cell?_setCell_same']) rfl ⟨rfl, (HX.out.bel.setCell (p := ⟨w.heap.size + 2, 0, none⟩) (Nat.le_add_right _ _) _).setCell (p := ⟨w.heap.size + 2, 1, none⟩) (Nat.le_add_right _ _) _⟩

set_option maxRecDepth 100000 in
theorem refJoin_TB (alo ahi blo bhi lo hi : ByteArray) (f2 : ¬ blo.toList = []) (e2 : ¬ alo.toList = []) (hl : less blo.data.toList alo.data.toList = true) (g1 : bhi.toList = []) (hj : (blo, bhi) = (lo, hi)) (w : World) :
    Calls Tryz.prog 53 #[.agg #[.string alo, .string ahi], .agg #[.string blo, .string bhi]] w fun e w' => e = .returned (.agg #[.string lo, .string hi]) ∧ Below w.heap.size w w' := by
  injection hj with j1 j2
  subst j1; subst j2
  have HJ := Lib.hid (rfl : (0 : Nat) = 0)
  have f3 : blo.toList.isEmpty = false := by cases h : blo.toList with
    | nil => exact absurd h f2
    | cons => rfl
  have e3 : alo.toList.isEmpty = false := by cases h : alo.toList with
    | nil => exact absurd h e2
    | cons => rfl
  have g3 : bhi.toList.isEmpty = true := by rw [g1]; rfl
  have HL := Lib.hid hl
  clear hl
  have HX := Lib.hid (((Bxs.three w #[.string alo, .string ahi] 31 #[.string blo, .string bhi] 31 #[.string ⟨#[]⟩, .string ⟨#[]⟩] 31).push (by simp) #[.string alo, .string ahi] 31))
  go_enter Tryz.func53, Tryz.ntmps53
  go_upto_region 2 with fail
  simp only [Nat.add_assoc, Nat.reduceAdd]
  generalize ((((w.alloc (.cells #[.string alo, .string ahi] 31)).alloc (.cells #[.string blo, .string bhi] 31)).alloc (.cells #[.string ⟨#[]⟩, .string ⟨#[]⟩] 31)).alloc (.cells #[.string alo, .string ahi] 31)) = W at *
  have q00 := HX.out.get0 0 (v := .string alo) rfl rfl
  have q01 := HX.out.get0 1 (v := .string ahi) rfl rfl
  have q10 := HX.out.get 1 0 (v := .string blo) rfl rfl
  have q11 := HX.out.get 1 1 (v := .string bhi) rfl rfl
  have q20 := HX.out.get 2 0 (v := .string ⟨#[]⟩) rfl rfl
  have q21 := HX.out.get 2 1 (v := .string ⟨#[]⟩) rfl rfl
  have q30 := HX.out.get 3 0 (v := .string alo) rfl rfl
  have q31 := HX.out.get 3 1 (v := .string ahi) rfl rfl
  have r20 := HX.out.free 2 0 rfl
  have r21 := HX.out.free 2 1 rfl
  have r30 := HX.out.free 3 0 rfl
  have r31 := HX.out.free 3 1 rfl
  go_wp2_with fail
  refine (less_is blo alo _ HL.out _).mono ?_
  rintro e w1 ⟨rfl, h1⟩
  replace HX := Lib.hid (HX.out.step h1)
  clear h1
  clear q00 q01 q10 q11 q20 q21 q30 q31 r20 r21 r30 r31
  have q00 := HX.out.get0 0 (v := .string alo) rfl rfl
  have q01 := HX.out.get0 1 (v := .string ahi) rfl rfl
  have q10 := HX.out.get 1 0 (v := .string blo) rfl rfl
  have q11 := HX.out.get 1 1 (v := .string bhi) rfl rfl
  have q20 := HX.out.get 2 0 (v := .string ⟨#[]⟩) rfl rfl
  have q21 := HX.out.get 2 1 (v := .string ⟨#[]⟩) rfl rfl
  have q30 := HX.out.get 3 0 (v := .string alo) rfl rfl
  have q31 := HX.out.get 3 1 (v := .string ahi) rfl rfl
  have r20 := HX.out.free 2 0 rfl
  have r21 := HX.out.free 2 1 rfl
  have r30 := HX.out.free 3 0 rfl
  have r31 := HX.out.free 3 1 rfl
  replace HX := Lib.hid (HX.out.set 3 0 rfl (.string blo))
  have q00 := HX.out.get0 0 (v := .string alo) rfl rfl
  have q01 := HX.out.get0 1 (v := .string ahi) rfl rfl
  have q10 := HX.out.get 1 0 (v := .string blo) rfl rfl
  have q11 := HX.out.get 1 1 (v := .string bhi) rfl rfl
  have q20 := HX.out.get 2 0 (v := .string ⟨#[]⟩) rfl rfl
  have q21 := HX.out.get 2 1 (v := .string ⟨#[]⟩) rfl rfl
  have q30 := HX.out.get 3 0 (v := .string blo) rfl rfl
  have q31 := HX.out.get 3 1 (v := .string ahi) rfl rfl
  have r20 := HX.out.free 2 0 rfl
  have r21 := HX.out.free 2 1 rfl
  have r30 := HX.out.free 3 0 rfl
  have r31 := HX.out.free 3 1 rfl
  replace HX := Lib.hid (HX.out.set 3 1 rfl (.string bhi))
  have q00 := HX.out.get0 0 (v := .string alo) rfl rfl
  have q01 := HX.out.get0 1 (v := .string ahi) rfl rfl
  have q10 := HX.out.get 1 0 (v := .string blo) rfl rfl
  have q11 := HX.out.get 1 1 (v := .string bhi) rfl rfl
  have q20 := HX.out.get 2 0 (v := .string ⟨#[]⟩) rfl rfl
  have q21 := HX.out.get 2 1 (v := .string ⟨#[]⟩) rfl rfl
  have q30 := HX.out.get 3 0 (v := .string blo) rfl rfl
  have q31 := HX.out.get 3 1 (v := .string bhi) rfl rfl
  have r20 := HX.out.free 2 0 rfl
  have r21 := HX.out.free 2 1 rfl
  have r30 := HX.out.free 3 0 rfl
  have r31 := HX.out.free 3 1 rfl
  go_wp2
  refine bodyPost_ret (v := .agg #[.string blo, .string bhi]) (by simp [results, Tryz.results53, go_sem, q20, q21, World.cell?_setCell_same']) rfl ⟨rfl, (HX.out.bel.setCell (p := ⟨w.heap.size + 2, 0, none⟩) (Nat.le_add_right _ _) _).setCell (p := ⟨w.heap.size + 2, 1, none⟩) (Nat.le_add_right _ _) _⟩

set_option maxRecDepth 100000 in
theorem refJoin_TA (alo ahi blo bhi lo hi : ByteArray) (f2 : ¬ blo.toList = []) (e2 : ¬ alo.toList = []) (hl : less blo.data.toList alo.data.toList = true) (g2 : ¬ bhi.toList = []) (k1 : ahi.toList = []) (hj : (blo, ahi) = (lo, hi)) (w : World) :
    Calls Tryz.prog 53 #[.agg #[.string alo, .string ahi], .agg #[.string blo, .string bhi]] w fun e w' => e = .returned (.agg #[.string lo, .string hi]) ∧ Below w.heap.size w w' := by
  injection hj with j1 j2
  subst j1; subst j2
  have HJ := Lib.hid (rfl : (0 : Nat) = 0)
  have f3 : blo.toList.isEmpty = false := by cases h : blo.toList with
    | nil => exact absurd h f2
    | cons => rfl
  have e3 : alo.toList.isEmpty = false := by cases h : alo.toList with
    | nil => exact absurd h e2
    | cons => rfl
  have g3 : bhi.toList.isEmpty = false := by cases h : bhi.toList with
    | nil => exact absurd h g2
    | cons => rfl
  have k3 : ahi.toList.isEmpty = true := by rw [k1]; rfl
  have HL := Lib.hid hl
  clear hl
  have HX := Lib.hid (((Bxs.three w #[.string alo, .string ahi] 31 #[.string blo, .string bhi] 31 #[.string ⟨#[]⟩, .string ⟨#[]⟩] 31).push (by simp) #[.string alo, .string ahi] 31))
  go_enter Tryz.func53, Tryz.ntmps53
  go_upto_region 2 with fail
  simp only [Nat.add_assoc, Nat.reduceAdd]
  generalize ((((w.alloc (.cells #[.string alo, .string ahi] 31)).alloc (.cells #[.string blo, .string bhi] 31)).alloc (.cells #[.string ⟨#[]⟩, .string ⟨#[]⟩] 31)).alloc (.cells #[.string alo, .string ahi] 31)) = W at *
  have q00 := HX.out.get0 0 (v := .string alo) rfl rfl
  have q01 := HX.out.get0 1 (v := .string ahi) rfl rfl
  have q10 := HX.out.get 1 0 (v := .string blo) rfl rfl
  have q11 := HX.out.get 1 1 (v := .string bhi) rfl rfl
  have q20 := HX.out.get 2 0 (v := .string ⟨#[]⟩) rfl rfl
  have q21 := HX.out.get 2 1 (v := .string ⟨#[]⟩) rfl rfl
  have q30 := HX.out.get 3 0 (v := .string alo) rfl rfl
  have q31 := HX.out.get 3 1 (v := .string ahi) rfl rfl
  have r20 := HX.out.free 2 0 rfl
  have r21 := HX.out.free 2 1 rfl
  have r30 := HX.out.free 3 0 rfl
  have r31 := HX.out.free 3 1 rfl
  go_wp2_with fail
  refine (less_is blo alo _ HL.out _).mono ?_
  rintro e w1 ⟨rfl, h1⟩
  replace HX := Lib.hid (HX.out.step h1)
  clear h1
  clear q00 q01 q10 q11 q20 q21 q30 q31 r20 r21 r30 r31
  have q00 := HX.out.get0 0 (v := .string alo) rfl rfl
  have q01 := HX.out.get0 1 (v := .string ahi) rfl rfl
  have q10 := HX.out.get 1 0 (v := .string blo) rfl rfl
  have q11 := HX.out.get 1 1 (v := .string bhi) rfl rfl
  have q20 := HX.out.get 2 0 (v := .string ⟨#[]⟩) rfl rfl
  have q21 := HX.out.get 2 1 (v := .string ⟨#[]⟩) rfl rfl
  have q30 := HX.out.get 3 0 (v := .string alo) rfl rfl
  have q31 := HX.out.get 3 1 (v := .string ahi) rfl rfl
  have r20 := HX.out.free 2 0 rfl
  have r21 := HX.out.free 2 1 rfl
  have r30 := HX.out.free 3 0 rfl
  have r31 := HX.out.free 3 1 rfl
  replace HX := Lib.hid (HX.out.set 3 0 rfl (.string blo))
  have q00 := HX.out.get0 0 (v := .string alo) rfl rfl
  have q01 := HX.out.get0 1 (v := .string ahi) rfl rfl
  have q10 := HX.out.get 1 0 (v := .string blo) rfl rfl
  have q11 := HX.out.get 1 1 (v := .string bhi) rfl rfl
  have q20 := HX.out.get 2 0 (v := .string ⟨#[]⟩) rfl rfl
  have q21 := HX.out.get 2 1 (v := .string ⟨#[]⟩) rfl rfl
  have q30 := HX.out.get 3 0 (v := .string blo) rfl rfl
  have q31 := HX.out.get 3 1 (v := .string ahi) rfl rfl
  have r20 := HX.out.free 2 0 rfl
  have r21 := HX.out.free 2 1 rfl
  have r30 := HX.out.free 3 0 rfl
  have r31 := HX.out.free 3 1 rfl
  go_wp2
  refine bodyPost_ret (v := .agg #[.string blo, .string ahi]) (by simp [results, Tryz.results53, go_sem, q20, q21, World.cell?_setCell_same']) rfl ⟨rfl, (HX.out.bel.setCell (p := ⟨w.heap.size + 2, 0, none⟩) (Nat.le_add_right _ _) _).setCell (p := ⟨w.heap.size + 2, 1, none⟩) (Nat.le_add_right _ _) _⟩

set_option maxRecDepth 100000 in
theorem refJoin_TT (alo ahi blo bhi lo hi : ByteArray) (f2 : ¬ blo.toList = []) (e2 : ¬ alo.toList = []) (hl : less blo.data.toList alo.data.toList = true) (g2 : ¬ bhi.toList = []) (k2 : ¬ ahi.toList = []) (hh : less ahi.data.toList bhi.data.toList = true) (hj : (blo, bhi) = (lo, hi)) (w : World) :
    Calls Tryz.prog 53 #[.agg #[.string alo, .string ahi], .agg #[.string blo, .string bhi]] w fun e w' => e = .returned (.agg #[.string lo, .string hi]) ∧ Below w.heap.size w w' := by
  injection hj with j1 j2
  subst j1; subst j2
  have HJ := Lib.hid (rfl : (0 : Nat) = 0)
  have f3 : blo.toList.isEmpty = false := by cases h : blo.toList with
    | nil => exact absurd h f2
    | cons => rfl
  have e3 : alo.toList.isEmpty = false := by cases h : alo.toList with
    | nil => exact absurd h e2
    | cons => rfl
  have g3 : bhi.toList.isEmpty = false := by cases h : bhi.toList with
    | nil => exact absurd h g2
    | cons => rfl
  have k3 : ahi.toList.isEmpty = false := by cases h : ahi.toList with
    | nil => exact absurd h k2
    | cons => rfl
  have HL := Lib.hid hl
  clear hl
  have HH := Lib.hid hh
  clear hh
  have HX := Lib.hid (((Bxs.three w #[.string alo, .string ahi] 31 #[.string blo, .string bhi] 31 #[.string ⟨#[]⟩, .string ⟨#[]⟩] 31).push (by simp) #[.string alo, .string ahi] 31))
  go_enter Tryz.func53, Tryz.ntmps53
  go_upto_region 2 with fail
  simp only [Nat.add_assoc, Nat.reduceAdd]
  generalize ((((w.alloc (.cells #[.string alo, .string ahi] 31)).alloc (.cells #[.string blo, .string bhi] 31)).alloc (.cells #[.string ⟨#[]⟩, .string ⟨#[]⟩] 31)).alloc (.cells #[.string alo, .string ahi] 31)) = W at *
  have q00 := HX.out.get0 0 (v := .string alo) rfl rfl
  have q01 := HX.out.get0 1 (v := .string ahi) rfl rfl
  have q10 := HX.out.get 1 0 (v := .string blo) rfl rfl
  have q11 := HX.out.get 1 1 (v := .string bhi) rfl rfl
  have q20 := HX.out.get 2 0 (v := .string ⟨#[]⟩) rfl rfl
  have q21 := HX.out.get 2 1 (v := .string ⟨#[]⟩) rfl rfl
  have q30 := HX.out.get 3 0 (v := .string alo) rfl rfl
  have q31 := HX.out.get 3 1 (v := .string ahi) rfl rfl
  have r20 := HX.out.free 2 0 rfl
  have r21 := HX.out.free 2 1 rfl
  have r30 := HX.out.free 3 0 rfl
  have r31 := HX.out.free 3 1 rfl
  go_wp2_with fail
  refine (less_is blo alo _ HL.out _).mono ?_
  rintro e w1 ⟨rfl, h1⟩
  replace HX := Lib.hid (HX.out.step h1)
  clear h1
  clear q00 q01 q10 q11 q20 q21 q30 q31 r20 r21 r30 r31
  have q00 := HX.out.get0 0 (v := .string alo) rfl rfl
  have q01 := HX.out.get0 1 (v := .string ahi) rfl rfl
  have q10 := HX.out.get 1 0 (v := .string blo) rfl rfl
  have q11 := HX.out.get 1 1 (v := .string bhi) rfl rfl
  have q20 := HX.out.get 2 0 (v := .string ⟨#[]⟩) rfl rfl
  have q21 := HX.out.get 2 1 (v := .string ⟨#[]⟩) rfl rfl
  have q30 := HX.out.get 3 0 (v := .string alo) rfl rfl
  have q31 := HX.out.get 3 1 (v := .string ahi) rfl rfl
  have r20 := HX.out.free 2 0 rfl
  have r21 := HX.out.free 2 1 rfl
  have r30 := HX.out.free 3 0 rfl
  have r31 := HX.out.free 3 1 rfl
  replace HX := Lib.hid (HX.out.set 3 0 rfl (.string blo))
  have q00 := HX.out.get0 0 (v := .string alo) rfl rfl
  have q01 := HX.out.get0 1 (v := .string ahi) rfl rfl
  have q10 := HX.out.get 1 0 (v := .string blo) rfl rfl
  have q11 := HX.out.get 1 1 (v := .string bhi) rfl rfl
  have q20 := HX.out.get 2 0 (v := .string ⟨#[]⟩) rfl rfl
  have q21 := HX.out.get 2 1 (v := .string ⟨#[]⟩) rfl rfl
  have q30 := HX.out.get 3 0 (v := .string blo) rfl rfl
  have q31 := HX.out.get 3 1 (v := .string ahi) rfl rfl
  have r20 := HX.out.free 2 0 rfl
  have r21 := HX.out.free 2 1 rfl
  have r30 := HX.out.free 3 0 rfl
  have r31 := HX.out.free 3 1 rfl
  go_wp2_with fail
  refine (less_is ahi bhi _ HH.out _).mono ?_
  rintro e w1 ⟨rfl, h1⟩
  replace HX := Lib.hid (HX.out.step h1)
  clear h1
  clear q00 q01 q10 q11 q20 q21 q30 q31 r20 r21 r30 r31
  have q00 := HX.out.get0 0 (v := .string alo) rfl rfl
  have q01 := HX.out.get0 1 (v := .string ahi) rfl rfl
  have q10 := HX.out.get 1 0 (v := .string blo) rfl rfl
  have q11 := HX.out.get 1 1 (v := .string bhi) rfl rfl
  have q20 := HX.out.get 2 0 (v := .string ⟨#[]⟩) rfl rfl
  have q21 := HX.out.get 2 1 (v := .string ⟨#[]⟩) rfl rfl
  have q30 := HX.out.get 3 0 (v := .string blo) rfl rfl
  have q31 := HX.out.get 3 1 (v := .string ahi) rfl rfl
  have r20 := HX.out.free 2 0 rfl
  have r21 := HX.out.free 2 1 rfl
  have r30 := HX.out.free 3 0 rfl
  have r31 := HX.out.free 3 1 rfl
  replace HX := Lib.hid (HX.out.set 3 1 rfl (.string bhi))
  have q00 := HX.out.get0 0 (v := .string alo) rfl rfl
  have q01 := HX.out.get0 1 (v := .string ahi) rfl rfl
  have q10 := HX.out.get 1 0 (v := .string blo) rfl rfl
  have q11 := HX.out.get 1 1 (v := .string bhi) rfl rfl
  have q20 := HX.out.get 2 0 (v := .string ⟨#[]⟩) rfl rfl
  have q21 := HX.out.get 2 1 (v := .string ⟨#[]⟩) rfl rfl
  have q30 := HX.out.get 3 0 (v := .string blo) rfl rfl
  have q31 := HX.out.get 3 1 (v := .string bhi) rfl rfl
  have r20 := HX.out.free 2 0 rfl
  have r21 := HX.out.free 2 1 rfl
  have r30 := HX.out.free 3 0 rfl
  have r31 := HX.out.free 3 1 rfl
  go_wp2
  refine bodyPost_ret (v := .agg #[.string blo, .string bhi]) (by simp [results, Tryz.results53, go_sem, q20, q21, World.cell?_setCell_same']) rfl ⟨rfl, (HX.out.bel.setCell (p := ⟨w.heap.size + 2, 0, none⟩) (Nat.le_add_right _ _) _).setCell (p := ⟨w.heap.size + 2, 1, none⟩) (Nat.le_add_right _ _) _⟩

set_option maxRecDepth 100000 in
theorem refJoin_TF (alo ahi blo bhi lo hi : ByteArray) (f2 : ¬ blo.toList = []) (e2 : ¬ alo.toList = []) (hl : less blo.data.toList alo.data.toList = true) (g2 : ¬ bhi.toList = []) (k2 : ¬ ahi.toList = []) (hh : less ahi.data.toList bhi.data.toList = false) (hj : (blo, ahi) = (lo, hi)) (w : World) :
    Calls Tryz.prog 53 #[.agg #[.string alo, .string ahi], .agg #[.string blo, .string bhi]] w fun e w' => e = .returned (.agg #[.string lo, .string hi]) ∧ Below w.heap.size w w' := by
  injection hj with j1 j2
  subst j1; subst j2
  have HJ := Lib.hid (rfl : (0 : Nat) = 0)
  have f3 : blo.toList.isEmpty = false := by cases h : blo.toList with
    | nil => exact absurd h f2
    | cons => rfl
  have e3 : alo.toList.isEmpty = false := by cases h : alo.toList with
    | nil => exact absurd h e2
    | cons => rfl
  have g3 : bhi.toList.isEmpty = false := by cases h : bhi.toList with
    | nil => exact absurd h g2
    | cons => rfl
  have k3 : ahi.toList.isEmpty = false := by cases h : ahi.toList with
    | nil => exact absurd h k2
    | cons => rfl
  have HL := Lib.hid hl
  clear hl
  have HH := Lib.hid hh
  clear hh
  have HX := Lib.hid (((Bxs.three w #[.string alo, .string ahi] 31 #[.string blo, .string bhi] 31 #[.string ⟨#[]⟩, .string ⟨#[]⟩] 31).push (by simp) #[.string alo, .string ahi] 31))
  go_enter Tryz.func53, Tryz.ntmps53
  go_upto_region 2 with fail
  simp only [Nat.add_assoc, Nat.reduceAdd]
  generalize ((((w.alloc (.cells #[.string alo, .string ahi] 31)).alloc (.cells #[.string blo, .string bhi] 31)).alloc (.cells #[.string ⟨#[]⟩, .string ⟨#[]⟩] 31)).alloc (.cells #[.string alo, .string ahi] 31)) = W at *
  have q00 := HX.out.get0 0 (v := .string alo) rfl rfl
  have q01 := HX.out.get0 1 (v := .string ahi) rfl rfl
  have q10 := HX.out.get 1 0 (v := .string blo) rfl rfl
  have q11 := HX.out.get 1 1 (v := .string bhi) rfl rfl
  have q20 := HX.out.get 2 0 (v := .string ⟨#[]⟩) rfl rfl
  have q21 := HX.out.get 2 1 (v := .string ⟨#[]⟩) rfl rfl
  have q30 := HX.out.get 3 0 (v := .string alo) rfl rfl
  have q31 := HX.out.get 3 1 (v := .string ahi) rfl rfl
  have r20 := HX.out.free 2 0 rfl
  have r21 := HX.out.free 2 1 rfl
  have r30 := HX.out.free 3 0 rfl
  have r31 := HX.out.free 3 1 rfl
  go_wp2_with fail
  refine (less_is blo alo _ HL.out _).mono ?_
  rintro e w1 ⟨rfl, h1⟩
  replace HX := Lib.hid (HX.out.step h1)
  clear h1
  clear q00 q01 q10 q11 q20 q21 q30 q31 r20 r21 r30 r31
  have q00 := HX.out.get0 0 (v := .string alo) rfl rfl
  have q01 := HX.out.get0 1 (v := .string ahi) rfl rfl
  have q10 := HX.out.get 1 0 (v := .string blo) rfl rfl
  have q11 := HX.out.get 1 1 (v := .string bhi) rfl rfl
  have q20 := HX.out.get 2 0 (v := .string ⟨#[]⟩) rfl rfl
  have q21 := HX.out.get 2 1 (v := .string ⟨#[]⟩) rfl rfl
  have q30 := HX.out.get 3 0 (v := .string alo) rfl rfl
  have q31 := HX.out.get 3 1 (v := .string ahi) rfl rfl
  have r20 := HX.out.free 2 0 rfl
  have r21 := HX.out.free 2 1 rfl
  have r30 := HX.out.free 3 0 rfl
  have r31 := HX.out.free 3 1 rfl
  replace HX := Lib.hid (HX.out.set 3 0 rfl (.string blo))
  have q00 := HX.out.get0 0 (v := .string alo) rfl rfl
  have q01 := HX.out.get0 1 (v := .string ahi) rfl rfl
  have q10 := HX.out.get 1 0 (v := .string blo) rfl rfl
  have q11 := HX.out.get 1 1 (v := .string bhi) rfl rfl
  have q20 := HX.out.get 2 0 (v := .string ⟨#[]⟩) rfl rfl
  have q21 := HX.out.get 2 1 (v := .string ⟨#[]⟩) rfl rfl
  have q30 := HX.out.get 3 0 (v := .string blo) rfl rfl
  have q31 := HX.out.get 3 1 (v := .string ahi) rfl rfl
  have r20 := HX.out.free 2 0 rfl
  have r21 := HX.out.free 2 1 rfl
  have r30 := HX.out.free 3 0 rfl
  have r31 := HX.out.free 3 1 rfl
  go_wp2_with fail
  refine (less_is ahi bhi _ HH.out _).mono ?_
  rintro e w1 ⟨rfl, h1⟩
  replace HX := Lib.hid (HX.out.step h1)
  clear h1
  clear q00 q01 q10 q11 q20 q21 q30 q31 r20 r21 r30 r31
  have q00 := HX.out.get0 0 (v := .string alo) rfl rfl
  have q01 := HX.out.get0 1 (v := .string ahi) rfl rfl
  have q10 := HX.out.get 1 0 (v := .string blo) rfl rfl
  have q11 := HX.out.get 1 1 (v := .string bhi) rfl rfl
  have q20 := HX.out.get 2 0 (v := .string ⟨#[]⟩) rfl rfl
  have q21 := HX.out.get 2 1 (v := .string ⟨#[]⟩) rfl rfl
  have q30 := HX.out.get 3 0 (v := .string blo) rfl rfl
  have q31 := HX.out.get 3 1 (v := .string ahi) rfl rfl
  have r20 := HX.out.free 2 0 rfl
  have r21 := HX.out.free 2 1 rfl
  have r30 := HX.out.free 3 0 rfl
  have r31 := HX.out.free 3 1 rfl
  go_wp2
  refine bodyPost_ret (v := .agg #[.string blo, .string ahi]) (by simp [results, Tryz.results53, go_sem, q20, q21, World.cell?_setCell_same']) rfl ⟨rfl, (HX.out.bel.setCell (p := ⟨w.heap.size + 2, 0, none⟩) (Nat.le_add_right _ _) _).setCell (p := ⟨w.heap.size + 2, 1, none⟩) (Nat.le_add_right _ _) _⟩

set_option maxRecDepth 100000 in
theorem refJoin_FB (alo ahi blo bhi lo hi : ByteArray) (f2 : ¬ blo.toList = []) (e2 : ¬ alo.toList = []) (hl : less blo.data.toList alo.data.toList = false) (g1 : bhi.toList = []) (hj : (alo, bhi) = (lo, hi)) (w : World) :
    Calls Tryz.prog 53 #[.agg #[.string alo, .string ahi], .agg #[.string blo, .string bhi]] w fun e w' => e = .returned (.agg #[.string lo, .string hi]) ∧ Below w.heap.size w w' := by
  injection hj with j1 j2
  subst j1; subst j2
  have HJ := Lib.hid (rfl : (0 : Nat) = 0)
  have f3 : blo.toList.isEmpty = false := by cases h : blo.toList with
    | nil => exact absurd h f2
    | cons => rfl
  have e3 : alo.toList.isEmpty = false := by cases h : alo.toList with
    | nil => exact absurd h e2
    | cons => rfl
  have g3 : bhi.toList.isEmpty = true := by rw [g1]; rfl
  have HL := Lib.hid hl
  clear hl
  have HX := Lib.hid (((Bxs.three w #[.string alo, .string ahi] 31 #[.string blo, .string bhi] 31 #[.string ⟨#[]⟩, .string ⟨#[]⟩] 31).push (by simp) #[.string alo, .string ahi] 31))
  go_enter Tryz.func53, Tryz.ntmps53
  go_upto_region 2 with fail
  simp only [Nat.add_assoc, Nat.reduceAdd]
  generalize ((((w.alloc (.cells #[.string alo, .string ahi] 31)).alloc (.cells #[.string blo, .string bhi] 31)).alloc (.cells #[.string ⟨#[]⟩, .string ⟨#[]⟩] 31)).alloc (.cells #[.string alo, .string ahi] 31)) = W at *
  have q00 := HX.out.get0 0 (v := .string alo) rfl rfl
  have q01 := HX.out.get0 1 (v := .string ahi) rfl rfl
  have q10 := HX.out.get 1 0 (v := .string blo) rfl rfl
  have q11 := HX.out.get 1 1 (v := .string bhi) rfl rfl
  have q20 := HX.out.get 2 0 (v := .string ⟨#[]⟩) rfl rfl
  have q21 := HX.out.get 2 1 (v := .string ⟨#[]⟩) rfl rfl
  have q30 := HX.out.get 3 0 (v := .string alo) rfl rfl
  have q31 := HX.out.get 3 1 (v := .string ahi) rfl rfl
  have r20 := HX.out.free 2 0 rfl
  have r21 := HX.out.free 2 1 rfl
  have r30 := HX.out.free 3 0 rfl
  have r31 := HX.out.free 3 1 rfl
  go_wp2_with fail
  refine (less_is blo alo _ HL.out _).mono ?_
  rintro e w1 ⟨rfl, h1⟩
  replace HX := Lib.hid (HX.out.step h1)
  clear h1
  clear q00 q01 q10 q11 q20 q21 q30 q31 r20 r21 r30 r31
  have q00 := HX.out.get0 0 (v := .string alo) rfl rfl
  have q01 := HX.out.get0 1 (v := .string ahi) rfl rfl
  have q10 := HX.out.get 1 0 (v := .string blo) rfl rfl
  have q11 := HX.out.get 1 1 (v := .string bhi) rfl rfl
  have q20 := HX.out.get 2 0 (v := .string ⟨#[]⟩) rfl rfl
  have q21 := HX.out.get 2 1 (v := .string ⟨#[]⟩) rfl rfl
  have q30 := HX.out.get 3 0 (v := .string alo) rfl rfl
  have q31 := HX.out.get 3 1 (v := .string ahi) rfl rfl
  have r20 := HX.out.free 2 0 rfl
  have r21 := HX.out.free 2 1 rfl
  have r30 := HX.out.free 3 0 rfl
  have r31 := HX.out.free 3 1 rfl
  replace HX := Lib.hid (HX.out.set 3 1 rfl (.string bhi))
  have q00 := HX.out.get0 0 (v := .string alo) rfl rfl
  have q01 := HX.out.get0 1 (v := .string ahi) rfl rfl
  have q10 := HX.out.get 1 0 (v := .string blo) rfl rfl
  have q11 := HX.out.get 1 1 (v := .string bhi) rfl rfl
  have q20 := HX.out.get 2 0 (v := .string ⟨#[]⟩) rfl rfl
  have q21 := HX.out.get 2 1 (v := .string ⟨#[]⟩) rfl rfl
  have q30 := HX.out.get 3 0 (v := .string alo) rfl rfl
  have q31 := HX.out.get 3 1 (v := .string bhi) rfl rfl
  have r20 := HX.out.free 2 0 rfl
  have r21 := HX.out.free 2 1 rfl
  have r30 := HX.out.free 3 0 rfl
  have r31 := HX.out.free 3 1 rfl
  go_wp2
  refine bodyPost_ret (v := .agg #[.string alo, .string bhi]) (by simp [results, Tryz.results53, go_sem, q20, q21, World.cell?_setCell_same']) rfl ⟨rfl, (HX.out.bel.setCell (p := ⟨w.heap.size + 2, 0, none⟩) (Nat.le_add_right _ _) _).setCell (p := ⟨w.heap.size + 2, 1, none⟩) (Nat.le_add_right _ _) _⟩

set_option maxRecDepth 100000 in
theorem refJoin_FA (alo ahi blo bhi lo hi : ByteArray) (f2 : ¬ blo.toList = []) (e2 : ¬ alo.toList = []) (hl : less blo.data.toList alo.data.toList = false) (g2 : ¬ bhi.toList = []) (k1 : ahi.toList = []) (hj : (alo, ahi) = (lo, hi)) (w : World) :
    Calls Tryz.prog 53 #[.agg #[.string alo, .string ahi], .agg #[.string blo, .string bhi]] w fun e w' => e = .returned (.agg #[.string lo, .string hi]) ∧ Below w.heap.size w w' := by
  injection hj with j1 j2
  subst j1; subst j2
  have HJ := Lib.hid (rfl : (0 : Nat) = 0)
  have f3 : blo.toList.isEmpty = false := by cases h : blo.toList with
    | nil => exact absurd h f2
    | cons => rfl
  have e3 : alo.toList.isEmpty = false := by cases h : alo.toList with
    | nil => exact absurd h e2
    | cons => rfl
  have g3 : bhi.toList.isEmpty = false := by cases h : bhi.toList with
    | nil => exact absurd h g2
    | cons => rfl
  have k3 : ahi.toList.isEmpty = true := by rw [k1]; rfl
  have HL := Lib.hid hl
  clear hl
  have HX := Lib.hid (((Bxs.three w #[.string alo, .string ahi] 31 #[.string blo, .string bhi] 31 #[.string ⟨#[]⟩, .string ⟨#[]⟩] 31).push (by simp) #[.string alo, .string ahi] 31))
  go_enter Tryz.func53, Tryz.ntmps53
  go_upto_region 2 with fail
  simp only [Nat.add_assoc, Nat.reduceAdd]
  generalize ((((w.alloc (.cells #[.string alo, .string ahi] 31)).alloc (.cells #[.string blo, .string bhi] 31)).alloc (.cells #[.string ⟨#[]⟩, .string ⟨#[]⟩] 31)).alloc (.cells #[.string alo, .string ahi] 31)) = W at *
  have q00 := HX.out.get0 0 (v := .string alo) rfl rfl
  have q01 := HX.out.get0 1 (v := .string ahi) rfl rfl
  have q10 := HX.out.get 1 0 (v := .string blo) rfl rfl
  have q11 := HX.out.get 1 1 (v := .string bhi) rfl rfl
  have q20 := HX.out.get 2 0 (v := .string ⟨#[]⟩) rfl rfl
  have q21 := HX.out.get 2 1 (v := .string ⟨#[]⟩) rfl rfl
  have q30 := HX.out.get 3 0 (v := .string alo) rfl rfl
  have q31 := HX.out.get 3 1 (v := .string ahi) rfl rfl
  have r20 := HX.out.free 2 0 rfl
  have r21 := HX.out.free 2 1 rfl
  have r30 := HX.out.free 3 0 rfl
  have r31 := HX.out.free 3 1 rfl
  go_wp2_with fail
  refine (less_is blo alo _ HL.out _).mono ?_
  rintro e w1 ⟨rfl, h1⟩
  replace HX := Lib.hid (HX.out.step h1)
  clear h1
  clear q00 q01 q10 q11 q20 q21 q30 q31 r20 r21 r30 r31
  have q00 := HX.out.get0 0 (v := .string alo) rfl rfl
  have q01 := HX.out.get0 1 (v := .string ahi) rfl rfl
  have q10 := HX.out.get 1 0 (v := .string blo) rfl rfl
  have q11 := HX.out.get 1 1 (v := .string bhi) rfl rfl
  have q20 := HX.out.get 2 0 (v := .string ⟨#[]⟩) rfl rfl
  have q21 := HX.out.get 2 1 (v := .string ⟨#[]⟩) rfl rfl
  have q30 := HX.out.get 3 0 (v := .string alo) rfl rfl
  have q31 := HX.out.get 3 1 (v := .string ahi) rfl rfl
  have r20 := HX.out.free 2 0 rfl
  have r21 := HX.out.free 2 1 rfl
  have r30 := HX.out.free 3 0 rfl
  have r31 := HX.out.free 3 1 rfl
  go_wp2
  refine bodyPost_ret (v := .agg #[.string alo, .string ahi]) (by simp [results, Tryz.results53, go_sem, q20, q21, World.cell?_setCell_same']) rfl ⟨rfl, (HX.out.bel.setCell (p := ⟨w.heap.size + 2, 0, none⟩) (Nat.le_add_right _ _) _).setCell (p := ⟨w.heap.size + 2, 1, none⟩) (Nat.le_add_right _ _) _⟩

set_option maxRecDepth 100000 in
theorem refJoin_FT (alo ahi blo bhi lo hi : ByteArray) (f2 : ¬ blo.toList = []) (e2 : ¬ alo.toList = []) (hl : less blo.data.toList alo.data.toList = false) (g2 : ¬ bhi.toList = []) (k2 : ¬ ahi.toList = []) (hh : less ahi.data.toList bhi.data.toList = true) (hj : (alo, bhi) = (lo, hi)) (w : World) :
    Calls Tryz.prog 53 #[.agg #[.string alo, .string ahi], .agg #[.string blo, .string bhi]] w fun e w' => e = .returned (.agg #[.string lo, .string hi]) ∧ Below w.heap.size w w' := by
  injection hj with j1 j2
  subst j1; subst j2
  have HJ := Lib.hid (rfl : (0 : Nat) = 0)
  have f3 : blo.toList.isEmpty = false := by cases h : blo.toList with
    | nil => exact absurd h f2
    | cons => rfl
  have e3 : alo.toList.isEmpty = false := by cases h : alo.toList with
    | nil => exact absurd h e2
    | cons => rfl
  have g3 : bhi.toList.isEmpty = false := by cases h : bhi.toList with
    | nil => exact absurd h g2
    | cons => rfl
  have k3 : ahi.toList.isEmpty = false := by cases h : ahi.toList with
    | nil => exact absurd h k2
    | cons => rfl
  have HL := Lib.hid hl
  clear hl
  have HH := Lib.hid hh
  clear hh
  have HX := Lib.hid (((Bxs.three w #[.string alo, .string ahi] 31 #[.string blo, .string bhi] 31 #[.string ⟨#[]⟩, .string ⟨#[]⟩] 31).push (by simp) #[.string alo, .string ahi] 31))
  go_enter Tryz.func53, Tryz.ntmps53
  go_upto_region 2 with fail
  simp only [Nat.add_assoc, Nat.reduceAdd]
  generalize ((((w.alloc (.cells #[.string alo, .string ahi] 31)).alloc (.cells #[.string blo, .string bhi] 31)).alloc (.cells #[.string ⟨#[]⟩, .string ⟨#[]⟩] 31)).alloc (.cells #[.string alo, .string ahi] 31)) = W at *
  have q00 := HX.out.get0 0 (v := .string alo) rfl rfl
  have q01 := HX.out.get0 1 (v := .string ahi) rfl rfl
  have q10 := HX.out.get 1 0 (v := .string blo) rfl rfl
  have q11 := HX.out.get 1 1 (v := .string bhi) rfl rfl
  have q20 := HX.out.get 2 0 (v := .string ⟨#[]⟩) rfl rfl
  have q21 := HX.out.get 2 1 (v := .string ⟨#[]⟩) rfl rfl
  have q30 := HX.out.get 3 0 (v := .string alo) rfl rfl
  have q31 := HX.out.get 3 1 (v := .string ahi) rfl rfl
  have r20 := HX.out.free 2 0 rfl
  have r21 := HX.out.free 2 1 rfl
  have r30 := HX.out.free 3 0 rfl
  have r31 := HX.out.free 3 1 rfl
  go_wp2_with fail
  refine (less_is blo alo _ HL.out _).mono ?_
  rintro e w1 ⟨rfl, h1⟩
  replace HX := Lib.hid (HX.out.step h1)
  clear h1
  clear q00 q01 q10 q11 q20 q21 q30 q31 r20 r21 r30 r31
  have q00 := HX.out.get0 0 (v := .string alo) rfl rfl
  have q01 := HX.out.get0 1 (v := .string ahi) rfl rfl
  have q10 := HX.out.get 1 0 (v := .string blo) rfl rfl
  have q11 := HX.out.get 1 1 (v := .string bhi) rfl rfl
  have q20 := HX.out.get 2 0 (v := .string ⟨#[]⟩) rfl rfl
  have q21 := HX.out.get 2 1 (v := .string ⟨#[]⟩) rfl rfl
  have q30 := HX.out.get 3 0 (v := .string alo) rfl rfl
  have q31 := HX.out.get 3 1 (v := .string ahi) rfl rfl
  have r20 := HX.out.free 2 0 rfl
  have r21 := HX.out.free 2 1 rfl
  have r30 := HX.out.free 3 0 rfl
  have r31 := HX.out.free 3 1 rfl
  go_wp2_with fail
  refine (less_is ahi bhi _ HH.out _).mono ?_
  rintro e w1 ⟨rfl, h1⟩
  replace HX := Lib.hid (HX.out.step h1)
  clear h1
  clear q00 q01 q10 q11 q20 q21 q30 q31 r20 r21 r30 r31
  have q00 := HX.out.get0 0 (v := .string alo) rfl rfl
  have q01 := HX.out.get0 1 (v := .string ahi) rfl rfl
  have q10 := HX.out.get 1 0 (v := .string blo) rfl rfl
  have q11 := HX.out.get 1 1 (v := .string bhi) rfl rfl
  have q20 := HX.out.get 2 0 (v := .string ⟨#[]⟩) rfl rfl
  have q21 := HX.out.get 2 1 (v := .string ⟨#[]⟩) rfl rfl
  have q30 := HX.out.get 3 0 (v := .string alo) rfl rfl
  have q31 := HX.out.get 3 1 (v := .string ahi) rfl rfl
  have r20 := HX.out.free 2 0 rfl
  have r21 := HX.out.free 2 1 rfl
  have r30 := HX.out.free 3 0 rfl
  have r31 := HX.out.free 3 1 rfl
  replace HX := Lib.hid (HX.out.set 3 1 rfl (.string bhi))
  have q00 := HX.out.get0 0 (v := .string alo) rfl rfl
  have q01 := HX.out.get0 1 (v := .string ahi) rfl rfl
  have q10 := HX.out.get 1 0 (v := .string blo) rfl rfl
  have q11 := HX.out.get 1 1 (v := .string bhi) rfl rfl
  have q20 := HX.out.get 2 0 (v := .string ⟨#[]⟩) rfl rfl
  have q21 := HX.out.get 2 1 (v := .string ⟨#[]⟩) rfl rfl
  have q30 := HX.out.get 3 0 (v := .string alo) rfl rfl
  have q31 := HX.out.get 3 1 (v := .string bhi) rfl rfl
  have r20 := HX.out.free 2 0 rfl
  have r21 := HX.out.free 2 1 rfl
  have r30 := HX.out.free 3 0 rfl
  have r31 := HX.out.free 3 1 rfl
  go_wp2
  refine bodyPost_ret (v := .agg #[.string alo, .string bhi]) (by simp [results, Tryz.results53, go_sem, q20, q21, World.cell?_setCell_same']) rfl ⟨rfl, (HX.out.bel.setCell (p := ⟨w.heap.size + 2, 0, none⟩) (Nat.le_add_right _ _) _).setCell (p := ⟨w.heap.size + 2, 1, none⟩) (Nat.le_add_right _ _) _⟩

set_option maxRecDepth 100000 in
theorem refJoin_FF (alo ahi blo bhi lo hi : ByteArray) (f2 : ¬ blo.toList = []) (e2 : ¬ alo.toList = []) (hl : less blo.data.toList alo.data.toList = false) (g2 : ¬ bhi.toList = []) (k2 : ¬ ahi.toList = []) (hh : less ahi.data.toList bhi.data.toList = false) (hj : (alo, ahi) = (lo, hi)) (w : World) :
    Calls Tryz.prog 53 #[.agg #[.string alo, .string ahi], .agg #[.string blo, .string bhi]] w fun e w' => e = .returned (.agg #[.string lo, .string hi]) ∧ Below w.heap.size w w' := by
  injection hj with j1 j2
  subst j1; subst j2
  have HJ := Lib.hid (rfl : (0 : Nat) = 0)
  have f3 : blo.toList.isEmpty = false := by cases h : blo.toList with
    | nil => exact absurd h f2
    | cons => rfl
  have e3 : alo.toList.isEmpty = false := by cases h : alo.toList with
    | nil => exact absurd h e2
    | cons => rfl
  have g3 : bhi.toList.isEmpty = false := by cases h : bhi.toList with
    | nil => exact absurd h g2
    | cons => rfl
  have k3 : ahi.toList.isEmpty = false := by cases h : ahi.toList with
    | nil => exact absurd h k2
    | cons => rfl
  have HL := Lib.hid hl
  clear hl
  have HH := Lib.hid hh
  clear hh
  have HX := Lib.hid (((Bxs.three w #[.string alo, .string ahi] 31 #[.string blo, .string bhi] 31 #[.string ⟨#[]⟩, .string ⟨#[]⟩] 31).push (by simp) #[.string alo, .string ahi] 31))
  go_enter Tryz.func53, Tryz.ntmps53
  go_upto_region 2 with fail
  simp only [Nat.add_assoc, Nat.reduceAdd]
  generalize ((((w.alloc (.cells #[.string alo, .string ahi] 31)).alloc (.cells #[.string blo, .string bhi] 31)).alloc (.cells #[.string ⟨#[]⟩, .string ⟨#[]⟩] 31)).alloc (.cells #[.string alo, .string ahi] 31)) = W at *
  have q00 := HX.out.get0 0 (v := .string alo) rfl rfl
  have q01 := HX.out.get0 1 (v := .string ahi) rfl rfl
  have q10 := HX.out.get 1 0 (v := .string blo) rfl rfl
  have q11 := HX.out.get 1 1 (v := .string bhi) rfl rfl
  have q20 := HX.out.get 2 0 (v := .string ⟨#[]⟩) rfl rfl
  have q21 := HX.out.get 2 1 (v := .string ⟨#[]⟩) rfl rfl
  have q30 := HX.out.get 3 0 (v := .string alo) rfl rfl
  have q31 := HX.out.get 3 1 (v := .string ahi) rfl rfl
  have r20 := HX.out.free 2 0 rfl
  have r21 := HX.out.free 2 1 rfl
  have r30 := HX.out.free 3 0 rfl
  have r31 := HX.out.free 3 1 rfl
  go_wp2_with fail
  refine (less_is blo alo _ HL.out _).mono ?_
  rintro e w1 ⟨rfl, h1⟩
  replace HX := Lib.hid (HX.out.step h1)
  clear h1
  clear q00 q01 q10 q11 q20 q21 q30 q31 r20 r21 r30 r31
  have q00 := HX.out.get0 0 (v := .string alo) rfl rfl
  have q01 := HX.out.get0 1 (v := .string ahi) rfl rfl
  have q10 := HX.out.get 1 0 (v := .string blo) rfl rfl
  have q11 := HX.out.get 1 1 (v := .string bhi) rfl rfl
  have q20 := HX.out.get 2 0 (v := .string ⟨#[]⟩) rfl rfl
  have q21 := HX.out.get 2 1 (v := .string ⟨#[]⟩) rfl rfl
  have q30 := HX.out.get 3 0 (v := .string alo) rfl rfl
  have q31 := HX.out.get 3 1 (v := .string ahi) rfl rfl
  have r20 := HX.out.free 2 0 rfl
  have r21 := HX.out.free 2 1 rfl
  have r30 := HX.out.free 3 0 rfl
  have r31 := HX.out.free 3 1 rfl
  go_wp2_with fail
  refine (less_is ahi bhi _ HH.out _).mono ?_
  rintro e w1 ⟨rfl, h1⟩
  replace HX := Lib.hid (HX.out.step h1)
  clear h1
  clear q00 q01 q10 q11 q20 q21 q30 q31 r20 r21 r30 r31
  have q00 := HX.out.get0 0 (v := .string alo) rfl rfl
  have q01 := HX.out.get0 1 (v := .string ahi) rfl rfl
  have q10 := HX.out.get 1 0 (v := .string blo) rfl rfl
  have q11 := HX.out.get 1 1 (v := .string bhi) rfl rfl
  have q20 := HX.out.get 2 0 (v := .string ⟨#[]⟩) rfl rfl
  have q21 := HX.out.get 2 1 (v := .string ⟨#[]⟩) rfl rfl
  have q30 := HX.out.get 3 0 (v := .string alo) rfl rfl
  have q31 := HX.out.get 3 1 (v := .string ahi) rfl rfl
  have r20 := HX.out.free 2 0 rfl
  have r21 := HX.out.free 2 1 rfl
  have r30 := HX.out.free 3 0 rfl
  have r31 := HX.out.free 3 1 rfl
  go_wp2
  refine bodyPost_ret (v := .agg #[.string alo, .string ahi]) (by simp [results, Tryz.results53, go_sem, q20, q21, World.cell?_setCell_same']) rfl ⟨rfl, (HX.out.bel.setCell (p := ⟨w.heap.size + 2, 0, none⟩) (Nat.le_add_right _ _) _).setCell (p := ⟨w.heap.size + 2, 1, none⟩) (Nat.le_add_right _ _) _⟩

theorem jlo_B {a b : ByteArray} (h : b.data.toList.isEmpty = true) : jlo a b = b := if_pos (lowR_nil h _)
theorem jlo_A {a b : ByteArray} (hb : b.data.toList.isEmpty = false) (ha : a.data.toList.isEmpty = true) : jlo a b = a := if_neg fun h => by rw [lowR_to_nil h ha] at hb; cases hb
theorem jlo_T {a b : ByteArray} (ha : a.data.toList.isEmpty = false) (hb : b.data.toList.isEmpty = false) (h : less b.data.toList a.data.toList = true) : jlo a b = b := if_pos (by
  unfold less at h
  rw [lowR_cmp hb ha]; simp at h ⊢; omega)
theorem jlo_F {a b : ByteArray} (ha : a.data.toList.isEmpty = false) (hb : b.data.toList.isEmpty = false) (hm : may b.data.toList = true) (h : less b.data.toList a.data.toList = false) : jlo a b = a := by
  unfold less at h
  unfold jlo
  rw [lowR_cmp hb ha]
  have hr := compare_range b.data.toList a.data.toList
  simp at h
  by_cases h0 : compare b.data.toList a.data.toList ≤ 0
  · rw [if_pos (decide_eq_true h0)]
    rcases compare_eq (a := b.data.toList) (b := a.data.toList) (by omega) with e | e
    · exact ba_ext e
    · rw [hm] at e; cases e.1
  · rw [if_neg (by simpa using h0)]
theorem jhi_B {a b : ByteArray} (h : b.data.toList.isEmpty = true) : jhi a b = b := if_pos (highR_nil h _)
theorem jhi_A {a b : ByteArray} (hb : b.data.toList.isEmpty = false) (ha : a.data.toList.isEmpty = true) : jhi a b = a := if_neg fun h => by rw [highR_to_nil h ha] at hb; cases hb
theorem jhi_T {a b : ByteArray} (ha : a.data.toList.isEmpty = false) (hb : b.data.toList.isEmpty = false) (h : less a.data.toList b.data.toList = true) : jhi a b = b := if_pos (by
  unfold less at h
  have := compare_anti a.data.toList b.data.toList
  rw [highR_cmp hb ha]; simp at h ⊢; omega)
theorem jhi_F {a b : ByteArray} (ha : a.data.toList.isEmpty = false) (hb : b.data.toList.isEmpty = false) (hm : may b.data.toList = true) (h : less a.data.toList b.data.toList = false) : jhi a b = a := by
  unfold less at h
  unfold jhi
  rw [highR_cmp hb ha]
  have hr := compare_range a.data.toList b.data.toList
  have ht := compare_anti a.data.toList b.data.toList
  simp at h
  by_cases h0 : 0 ≤ compare b.data.toList a.data.toList
  · rw [if_pos (decide_eq_true h0)]
    rcases compare_eq (a := b.data.toList) (b := a.data.toList) (by omega) with e | e
    · exact ba_ext e
    · rw [hm] at e; cases e.1
  · rw [if_neg (by simpa using h0)]
/-- The document's least span of two that may be. -/
theorem refJoin_is (alo ahi blo bhi lo hi : ByteArray) (ha : Spn.ok (alo, ahi)) (hb : Spn.ok (blo, bhi)) (h : Spn.join (alo, ahi) (blo, bhi) = (lo, hi)) (w : World) :
    Calls Tryz.prog 53 #[.agg #[.string alo, .string ahi], .agg #[.string blo, .string bhi]] w fun e w' => e = .returned (.agg #[.string lo, .string hi]) ∧ Below w.heap.size w w' := by
  rw [Spn.join_eq ha hb] at h
  have h : (jlo alo blo, jhi ahi bhi) = (lo, hi) := h
  have mb : blo.data.toList.isEmpty = false → may blo.data.toList = true := hb.ok_lo
  have mh : bhi.data.toList.isEmpty = false → may bhi.data.toList = true := hb.ok_hi
  rcases empty_or blo with ⟨f1, _, f3⟩ | ⟨_, f2, f3⟩
  · rw [jlo_B (by rw [f3]; rfl)] at h
    rcases empty_or bhi with ⟨g1, _, g3⟩ | ⟨_, g2, g3⟩
    · rw [jhi_B (by rw [g3]; rfl)] at h; exact refJoin_BB alo ahi blo bhi lo hi f1 g1 h w
    rcases empty_or ahi with ⟨k1, _, k3⟩ | ⟨_, k2, k3⟩
    · rw [jhi_A g3 (by rw [k3]; rfl)] at h; exact refJoin_BA alo ahi blo bhi lo hi f1 g2 k1 h w
    cases hh : less ahi.data.toList bhi.data.toList with
    | true => rw [jhi_T k3 g3 hh] at h; exact refJoin_BT alo ahi blo bhi lo hi f1 g2 k2 hh h w
    | false => rw [jhi_F k3 g3 (mh g3) hh] at h; exact refJoin_BF alo ahi blo bhi lo hi f1 g2 k2 hh h w
  rcases empty_or alo with ⟨e1, _, e3⟩ | ⟨_, e2, e3⟩
  · rw [jlo_A f3 (by rw [e3]; rfl)] at h
    rcases empty_or bhi with ⟨g1, _, g3⟩ | ⟨_, g2, g3⟩
    · rw [jhi_B (by rw [g3]; rfl)] at h; exact refJoin_AB alo ahi blo bhi lo hi f2 e1 g1 h w
    rcases empty_or ahi with ⟨k1, _, k3⟩ | ⟨_, k2, k3⟩
    · rw [jhi_A g3 (by rw [k3]; rfl)] at h; exact refJoin_AA alo ahi blo bhi lo hi f2 e1 g2 k1 h w
    cases hh : less ahi.data.toList bhi.data.toList with
    | true => rw [jhi_T k3 g3 hh] at h; exact refJoin_AT alo ahi blo bhi lo hi f2 e1 g2 k2 hh h w
    | false => rw [jhi_F k3 g3 (mh g3) hh] at h; exact refJoin_AF alo ahi blo bhi lo hi f2 e1 g2 k2 hh h w
  cases hl : less blo.data.toList alo.data.toList with
  | true =>
    rw [jlo_T e3 f3 hl] at h
    rcases empty_or bhi with ⟨g1, _, g3⟩ | ⟨_, g2, g3⟩
    · rw [jhi_B (by rw [g3]; rfl)] at h; exact refJoin_TB alo ahi blo bhi lo hi f2 e2 hl g1 h w
    rcases empty_or ahi with ⟨k1, _, k3⟩ | ⟨_, k2, k3⟩
    · rw [jhi_A g3 (by rw [k3]; rfl)] at h; exact refJoin_TA alo ahi blo bhi lo hi f2 e2 hl g2 k1 h w
    cases hh : less ahi.data.toList bhi.data.toList with
    | true => rw [jhi_T k3 g3 hh] at h; exact refJoin_TT alo ahi blo bhi lo hi f2 e2 hl g2 k2 hh h w
    | false => rw [jhi_F k3 g3 (mh g3) hh] at h; exact refJoin_TF alo ahi blo bhi lo hi f2 e2 hl g2 k2 hh h w
  | false =>
    rw [jlo_F e3 f3 (mb f3) hl] at h
    rcases empty_or bhi with ⟨g1, _, g3⟩ | ⟨_, g2, g3⟩
    · rw [jhi_B (by rw [g3]; rfl)] at h; exact refJoin_FB alo ahi blo bhi lo hi f2 e2 hl g1 h w
    rcases empty_or ahi with ⟨k1, _, k3⟩ | ⟨_, k2, k3⟩
    · rw [jhi_A g3 (by rw [k3]; rfl)] at h; exact refJoin_FA alo ahi blo bhi lo hi f2 e2 hl g2 k1 h w
    cases hh : less ahi.data.toList bhi.data.toList with
    | true => rw [jhi_T k3 g3 hh] at h; exact refJoin_FT alo ahi blo bhi lo hi f2 e2 hl g2 k2 hh h w
    | false => rw [jhi_F k3 g3 (mh g3) hh] at h; exact refJoin_FF alo ahi blo bhi lo hi f2 e2 hl g2 k2 hh h w
end Go.Proofs.YtdijkekglaimfaaGreatDoor.Ver
