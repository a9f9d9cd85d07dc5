/- span.May, lowReaches, highReaches, Has. -/
import Derived.Test.YtdijkekglaimfaaGreatDoorSpanMath
import Derived.Test.YtdijkekglaimfaaGreatDoorVerRef4
import Derived.Test.YtdijkekglaimfaaGreatDoorVerCompare
namespace Go.Proofs.YtdijkekglaimfaaGreatDoor.Ver
open Go.RowKit

theorem less_is (a b : ByteArray) (v : Bool) (h : less a.data.toList b.data.toList = v) (w : World) :
    Calls Tryz.prog 51 #[.string a, .string b] w fun e w' => e = .returned (.bool v) ∧ Below w.heap.size w w' := by
  subst h; exact less_any a b w
theorem compare_is (a b : ByteArray) (n : Int) (h : compare a.data.toList b.data.toList = n) (w : World) :
    Calls Tryz.prog 38 #[.string a, .string b] w fun e w' => e = .returned (.int .i64 n) ∧ Below w.heap.size w w' := by
  subst h; exact compare_any a b w

/-- A struct of two texts in a block of its own. -/
def Pair (w : World) (n : Nat) (lo hi : ByteArray) : Prop := w.cell? ⟨n, 0, none⟩ = some (.string lo) ∧ w.cell? ⟨n, 1, none⟩ = some (.string hi) ∧ w.frozen? ⟨n, 0, none⟩ = false ∧ w.frozen? ⟨n, 1, none⟩ = false
theorem Pair.below {w w' : World} {n : Nat} {lo hi : ByteArray} (p : Pair w n lo hi) (h : Below w.heap.size w w') : Pair w' n lo hi :=
  ⟨(h.cell (World.block_lt_of_cell? w _ p.1)).trans p.1, (h.cell (World.block_lt_of_cell? w _ p.2.1)).trans p.2.1,
    (h.frozen (World.block_lt_of_cell? w _ p.1)).trans p.2.2.1, (h.frozen (World.block_lt_of_cell? w _ p.2.1)).trans p.2.2.2⟩
theorem pair_new (w : World) (lo hi : ByteArray) (T : TypeId) : Pair (w.alloc (.cells #[.string lo, .string hi] T)) w.heap.size lo hi :=
  ⟨by rw [cell_of_row _ _ _ _ _ _ (heap_alloc_new w _)]; rfl, by rw [cell_of_row _ _ _ _ _ _ (heap_alloc_new w _)]; rfl,
    cells_free (heap_alloc_new w _) 0, cells_free (heap_alloc_new w _) 1⟩
theorem below_new (w : World) (o : Obj) : Below w.heap.size w (w.alloc o) := (Below.refl _ w).alloc (Nat.le_refl _) o

theorem empty_or (s : ByteArray) : (s.toList = [] ∧ s.toList.isEmpty = true ∧ s.data.toList = []) ∨ (s.toList.isEmpty = false ∧ ¬ s.toList = [] ∧ s.data.toList.isEmpty = false) := by
  rw [Lib.toList_data]
  cases h : s.data.toList with
  | nil => exact .inl ⟨rfl, rfl, rfl⟩
  | cons a b => exact .inr ⟨rfl, by simp, rfl⟩

theorem lowR_is (lo o : ByteArray) (b : Bool) (h : lowR lo.data.toList o.data.toList = b) (w : World) :
    Calls Tryz.prog 40 #[.string lo, .string o] w fun e w' => e = .returned (.bool b) ∧ Below w.heap.size w w' := by
  subst h
  rcases empty_or lo with ⟨e1, e2, e3⟩ | ⟨e1, e2, e3⟩
  · have Hv := Lib.hid (show lowR lo.data.toList o.data.toList = true by unfold lowR; rw [e3]; rfl)
    clear e3
    go_enter Tryz.func40, Tryz.ntmps40
    go_wp2
    go_ret
    exact ⟨by rw [Hv.out]; rfl, Below.refl _ _⟩
  rcases empty_or o with ⟨f1, f2, f3⟩ | ⟨f1, f2, f3⟩
  · have Hv := Lib.hid (show lowR lo.data.toList o.data.toList = false by unfold lowR; rw [e3, f3]; rfl)
    clear e3 f3
    go_enter Tryz.func40, Tryz.ntmps40
    go_wp2
    go_ret
    exact ⟨by rw [Hv.out]; rfl, Below.refl _ _⟩
  obtain ⟨n, hn⟩ : ∃ n, compare lo.data.toList o.data.toList = n := ⟨_, rfl⟩
  have Hv := Lib.hid (show lowR lo.data.toList o.data.toList = decide (n ≤ 0) by unfold lowR; rw [e3, f3, hn]; rfl)
  have Hn := Lib.hid hn
  clear e3 f3 hn
  go_enter Tryz.func40, Tryz.ntmps40
  have hb0 : Below w.heap.size w w := Below.refl _ _
  go_wp2_with fail
  refine (compare_is lo o _ Hn.out _).mono ?_
  rintro e w1 ⟨rfl, h1⟩
  have hb1 := hb0.trans (h1.mono hb0.size)
  go_wp2
  go_ret
  exact ⟨by rw [Hv.out]; rfl, hb1⟩

theorem highR_is (lo o : ByteArray) (b : Bool) (h : highR lo.data.toList o.data.toList = b) (w : World) :
    Calls Tryz.prog 41 #[.string lo, .string o] w fun e w' => e = .returned (.bool b) ∧ Below w.heap.size w w' := by
  subst h
  rcases empty_or lo with ⟨e1, e2, e3⟩ | ⟨e1, e2, e3⟩
  · have Hv := Lib.hid (show highR lo.data.toList o.data.toList = true by unfold highR; rw [e3]; rfl)
    clear e3
    go_enter Tryz.func41, Tryz.ntmps41
    go_wp2
    go_ret
    exact ⟨by rw [Hv.out]; rfl, Below.refl _ _⟩
  rcases empty_or o with ⟨f1, f2, f3⟩ | ⟨f1, f2, f3⟩
  · have Hv := Lib.hid (show highR lo.data.toList o.data.toList = false by unfold highR; rw [e3, f3]; rfl)
    clear e3 f3
    go_enter Tryz.func41, Tryz.ntmps41
    go_wp2
    go_ret
    exact ⟨by rw [Hv.out]; rfl, Below.refl _ _⟩
  obtain ⟨n, hn⟩ : ∃ n, compare lo.data.toList o.data.toList = n := ⟨_, rfl⟩
  have Hv := Lib.hid (show highR lo.data.toList o.data.toList = decide (0 ≤ n) by unfold highR; rw [e3, f3, hn]; rfl)
  have Hn := Lib.hid hn
  clear e3 f3 hn
  go_enter Tryz.func41, Tryz.ntmps41
  have hb0 : Below w.heap.size w w := Below.refl _ _
  go_wp2_with fail
  refine (compare_is lo o _ Hn.out _).mono ?_
  rintro e w1 ⟨rfl, h1⟩
  have hb1 := hb0.trans (h1.mono hb0.size)
  go_wp2
  go_ret
  exact ⟨by rw [Hv.out]; rfl, hb1⟩

set_option maxHeartbeats 800000 in
theorem spanMay_is (lo hi : ByteArray) (b : Bool) (h : smay lo.data.toList hi.data.toList = b) (w : World) :
    Calls Tryz.prog 21 #[.agg #[.string lo, .string hi]] w fun e w' => e = .returned (.bool b) ∧ Below w.heap.size w w' := by
  subst h
  have hb0 := below_new w (.cells #[.string lo, .string hi] 31)
  have p0_0 := pair_new w lo hi 31
  rcases empty_or lo with ⟨e1, e2, e3⟩ | ⟨e1, e2, e3⟩
  · rcases empty_or hi with ⟨f1, f2, f3⟩ | ⟨f1, f2, f3⟩
    · have Hv := Lib.hid (show smay lo.data.toList hi.data.toList = true by unfold smay; rw [e3, f3]; rfl)
      clear e3 f3
      go_enter Tryz.func21, Tryz.ntmps21
      go_wp2
      go_ret
      exact ⟨by rw [Hv.out]; rfl, hb0⟩
    · cases hm : may hi.data.toList with
      | false =>
        have Hv := Lib.hid (show smay lo.data.toList hi.data.toList = false by unfold smay; rw [e3, f3, hm]; rfl)
        have Hm := Lib.hid hm
        clear e3 f3 hm
        go_enter Tryz.func21, Tryz.ntmps21
        go_wp2_with fail
        refine (may_is hi _ Hm.out _).mono ?_
        rintro e w1 ⟨rfl, h1⟩
        have hb1 := hb0.trans (h1.mono hb0.size)
        have p0_1 := p0_0.below h1
        have c0_1 := p0_1.1
        have d0_1 := p0_1.2.1
        have f0_1 := p0_1.2.2.1
        have g0_1 := p0_1.2.2.2
        go_wp2
        go_ret
        exact ⟨by rw [Hv.out]; rfl, hb1⟩
      | true =>
        have Hv := Lib.hid (show smay lo.data.toList hi.data.toList = true by unfold smay; rw [e3, f3, hm]; rfl)
        have Hm := Lib.hid hm
        clear e3 f3 hm
        go_enter Tryz.func21, Tryz.ntmps21
        go_wp2_with fail
        refine (may_is hi _ Hm.out _).mono ?_
        rintro e w1 ⟨rfl, h1⟩
        have hb1 := hb0.trans (h1.mono hb0.size)
        have p0_1 := p0_0.below h1
        have c0_1 := p0_1.1
        have d0_1 := p0_1.2.1
        have f0_1 := p0_1.2.2.1
        have g0_1 := p0_1.2.2.2
        go_wp2
        go_ret
        exact ⟨by rw [Hv.out]; rfl, hb1⟩
  · cases hl : may lo.data.toList with
    | false =>
      have Hv := Lib.hid (show smay lo.data.toList hi.data.toList = false by unfold smay; rw [e3, hl]; rfl)
      have Hl := Lib.hid hl
      clear e3 hl
      go_enter Tryz.func21, Tryz.ntmps21
      go_wp2_with fail
      refine (may_is lo _ Hl.out _).mono ?_
      rintro e w1 ⟨rfl, h1⟩
      have hb1 := hb0.trans (h1.mono hb0.size)
      have p0_1 := p0_0.below h1
      have c0_1 := p0_1.1
      have d0_1 := p0_1.2.1
      have f0_1 := p0_1.2.2.1
      have g0_1 := p0_1.2.2.2
      go_wp2
      go_ret
      exact ⟨by rw [Hv.out]; rfl, hb1⟩
    | true =>
      rcases empty_or hi with ⟨f1, f2, f3⟩ | ⟨f1, f2, f3⟩
      · have Hv := Lib.hid (show smay lo.data.toList hi.data.toList = true by unfold smay; rw [e3, f3, hl]; rfl)
        have Hl := Lib.hid hl
        clear e3 f3 hl
        go_enter Tryz.func21, Tryz.ntmps21
        go_wp2_with fail
        refine (may_is lo _ Hl.out _).mono ?_
        rintro e w1 ⟨rfl, h1⟩
        have hb1 := hb0.trans (h1.mono hb0.size)
        have p0_1 := p0_0.below h1
        have c0_1 := p0_1.1
        have d0_1 := p0_1.2.1
        have f0_1 := p0_1.2.2.1
        have g0_1 := p0_1.2.2.2
        go_wp2
        go_ret
        exact ⟨by rw [Hv.out]; rfl, hb1⟩
      · cases hm : may hi.data.toList with
        | false =>
          have Hv := Lib.hid (show smay lo.data.toList hi.data.toList = false by unfold smay; rw [e3, f3, hl, hm]; rfl)
          have Hl := Lib.hid hl
          have Hm := Lib.hid hm
          clear e3 f3 hl hm
          go_enter Tryz.func21, Tryz.ntmps21
          go_wp2_with fail
          refine (may_is lo _ Hl.out _).mono ?_
          rintro e w1 ⟨rfl, h1⟩
          have hb1 := hb0.trans (h1.mono hb0.size)
          have p0_1 := p0_0.below h1
          have c0_1 := p0_1.1
          have d0_1 := p0_1.2.1
          have f0_1 := p0_1.2.2.1
          have g0_1 := p0_1.2.2.2
          go_wp2_with fail
          refine (may_is hi _ Hm.out _).mono ?_
          rintro e w2 ⟨rfl, h2⟩
          have hb2 := hb1.trans (h2.mono hb1.size)
          have p0_2 := p0_1.below h2
          have c0_2 := p0_2.1
          have d0_2 := p0_2.2.1
          have f0_2 := p0_2.2.2.1
          have g0_2 := p0_2.2.2.2
          go_wp2
          go_ret
          exact ⟨by rw [Hv.out]; rfl, hb2⟩
        | true =>
          obtain ⟨n, hn⟩ : ∃ n, compare lo.data.toList hi.data.toList = n := ⟨_, rfl⟩
          have Hv := Lib.hid (show smay lo.data.toList hi.data.toList = decide (n ≤ 0) by unfold smay; rw [e3, f3, hl, hm, hn]; rfl)
          have Hn := Lib.hid hn
          have Hl := Lib.hid hl
          have Hm := Lib.hid hm
          clear e3 f3 hl hm hn
          go_enter Tryz.func21, Tryz.ntmps21
          go_wp2_with fail
          refine (may_is lo _ Hl.out _).mono ?_
          rintro e w1 ⟨rfl, h1⟩
          have hb1 := hb0.trans (h1.mono hb0.size)
          have p0_1 := p0_0.below h1
          have c0_1 := p0_1.1
          have d0_1 := p0_1.2.1
          have f0_1 := p0_1.2.2.1
          have g0_1 := p0_1.2.2.2
          go_wp2_with fail
          refine (may_is hi _ Hm.out _).mono ?_
          rintro e w2 ⟨rfl, h2⟩
          have hb2 := hb1.trans (h2.mono hb1.size)
          have p0_2 := p0_1.below h2
          have c0_2 := p0_2.1
          have d0_2 := p0_2.2.1
          have f0_2 := p0_2.2.2.1
          have g0_2 := p0_2.2.2.2
          go_wp2_with fail
          refine (compare_is lo hi _ Hn.out _).mono ?_
          rintro e w3 ⟨rfl, h3⟩
          have hb3 := hb2.trans (h3.mono hb2.size)
          have p0_3 := p0_2.below h3
          have c0_3 := p0_3.1
          have d0_3 := p0_3.2.1
          have f0_3 := p0_3.2.2.1
          have g0_3 := p0_3.2.2.2
          go_wp2
          go_ret
          exact ⟨by rw [Hv.out]; rfl, hb3⟩

end Go.Proofs.YtdijkekglaimfaaGreatDoor.Ver
