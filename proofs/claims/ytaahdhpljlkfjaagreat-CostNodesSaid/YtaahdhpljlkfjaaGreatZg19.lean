/- span.May, lowReaches, highReaches, Has. -/
import Derived.Test.YtaahdhpljlkfjaaGreatZg13
import Derived.Test.YtaahdhpljlkfjaaGreatZg18
namespace Go.Proofs.YtaahdhpljlkfjaaGreat.Ver
open Go.RowKit

theorem less_is (a b : ByteArray) (v : Bool) (h : less a.data.toList b.data.toList = v) (w : World) :
    Calls Tryz.prog 54 #[.string a, .string b] w fun e w' => e = .returned (.bool v) ∧ Below w.heap.size w w' := by
  subst h; exact less_any a b w
theorem compare_is (a b : ByteArray) (n : Int) (h : compare a.data.toList b.data.toList = n) (w : World) :
    Calls Tryz.prog 48 #[.string a, .string b] w fun e w' => e = .returned (.int .i64 n) ∧ Below w.heap.size w w' := by
  subst h; exact compare_any a b w

/-- A struct of two texts in a block of its own. -/
def Pair (w : World) (n : Nat) (lo hi : ByteArray) : Prop := w.cell? ⟨n, 0, none⟩ = some (.string lo) ∧ w.cell? ⟨n, 1, none⟩ = some (.string hi) ∧ w.frozen? ⟨n, 0, none⟩ = false ∧ w.frozen? ⟨n, 1, none⟩ = false
theorem Pair.below {w w' : World} {n : Nat} {lo hi : ByteArray} (p : Pair w n lo hi) (h : Below w.heap.size w w') : Pair w' n lo hi :=
  ⟨(h.cell (World.block_lt_of_cell? w _ p.1)).trans p.1, (h.cell (World.block_lt_of_cell? w _ p.2.1)).trans p.2.1,
    (h.frozen (World.block_lt_of_cell? w _ p.1)).trans p.2.2.1, (h.frozen (World.block_lt_of_cell? w _ p.2.1)).trans p.2.2.2⟩
theorem pair_new (w : World) (lo hi : ByteArray) (T : TypeId) : Pair (w.alloc (.cells #[.string lo, .string hi] T)) w.heap.size lo hi :=
  ⟨by rw [cell_of_row _ _ _ _ _ _ (heap_alloc_new w _)]; rfl, by rw [cell_of_row _ _ _ _ _ _ (heap_alloc_new w _)]; rfl,
    cells_free (heap_alloc_new w _) 0, cells_free (heap_alloc_new w _) 1⟩
theorem below_new (w : World) (o : Obj) : Below w.heap.size w (w.alloc o) := (Below.refl _ w).alloc (Nat.le_refl _) o

theorem empty_or (s : ByteArray) : (s.toList = [] ∧ s.toList.isEmpty = true ∧ s.data.toList = []) ∨ (s.toList.isEmpty = false ∧ ¬ s.toList = [] ∧ s.data.toList.isEmpty = false) := by
  rw [Lib.toList_data]
  cases h : s.data.toList with
  | nil => exact .inl ⟨rfl, rfl, rfl⟩
  | cons a b => exact .inr ⟨rfl, by simp, rfl⟩

theorem lowR_is (lo o : ByteArray) (b : Bool) (h : lowR lo.data.toList o.data.toList = b) (w : World) :
    Calls Tryz.prog 133 #[.string lo, .string o] w fun e w' => e = .returned (.bool b) ∧ Below w.heap.size w w' := by
  subst h
  rcases empty_or lo with ⟨e1, e2, e3⟩ | ⟨e1, e2, e3⟩
  · have Hv := Lib.hid (show lowR lo.data.toList o.data.toList = true by unfold lowR; rw [e3]; rfl)
    clear e3
    go_enter Tryz.func133, Tryz.ntmps133
    go_wp2
    go_ret
    exact ⟨by rw [Hv.out]; rfl, Below.refl _ _⟩
  rcases empty_or o with ⟨f1, f2, f3⟩ | ⟨f1, f2, f3⟩
  · have Hv := Lib.hid (show lowR lo.data.toList o.data.toList = false by unfold lowR; rw [e3, f3]; rfl)
    clear e3 f3
    go_enter Tryz.func133, Tryz.ntmps133
    go_wp2
    go_ret
    exact ⟨by rw [Hv.out]; rfl, Below.refl _ _⟩
  obtain ⟨n, hn⟩ : ∃ n, compare lo.data.toList o.data.toList = n := ⟨_, rfl⟩
  have Hv := Lib.hid (show lowR lo.data.toList o.data.toList = decide (n ≤ 0) by unfold lowR; rw [e3, f3, hn]; rfl)
  have Hn := Lib.hid hn
  clear e3 f3 hn
  go_enter Tryz.func133, Tryz.ntmps133
  have hb0 : Below w.heap.size w w := Below.refl _ _
  go_wp2_with fail
  refine (compare_is lo o _ Hn.out _).mono ?_
  rintro e w1 ⟨rfl, h1⟩
  have hb1 := hb0.trans (h1.mono hb0.size)
  go_wp2
  go_ret
  exact ⟨by rw [Hv.out]; rfl, hb1⟩

theorem highR_is (lo o : ByteArray) (b : Bool) (h : highR lo.data.toList o.data.toList = b) (w : World) :
    Calls Tryz.prog 134 #[.string lo, .string o] w fun e w' => e = .returned (.bool b) ∧ Below w.heap.size w w' := by
  subst h
  rcases empty_or lo with ⟨e1, e2, e3⟩ | ⟨e1, e2, e3⟩
  · have Hv := Lib.hid (show highR lo.data.toList o.data.toList = true by unfold highR; rw [e3]; rfl)
    clear e3
    go_enter Tryz.func134, Tryz.ntmps134
    go_wp2
    go_ret
    exact ⟨by rw [Hv.out]; rfl, Below.refl _ _⟩
  rcases empty_or o with ⟨f1, f2, f3⟩ | ⟨f1, f2, f3⟩
  · have Hv := Lib.hid (show highR lo.data.toList o.data.toList = false by unfold highR; rw [e3, f3]; rfl)
    clear e3 f3
    go_enter Tryz.func134, Tryz.ntmps134
    go_wp2
    go_ret
    exact ⟨by rw [Hv.out]; rfl, Below.refl _ _⟩
  obtain ⟨n, hn⟩ : ∃ n, compare lo.data.toList o.data.toList = n := ⟨_, rfl⟩
  have Hv := Lib.hid (show highR lo.data.toList o.data.toList = decide (0 ≤ n) by unfold highR; rw [e3, f3, hn]; rfl)
  have Hn := Lib.hid hn
  clear e3 f3 hn
  go_enter Tryz.func134, Tryz.ntmps134
  have hb0 : Below w.heap.size w w := Below.refl _ _
  go_wp2_with fail
  refine (compare_is lo o _ Hn.out _).mono ?_
  rintro e w1 ⟨rfl, h1⟩
  have hb1 := hb0.trans (h1.mono hb0.size)
  go_wp2
  go_ret
  exact ⟨by rw [Hv.out]; rfl, hb1⟩

set_option maxHeartbeats 800000 in
theorem spanMay_is (lo hi : ByteArray) (b : Bool) (h : smay lo.data.toList hi.data.toList = b) (w : World) :
    Calls Tryz.prog 132 #[.agg #[.string lo, .string hi]] w fun e w' => e = .returned (.bool b) ∧ Below w.heap.size w w' := by
  subst h
  have hb0 := below_new w (.cells #[.string lo, .string hi] 72)
  have p0_0 := pair_new w lo hi 72
  rcases empty_or lo with ⟨e1, e2, e3⟩ | ⟨e1, e2, e3⟩
  · rcases empty_or hi with ⟨f1, f2, f3⟩ | ⟨f1, f2, f3⟩
    · have Hv := Lib.hid (show smay lo.data.toList hi.data.toList = true by unfold smay; rw [e3, f3]; rfl)
      clear e3 f3
      go_enter Tryz.func132, Tryz.ntmps132
      go_wp2
      go_ret
      exact ⟨by rw [Hv.out]; rfl, hb0⟩
    · cases hm : may hi.data.toList with
      | false =>
        have Hv := Lib.hid (show smay lo.data.toList hi.data.toList = false by unfold smay; rw [e3, f3, hm]; rfl)
        have Hm := Lib.hid hm
        clear e3 f3 hm
        go_enter Tryz.func132, Tryz.ntmps132
        go_wp2_with fail
        refine (may_is hi _ Hm.out _).mono ?_
        rintro e w1 ⟨rfl, h1⟩
        have hb1 := hb0.trans (h1.mono hb0.size)
        have p0_1 := p0_0.below h1
        have c0_1 := p0_1.1
        have d0_1 := p0_1.2.1
        have f0_1 := p0_1.2.2.1
        have g0_1 := p0_1.2.2.2
        go_wp2
        go_ret
        exact ⟨by rw [Hv.out]; rfl, hb1⟩
      | true =>
        have Hv := Lib.hid (show smay lo.data.toList hi.data.toList = true by unfold smay; rw [e3, f3, hm]; rfl)
        have Hm := Lib.hid hm
        clear e3 f3 hm
        go_enter Tryz.func132, Tryz.ntmps132
        go_wp2_with fail
        refine (may_is hi _ Hm.out _).mono ?_
        rintro e w1 ⟨rfl, h1⟩
        have hb1 := hb0.trans (h1.mono hb0.size)
        have p0_1 := p0_0.below h1
        have c0_1 := p0_1.1
        have d0_1 := p0_1.2.1
        have f0_1 := p0_1.2.2.1
        have g0_1 := p0_1.2.2.2
        go_wp2
        go_ret
        exact ⟨by rw [Hv.out]; rfl, hb1⟩
  · cases hl : may lo.data.toList with
    | false =>
      have Hv := Lib.hid (show smay lo.data.toList hi.data.toList = false by unfold smay; rw [e3, hl]; rfl)
      have Hl := Lib.hid hl
      clear e3 hl
      go_enter Tryz.func132, Tryz.ntmps132
      go_wp2_with fail
      refine (may_is lo _ Hl.out _).mono ?_
      rintro e w1 ⟨rfl, h1⟩
      have hb1 := hb0.trans (h1.mono hb0.size)
      have p0_1 := p0_0.below h1
      have c0_1 := p0_1.1
      have d0_1 := p0_1.2.1
      have f0_1 := p0_1.2.2.1
      have g0_1 := p0_1.2.2.2
      go_wp2
      go_ret
      exact ⟨by rw [Hv.out]; rfl, hb1⟩
    | true =>
      rcases empty_or hi with ⟨f1, f2, f3⟩ | ⟨f1, f2, f3⟩
      · have Hv := Lib.hid (show smay lo.data.toList hi.data.toList = true by unfold smay; rw [e3, f3, hl]; rfl)
        have Hl := Lib.hid hl
        clear e3 f3 hl
        go_enter Tryz.func132, Tryz.ntmps132
        go_wp2_with fail
        refine (may_is lo _ Hl.out _).mono ?_
        rintro e w1 ⟨rfl, h1⟩
        have hb1 := hb0.trans (h1.mono hb0.size)
        have p0_1 := p0_0.below h1
        have c0_1 := p0_1.1
        have d0_1 := p0_1.2.1
        have f0_1 := p0_1.2.2.1
        have g0_1 := p0_1.2.2.2
        go_wp2
        go_ret
        exact ⟨by rw [Hv.out]; rfl, hb1⟩
      · cases hm : may hi.data.toList with
        | false =>
          have Hv := Lib.hid (show smay lo.data.toList hi.data.toList = false by unfold smay; rw [e3, f3, hl, hm]; rfl)
          have Hl := Lib.hid hl
          have Hm := Lib.hid hm
          clear e3 f3 hl hm
          go_enter Tryz.func132, Tryz.ntmps132
          go_wp2_with fail
          refine (may_is lo _ Hl.out _).mono ?_
          rintro e w1 ⟨rfl, h1⟩
          have hb1 := hb0.trans (h1.mono hb0.size)
          have p0_1 := p0_0.below h1
          have c0_1 := p0_1.1
          have d0_1 := p0_1.2.1
          have f0_1 := p0_1.2.2.1
          have g0_1 := p0_1.2.2.2
          go_wp2_with fail
          refine (may_is hi _ Hm.out _).mono ?_
          rintro e w2 ⟨rfl, h2⟩
          have hb2 := hb1.trans (h2.mono hb1.size)
          have p0_2 := p0_1.below h2
          have c0_2 := p0_2.1
          have d0_2 := p0_2.2.1
          have f0_2 := p0_2.2.2.1
          have g0_2 := p0_2.2.2.2
          go_wp2
          go_ret
          exact ⟨by rw [Hv.out]; rfl, hb2⟩
        | true =>
          obtain ⟨n, hn⟩ : ∃ n, compare lo.data.toList hi.data.toList = n := ⟨_, rfl⟩
          have Hv := Lib.hid (show smay lo.data.toList hi.data.toList = decide (n ≤ 0) by unfold smay; rw [e3, f3, hl, hm, hn]; rfl)
          have Hn := Lib.hid hn
          have Hl := Lib.hid hl
          have Hm := Lib.hid hm
          clear e3 f3 hl hm hn
          go_enter Tryz.func132, Tryz.ntmps132
          go_wp2_with fail
          refine (may_is lo _ Hl.out _).mono ?_
          rintro e w1 ⟨rfl, h1⟩
          have hb1 := hb0.trans (h1.mono hb0.size)
          have p0_1 := p0_0.below h1
          have c0_1 := p0_1.1
          have d0_1 := p0_1.2.1
          have f0_1 := p0_1.2.2.1
          have g0_1 := p0_1.2.2.2
          go_wp2_with fail
          refine (may_is hi _ Hm.out _).mono ?_
          rintro e w2 ⟨rfl, h2⟩
          have hb2 := hb1.trans (h2.mono hb1.size)
          have p0_2 := p0_1.below h2
          have c0_2 := p0_2.1
          have d0_2 := p0_2.2.1
          have f0_2 := p0_2.2.2.1
          have g0_2 := p0_2.2.2.2
          go_wp2_with fail
          refine (compare_is lo hi _ Hn.out _).mono ?_
          rintro e w3 ⟨rfl, h3⟩
          have hb3 := hb2.trans (h3.mono hb2.size)
          have p0_3 := p0_2.below h3
          have c0_3 := p0_3.1
          have d0_3 := p0_3.2.1
          have f0_3 := p0_3.2.2.1
          have g0_3 := p0_3.2.2.2
          go_wp2
          go_ret
          exact ⟨by rw [Hv.out]; rfl, hb3⟩

end Go.Proofs.YtaahdhpljlkfjaaGreat.Ver

/- span.Has; the document's May, Has, Great. -/
namespace Go.Proofs.YtaahdhpljlkfjaaGreat.Ver
open Go.RowKit

set_option maxHeartbeats 800000 in
theorem spanHas_is (lo hi v : ByteArray) (b : Bool) (h : shas lo.data.toList hi.data.toList v.data.toList = b) (w : World) :
    Calls Tryz.prog 116 #[.agg #[.string lo, .string hi], .string v] w fun e w' => e = .returned (.bool b) ∧ Below w.heap.size w w' := by
  subst h
  have hb0 := below_new w (.cells #[.string lo, .string hi] 72)
  have p0_0 := pair_new w lo hi 72
  cases hs : smay lo.data.toList hi.data.toList with
  | false =>
    have Hv := Lib.hid (show shas lo.data.toList hi.data.toList v.data.toList = false by unfold shas; rw [hs]; rfl)
    have Hs := Lib.hid hs
    clear hs
    go_enter Tryz.func116, Tryz.ntmps116
    go_wp2_with fail
    refine (spanMay_is lo hi _ Hs.out _).mono ?_
    rintro e w1 ⟨rfl, h1⟩
    have hb1 := hb0.trans (h1.mono hb0.size)
    have p0_1 := p0_0.below h1
    have c0_1 := p0_1.1
    have d0_1 := p0_1.2.1
    have f0_1 := p0_1.2.2.1
    have g0_1 := p0_1.2.2.2
    go_wp2
    go_ret
    exact ⟨by rw [Hv.out]; rfl, hb1⟩
  | true =>
    cases hm : may v.data.toList with
    | false =>
      have Hv := Lib.hid (show shas lo.data.toList hi.data.toList v.data.toList = false by unfold shas; rw [hs, hm]; rfl)
      have Hs := Lib.hid hs
      have Hm := Lib.hid hm
      clear hs hm
      go_enter Tryz.func116, Tryz.ntmps116
      go_wp2_with fail
      refine (spanMay_is lo hi _ Hs.out _).mono ?_
      rintro e w1 ⟨rfl, h1⟩
      have hb1 := hb0.trans (h1.mono hb0.size)
      have p0_1 := p0_0.below h1
      have c0_1 := p0_1.1
      have d0_1 := p0_1.2.1
      have f0_1 := p0_1.2.2.1
      have g0_1 := p0_1.2.2.2
      go_wp2_with fail
      refine (may_is v _ Hm.out _).mono ?_
      rintro e w2 ⟨rfl, h2⟩
      have hb2 := hb1.trans (h2.mono hb1.size)
      have p0_2 := p0_1.below h2
      have c0_2 := p0_2.1
      have d0_2 := p0_2.2.1
      have f0_2 := p0_2.2.2.1
      have g0_2 := p0_2.2.2.2
      go_wp2
      go_ret
      exact ⟨by rw [Hv.out]; rfl, hb2⟩
    | true =>
      cases hl : lowR lo.data.toList v.data.toList with
      | false =>
        have Hv := Lib.hid (show shas lo.data.toList hi.data.toList v.data.toList = false by unfold shas; rw [hs, hm, hl]; rfl)
        have Hs := Lib.hid hs
        have Hm := Lib.hid hm
        have Hl := Lib.hid hl
        clear hs hm hl
        go_enter Tryz.func116, Tryz.ntmps116
        go_wp2_with fail
        refine (spanMay_is lo hi _ Hs.out _).mono ?_
        rintro e w1 ⟨rfl, h1⟩
        have hb1 := hb0.trans (h1.mono hb0.size)
        have p0_1 := p0_0.below h1
        have c0_1 := p0_1.1
        have d0_1 := p0_1.2.1
        have f0_1 := p0_1.2.2.1
        have g0_1 := p0_1.2.2.2
        go_wp2_with fail
        refine (may_is v _ Hm.out _).mono ?_
        rintro e w2 ⟨rfl, h2⟩
        have hb2 := hb1.trans (h2.mono hb1.size)
        have p0_2 := p0_1.below h2
        have c0_2 := p0_2.1
        have d0_2 := p0_2.2.1
        have f0_2 := p0_2.2.2.1
        have g0_2 := p0_2.2.2.2
        go_wp2_with fail
        refine (lowR_is lo v _ Hl.out _).mono ?_
        rintro e w3 ⟨rfl, h3⟩
        have hb3 := hb2.trans (h3.mono hb2.size)
        have p0_3 := p0_2.below h3
        have c0_3 := p0_3.1
        have d0_3 := p0_3.2.1
        have f0_3 := p0_3.2.2.1
        have g0_3 := p0_3.2.2.2
        go_wp2
        go_ret
        exact ⟨by rw [Hv.out]; rfl, hb3⟩
      | true =>
        obtain ⟨x, hx⟩ : ∃ x, highR hi.data.toList v.data.toList = x := ⟨_, rfl⟩
        have Hv := Lib.hid (show shas lo.data.toList hi.data.toList v.data.toList = x by unfold shas; rw [hs, hm, hl, hx]; rfl)
        have Hs := Lib.hid hs
        have Hm := Lib.hid hm
        have Hl := Lib.hid hl
        have Hx := Lib.hid hx
        clear hs hm hl hx
        go_enter Tryz.func116, Tryz.ntmps116
        go_wp2_with fail
        refine (spanMay_is lo hi _ Hs.out _).mono ?_
        rintro e w1 ⟨rfl, h1⟩
        have hb1 := hb0.trans (h1.mono hb0.size)
        have p0_1 := p0_0.below h1
        have c0_1 := p0_1.1
        have d0_1 := p0_1.2.1
        have f0_1 := p0_1.2.2.1
        have g0_1 := p0_1.2.2.2
        go_wp2_with fail
        refine (may_is v _ Hm.out _).mono ?_
        rintro e w2 ⟨rfl, h2⟩
        have hb2 := hb1.trans (h2.mono hb1.size)
        have p0_2 := p0_1.below h2
        have c0_2 := p0_2.1
        have d0_2 := p0_2.2.1
        have f0_2 := p0_2.2.2.1
        have g0_2 := p0_2.2.2.2
        go_wp2_with fail
        refine (lowR_is lo v _ Hl.out _).mono ?_
        rintro e w3 ⟨rfl, h3⟩
        have hb3 := hb2.trans (h3.mono hb2.size)
        have p0_3 := p0_2.below h3
        have c0_3 := p0_3.1
        have d0_3 := p0_3.2.1
        have f0_3 := p0_3.2.2.1
        have g0_3 := p0_3.2.2.2
        go_wp2_with fail
        refine (highR_is hi v _ Hx.out _).mono ?_
        rintro e w4 ⟨rfl, h4⟩
        have hb4 := hb3.trans (h4.mono hb3.size)
        have p0_4 := p0_3.below h4
        have c0_4 := p0_4.1
        have d0_4 := p0_4.2.1
        have f0_4 := p0_4.2.2.1
        have g0_4 := p0_4.2.2.2
        go_wp2
        go_ret
        exact ⟨by rw [Hv.out]; rfl, hb4⟩

theorem bound_is (s : ByteArray) (b : Bool) (h : (s.data.toList.isEmpty || may s.data.toList) = b) (w : World) :
    Calls Tryz.prog 141 #[.string s] w fun e w' => e = .returned (.bool b) ∧ Below w.heap.size w w' := by
  subst h
  rcases empty_or s with ⟨e1, e2, e3⟩ | ⟨e1, e2, e3⟩
  · have Hv := Lib.hid (show (s.data.toList.isEmpty || may s.data.toList) = true by rw [e3]; rfl)
    clear e3
    go_enter Tryz.func141, Tryz.ntmps141
    go_wp2
    go_ret
    exact ⟨by rw [Hv.out]; rfl, Below.refl _ _⟩
  obtain ⟨x, hx⟩ : ∃ x, may s.data.toList = x := ⟨_, rfl⟩
  have Hv := Lib.hid (show (s.data.toList.isEmpty || may s.data.toList) = x by rw [e3, hx]; rfl)
  have Hx := Lib.hid hx
  clear e3 hx
  have hb0 : Below w.heap.size w w := Below.refl _ _
  go_enter Tryz.func141, Tryz.ntmps141
  go_wp2_with fail
  refine (refMay_is s _ Hx.out _).mono ?_
  rintro e w1 ⟨rfl, h1⟩
  have hb1 := hb0.trans (h1.mono hb0.size)
  go_wp2
  go_ret
  exact ⟨by rw [Hv.out]; rfl, hb1⟩

set_option maxHeartbeats 800000 in
theorem refSMay_is (lo hi : ByteArray) (b : Bool) (h : smay lo.data.toList hi.data.toList = b) (w : World) :
    Calls Tryz.prog 128 #[.agg #[.string lo, .string hi]] w fun e w' => e = .returned (.bool b) ∧ Below w.heap.size w w' := by
  subst h
  have hb0 := below_new w (.cells #[.string lo, .string hi] 72)
  have p0_0 := pair_new w lo hi 72
  cases hl : (lo.data.toList.isEmpty || may lo.data.toList) with
  | false =>
    have Hv := Lib.hid (show smay lo.data.toList hi.data.toList = false by unfold smay; rw [hl]; rfl)
    have Hl := Lib.hid hl
    clear hl
    go_enter Tryz.func128, Tryz.ntmps128
    go_wp2_with fail
    refine (bound_is lo _ Hl.out _).mono ?_
    rintro e w1 ⟨rfl, h1⟩
    have hb1 := hb0.trans (h1.mono hb0.size)
    have p0_1 := p0_0.below h1
    have c0_1 := p0_1.1
    have d0_1 := p0_1.2.1
    have f0_1 := p0_1.2.2.1
    have g0_1 := p0_1.2.2.2
    go_wp2
    go_ret
    exact ⟨by rw [Hv.out]; rfl, hb1⟩
  | true =>
    cases hm : (hi.data.toList.isEmpty || may hi.data.toList) with
    | false =>
      have Hv := Lib.hid (show smay lo.data.toList hi.data.toList = false by unfold smay; rw [hl, hm]; rfl)
      have Hl := Lib.hid hl
      have Hm := Lib.hid hm
      clear hl hm
      go_enter Tryz.func128, Tryz.ntmps128
      go_wp2_with fail
      refine (bound_is lo _ Hl.out _).mono ?_
      rintro e w1 ⟨rfl, h1⟩
      have hb1 := hb0.trans (h1.mono hb0.size)
      have p0_1 := p0_0.below h1
      have c0_1 := p0_1.1
      have d0_1 := p0_1.2.1
      have f0_1 := p0_1.2.2.1
      have g0_1 := p0_1.2.2.2
      go_wp2_with fail
      refine (bound_is hi _ Hm.out _).mono ?_
      rintro e w2 ⟨rfl, h2⟩
      have hb2 := hb1.trans (h2.mono hb1.size)
      have p0_2 := p0_1.below h2
      have c0_2 := p0_2.1
      have d0_2 := p0_2.2.1
      have f0_2 := p0_2.2.2.1
      have g0_2 := p0_2.2.2.2
      go_wp2
      go_ret
      exact ⟨by rw [Hv.out]; rfl, hb2⟩
    | true =>
      have hsm : smay lo.data.toList hi.data.toList = (lo.data.toList.isEmpty || hi.data.toList.isEmpty || !less hi.data.toList lo.data.toList) := by
        unfold smay less; rw [hl, hm, cmp_not_less]; rfl
      have Hl := Lib.hid hl
      have Hm := Lib.hid hm
      clear hl hm
      rcases empty_or lo with ⟨e1, e2, e3⟩ | ⟨e1, e2, e3⟩
      · have Hv := Lib.hid (show smay lo.data.toList hi.data.toList = true by rw [hsm, e3]; rfl)
        clear e3 hsm
        go_enter Tryz.func128, Tryz.ntmps128
        go_wp2_with fail
        refine (bound_is lo _ Hl.out _).mono ?_
        rintro e w1 ⟨rfl, h1⟩
        have hb1 := hb0.trans (h1.mono hb0.size)
        have p0_1 := p0_0.below h1
        have c0_1 := p0_1.1
        have d0_1 := p0_1.2.1
        have f0_1 := p0_1.2.2.1
        have g0_1 := p0_1.2.2.2
        go_wp2_with fail
        refine (bound_is hi _ Hm.out _).mono ?_
        rintro e w2 ⟨rfl, h2⟩
        have hb2 := hb1.trans (h2.mono hb1.size)
        have p0_2 := p0_1.below h2
        have c0_2 := p0_2.1
        have d0_2 := p0_2.2.1
        have f0_2 := p0_2.2.2.1
        have g0_2 := p0_2.2.2.2
        go_wp2
        go_ret
        exact ⟨by rw [Hv.out]; rfl, hb2⟩
      rcases empty_or hi with ⟨f1, f2, f3⟩ | ⟨f1, f2, f3⟩
      · have Hv := Lib.hid (show smay lo.data.toList hi.data.toList = true by rw [hsm, f3, List.isEmpty_nil, Bool.or_true, Bool.true_or])
        clear e3 f3 hsm
        go_enter Tryz.func128, Tryz.ntmps128
        go_wp2_with fail
        refine (bound_is lo _ Hl.out _).mono ?_
        rintro e w1 ⟨rfl, h1⟩
        have hb1 := hb0.trans (h1.mono hb0.size)
        have p0_1 := p0_0.below h1
        have c0_1 := p0_1.1
        have d0_1 := p0_1.2.1
        have f0_1 := p0_1.2.2.1
        have g0_1 := p0_1.2.2.2
        go_wp2_with fail
        refine (bound_is hi _ Hm.out _).mono ?_
        rintro e w2 ⟨rfl, h2⟩
        have hb2 := hb1.trans (h2.mono hb1.size)
        have p0_2 := p0_1.below h2
        have c0_2 := p0_2.1
        have d0_2 := p0_2.2.1
        have f0_2 := p0_2.2.2.1
        have g0_2 := p0_2.2.2.2
        go_wp2
        go_ret
        exact ⟨by rw [Hv.out]; rfl, hb2⟩
      obtain ⟨x, hx⟩ : ∃ x, less hi.data.toList lo.data.toList = x := ⟨_, rfl⟩
      have Hv := Lib.hid (show smay lo.data.toList hi.data.toList = !x by rw [hsm, e3, f3, hx]; rfl)
      have Hx := Lib.hid hx
      clear e3 f3 hsm hx
      go_enter Tryz.func128, Tryz.ntmps128
      go_wp2_with fail
      refine (bound_is lo _ Hl.out _).mono ?_
      rintro e w1 ⟨rfl, h1⟩
      have hb1 := hb0.trans (h1.mono hb0.size)
      have p0_1 := p0_0.below h1
      have c0_1 := p0_1.1
      have d0_1 := p0_1.2.1
      have f0_1 := p0_1.2.2.1
      have g0_1 := p0_1.2.2.2
      go_wp2_with fail
      refine (bound_is hi _ Hm.out _).mono ?_
      rintro e w2 ⟨rfl, h2⟩
      have hb2 := hb1.trans (h2.mono hb1.size)
      have p0_2 := p0_1.below h2
      have c0_2 := p0_2.1
      have d0_2 := p0_2.2.1
      have f0_2 := p0_2.2.2.1
      have g0_2 := p0_2.2.2.2
      go_wp2_with fail
      refine (less_is hi lo _ Hx.out _).mono ?_
      rintro e w3 ⟨rfl, h3⟩
      have hb3 := hb2.trans (h3.mono hb2.size)
      have p0_3 := p0_2.below h3
      have c0_3 := p0_3.1
      have d0_3 := p0_3.2.1
      have f0_3 := p0_3.2.2.1
      have g0_3 := p0_3.2.2.2
      go_wp2
      go_ret
      exact ⟨by rw [Hv.out]; rfl, hb3⟩

set_option maxHeartbeats 800000 in
theorem refHas_is (lo hi v : ByteArray) (b : Bool) (h : shas lo.data.toList hi.data.toList v.data.toList = b) (w : World) :
    Calls Tryz.prog 107 #[.agg #[.string lo, .string hi], .string v] w fun e w' => e = .returned (.bool b) ∧ Below w.heap.size w w' := by
  subst h
  have hb0 := below_new w (.cells #[.string lo, .string hi] 72)
  have p0_0 := pair_new w lo hi 72
  cases hs : smay lo.data.toList hi.data.toList with
  | false =>
    have Hv := Lib.hid (show shas lo.data.toList hi.data.toList v.data.toList = false by unfold shas; rw [hs]; rfl)
    have Hs := Lib.hid hs
    clear hs
    go_enter Tryz.func107, Tryz.ntmps107
    go_wp2_with fail
    refine (refSMay_is lo hi _ Hs.out _).mono ?_
    rintro e w1 ⟨rfl, h1⟩
    have hb1 := hb0.trans (h1.mono hb0.size)
    have p0_1 := p0_0.below h1
    have c0_1 := p0_1.1
    have d0_1 := p0_1.2.1
    have f0_1 := p0_1.2.2.1
    have g0_1 := p0_1.2.2.2
    go_wp2
    go_ret
    exact ⟨by rw [Hv.out]; rfl, hb1⟩
  | true =>
    cases hm : may v.data.toList with
    | false =>
      have Hv := Lib.hid (show shas lo.data.toList hi.data.toList v.data.toList = false by unfold shas; rw [hs, hm]; rfl)
      have Hs := Lib.hid hs
      have Hm := Lib.hid hm
      clear hs hm
      go_enter Tryz.func107, Tryz.ntmps107
      go_wp2_with fail
      refine (refSMay_is lo hi _ Hs.out _).mono ?_
      rintro e w1 ⟨rfl, h1⟩
      have hb1 := hb0.trans (h1.mono hb0.size)
      have p0_1 := p0_0.below h1
      have c0_1 := p0_1.1
      have d0_1 := p0_1.2.1
      have f0_1 := p0_1.2.2.1
      have g0_1 := p0_1.2.2.2
      go_wp2_with fail
      refine (refMay_is v _ Hm.out _).mono ?_
      rintro e w2 ⟨rfl, h2⟩
      have hb2 := hb1.trans (h2.mono hb1.size)
      have p0_2 := p0_1.below h2
      have c0_2 := p0_2.1
      have d0_2 := p0_2.2.1
      have f0_2 := p0_2.2.2.1
      have g0_2 := p0_2.2.2.2
      go_wp2
      go_ret
      exact ⟨by rw [Hv.out]; rfl, hb2⟩
    | true =>
      have hve : v.data.toList.isEmpty = false := by
        cases hv : v.data.toList with
        | nil => exact absurd hv (may_ne hm)
        | cons a b => rfl
      have hsh : shas lo.data.toList hi.data.toList v.data.toList = ((lo.data.toList.isEmpty || !less v.data.toList lo.data.toList) && (hi.data.toList.isEmpty || !less hi.data.toList v.data.toList)) := by
        unfold shas lowR highR less; rw [hs, hm, hve, cmp_not_less, cmp_not_less']; simp
      have Hs := Lib.hid hs
      have Hm := Lib.hid hm
      clear hs hm hve
      rcases empty_or lo with ⟨e1, e2, e3⟩ | ⟨e1, e2, e3⟩
      · have E3 := Lib.hid e3
        clear e3
        rcases empty_or hi with ⟨f1, f2, f3⟩ | ⟨f1, f2, f3⟩
        · have Hv := Lib.hid (show shas lo.data.toList hi.data.toList v.data.toList = true by rw [hsh, E3.out, f3]; rfl)
          clear hsh f3
          go_enter Tryz.func107, Tryz.ntmps107
          go_wp2_with fail
          refine (refSMay_is lo hi _ Hs.out _).mono ?_
          rintro e w1 ⟨rfl, h1⟩
          have hb1 := hb0.trans (h1.mono hb0.size)
          have p0_1 := p0_0.below h1
          have c0_1 := p0_1.1
          have d0_1 := p0_1.2.1
          have f0_1 := p0_1.2.2.1
          have g0_1 := p0_1.2.2.2
          go_wp2_with fail
          refine (refMay_is v _ Hm.out _).mono ?_
          rintro e w2 ⟨rfl, h2⟩
          have hb2 := hb1.trans (h2.mono hb1.size)
          have p0_2 := p0_1.below h2
          have c0_2 := p0_2.1
          have d0_2 := p0_2.2.1
          have f0_2 := p0_2.2.2.1
          have g0_2 := p0_2.2.2.2
          go_wp2
          go_ret
          exact ⟨by rw [Hv.out]; rfl, hb2⟩
        obtain ⟨y, hy⟩ : ∃ y, less hi.data.toList v.data.toList = y := ⟨_, rfl⟩
        have Hv := Lib.hid (show shas lo.data.toList hi.data.toList v.data.toList = !y by rw [hsh, E3.out, f3, hy]; rfl)
        have Hy := Lib.hid hy
        clear hsh f3 hy
        go_enter Tryz.func107, Tryz.ntmps107
        go_wp2_with fail
        refine (refSMay_is lo hi _ Hs.out _).mono ?_
        rintro e w1 ⟨rfl, h1⟩
        have hb1 := hb0.trans (h1.mono hb0.size)
        have p0_1 := p0_0.below h1
        have c0_1 := p0_1.1
        have d0_1 := p0_1.2.1
        have f0_1 := p0_1.2.2.1
        have g0_1 := p0_1.2.2.2
        go_wp2_with fail
        refine (refMay_is v _ Hm.out _).mono ?_
        rintro e w2 ⟨rfl, h2⟩
        have hb2 := hb1.trans (h2.mono hb1.size)
        have p0_2 := p0_1.below h2
        have c0_2 := p0_2.1
        have d0_2 := p0_2.2.1
        have f0_2 := p0_2.2.2.1
        have g0_2 := p0_2.2.2.2
        go_wp2_with fail
        refine (less_is hi v _ Hy.out _).mono ?_
        rintro e w3 ⟨rfl, h3⟩
        have hb3 := hb2.trans (h3.mono hb2.size)
        have p0_3 := p0_2.below h3
        have c0_3 := p0_3.1
        have d0_3 := p0_3.2.1
        have f0_3 := p0_3.2.2.1
        have g0_3 := p0_3.2.2.2
        go_wp2
        go_ret
        exact ⟨by rw [Hv.out]; rfl, hb3⟩
      cases hx : less v.data.toList lo.data.toList with
      | true =>
        have Hv := Lib.hid (show shas lo.data.toList hi.data.toList v.data.toList = false by rw [hsh, e3, hx]; rfl)
        have Hx := Lib.hid hx
        clear hsh e3 hx
        go_enter Tryz.func107, Tryz.ntmps107
        go_wp2_with fail
        refine (refSMay_is lo hi _ Hs.out _).mono ?_
        rintro e w1 ⟨rfl, h1⟩
        have hb1 := hb0.trans (h1.mono hb0.size)
        have p0_1 := p0_0.below h1
        have c0_1 := p0_1.1
        have d0_1 := p0_1.2.1
        have f0_1 := p0_1.2.2.1
        have g0_1 := p0_1.2.2.2
        go_wp2_with fail
        refine (refMay_is v _ Hm.out _).mono ?_
        rintro e w2 ⟨rfl, h2⟩
        have hb2 := hb1.trans (h2.mono hb1.size)
        have p0_2 := p0_1.below h2
        have c0_2 := p0_2.1
        have d0_2 := p0_2.2.1
        have f0_2 := p0_2.2.2.1
        have g0_2 := p0_2.2.2.2
        go_wp2_with fail
        refine (less_is v lo _ Hx.out _).mono ?_
        rintro e w3 ⟨rfl, h3⟩
        have hb3 := hb2.trans (h3.mono hb2.size)
        have p0_3 := p0_2.below h3
        have c0_3 := p0_3.1
        have d0_3 := p0_3.2.1
        have f0_3 := p0_3.2.2.1
        have g0_3 := p0_3.2.2.2
        go_wp2
        go_ret
        exact ⟨by rw [Hv.out]; rfl, hb3⟩
      | false =>
        have E3 := Lib.hid e3
        have Hx := Lib.hid hx
        clear e3 hx
        rcases empty_or hi with ⟨f1, f2, f3⟩ | ⟨f1, f2, f3⟩
        · have Hv := Lib.hid (show shas lo.data.toList hi.data.toList v.data.toList = true by rw [hsh, E3.out, Hx.out, f3]; rfl)
          clear hsh f3
          go_enter Tryz.func107, Tryz.ntmps107
          go_wp2_with fail
          refine (refSMay_is lo hi _ Hs.out _).mono ?_
          rintro e w1 ⟨rfl, h1⟩
          have hb1 := hb0.trans (h1.mono hb0.size)
          have p0_1 := p0_0.below h1
          have c0_1 := p0_1.1
          have d0_1 := p0_1.2.1
          have f0_1 := p0_1.2.2.1
          have g0_1 := p0_1.2.2.2
          go_wp2_with fail
          refine (refMay_is v _ Hm.out _).mono ?_
          rintro e w2 ⟨rfl, h2⟩
          have hb2 := hb1.trans (h2.mono hb1.size)
          have p0_2 := p0_1.below h2
          have c0_2 := p0_2.1
          have d0_2 := p0_2.2.1
          have f0_2 := p0_2.2.2.1
          have g0_2 := p0_2.2.2.2
          go_wp2_with fail
          refine (less_is v lo _ Hx.out _).mono ?_
          rintro e w3 ⟨rfl, h3⟩
          have hb3 := hb2.trans (h3.mono hb2.size)
          have p0_3 := p0_2.below h3
          have c0_3 := p0_3.1
          have d0_3 := p0_3.2.1
          have f0_3 := p0_3.2.2.1
          have g0_3 := p0_3.2.2.2
          go_wp2
          go_ret
          exact ⟨by rw [Hv.out]; rfl, hb3⟩
        obtain ⟨y, hy⟩ : ∃ y, less hi.data.toList v.data.toList = y := ⟨_, rfl⟩
        have Hv := Lib.hid (show shas lo.data.toList hi.data.toList v.data.toList = !y by rw [hsh, E3.out, Hx.out, f3, hy]; rfl)
        have Hy := Lib.hid hy
        clear hsh f3 hy
        go_enter Tryz.func107, Tryz.ntmps107
        go_wp2_with fail
        refine (refSMay_is lo hi _ Hs.out _).mono ?_
        rintro e w1 ⟨rfl, h1⟩
        have hb1 := hb0.trans (h1.mono hb0.size)
        have p0_1 := p0_0.below h1
        have c0_1 := p0_1.1
        have d0_1 := p0_1.2.1
        have f0_1 := p0_1.2.2.1
        have g0_1 := p0_1.2.2.2
        go_wp2_with fail
        refine (refMay_is v _ Hm.out _).mono ?_
        rintro e w2 ⟨rfl, h2⟩
        have hb2 := hb1.trans (h2.mono hb1.size)
        have p0_2 := p0_1.below h2
        have c0_2 := p0_2.1
        have d0_2 := p0_2.2.1
        have f0_2 := p0_2.2.2.1
        have g0_2 := p0_2.2.2.2
        go_wp2_with fail
        refine (less_is v lo _ Hx.out _).mono ?_
        rintro e w3 ⟨rfl, h3⟩
        have hb3 := hb2.trans (h3.mono hb2.size)
        have p0_3 := p0_2.below h3
        have c0_3 := p0_3.1
        have d0_3 := p0_3.2.1
        have f0_3 := p0_3.2.2.1
        have g0_3 := p0_3.2.2.2
        go_wp2_with fail
        refine (less_is hi v _ Hy.out _).mono ?_
        rintro e w4 ⟨rfl, h4⟩
        have hb4 := hb3.trans (h4.mono hb3.size)
        have p0_4 := p0_3.below h4
        have c0_4 := p0_4.1
        have d0_4 := p0_4.2.1
        have f0_4 := p0_4.2.2.1
        have g0_4 := p0_4.2.2.2
        go_wp2
        go_ret
        exact ⟨by rw [Hv.out]; rfl, hb4⟩

end Go.Proofs.YtaahdhpljlkfjaaGreat.Ver

/- span.Text, span.Read; the chapter's example. -/
namespace Go.Proofs.YtaahdhpljlkfjaaGreat.Ver
open Go.RowKit

/-- A span's text. -/
def stext (lo hi : ByteArray) : ByteArray :=
  if smay lo.data.toList hi.data.toList = true then (if lo.data.toList.isEmpty = false ∧ lo = hi then lo else lo ++ ⟨#[58]⟩ ++ hi) else ByteArray.empty

theorem toList_eq {a b : ByteArray} : a.toList = b.toList ↔ a = b := by
  rw [Lib.toList_data, Lib.toList_data]
  constructor
  · intro h; rw [← mk_toList a, ← mk_toList b, h]
  · rintro rfl; rfl

end Go.Proofs.YtaahdhpljlkfjaaGreat.Ver
