/- span.Has; the document's May, Has, Great. -/
import Derived.Test.YtdijkekglaimfaaGreatDoorSpan
namespace Go.Proofs.YtdijkekglaimfaaGreatDoor.Ver
open Go.RowKit

theorem bound_is (s : ByteArray) (b : Bool) (h : (s.data.toList.isEmpty || may s.data.toList) = b) (w : World) :
    Calls Tryz.prog 50 #[.string s] w fun e w' => e = .returned (.bool b) ∧ Below w.heap.size w w' := by
  subst h
  rcases empty_or s with ⟨e1, e2, e3⟩ | ⟨e1, e2, e3⟩
  · have Hv := Lib.hid (show (s.data.toList.isEmpty || may s.data.toList) = true by rw [e3]; rfl)
    clear e3
    go_enter Tryz.func50, Tryz.ntmps50
    go_wp2
    go_ret
    exact ⟨by rw [Hv.out]; rfl, Below.refl _ _⟩
  obtain ⟨x, hx⟩ : ∃ x, may s.data.toList = x := ⟨_, rfl⟩
  have Hv := Lib.hid (show (s.data.toList.isEmpty || may s.data.toList) = x by rw [e3, hx]; rfl)
  have Hx := Lib.hid hx
  clear e3 hx
  have hb0 : Below w.heap.size w w := Below.refl _ _
  go_enter Tryz.func50, Tryz.ntmps50
  go_wp2_with fail
  refine (refMay_is s _ Hx.out _).mono ?_
  rintro e w1 ⟨rfl, h1⟩
  have hb1 := hb0.trans (h1.mono hb0.size)
  go_wp2
  go_ret
  exact ⟨by rw [Hv.out]; rfl, hb1⟩

set_option maxHeartbeats 800000 in
theorem refSMay_is (lo hi : ByteArray) (b : Bool) (h : smay lo.data.toList hi.data.toList = b) (w : World) :
    Calls Tryz.prog 29 #[.agg #[.string lo, .string hi]] w fun e w' => e = .returned (.bool b) ∧ Below w.heap.size w w' := by
  subst h
  have hb0 := below_new w (.cells #[.string lo, .string hi] 31)
  have p0_0 := pair_new w lo hi 31
  cases hl : (lo.data.toList.isEmpty || may lo.data.toList) with
  | false =>
    have Hv := Lib.hid (show smay lo.data.toList hi.data.toList = false by unfold smay; rw [hl]; rfl)
    have Hl := Lib.hid hl
    clear hl
    go_enter Tryz.func29, Tryz.ntmps29
    go_wp2_with fail
    refine (bound_is lo _ Hl.out _).mono ?_
    rintro e w1 ⟨rfl, h1⟩
    have hb1 := hb0.trans (h1.mono hb0.size)
    have p0_1 := p0_0.below h1
    have c0_1 := p0_1.1
    have d0_1 := p0_1.2.1
    have f0_1 := p0_1.2.2.1
    have g0_1 := p0_1.2.2.2
    go_wp2
    go_ret
    exact ⟨by rw [Hv.out]; rfl, hb1⟩
  | true =>
    cases hm : (hi.data.toList.isEmpty || may hi.data.toList) with
    | false =>
      have Hv := Lib.hid (show smay lo.data.toList hi.data.toList = false by unfold smay; rw [hl, hm]; rfl)
      have Hl := Lib.hid hl
      have Hm := Lib.hid hm
      clear hl hm
      go_enter Tryz.func29, Tryz.ntmps29
      go_wp2_with fail
      refine (bound_is lo _ Hl.out _).mono ?_
      rintro e w1 ⟨rfl, h1⟩
      have hb1 := hb0.trans (h1.mono hb0.size)
      have p0_1 := p0_0.below h1
      have c0_1 := p0_1.1
      have d0_1 := p0_1.2.1
      have f0_1 := p0_1.2.2.1
      have g0_1 := p0_1.2.2.2
      go_wp2_with fail
      refine (bound_is hi _ Hm.out _).mono ?_
      rintro e w2 ⟨rfl, h2⟩
      have hb2 := hb1.trans (h2.mono hb1.size)
      have p0_2 := p0_1.below h2
      have c0_2 := p0_2.1
      have d0_2 := p0_2.2.1
      have f0_2 := p0_2.2.2.1
      have g0_2 := p0_2.2.2.2
      go_wp2
      go_ret
      exact ⟨by rw [Hv.out]; rfl, hb2⟩
    | true =>
      have hsm : smay lo.data.toList hi.data.toList = (lo.data.toList.isEmpty || hi.data.toList.isEmpty || !less hi.data.toList lo.data.toList) := by
        unfold smay less; rw [hl, hm, cmp_not_less]; rfl
      have Hl := Lib.hid hl
      have Hm := Lib.hid hm
      clear hl hm
      rcases empty_or lo with ⟨e1, e2, e3⟩ | ⟨e1, e2, e3⟩
      · have Hv := Lib.hid (show smay lo.data.toList hi.data.toList = true by rw [hsm, e3]; rfl)
        clear e3 hsm
        go_enter Tryz.func29, Tryz.ntmps29
        go_wp2_with fail
        refine (bound_is lo _ Hl.out _).mono ?_
        rintro e w1 ⟨rfl, h1⟩
        have hb1 := hb0.trans (h1.mono hb0.size)
        have p0_1 := p0_0.below h1
        have c0_1 := p0_1.1
        have d0_1 := p0_1.2.1
        have f0_1 := p0_1.2.2.1
        have g0_1 := p0_1.2.2.2
        go_wp2_with fail
        refine (bound_is hi _ Hm.out _).mono ?_
        rintro e w2 ⟨rfl, h2⟩
        have hb2 := hb1.trans (h2.mono hb1.size)
        have p0_2 := p0_1.below h2
        have c0_2 := p0_2.1
        have d0_2 := p0_2.2.1
        have f0_2 := p0_2.2.2.1
        have g0_2 := p0_2.2.2.2
        go_wp2
        go_ret
        exact ⟨by rw [Hv.out]; rfl, hb2⟩
      rcases empty_or hi with ⟨f1, f2, f3⟩ | ⟨f1, f2, f3⟩
      · have Hv := Lib.hid (show smay lo.data.toList hi.data.toList = true by rw [hsm, f3, List.isEmpty_nil, Bool.or_true, Bool.true_or])
        clear e3 f3 hsm
        go_enter Tryz.func29, Tryz.ntmps29
        go_wp2_with fail
        refine (bound_is lo _ Hl.out _).mono ?_
        rintro e w1 ⟨rfl, h1⟩
        have hb1 := hb0.trans (h1.mono hb0.size)
        have p0_1 := p0_0.below h1
        have c0_1 := p0_1.1
        have d0_1 := p0_1.2.1
        have f0_1 := p0_1.2.2.1
        have g0_1 := p0_1.2.2.2
        go_wp2_with fail
        refine (bound_is hi _ Hm.out _).mono ?_
        rintro e w2 ⟨rfl, h2⟩
        have hb2 := hb1.trans (h2.mono hb1.size)
        have p0_2 := p0_1.below h2
        have c0_2 := p0_2.1
        have d0_2 := p0_2.2.1
        have f0_2 := p0_2.2.2.1
        have g0_2 := p0_2.2.2.2
        go_wp2
        go_ret
        exact ⟨by rw [Hv.out]; rfl, hb2⟩
      obtain ⟨x, hx⟩ : ∃ x, less hi.data.toList lo.data.toList = x := ⟨_, rfl⟩
      have Hv := Lib.hid (show smay lo.data.toList hi.data.toList = !x by rw [hsm, e3, f3, hx]; rfl)
      have Hx := Lib.hid hx
      clear e3 f3 hsm hx
      go_enter Tryz.func29, Tryz.ntmps29
      go_wp2_with fail
      refine (bound_is lo _ Hl.out _).mono ?_
      rintro e w1 ⟨rfl, h1⟩
      have hb1 := hb0.trans (h1.mono hb0.size)
      have p0_1 := p0_0.below h1
      have c0_1 := p0_1.1
      have d0_1 := p0_1.2.1
      have f0_1 := p0_1.2.2.1
      have g0_1 := p0_1.2.2.2
      go_wp2_with fail
      refine (bound_is hi _ Hm.out _).mono ?_
      rintro e w2 ⟨rfl, h2⟩
      have hb2 := hb1.trans (h2.mono hb1.size)
      have p0_2 := p0_1.below h2
      have c0_2 := p0_2.1
      have d0_2 := p0_2.2.1
      have f0_2 := p0_2.2.2.1
      have g0_2 := p0_2.2.2.2
      go_wp2_with fail
      refine (less_is hi lo _ Hx.out _).mono ?_
      rintro e w3 ⟨rfl, h3⟩
      have hb3 := hb2.trans (h3.mono hb2.size)
      have p0_3 := p0_2.below h3
      have c0_3 := p0_3.1
      have d0_3 := p0_3.2.1
      have f0_3 := p0_3.2.2.1
      have g0_3 := p0_3.2.2.2
      go_wp2
      go_ret
      exact ⟨by rw [Hv.out]; rfl, hb3⟩

end Go.Proofs.YtdijkekglaimfaaGreatDoor.Ver
