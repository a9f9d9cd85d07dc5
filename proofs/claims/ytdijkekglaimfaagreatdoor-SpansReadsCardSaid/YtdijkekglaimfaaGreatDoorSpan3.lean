/- span.Text, span.Read; the chapter's example. -/
import Derived.Test.YtdijkekglaimfaaGreatDoorSpan2
namespace Go.Proofs.YtdijkekglaimfaaGreatDoor.Ver
open Go.RowKit

/-- A span's text. -/
def stext (lo hi : ByteArray) : ByteArray :=
  if smay lo.data.toList hi.data.toList = true then (if lo.data.toList.isEmpty = false ∧ lo = hi then lo else lo ++ ⟨#[58]⟩ ++ hi) else ByteArray.empty

theorem toList_eq {a b : ByteArray} : a.toList = b.toList ↔ a = b := by
  rw [Lib.toList_data, Lib.toList_data]
  constructor
  · intro h; rw [← mk_toList a, ← mk_toList b, h]
  · rintro rfl; rfl

set_option maxHeartbeats 800000 in
theorem spanText_is (lo hi t : ByteArray) (h : stext lo hi = t) (hl : lo.size ≤ 100000) (hh : hi.size ≤ 100000) (w : World) :
    Calls Tryz.prog 17 #[.agg #[.string lo, .string hi]] w fun e w' => e = .returned (.string t) ∧ Below w.heap.size w w' := by
  have hb0 := below_new w (.cells #[.string lo, .string hi] 31)
  have p0_0 := pair_new w lo hi 31
  have hz1 : ¬ 9223372036854775807 < lo.size + 1 := by omega
  have hz2 : ¬ 9223372036854775807 < lo.size + 1 + hi.size := by omega
  cases hs : smay lo.data.toList hi.data.toList with
  | false =>
    have Hv := Lib.hid (show ByteArray.empty = t by rw [← h]; unfold stext; rw [hs]; rfl)
    have Hs := Lib.hid hs
    clear hs h hz1 hz2
    go_enter Tryz.func17, Tryz.ntmps17
    go_wp2_with fail
    refine (spanMay_is lo hi _ Hs.out _).mono ?_
    rintro e w1 ⟨rfl, h1⟩
    have hb1 := hb0.trans (h1.mono hb0.size)
    have p0_1 := p0_0.below h1
    have c0_1 := p0_1.1
    have d0_1 := p0_1.2.1
    have f0_1 := p0_1.2.2.1
    have g0_1 := p0_1.2.2.2
    go_wp2
    go_ret
    exact ⟨by rw [← Hv.out]; rfl, hb1⟩
  | true =>
    rcases empty_or lo with ⟨e1, e2, e3⟩ | ⟨e1, e2, e3⟩
    · have Hv := Lib.hid (show lo ++ ⟨#[58]⟩ ++ hi = t by rw [← h]; unfold stext; rw [if_pos hs, if_neg (by rw [e3]; simp)])
      have Hs := Lib.hid hs
      clear hs h e3
      go_enter Tryz.func17, Tryz.ntmps17
      go_wp2_with fail
      refine (spanMay_is lo hi _ Hs.out _).mono ?_
      rintro e w1 ⟨rfl, h1⟩
      have hb1 := hb0.trans (h1.mono hb0.size)
      have p0_1 := p0_0.below h1
      have c0_1 := p0_1.1
      have d0_1 := p0_1.2.1
      have f0_1 := p0_1.2.2.1
      have g0_1 := p0_1.2.2.2
      go_wp2
      go_ret
      exact ⟨by rw [← Hv.out]; rfl, hb1⟩
    by_cases he : lo = hi
    · have Hv := Lib.hid (show lo = t by rw [← h]; unfold stext; rw [if_pos hs, if_pos ⟨e3, he⟩])
      have g1 : (lo.toList == hi.toList) = true := by rw [he]; simp
      have Hs := Lib.hid hs
      clear hs h e3 he hz1 hz2
      go_enter Tryz.func17, Tryz.ntmps17
      go_wp2_with fail
      refine (spanMay_is lo hi _ Hs.out _).mono ?_
      rintro e w1 ⟨rfl, h1⟩
      have hb1 := hb0.trans (h1.mono hb0.size)
      have p0_1 := p0_0.below h1
      have c0_1 := p0_1.1
      have d0_1 := p0_1.2.1
      have f0_1 := p0_1.2.2.1
      have g0_1 := p0_1.2.2.2
      go_wp2
      go_ret
      exact ⟨by rw [← Hv.out]; rfl, hb1⟩
    · have Hv := Lib.hid (show lo ++ ⟨#[58]⟩ ++ hi = t by rw [← h]; unfold stext; rw [if_pos hs, if_neg (fun c => he c.2)])
      have g1 : (lo.toList == hi.toList) = false := by rw [beq_eq_false_iff_ne]; intro c; exact he (toList_eq.1 c)
      have Hs := Lib.hid hs
      clear hs h e3 he
      go_enter Tryz.func17, Tryz.ntmps17
      go_wp2_with fail
      refine (spanMay_is lo hi _ Hs.out _).mono ?_
      rintro e w1 ⟨rfl, h1⟩
      have hb1 := hb0.trans (h1.mono hb0.size)
      have p0_1 := p0_0.below h1
      have c0_1 := p0_1.1
      have d0_1 := p0_1.2.1
      have f0_1 := p0_1.2.2.1
      have g0_1 := p0_1.2.2.2
      go_wp2
      go_ret
      exact ⟨by rw [← Hv.out]; rfl, hb1⟩

end Go.Proofs.YtdijkekglaimfaaGreatDoor.Ver
