/- SpanTexts. -/
import Derived.Test.YtdijkekglaimfaaGreatDoorSpan5
namespace Go.Proofs.YtdijkekglaimfaaGreatDoor.Ver
open Go.RowKit

/-- The document's text of a span that may be. -/
def rtext (lo hi : ByteArray) : ByteArray := if lo.data.toList.isEmpty = false ∧ lo = hi then lo else lo ++ ⟨#[58]⟩ ++ hi
theorem stext_may {lo hi : ByteArray} (h : smay lo.data.toList hi.data.toList = true) : stext lo hi = rtext lo hi := by unfold stext rtext; rw [if_pos h]
theorem stext_not {lo hi : ByteArray} (h : smay lo.data.toList hi.data.toList = false) : stext lo hi = ByteArray.empty := by unfold stext; rw [if_neg (by rw [h]; simp)]

theorem refText_is (lo hi t : ByteArray) (h : rtext lo hi = t) (hl : lo.size ≤ 100000) (hh : hi.size ≤ 100000) (w : World) :
    Calls Tryz.prog 30 #[.agg #[.string lo, .string hi]] w fun e w' => e = .returned (.string t) ∧ Below w.heap.size w w' := by
  have hb0 := below_new w (.cells #[.string lo, .string hi] 31)
  have hz1 : ¬ 9223372036854775807 < lo.size + 1 := by omega
  have hz2 : ¬ 9223372036854775807 < lo.size + 1 + hi.size := by omega
  by_cases he : lo = hi
  · subst he
    have g1 : (lo.toList == lo.toList) = true := by simp
    rcases empty_or lo with ⟨e1, e2, e3⟩ | ⟨e1, e2, e3⟩
    · have Hv := Lib.hid (show lo ++ ⟨#[58]⟩ ++ lo = t by rw [← h]; unfold rtext; rw [if_neg (by rw [e3]; simp)])
      clear h e3
      go_enter Tryz.func30, Tryz.ntmps30
      go_wp2
      go_ret
      exact ⟨by rw [← Hv.out]; rfl, hb0⟩
    · have Hv := Lib.hid (show lo = t by rw [← h]; unfold rtext; rw [if_pos ⟨e3, rfl⟩])
      clear h e3 hz1 hz2
      go_enter Tryz.func30, Tryz.ntmps30
      go_wp2
      go_ret
      exact ⟨by rw [← Hv.out]; rfl, hb0⟩
  · have Hv := Lib.hid (show lo ++ ⟨#[58]⟩ ++ hi = t by rw [← h]; unfold rtext; rw [if_neg (fun c => he c.2)])
    have g1 : (lo.toList == hi.toList) = false := by rw [beq_eq_false_iff_ne]; intro c; exact he (toList_eq.1 c)
    clear h he
    go_enter Tryz.func30, Tryz.ntmps30
    go_wp2
    go_ret
    exact ⟨by rw [← Hv.out]; rfl, hb0⟩


end Go.Proofs.YtdijkekglaimfaaGreatDoor.Ver
