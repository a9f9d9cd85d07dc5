/- Plain mathematics of spans. No Go in sight. -/
import Derived.Test.YtdijkekglaimfaaGreatDoorVerMath3
namespace Go.Proofs.YtdijkekglaimfaaGreatDoor.Ver

theorem may_nil : may [] = false := by decide
theorem may_ne {v : Bs} (h : may v = true) : v ≠ [] := by rintro rfl; rw [may_nil] at h; cases h

def smay (lo hi : Bs) : Bool := (lo.isEmpty || may lo) && (hi.isEmpty || may hi) && (lo.isEmpty || hi.isEmpty || decide (compare lo hi ≤ 0))
def lowR (lo o : Bs) : Bool := lo.isEmpty || (!o.isEmpty && decide (compare lo o ≤ 0))
def highR (hi o : Bs) : Bool := hi.isEmpty || (!o.isEmpty && decide (0 ≤ compare hi o))
def shas (lo hi v : Bs) : Bool := smay lo hi && may v && lowR lo v && highR hi v

theorem cmp_not_less (a b : Bs) : (!decide (compare b a = -1)) = decide (compare a b ≤ 0) := by
  have h := compare_anti a b
  have r := compare_range a b
  rw [Bool.eq_iff_iff]; simp; omega
theorem cmp_not_less' (a b : Bs) : (!decide (compare a b = -1)) = decide (0 ≤ compare a b) := by
  have r := compare_range a b
  rw [Bool.eq_iff_iff]; simp; omega

end Go.Proofs.YtdijkekglaimfaaGreatDoor.Ver
