/- What is wrong with settings, and wishes. -/
import Derived.Test.YtaahdhpljlkfjaaGreatZg04
import Derived.Test.YtaahdhpljlkfjaaGreatZg07
import Derived.Deep.RegionHeld3
import Derived.Deep.RegionWith
import Derived.Lib.QuietBelow
namespace Go.Proofs.YtaahdhpljlkfjaaGreat.Rc
open Go.RowKit Go.Sort

end Go.Proofs.YtaahdhpljlkfjaaGreat.Rc

/- What is wrong with a wish. -/
namespace Go.Proofs.YtaahdhpljlkfjaaGreat.Rc
open Go.RowKit Go.Sort

/-- Two blocks of the call's own. -/
theorem two_boxes (w : World) (cs ds : Array Value) (S T : TypeId) : Boxed w ((w.alloc (.cells cs S)).alloc (.cells ds T)) w.heap.size cs S ∧ Boxed w ((w.alloc (.cells cs S)).alloc (.cells ds T)) (w.heap.size + 1) ds T := by
  refine ⟨(Boxed.new w cs S).alloc _, ?_⟩
  have h := Boxed.new (w.alloc (.cells cs S)) ds T
  rw [World.size_alloc] at h
  exact ⟨((Boxed.new w cs S).alloc _).bel, h.blk⟩

end Go.Proofs.YtaahdhpljlkfjaaGreat.Rc

/- What is wrong with a wish that may be of a virtual name. -/
namespace Go.Proofs.YtaahdhpljlkfjaaGreat.Rc
open Go.RowKit Go.Sort

theorem eqS_none {a : ByteArray} (h : eqS a noneS = true) : a = ⟨#[]⟩ := Va.eqS_iff.1 h
theorem ne_none {a : ByteArray} (h : eqS a noneS = false) : ¬ a.toList = [] ∧ a.toList.isEmpty = false ∧ (a.toList == []) = false := by
  have h2 : (a.toList == []) = false := by
    have e : noneS.toList = [] := by rw [Lib.toList_data]; rfl
    have h' : (a.toList == noneS.toList) = false := h
    rwa [e] at h'
  have h1 : ¬ a.toList = [] := by intro e; rw [e] at h2; cases h2
  exact ⟨h1, by cases hl : a.toList with | nil => exact absurd hl h1 | cons => rfl, h2⟩

end Go.Proofs.YtaahdhpljlkfjaaGreat.Rc
