/- slices.SortFunc over settings, in the words of RowT. -/
import Derived.Test.YtbdceeecngibmaaVaCompact
import Derived.Test.YtbdceeecngibmaaVaSort
import Derived.Shelf.SlSortCmp.NoneTotal
namespace Go.Proofs.Ytbdceeecngibmaa.Va
open Go.RowKit
open Go.Sort (HoldsK flatK size_flatK)

theorem rowT_holds {w : World} {blk off : Nat} {l : List Set1} (h : HoldsK encT 2 w blk off l.toArray) : RowT w blk off l := by
  intro j hj
  obtain ⟨f1, f2⟩ := flat_at l j hj
  have h1 := h (j * 2) (by rw [size_flatK]; simp; omega)
  have h2 := h (j * 2 + 1) (by rw [size_flatK]; simp; omega)
  refine ⟨⟨h1.1.trans ?_, h1.2⟩, ?_, ?_⟩
  · show some (flatK encT 2 l.toArray)[j * 2]! = _; rw [f1]
  · rw [Nat.add_assoc]; exact h2.1.trans (by show some (flatK encT 2 l.toArray)[j * 2 + 1]! = _; rw [f2])
  · rw [Nat.add_assoc]; exact h2.2
theorem sortR_any (w : World) (blk off cap L : Nat) (l : List Set1) (hL : L = l.length) (hb : blk < w.heap.size) (hsz : l.length < 4611686018427387904) (h : RowT w blk off l) :
    Calls Try.prog 43 #[.slice (some ⟨blk, off, none⟩) L cap, .func (.func 44) #[] #[]] w fun e w' =>
      e = .returned (.tuple #[]) ∧ ∃ s : List Set1, s.length = l.length ∧ (∀ x, x ∈ s ↔ x ∈ l) ∧ Rise s ∧ RowT w' blk off s ∧ Touch w w' (fun i => i = blk) := by
  subst hL
  refine (sortT_row w blk off cap l hb hsz h).mono ?_
  rintro e w' ⟨he, s, h1, h2, h3, h4, h5⟩
  exact ⟨he, s, h1, h2, h3, rowT_holds h4, h5⟩
theorem sortR_none (w : World) (A : Option Addr) (cap : Nat) :
    Calls Try.prog 43 #[.slice A 0 cap, .func (.func 44) #[] #[]] w fun e w' => e = .returned (.tuple #[]) ∧ w' = w :=
  AnyF.slices_SortFunc_none (P := Try.prog) (ρ := Try.laysSlF6_f43_ren) { Try.laysSlF6_f43 with } A cap _ w
end Go.Proofs.Ytbdceeecngibmaa.Va
