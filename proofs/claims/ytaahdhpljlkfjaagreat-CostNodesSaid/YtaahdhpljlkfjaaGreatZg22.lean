/- span.Meet. -/
import Derived.Test.YtaahdhpljlkfjaaGreatZg21
namespace Go.Proofs.YtaahdhpljlkfjaaGreat.Ver
open Go.RowKit

theorem Pair.other {w : World} {n m : Nat} {lo hi : ByteArray} (p : Pair w n lo hi) (h : n ≠ m) (f : Nat) (v : Value) : Pair (w.setCell ⟨m, f, none⟩ v) n lo hi := by
  have hh := Below.heap_setCell w ⟨m, f, none⟩ v n h
  have hc : ∀ j, (w.setCell ⟨m, f, none⟩ v).cell? ⟨n, j, none⟩ = w.cell? ⟨n, j, none⟩ := fun j => World.cell?_of_block (w := w) hh
  have hf : ∀ j, (w.setCell ⟨m, f, none⟩ v).frozen? ⟨n, j, none⟩ = w.frozen? ⟨n, j, none⟩ := fun j => World.frozen?_of_block (w := w) hh
  exact ⟨(hc 0).trans p.1, (hc 1).trans p.2.1, (hf 0).trans p.2.2.1, (hf 1).trans p.2.2.2⟩
theorem Pair.set0 {w : World} {n : Nat} {lo hi : ByteArray} (p : Pair w n lo hi) (x : ByteArray) : Pair (w.setCell ⟨n, 0, none⟩ (.string x)) n x hi :=
  ⟨World.cell?_setCell_same' _ _ _ (by rw [p.1]; rfl), (World.cell?_setCell_other (a := ⟨n, 0, none⟩) (b := ⟨n, 1, none⟩) w (.string x) (by simp)).trans p.2.1, by rw [World.frozen?_setCell]; exact p.2.2.1, by rw [World.frozen?_setCell]; exact p.2.2.2⟩
theorem Pair.set1 {w : World} {n : Nat} {lo hi : ByteArray} (p : Pair w n lo hi) (x : ByteArray) : Pair (w.setCell ⟨n, 1, none⟩ (.string x)) n lo x :=
  ⟨(World.cell?_setCell_other (a := ⟨n, 1, none⟩) (b := ⟨n, 0, none⟩) w (.string x) (by simp)).trans p.1, World.cell?_setCell_same' _ _ _ (by rw [p.2.1]; rfl), by rw [World.frozen?_setCell]; exact p.2.2.1, by rw [World.frozen?_setCell]; exact p.2.2.2⟩

theorem three_new (w : World) (alo ahi blo bhi : ByteArray) (T : TypeId) :
    Below w.heap.size w (((w.alloc (.cells #[.string alo, .string ahi] T)).alloc (.cells #[.string blo, .string bhi] T)).alloc (.cells #[.string ⟨#[]⟩, .string ⟨#[]⟩] T)) ∧
    Pair (((w.alloc (.cells #[.string alo, .string ahi] T)).alloc (.cells #[.string blo, .string bhi] T)).alloc (.cells #[.string ⟨#[]⟩, .string ⟨#[]⟩] T)) w.heap.size alo ahi ∧
    Pair (((w.alloc (.cells #[.string alo, .string ahi] T)).alloc (.cells #[.string blo, .string bhi] T)).alloc (.cells #[.string ⟨#[]⟩, .string ⟨#[]⟩] T)) (w.heap.size + 1) blo bhi ∧
    Pair (((w.alloc (.cells #[.string alo, .string ahi] T)).alloc (.cells #[.string blo, .string bhi] T)).alloc (.cells #[.string ⟨#[]⟩, .string ⟨#[]⟩] T)) (w.heap.size + 2) ⟨#[]⟩ ⟨#[]⟩ := by
  obtain ⟨h1, p1, p2⟩ := two_new w alo ahi blo bhi T
  have h2 := below_new ((w.alloc (.cells #[.string alo, .string ahi] T)).alloc (.cells #[.string blo, .string bhi] T)) (.cells #[.string ⟨#[]⟩, .string ⟨#[]⟩] T)
  have p3 := pair_new ((w.alloc (.cells #[.string alo, .string ahi] T)).alloc (.cells #[.string blo, .string bhi] T)) ⟨#[]⟩ ⟨#[]⟩ T
  have e : ((w.alloc (.cells #[.string alo, .string ahi] T)).alloc (.cells #[.string blo, .string bhi] T)).heap.size = w.heap.size + 2 := by simp
  rw [e] at p3
  exact ⟨h1.trans (h2.mono h1.size), p1.below h2, p2.below h2, p3⟩

/-- What two spans have in common. -/
def mlo (alo blo : ByteArray) : ByteArray := if lowR alo.data.toList blo.data.toList = true then blo else alo
def mhi (ahi bhi : ByteArray) : ByteArray := if highR ahi.data.toList bhi.data.toList = true then bhi else ahi
def smeet (alo ahi blo bhi : ByteArray) : ByteArray × ByteArray × Bool :=
  if (smay alo.data.toList ahi.data.toList && smay blo.data.toList bhi.data.toList && smay (mlo alo blo).data.toList (mhi ahi bhi).data.toList) = true
  then (mlo alo blo, mhi ahi bhi, true) else (⟨#[]⟩, ⟨#[]⟩, false)

end Go.Proofs.YtaahdhpljlkfjaaGreat.Ver
