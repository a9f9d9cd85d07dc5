/- The chapter's example; SpanHas. -/
import Derived.Test.YtdijkekglaimfaaGreatDoorSpan4
import Derived.Deep.RegionHeld3
namespace Go.Proofs.YtdijkekglaimfaaGreatDoor.Ver
open Go.RowKit

theorem keepS {w a b : World} {n : Nat} {lo hi : ByteArray} (h : Below a.heap.size a b) (s : a.cell? ⟨n, 0, none⟩ = some (.string lo) ∧ a.cell? ⟨n, 1, none⟩ = some (.string hi) ∧ Below w.heap.size w a) :
    b.cell? ⟨n, 0, none⟩ = some (.string lo) ∧ b.cell? ⟨n, 1, none⟩ = some (.string hi) ∧ Below w.heap.size w b :=
  ⟨(h.cell (World.block_lt_of_cell? a _ s.1)).trans s.1, (h.cell (World.block_lt_of_cell? a _ s.2.1)).trans s.2.1, s.2.2.trans (h.mono s.2.2.size)⟩
theorem keepD {w a : World} {n : Nat} {lo hi : ByteArray} (s : a.cell? ⟨n, 0, none⟩ = some (.string lo) ∧ a.cell? ⟨n, 1, none⟩ = some (.string hi) ∧ Below w.heap.size w a) :
    a.drew.cell? ⟨n, 0, none⟩ = some (.string lo) ∧ a.drew.cell? ⟨n, 1, none⟩ = some (.string hi) ∧ Below w.heap.size w a.drew := ⟨s.1, s.2.1, s.2.2.drew⟩

end Go.Proofs.YtdijkekglaimfaaGreatDoor.Ver
